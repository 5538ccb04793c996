/-
  Contracts and facts that the proof rests on, put together out of several texts.
-/
import Derived.Test.YtjjelkdajdeikaaGreatDoorTopTablesC9
import Derived.Test.YtjjelkdajdeikaaGreatDoorShelfC
import Derived.Lib.ReflectliteSwap
import Derived.Laws.Externs
import Derived.Test.YtjjelkdajdeikaaGreatDoorTopTablesC1
import Derived.Test.YtjjelkdajdeikaaGreatDoorTopTablesC3
import Derived.Test.YtjjelkdajdeikaaGreatDoorTopTablesC2
import Derived.Test.YtjjelkdajdeikaaGreatDoorTopTablesC4
import Derived.Test.YtjjelkdajdeikaaGreatDoorTopTablesC7
import Derived.Test.YtjjelkdajdeikaaGreatDoorTopTablesC6
import Derived.Shelf.Abstract
import Derived.Laws.EntriesVeiled
namespace Go.Proofs.YtjjelkdajdeikaaGreatDoor
open Go.RowKit
set_option maxRecDepth 20000
noncomputable def swB (g n c : Nat) : Array Value := #[.slice (some ⟨g, 0, none⟩) n c, typeHandle Tryz.prog 49]
theorem swap_run (base g n c : Nat) (ps : List (Int × Int)) (W : World) (h : OwnPf W base (.slice (some ⟨g, 0, none⟩) n c) ps) (i j : Nat) (hi : i < n) (hj : j < n) :
  (callFunc 243 (#[.int .i64 i, .int .i64 j] ++ swB g n c)).run Tryz.prog W = .ok (.value (.tuple #[])) ((W.setCells g (i * 2) [.int .i64 (Pl.pr ps j).1, .int .i64 (Pl.pr ps j).2]).setCells g (j * 2) [.int .i64 (Pl.pr ps i).1, .int .i64 (Pl.pr ps i).2]) := by
 obtain ⟨hl, _, _, _, hrow, hfr⟩ := h.pairs
 obtain ⟨ie, hie, hz0, hz1, hz2⟩ := partsOf infoPfxN
 have hx := fun args W => run_callFunc_extern (P := Tryz.prog) Tryz.func243 (by kernel_rfl) (by kernel_rfl) (by kernel_rfl) (e := Extern.ReflectliteSwapper.swap false) (by kernel_rfl) args W
 have hcell : ∀ t, t < n → ∀ k v, ([.int .i64 (Pl.pr ps t).1, .int .i64 (Pl.pr ps t).2] : List Value)[k]? = some v → W.cell? ⟨g, 0 + t * ie.size + k, none⟩ = some v := by
  intro t ht k v hv
  obtain ⟨c0, c1⟩ := hrow t (by omega)
  rw [hz1]
  match k, hv with
  | 0, hv => simp at hv; subst hv; exact c0
  | 1, hv => simp at hv; subst hv; exact c1
  | k + 2, hv => simp at hv
 have hone : ∀ t, ∀ v ∈ ([.int .i64 (Pl.pr ps t).1, .int .i64 (Pl.pr ps t).2] : List Value), v.oneCell' = true := by
  intro t v hv
  simp at hv
  rcases hv with rfl | rfl <;> rfl
 have hs := Lib.run_swap_cells (P := Tryz.prog) false 49 ie hie (fun _ => by kernel_rfl) g 0 n c i j hi hj [.int .i64 (Pl.pr ps i).1, .int .i64 (Pl.pr ps i).2] [.int .i64 (Pl.pr ps j).1, .int .i64 (Pl.pr ps j).2] (by rw [hz1]; rfl) (by rw [hz1]; rfl) (hone i) (hone j) W (hcell i hi) (hcell j hj) (fun k _ => hfr _) (fun k _ => hfr _)
 rw [hx, show (#[Value.int .i64 (i : Int), .int .i64 (j : Int)] ++ swB g n c) = #[.int .i64 i, .int .i64 j, .slice (some ⟨g, 0, none⟩) n c, typeHandle Tryz.prog 49] from rfl, hs, hz1, Nat.zero_add, Nat.zero_add]
 rfl
theorem but_setCells {B : Nat} {a w : World} {o : Nat} (h : But B a w) (vs : List Value) : But B a (w.setCells B o vs) := But.setCells _ o _ h
theorem Pl.insP_at : ∀ (ps : List (Int × Int)) (p : Int × Int) (j : Nat), j ≤ ps.length → (∀ t, t < j → Pl.pltB p (Pl.pr ps t) = false) → (j < ps.length → Pl.pltB p (Pl.pr ps j) = true) → Pl.insP ps p = ps.take j ++ p :: ps.drop j
 | [], p, j, hj, _, _ => by
  have : j = 0 := by simpa using hj
  subst this; rfl
 | q :: r, p, 0, _, _, h => by
  have h0 : Pl.pltB p q = true := by simpa [Pl.pr] using h (by simp)
  show (if Pl.pltB p q then p :: q :: r else q :: Pl.insP r p) = _
  rw [if_pos h0]; rfl
 | q :: r, p, j + 1, hj, h1, h2 => by
  have h0 : Pl.pltB p q = false := by simpa [Pl.pr] using h1 0 (by omega)
  show (if Pl.pltB p q then p :: q :: r else q :: Pl.insP r p) = _
  rw [if_neg (by simp [h0]), Pl.insP_at r p j (by simpa using hj) (fun t ht => by have := h1 (t + 1) (by omega); rwa [Pl.pr_cons_succ] at this) (fun h => by have := h2 (by simpa using h); rwa [Pl.pr_cons_succ] at this)]
  rfl
def Pl.down (ps : List (Int × Int)) (p : Int × Int) (j : Nat) : List (Int × Int) := ps.take j ++ p :: ps.drop j
theorem Pl.down_at {ps : List (Int × Int)} {p : Int × Int} {j : Nat} (hj : j ≤ ps.length) : Pl.pr (Pl.down ps p j) j = p := by
 have : j = (ps.take j).length := by simp; omega
 unfold Pl.down Pl.pr
 rw [List.getD_eq_getElem?_getD, List.getElem?_append_right (by simp; omega)]
 simp [show j - min j ps.length = 0 by omega]
theorem Pl.down_prev {ps : List (Int × Int)} {p : Int × Int} {j : Nat} (hj : j < ps.length) : Pl.pr (Pl.down ps p (j + 1)) j = Pl.pr ps j := by
 unfold Pl.down Pl.pr
 rw [List.getD_eq_getElem?_getD, List.getD_eq_getElem?_getD, List.getElem?_append_left (by simp; omega), List.getElem?_take_of_lt (by omega)]
theorem Pl.down_swap {ps : List (Int × Int)} {p : Int × Int} {j : Nat} (hj : j < ps.length) : ((Pl.down ps p (j + 1)).set (j + 1) (Pl.pr ps j)).set j p = Pl.down ps p j := by
 unfold Pl.down
 refine List.ext_getElem? fun t => ?_
 simp only [List.getElem?_set, List.length_append, List.length_cons, List.length_take, List.length_drop, List.length_set]
 have ht := Pl.pr_eq ps j hj
 rcases Nat.lt_trichotomy t j with h | h | h
 ·rw [if_neg (by omega), if_neg (by omega), List.getElem?_append_left (by simp; omega), List.getElem?_append_left (by simp; omega), List.getElem?_take_of_lt (by omega), List.getElem?_take_of_lt h]
 ·subst h
  rw [if_pos rfl, if_pos (by omega), List.getElem?_append_right (by simp; omega)]
  simp [show t - min t ps.length = 0 by omega]
 ·rw [if_neg (by omega)]
  rcases Nat.lt_or_ge (j + 1) t with g | g
  ·rw [if_neg (by omega), List.getElem?_append_right (by simp; omega), List.getElem?_append_right (by simp; omega)]
   simp only [List.length_take]
   rw [show t - min (j + 1) ps.length = (t - j - 2) + 1 by omega, show t - min j ps.length = (t - j - 1) + 1 by omega, List.getElem?_cons_succ, List.getElem?_cons_succ, List.getElem?_drop, List.getElem?_drop]
   congr 1; omega
  ·obtain rfl : t = j + 1 := by omega
   rw [if_pos rfl, if_pos (by omega), List.getElem?_append_right (by simp; omega)]
   simp only [List.length_take]
   rw [show j + 1 - min j ps.length = 0 + 1 by omega, List.getElem?_cons_succ, List.getElem?_drop, Nat.add_zero, List.getElem?_eq_getElem hj, ht]
set_option maxHeartbeats 8000000 in
theorem insSort_any (ps : List (Int × Int)) (p : Int × Int) (base g vb n c : Nat) (w : World) (hown : OwnPf w base (.slice (some ⟨g, 0, none⟩) n c) (ps ++ [p])) (h2 : 2 ≤ n) (h9 : n ≤ 1000)
  (hvar : w.heap[vb]? = some (.cells #[.slice (some ⟨g, 0, none⟩) n c] 29)) (hasc : ps.Pairwise fun a b => Pl.pltB a b = true) :
  Calls Tryz.prog 244 #[.agg #[.func (.func 188) #[] #[.pointer (some ⟨vb, 0, none⟩)], .func (.func 243) #[] (swB g n c)], .int .i64 0, .int .i64 n] w fun e w' =>
   e = .returned (.tuple #[]) ∧ OwnPf w' base (.slice (some ⟨g, 0, none⟩) n c) (Pl.insP ps p) ∧ But g w w' := by
 obtain ⟨hl, hc, hm, hg, _, _⟩ := hown.pairs
 have HPL : Hid (ps.length + 1 = n) := hid (by simpa using hl)
 clear hl
 have HOWN := hid hown
 have hvl := blockLt hvar
 have hgv : vb ≠ g := by
  rintro rfl
  obtain ⟨_, ⟨e, _⟩ | ⟨g', cap', cur, e, hb, hh, _⟩⟩ := hown
  ·cases e
  ·simp only [Value.slice.injEq, Option.some.injEq, Addr.mk.injEq, and_true] at e
   obtain ⟨rfl, _, _⟩ := e
   rw [hvar] at hh
   simp at hh
 have HVAR := hid hvar
 have HASC : Hid (∀ i j, i < j → j < ps.length → Pl.pltB (Pl.pr ps i) (Pl.pr ps j) = true) := hid fun i j hij hj => by
  have := List.pairwise_iff_getElem.1 hasc i j (by omega) hj hij
  rwa [← Pl.pr_eq ps i (by omega), ← Pl.pr_eq ps j hj] at this
 have HLESS : Hid (∀ (W : World) (rs : List (Int × Int)) (i j : Nat), OwnPf W base (.slice (some ⟨g, 0, none⟩) n c) rs → But g w W → i < n → j < n → Calls Tryz.prog 188 #[.int .i64 i, .int .i64 j, .pointer (some ⟨vb, 0, none⟩)] W fun e w' => e = .returned (.bool (Pl.pltB (Pl.pr rs i) (Pl.pr rs j))) ∧ Below W.heap.size W w') := hid fun W rs i j ho hb hi hj => by
  obtain ⟨q1, q2, q3, q4, q5, _⟩ := ho.pairs
  have hv := (hb.block vb hvl hgv).trans HVAR.out
  exact cloW_any rs g vb n c i j W q1 q2 q3 q4 (blockLt hv) q5 (by simp [World.cell?, hv]) hi hj
 clear hown hvar hasc
 obtain ⟨w1, HW1⟩ : ∃ W, Hid (W = w.alloc (.cells #[.func (.func 188) #[] #[.pointer (some ⟨vb, 0, none⟩)], .func (.func 243) #[] (swB g n c)] 267)) := ⟨_, hid rfl⟩
 have HB1 : Hid (Below w.heap.size w w1) := hid (by rw [HW1.out]; exact (Below.refl _ _).alloc (Nat.le_refl _) _)
 have HX1 : Hid (w1.heap[w.heap.size]? = some (.cells #[.func (.func 188) #[] #[.pointer (some ⟨vb, 0, none⟩)], .func (.func 243) #[] (swB g n c)] 267)) := hid (by rw [HW1.out]; exact heapNew _ _)
 have hz1 : w1.heap.size = w.heap.size + 1 := by rw [HW1.out]; simp
 have hgx : w.heap.size ≠ g := by omega
 go_enter Tryz.func244, Tryz.ntmps244
 go_wp2_with (rw [← HW1.out])
 go_loopw [6] (fun vi wr => ∃ (i : Nat) (rs : List (Int × Int)), vi = .int .i64 i ∧ 1 ≤ i ∧ i ≤ n ∧ Hid (OwnPf wr base (.slice (some ⟨g, 0, none⟩) n c) rs) ∧ Hid (But g w1 wr) ∧ Hid ((i < n ∧ rs = ps ++ [p]) ∨ (i = n ∧ rs = Pl.insP ps p))) (fun vi _ => n - (intOf vi).toNat)
 case atStart => exact ⟨1, ps ++ [p], rfl, by omega, by omega, hid (HOWN.out.below HB1.out), hid (But.refl _ _), hid (.inl ⟨by omega, rfl⟩)⟩
 case round =>
  obtain ⟨i, rs, rfl, hi1, hin, HO, HBT, HST⟩ := hrel
  by_cases hlt : i < n
  ·have HRS : Hid (rs = ps ++ [p]) := hid (by rcases HST.out with ⟨_, e⟩ | ⟨e, _⟩; (exact e); omega)
   clear HST
   have hlt' : (i : Int) < (n : Int) := by omega
   rw [HRS.out] at HO
   clear HRS
   have hxr := (HBT.out.block w.heap.size (by omega) hgx).trans HX1.out
   have HXR := hid hxr
   have hzr := HBT.out.size
   by_cases hlast : i + 1 < n
   ·have HL : Hid (Pl.pltB (Pl.pr (ps ++ [p]) i) (Pl.pr (ps ++ [p]) (i - 1)) = false) := hid (by
     have := HPL.out
     rw [Pl.pr_app_lt _ _ _ (by omega), Pl.pr_app_lt _ _ _ (by omega)]
     exact Pl.pltB_asymm (HASC.out (i - 1) i (by omega) (by omega)))
    go_wp2_with fail
    go_loopw [7] (fun vj wr2 => vj = .int .i64 i ∧ Hid (OwnPf wr2 base (.slice (some ⟨g, 0, none⟩) n c) (ps ++ [p])) ∧ Hid (But g w1 wr2)) (fun _ _ => 0)
    case atStart => exact ⟨rfl, HO, HBT⟩
    case round =>
     clear HO HBT hxr HXR hzr
     obtain ⟨rfl, HO, HBT⟩ := hrel
     rename World => wr2
     have hxr := (HBT.out.block w.heap.size (by omega) hgx).trans HX1.out
     obtain ⟨c0, c1, _, _, hxl⟩ := adjAt_cells hxr
     have hl := HLESS.out wr2 (ps ++ [p]) i (i - 1) HO.out (But.trans (But.of HB1.out) HBT.out) hlt (by omega)
     rw [HL.out, show (((i - 1 : Nat) : Int)) = (i : Int) - 1 by omega] at hl
     have HLL := hid hl
     have hi0 : (0 : Int) < (i : Int) := by omega
     clear hl hxr
     go_wp2_with (go_at_call 188; refine HLL.out.mono ?_; rintro e w' ⟨rfl, hb⟩)
     go_roundw
     case rel => exact ⟨i + 1, ps ++ [p], by go_num, by omega, by omega, hid (HO.out.below hb), hid (HBT.out.trans (But.of hb)), hid (.inl ⟨hlast, rfl⟩)⟩
     case measure => simp [intOf]; omega
   ·have HI : Hid (i = ps.length) := hid (by have := HPL.out; omega)
    have HIN : Hid (i + 1 = n) := hid (by omega)
    have HDN : Hid (ps ++ [p] = Pl.down ps p i) := hid (by rw [HI.out]; unfold Pl.down; simp)
    rw [HDN.out] at HO
    clear hlast
    go_wp2_with fail
    go_loopw [7] (fun vj wr2 => ∃ j : Nat, vj = .int .i64 j ∧ j ≤ i ∧ Hid (OwnPf wr2 base (.slice (some ⟨g, 0, none⟩) n c) (Pl.down ps p j)) ∧ Hid (But g w1 wr2) ∧ Hid (∀ t, j ≤ t → t < i → Pl.pltB p (Pl.pr ps t) = true)) (fun vj _ => (intOf vj).toNat)
    case atStart => exact ⟨i, rfl, Nat.le_refl _, HO, HBT, hid (fun t h1 h2 => by omega)⟩
    case round =>
     clear HO HBT hxr HXR hzr
     obtain ⟨j, rfl, hjl, HO, HBT, HUP⟩ := hrel
     rename World => wr2
     have hxr := (HBT.out.block w.heap.size (by omega) hgx).trans HX1.out
     obtain ⟨c0, c1, _, _, hxl⟩ := adjAt_cells hxr
     have HOUT : Hid ((∀ t, t < j → Pl.pltB p (Pl.pr ps t) = false) → Pl.insP ps p = Pl.down ps p j) := hid fun h => Pl.insP_at ps p j (by have := HI.out; omega) h fun h' => HUP.out j (Nat.le_refl _) (by have := HI.out; omega)
     clear hxr
     by_cases hj0 : j = 0
     ·have HE : Hid (Pl.insP ps p = Pl.down ps p j) := hid (HOUT.out fun t h => by omega)
      have hjn : ¬ (0 : Int) < (j : Int) := by omega
      clear hj0
      go_wp2_with fail
      go_roundw
      case rel => exact ⟨i + 1, _, by go_num, by omega, by omega, HO, HBT, hid (.inr ⟨HIN.out, HE.out.symm⟩)⟩
      case measure => simp [intOf]; omega
     ·have hj1 : (0 : Int) < (j : Int) := by omega
      have hl := HLESS.out wr2 (Pl.down ps p j) j (j - 1) HO.out (But.trans (But.of HB1.out) HBT.out) (by omega) (by omega)
      have e1 : Pl.pr (Pl.down ps p j) j = p := Pl.down_at (by have := HI.out; omega)
      have e2 : Pl.pr (Pl.down ps p j) (j - 1) = Pl.pr ps (j - 1) := by
       have := Pl.down_prev (ps := ps) (p := p) (j := j - 1) (by have := HI.out; omega)
       rwa [show j - 1 + 1 = j by omega] at this
      have HE1 := hid e1
      have HE2 := hid e2
      rw [e1, e2, show (((j - 1 : Nat) : Int)) = (j : Int) - 1 by omega] at hl
      obtain ⟨b, HB⟩ : ∃ b, Hid (Pl.pltB p (Pl.pr ps (j - 1)) = b) := ⟨_, hid rfl⟩
      rw [HB.out] at hl
      have HLL := hid hl
      clear hl hj0 e1 e2
      cases b with
      | true =>
       go_wp2_with (go_at_call 188; refine HLL.out.mono ?_; rintro e w' ⟨rfl, hb⟩; have c1' := (hb.cell (p := ⟨w.heap.size, 1, none⟩) hxl).trans c1)
       have hs := swap_run base g n c (Pl.down ps p j) w' (HO.out.below hb) j (j - 1) (by omega) (by omega)
       rw [HE1.out, HE2.out, show (((j - 1 : Nat) : Int)) = (j : Int) - 1 by omega] at hs
       rw [hs, Oper.upon_value]
       clear hs
       go_wp2_with fail
       go_roundw
       case rel =>
        refine ⟨j - 1, by congr 1; omega, by omega, hid ?_, hid ?_, hid ?_⟩
        ·have h1 := OwnPf.set (OwnPf.set (HO.out.below hb) j (Pl.pr ps (j - 1))) (j - 1) p
         have h2 := Pl.down_swap (ps := ps) (p := p) (j := j - 1) (by have := HI.out; omega)
         rw [show j - 1 + 1 = j by omega] at h2
         rw [h2] at h1
         exact h1
        ·exact but_setCells (but_setCells (HBT.out.trans (But.of hb)) _) _
        ·intro t h1 h2
         rcases Nat.lt_or_ge t j with q | q
         ·obtain rfl : t = j - 1 := by omega
          exact HB.out
         ·exact HUP.out t q h2
       case measure => simp [intOf]; omega
      | false =>
       have HE : Hid (Pl.insP ps p = Pl.down ps p j) := hid (HOUT.out fun t h => by
        cases hh : Pl.pltB p (Pl.pr ps t)
        ·rfl
        ·exfalso
         rcases Nat.lt_or_ge t (j - 1) with q | q
         ·have := Pl.pltB_trans hh (HASC.out t (j - 1) q (by have := HI.out; omega))
          rw [HB.out] at this; cases this
         ·obtain rfl : t = j - 1 := by omega
          rw [HB.out] at hh; cases hh)
       go_wp2_with (go_at_call 188; refine HLL.out.mono ?_; rintro e w' ⟨rfl, hb⟩)
       go_roundw
       case rel => exact ⟨i + 1, _, by go_num, by omega, by omega, hid (HO.out.below hb), hid (HBT.out.trans (But.of hb)), hid (.inr ⟨HIN.out, HE.out.symm⟩)⟩
       case measure => simp [intOf]; omega
  ·have HRS : Hid (i = n ∧ rs = Pl.insP ps p) := hid (by rcases HST.out with ⟨e, _⟩ | e; (exact absurd e hlt); exact e)
   have hlt' : ¬ (i : Int) < (n : Int) := by omega
   clear HST hlt
   go_wp2_with fail
   go_end0
   exact ⟨rfl, by rw [← HRS.out.2]; exact HO.out, (But.of HB1.out : But g w w1).trans HBT.out⟩
set_option maxHeartbeats 4000000 in
theorem pdqS_any (ps : List (Int × Int)) (p : Int × Int) (base g vb n c : Nat) (lim : Int) (w : World) (hown : OwnPf w base (.slice (some ⟨g, 0, none⟩) n c) (ps ++ [p])) (h2 : 2 ≤ n) (h12 : n ≤ 12)
  (hvar : w.heap[vb]? = some (.cells #[.slice (some ⟨g, 0, none⟩) n c] 29)) (hasc : ps.Pairwise fun a b => Pl.pltB a b = true) :
  Calls Tryz.prog 214 #[.agg #[.func (.func 188) #[] #[.pointer (some ⟨vb, 0, none⟩)], .func (.func 243) #[] (swB g n c)], .int .i64 0, .int .i64 n, .int .i64 lim] w fun e w' =>
   e = .returned (.tuple #[]) ∧ OwnPf w' base (.slice (some ⟨g, 0, none⟩) n c) (Pl.insP ps p) ∧ But g w w' := by
 obtain ⟨w1, HW1⟩ : ∃ W, Hid (W = w.alloc (.cells #[.func (.func 188) #[] #[.pointer (some ⟨vb, 0, none⟩)], .func (.func 243) #[] (swB g n c)] 267)) := ⟨_, hid rfl⟩
 have hb1 : Below w.heap.size w w1 := by rw [HW1.out]; exact (Below.refl _ _).alloc (Nat.le_refl _) _
 have HB1 := hid hb1
 have HI := hid (insSort_any ps p base g vb n c w1 (hown.below hb1) h2 (by omega) ((hb1.block _ (blockLt hvar)).trans hvar) hasc)
 have h12' : (n : Int) ≤ 12 := by omega
 clear hown hvar hasc hb1
 go_enter Tryz.func214, Tryz.ntmps214
 go_wp2_with (rw [← HW1.out])
 refine wp_loop_rounds 1 ?_
 rw [rounds_succ]
 have c01 : w1.heap[w.heap.size]? = some (.cells #[.func (.func 188) #[] #[.pointer (some ⟨vb, 0, none⟩)], .func (.func 243) #[] (swB g n c)] 267) := by rw [HW1.out]; exact heapNew _ _
 obtain ⟨c0, c1, _, _, hxl⟩ := adjAt_cells c01
 clear c01
 go_wp2_with (go_at_call 244; refine HI.out.mono ?_; rintro e w' ⟨rfl, ho', hb'⟩)
 (try simp only [Exit.inBlock, Exit.then])
 refine bodyPost_ret (results_none rfl _ _ _) rfl ?_
 exact ⟨rfl, ho', (But.of HB1.out : But g w w1).trans hb'⟩
theorem pfxTI : ∃ i, Tryz.prog.info? 29 = some i ∧ i.desc = .slice 49 := ⟨(Tryz.prog.info? 29).get (by kernel_rfl), by kernel_rfl, by kernel_rfl⟩
theorem pfxEI : ∃ i, Tryz.prog.info? 49 = some i ∧ i.hasPointers = false ∧ i.bytes = 16 := ⟨(Tryz.prog.info? 49).get (by kernel_rfl), by kernel_rfl, by kernel_rfl, by kernel_rfl⟩
theorem swapper_nine (n : Nat) (h2 : 2 ≤ n) (ie : TypeInfo) (h : ie.hasPointers = false ∧ ie.bytes = 16) : Lib.swapperK n ie 25 = 9 := by
 have c : (n == 0) = false := by simp; omega
 have d : (n == 1) = false := by simp; omega
 simp [Lib.swapperK, h.1, h.2, c, d]
theorem sortSlice_any (ps : List (Int × Int)) (p : Int × Int) (base g vb n c : Nat) (w : World) (hown : OwnPf w base (.slice (some ⟨g, 0, none⟩) n c) (ps ++ [p])) (h2 : 2 ≤ n) (h12 : n ≤ 12)
  (hvar : w.heap[vb]? = some (.cells #[.slice (some ⟨g, 0, none⟩) n c] 29)) (hasc : ps.Pairwise fun a b => Pl.pltB a b = true) :
  Calls Tryz.prog 187 #[.iface 29 (.slice (some ⟨g, 0, none⟩) n c), .func (.func 188) #[] #[.pointer (some ⟨vb, 0, none⟩)]] w fun e w' =>
   e = .returned (.tuple #[]) ∧ (OwnPf w' base (.slice (some ⟨g, 0, none⟩) n c) (Pl.insP ps p) ∧ But g w w') := by
 obtain ⟨i, hi, hd⟩ := pfxTI
 obtain ⟨ie, hie, hp, hb⟩ := pfxEI
 have hk := swapper_nine n h2 ie ⟨hp, hb⟩
 have hB : sliceBound Tryz.prog 49 ie 25 (some ⟨g, 0, none⟩) n c = swB g n c := by
  unfold sliceBound swB
  rw [if_neg (by omega)]
 have hbel : Below w.heap.size w (sliceWorld Tryz.prog Tryz.laysGg6_ren 29 (some ⟨g, 0, none⟩) n c w) := by
  unfold sliceWorld
  exact ((Below.refl _ _).alloc (Nat.le_refl _) _).alloc (by simp) _
 refine Any.sort_Slice_of_pdq Tryz.laysGg6 29 49 i ie hi hd (by kernel_rfl) hie 25 (fun _ => by kernel_rfl) (some ⟨g, 0, none⟩) n c (by omega) 243 (by rw [hk]; kernel_rfl) (.func 188) #[] #[.pointer (some ⟨vb, 0, none⟩)] w (fun w' => OwnPf w' base (.slice (some ⟨g, 0, none⟩) n c) (Pl.insP ps p) ∧ But g w w') ?_
 rw [hB]
 refine (pdqS_any ps p base g vb n c _ _ (hown.below hbel) h2 h12 ((hbel.block _ (blockLt hvar)).trans hvar) hasc).mono ?_
 rintro e w' ⟨rfl, ho, hb'⟩
 exact ⟨rfl, ho, (But.of hbel : But g w _).trans hb'⟩
theorem sortSlice_one (g n c vb : Nat) (h1 : n ≤ 1) (w : World) (hn : n = 1) :
  Calls Tryz.prog 187 #[.iface 29 (.slice (some ⟨g, 0, none⟩) n c), .func (.func 188) #[] #[.pointer (some ⟨vb, 0, none⟩)]] w fun e w' => e = .returned (.tuple #[]) ∧ Below w.heap.size w w' := by
 obtain ⟨i, hi, hd⟩ := pfxTI
 obtain ⟨ie, hie, hp, hb⟩ := pfxEI
 have hk : Lib.swapperK n ie 25 = 2 := by subst hn; simp [Lib.swapperK]
 refine (Any.sort_Slice_tiny Tryz.laysGg6 29 49 i ie hi hd (by kernel_rfl) hie 25 (fun _ => by kernel_rfl) (some ⟨g, 0, none⟩) n c h1 236 (by rw [hk]; kernel_rfl) (.func 188) #[] #[.pointer (some ⟨vb, 0, none⟩)] w).mono ?_
 rintro e w' ⟨rfl, os, rfl⟩
 exact ⟨rfl, below_grow w 0 os⟩
def YV (base : Nat) (ps : List (Int × Int)) (p : Int × Int) (va : Value) (j : Nat) (u : Value) (W : World) : Prop :=
 if j = 0 then (∃ X z, u = .pointer (some ⟨X, 0, none⟩) ∧ base ≤ X ∧ W.heap[X]? = some (.cells #[z] 29))
 else if j = 1 then u = va
 else if j = 2 then OwnPf W base u ps
 else if j = 3 then u = .agg #[.int .i64 p.1, .int .i64 p.2]
 else if j = 4 then (∃ b, u = .slice (some ⟨b, 0, none⟩) 1 1 ∧ W.heap[b]? = some (.cells #[.int .i64 p.1, .int .i64 p.2] 49))
 else True
theorem YV.grow {base ps p va} {W W' : World} (hb : Below W.heap.size W W') : ∀ q u, YV base ps p va q u W → YV base ps p va q u W' := by
 intro q u h
 unfold YV at h ⊢
 by_cases e0 : q = 0
 ·rw [if_pos e0] at h ⊢
  obtain ⟨X, z, h1, h2, h3⟩ := h
  exact ⟨X, z, h1, h2, (hb.block _ (blockLt h3)).trans h3⟩
 rw [if_neg e0] at h ⊢
 by_cases e1 : q = 1
 ·rw [if_pos e1] at h ⊢; exact h
 rw [if_neg e1] at h ⊢
 by_cases e2 : q = 2
 ·rw [if_pos e2] at h ⊢; exact OwnP.below h hb
 rw [if_neg e2] at h ⊢
 by_cases e3 : q = 3
 ·rw [if_pos e3] at h ⊢; exact h
 rw [if_neg e3] at h ⊢
 by_cases e4 : q = 4
 ·rw [if_pos e4] at h ⊢
  obtain ⟨b, h1, h2⟩ := h
  exact ⟨b, h1, (hb.block _ (blockLt h2)).trans h2⟩
 rw [if_neg e4]; trivial
theorem YV.four {base ps p va} {u : Value} {W : World} (h : YV base ps p va 4 u W) : ∃ b, u = .slice (some ⟨b, 0, none⟩) 1 1 ∧ W.heap[b]? = some (.cells #[.int .i64 p.1, .int .i64 p.2] 49) := by
 unfold YV at h
 rwa [if_neg (by decide), if_neg (by decide), if_neg (by decide), if_neg (by decide), if_pos rfl] at h
def yOff (k : Nat) : Option Nat := ([some 1, some 2, some 3, some 4, some 5, some 0, none] : List (Option Nat)).getD k none
def YB (w0 : World) (ps : List (Int × Int)) (p : Int × Int) (a0 : Act) (listed : Array Bool) (a : Act) (W : World) : Prop :=
 listed.getD 4 false = true ∧ listed.size = 7 ∧ (listed.getD 5 false = false → listed.getD 6 false = false) ∧ ∃ xs : List Value, xs.length = 6 ∧ a = { a0 with tmps := setFrom a0.tmps 5 xs } ∧ Below w0.heap.size w0 W ∧ OwnPf W w0.heap.size (xs.getD 5 undef) (ps ++ [p]) ∧
  (listed.getD 5 false = true → ∃ X z, xs.getD 0 undef = .pointer (some ⟨X, 0, none⟩) ∧ w0.heap.size ≤ X ∧ W.heap[X]? = some (.cells #[z] 29) ∧ (listed.getD 6 false = true → z = xs.getD 5 undef))
def YInv (w0 : World) (ps : List (Int × Int)) (p : Int × Int) (va : Value) (a0 : Act) (listed : Array Bool) (a : Act) (W : World) : Prop :=
 (listed.getD 4 false = false ∧ RInv a0 5 6 7 yOff (YV w0.heap.size ps p va) (fun W => Below w0.heap.size w0 W) listed a W) ∨ YB w0 ps p a0 listed a W
theorem own_apartB {w w' : World} {X base : Nat} {v : Value} {ps : List (Int × Int)} {cs : Array Value} (h : OwnPf w base v ps) (k : But X w w') (hx : w.heap[X]? = some (.cells cs 29)) : OwnPf w' base v ps :=
 ownsRow_apart h k (by intro cur m e; rw [hx] at e; simp at e)
theorem box1c {w : World} {b : Nat} {c0 : Value} {T : TypeId} (h : w.heap[b]? = some (.cells #[c0] T)) : w.cell? ⟨b, 0, none⟩ = some c0 ∧ w.frozen? ⟨b, 0, none⟩ = false ∧ b < w.heap.size := by
 refine ⟨?_, ?_, blockLt h⟩
 ·simp [World.cell?, h]
 ·simp [World.frozen?, h]
theorem box1_set {w : World} {b : Nat} {c0 : Value} {T : TypeId} (h : w.heap[b]? = some (.cells #[c0] T)) (v : Value) : (w.setCell ⟨b, 0, none⟩ v).heap[b]? = some (.cells #[v] T) := by
 have := blockLt h
 simp [World.setCell, Array.getElem?_modify, h]
set_option maxHeartbeats 8000000 in
theorem netWith1 {Q : Exit → Act → World → Prop} {a0 : Act} {w0 : World} {pb len cap : Nat} {ao : Option Addr} {ps : List (Int × Int)} {p : Int × Int}
  (hsize : a0.tmps.size = 16) (q0 : a0.tmps[0]?.getD undef = .slice ao len cap) (q3 : a0.tmps[3]?.getD undef = .pointer (some ⟨pb, 0, none⟩))
  (hpb : pb < w0.heap.size) (P0 : w0.cell? ⟨pb, 0, none⟩ = some (.int .i64 p.1)) (P1 : w0.cell? ⟨pb, 1, none⟩ = some (.int .i64 p.2)) (HP : IsPairs w0 ao len cap ps) (hl : len ≤ 1000) (hn : ao = none → len = 0)
  (hQ : ∀ xs W X, xs.length = 6 → xs.getD 0 undef = .pointer (some ⟨X, 0, none⟩) → w0.heap.size ≤ X → OwnPf W w0.heap.size (xs.getD 5 undef) (ps ++ [p]) → W.heap[X]? = some (.cells #[xs.getD 5 undef] 29) → Below w0.heap.size w0 W → Q .normal { a0 with tmps := setFrom a0.tmps 5 xs } W) :
  ∀ ops, regIn Tryz.f158 1 = some ops → (Code.region 1 ops true).wp Tryz.prog Q a0 w0 := by
 intro ops hops
 have eo := Option.some.inj (hops.symm.trans (rfl : regIn Tryz.f158 1 = some _))
 subst eo
 clear hops
 have hsz : 5 + 6 ≤ a0.tmps.size := by omega
 have hpl := HP.1
 refine wp_region_any (by kernel_rfl) ?_
 refine wpAny_inv2 (YInv w0 ps p (.slice ao len cap) a0) ?_ ?_ _ _ _ _ (by decide +kernel) ?_ (closed_start _ _ _)
 ·rintro i listed a' W hi hCl hinv
  rw [mem_ready] at hi
  obtain ⟨hl0, o, ho, hall⟩ := hi
  have hlti : i < 7 := (Array.getElem?_eq_some_iff.1 ho).1
  have hcs : i = 0 ∨ i = 1 ∨ i = 2 ∨ i = 3 ∨ i = 4 ∨ i = 5 ∨ i = 6 := by omega
  rcases hinv with ⟨h4, hI⟩ | hB
  ·have h6 : listed.getD 6 false = false := by
    cases h : listed.getD 6 false with
    | false => rfl
    | true =>
     have e := hCl 6 _ rfl h ⟨4, .data⟩ (by simp) rfl
     rw [h4] at e
     cases e
   have h4s : ∀ k, k ≠ 4 → (listed.setIfInBounds k true).getD 4 false = false := fun k hk => by rw [getD_set_ne false hk]; exact h4
   have o0 := (hI.out (k := 0) (by omega)).trans q0
   have o3 := (hI.out (k := 3) (by omega)).trans q3
   have p0 := (hI.cw.cell (p := ⟨pb, 0, none⟩) hpb).trans P0
   have p1 := (hI.cw.cell (p := ⟨pb, 1, none⟩) hpb).trans P1
   rcases hcs with rfl | rfl | rfl | rfl | rfl | rfl | rfl
   all_goals
    simp at ho
    subst ho
    refine wpOp_of rfl rfl ?_
   ·simp [Oper.wp, go_sem, o0]
    exact Or.inl ⟨h4s 0 (by decide), hI.put (i := 0) (j := 1) rfl (by omega) (fun _ _ h => h) rfl hI.cw⟩
   ·have e6 : a'.tmps[6]?.getD undef = .slice ao len cap := hI.at (k := 0) (j := 1) hsz rfl (by omega) (hall ⟨0, .data⟩ (by simp) rfl)
    simp [Oper.wp, go_sem, e6]
    refine (CloneP_any ao len cap ps W (HP.below hI.cw) (by omega) hn).mono ?_
    rintro e W' ⟨v, rfl, hv, hb⟩
    exact Or.inl ⟨h4s 1 (by decide), hI.put (i := 1) (j := 2) rfl (by omega) (YV.grow hb) (OwnP.mono hv hI.cw.size) (hI.cw.trans (hb.mono hI.cw.size))⟩
   ·simp [Oper.wp, go_sem, o3, p0, p1]
    exact Or.inl ⟨h4s 2 (by decide), hI.put (i := 2) (j := 3) rfl (by omega) (fun _ _ h => h) rfl hI.cw⟩
   ·have e8 : a'.tmps[8]?.getD undef = .agg #[.int .i64 p.1, .int .i64 p.2] := hI.at (k := 2) (j := 3) hsz rfl (by omega) (hall ⟨2, .data⟩ (by simp) rfl)
    simp [Oper.wp, go_sem, e8]
    have hb : Below W.heap.size W (W.alloc (.cells #[.int .i64 p.1, .int .i64 p.2] 49)) := (Below.refl _ _).alloc (Nat.le_refl _) _
    exact Or.inl ⟨h4s 3 (by decide), hI.put (i := 3) (j := 4) rfl (by omega) (YV.grow hb) ⟨W.heap.size, rfl, heapNew _ _⟩ (hI.cw.trans (hb.mono hI.cw.size))⟩
   ·have e7 : OwnPf W w0.heap.size (a'.tmps[7]?.getD undef) ps := hI.at (k := 1) (j := 2) hsz rfl (by omega) (hall ⟨1, .data⟩ (by simp) rfl)
    obtain ⟨bb, e9, hbb⟩ : ∃ b, a'.tmps[9]?.getD undef = .slice (some ⟨b, 0, none⟩) 1 1 ∧ W.heap[b]? = some (.cells #[.int .i64 p.1, .int .i64 p.2] 49) := YV.four (hI.at (k := 3) (j := 4) hsz rfl (by omega) (hall ⟨3, .data⟩ (by simp) rfl))
    obtain ⟨i0, hi0, hz0, hz1, hz2⟩ := partsOf infoPfxN
    obtain ⟨k0, k1, _, _, _⟩ := adjAt_cells hbb
    refine wp_append_own W (.tmp 7) (.tmp 9) 29 rfl w0.heap.size 49 i0 _ 2 16 Tryz.underlying29 hi0 hz0 hz1 hz2 rfl (by decide) (a'.tmps[7]?.getD undef) ps.length (cellsP ps) (by simp [go_sem]) e7 ⟨bb, 0, none⟩ 1 1 [.int .i64 p.1, .int .i64 p.2] (by simpa [go_sem] using e9) rfl ?_ ?_ (by unfold maxLen; omega) (by omega) hI.cw.size ?_
    ·intro j u hj
     rw [add_none]
     match j, hj with
     | 0, hj => simp at hj; subst hj; exact k0
     | 1, hj => simp at hj; subst hj; exact k1
     | j + 2, hj => simp at hj
    ·intro u hu; simp at hu; rcases hu with rfl | rfl <;> rfl
    ·intro v' w' hown' hg _
     have hlt := World.ownsRow.lt e7
     have hown : OwnPf w' w0.heap.size v' (ps ++ [p]) := ownP_of hown' (by rw [cellsP_append]; rfl)
     have hbw : Below w0.heap.size w0 w' := hI.cw.trans ((Below.refl _ _).grown hg hI.cw.size (fun k hk => (hlt k hk).1))
     obtain ⟨xs, hxl, hae, hf⟩ := hI.fr
     refine Or.inr ⟨?_, by simp [hI.ls], fun _ => ?_, xs.set 5 v', by simp [hxl], ?_, hbw, by simpa [List.getD, hxl] using hown, ?_⟩
     ·have : 4 < listed.size := by rw [hI.ls]; omega
      simp [this]
     ·rw [getD_set_ne false (by decide)]; exact h6
     ·rw [hae]
      show ({ a0 with tmps := (setFrom a0.tmps 5 xs).setIfInBounds (5 + 5) v' } : Act) = _
      rw [setFrom_set xs a0.tmps 5 5 _ (by omega)]
     ·intro h5
      rw [getD_set_ne false (by decide)] at h5
      obtain ⟨X, z, x1, x2, x3⟩ : ∃ X z, xs.getD 0 undef = .pointer (some ⟨X, 0, none⟩) ∧ w0.heap.size ≤ X ∧ W.heap[X]? = some (.cells #[z] 29) := hf 5 0 rfl h5
      refine ⟨X, z, by rw [← x1]; simp [List.getD], x2, ?_, fun h => by rw [getD_set_ne false (by decide), h6] at h; cases h⟩
      refine (hg.block X (blockLt x3) ?_).trans x3
      intro e
      obtain ⟨_, ⟨e2, _⟩ | ⟨g, cp, cur, e2, _, hh, _⟩⟩ := e7
      ·rw [e2] at e; cases e
      ·rw [e2] at e
       simp [Value.ownBlock] at e
       subst e
       rw [x3] at hh
       simp at hh
   ·simp [Oper.wp, go_sem]
    have hb : Below W.heap.size W (W.alloc (.cells #[.slice none 0 0] 29)) := (Below.refl _ _).alloc (Nat.le_refl _) _
    exact Or.inl ⟨h4s 5 (by decide), hI.put (i := 5) (j := 0) rfl (by omega) (YV.grow hb) ⟨W.heap.size, _, rfl, hI.cw.size, heapNew _ _⟩ (hI.cw.trans (hb.mono hI.cw.size))⟩
   ·have e := hall ⟨4, .data⟩ (by simp) rfl
    rw [h4] at e
    cases e
  ·obtain ⟨h4, hls, h56, xs, hxl, rfl, hbw, hown, hbox⟩ := hB
   have e1 := hCl 4 _ rfl h4 ⟨1, .data⟩ (by simp) rfl
   have e3 := hCl 4 _ rfl h4 ⟨3, .data⟩ (by simp) rfl
   have e0 := hCl 1 _ rfl e1 ⟨0, .data⟩ (by simp) rfl
   have e2 := hCl 3 _ rfl e3 ⟨2, .data⟩ (by simp) rfl
   have hnl : ∀ (h : listed.getD i false = true), False := fun h => by
    rcases Nat.lt_or_ge i listed.size with g | g
    ·simp [g] at hl0 h
     rw [hl0] at h
     cases h
    ·simp [Array.getElem?_eq_none g] at h
   rcases hcs with rfl | rfl | rfl | rfl | rfl | rfl | rfl
   ·exact (hnl e0).elim
   ·exact (hnl e1).elim
   ·exact (hnl e2).elim
   ·exact (hnl e3).elim
   ·exact (hnl h4).elim
   ·simp at ho
    subst ho
    refine wpOp_of rfl rfl ?_
    have h5 : listed.getD 5 false = false := by cases h : listed.getD 5 false; (rfl); exact (hnl h).elim
    simp [Oper.wp, go_sem]
    have hb : Below W.heap.size W (W.alloc (.cells #[.slice none 0 0] 29)) := (Below.refl _ _).alloc (Nat.le_refl _) _
    refine Or.inr ⟨by rw [getD_set_ne false (by decide)]; exact h4, by simp [hls], fun h => ?_, xs.set 0 (.pointer (some ⟨W.heap.size, 0, none⟩)), by simp [hxl], ?_, hbw.trans (hb.mono hbw.size), ?_, fun _ => ⟨W.heap.size, _, by simp [List.getD, hxl], hbw.size, heapNew _ _, fun h => ?_⟩⟩
    ·rw [getD_set_ne false (by decide)]; exact h56 h5
    ·show ({ a0 with tmps := (setFrom a0.tmps 5 xs).setIfInBounds (5 + 0) _ } : Act) = _
     rw [setFrom_set xs a0.tmps 5 0 _ (by omega)]
    ·have : (xs.set 0 (.pointer (some ⟨W.heap.size, 0, none⟩))).getD 5 undef = xs.getD 5 undef := by simp [List.getD]
     rw [this]
     exact OwnP.below hown hb
    ·rw [getD_set_ne false (by decide), h56 h5] at h; cases h
   ·simp at ho
    subst ho
    refine wpOp_of rfl rfl ?_
    have h5 := hall ⟨5, .data⟩ (by simp) rfl
    obtain ⟨X, z, x1, x2, x3, _⟩ := hbox h5
    obtain ⟨y0, yf, yl⟩ := box1c x3
    have o5 : (setFrom a0.tmps 5 xs)[5]?.getD undef = .pointer (some ⟨X, 0, none⟩) := by
     rw [show (5 : Nat) = 5 + 0 from rfl, setFrom_at xs a0.tmps 5 0 (by omega) (by omega)]
     simpa [List.getD] using x1
    have o10 : (setFrom a0.tmps 5 xs)[10]?.getD undef = xs.getD 5 undef := by
     rw [show (10 : Nat) = 5 + 5 from rfl, setFrom_at xs a0.tmps 5 5 (by omega) (by omega)]
     simp [List.getD]
    obtain ⟨oa, on, oc, eo⟩ := OwnP.slice hown
    rw [eo] at o10
    simp [Oper.wp, go_sem, o5, o10, y0, yf]
    have hbut : But X W (W.setCell ⟨X, 0, none⟩ (.slice oa on oc)) := (But.refl _ _).setCell _ _
    refine Or.inr ⟨by rw [getD_set_ne false (by decide)]; exact h4, by simp [hls], fun h => ?_, xs, hxl, rfl, hbw.setCell (p := ⟨X, 0, none⟩) x2 _, own_apartB hown hbut x3, fun _ => ⟨X, _, x1, x2, box1_set x3 _, fun _ => eo.symm⟩⟩
    rw [getD_set_ne false (by decide), h5] at h
    cases h
 ·rintro listed a' W hr hinv
  have hls : listed.size = 7 := by
   rcases hinv with ⟨_, hI⟩ | ⟨_, hls, _⟩
   ·exact hI.ls
   ·exact hls
  have hal := all_listed2 (by decide +kernel) hls hr
  rcases hinv with ⟨h4, hI⟩ | ⟨_, _, _, xs, hxl, rfl, hbw, hown, hbox⟩
  ·rw [hal 4 (by decide)] at h4; cases h4
  ·obtain ⟨X, z, x1, x2, x3, x4⟩ := hbox (hal 5 (by decide))
   rw [x4 (hal 6 (by decide))] at x3
   exact hQ xs W X hxl x1 x2 hown x3 hbw
 ·exact Or.inl ⟨by simp, RInv.start hsz (Below.refl _ _).drew⟩
theorem listN6 (xs : List Value) (h : xs.length = 6) : ∃ x0 x1 x2 x3 x4 x5, xs = [x0, x1, x2, x3, x4, x5] := by
 obtain ⟨x0, y0, rfl, h0⟩ := consN h
 obtain ⟨x1, y1, rfl, h1⟩ := consN h0
 obtain ⟨x2, y2, rfl, h2⟩ := consN h1
 obtain ⟨x3, y3, rfl, h3⟩ := consN h2
 obtain ⟨x4, y4, rfl, h4⟩ := consN h3
 obtain ⟨x5, y5, rfl, h5⟩ := consN h4
 obtain rfl := List.length_eq_zero_iff.1 h5
 exact ⟨x0, x1, x2, x3, x4, x5, rfl⟩
theorem sortS_any (ps : List (Int × Int)) (p : Int × Int) (base g vb n c : Nat) (w : World) (hown : OwnPf w base (.slice (some ⟨g, 0, none⟩) n c) (ps ++ [p])) (h12 : n ≤ 12)
  (hvar : w.heap[vb]? = some (.cells #[.slice (some ⟨g, 0, none⟩) n c] 29)) (hasc : ps.Pairwise fun a b => Pl.pltB a b = true) :
  Calls Tryz.prog 187 #[.iface 29 (.slice (some ⟨g, 0, none⟩) n c), .func (.func 188) #[] #[.pointer (some ⟨vb, 0, none⟩)]] w fun e w' =>
   e = .returned (.tuple #[]) ∧ (OwnPf w' base (.slice (some ⟨g, 0, none⟩) n c) (Pl.insP ps p) ∧ But g w w') := by
 have hl : ps.length + 1 = n := by have := hown.pairs.1; simpa using this
 by_cases h : 2 ≤ n
 ·exact sortSlice_any ps p base g vb n c w hown h h12 hvar hasc
 ·have hp : ps = [] := List.length_eq_zero_iff.1 (by omega)
  subst hp
  refine (sortSlice_one g n c vb (by omega) w (by omega)).mono ?_
  rintro e w' ⟨rfl, hb⟩
  exact ⟨rfl, OwnP.below hown hb, But.of hb⟩
set_option maxHeartbeats 4000000 in
theorem with_any (a : Option Addr) (len cap : Nat) (ps : List (Int × Int)) (p1 p2 : Int) (w : World) (h : IsPairs w a len cap ps) (hl : len ≤ 6) (hn : a = none → len = 0) (hasc : ps.Pairwise fun a b => Pl.pltB a b = true) :
  Calls Tryz.prog 158 #[.slice a len cap, .agg #[.int .i64 p1, .int .i64 p2]] w fun e w' => ∃ v, e = .returned v ∧ OwnPf w' w.heap.size v (Pl.insP ps (p1, p2)) ∧ Below w.heap.size w w' := by
 obtain ⟨W1, HW1⟩ : ∃ W, Hid (W = w.alloc (.cells #[.int .i64 p1, .int .i64 p2] 49)) := ⟨_, hid rfl⟩
 have hx1 : W1.heap[w.heap.size]? = some (.cells #[.int .i64 p1, .int .i64 p2] 49) := by rw [HW1.out]; exact heapNew _ _
 have hb1 : Below w.heap.size w W1 := by rw [HW1.out]; exact (Below.refl _ _).alloc (Nat.le_refl _) _
 have HB1 := hid hb1
 obtain ⟨P0, P1, _, _, hpl⟩ := adjAt_cells hx1
 have HP := hid (h.below hb1)
 have HQ0 := hid P0
 have HQ1 := hid P1
 have HASC := hid hasc
 have HPL := hid h.1
 have hz1 := hb1.size
 clear h hx1 hb1 P0 P1 hasc
 go_enter Tryz.func158, Tryz.ntmps158
 go_wp2_with (rw [← HW1.out])
 rename_i K hK
 refine netWith1 (pb := w.heap.size) (p := (p1, p2)) rfl rfl rfl hpl HQ0.out HQ1.out HP.out (by omega) hn ?_ _ (by kernel_rfl)
 intro xs W X hxl e0 hX hown hbx hbw
 obtain ⟨x0, x1, x2, x3, x4, x5, rfl⟩ := listN6 xs hxl
 have e0 : x0 = .pointer (some ⟨X, 0, none⟩) := e0
 subst e0
 have hown : OwnPf W W1.heap.size x5 (ps ++ [(p1, p2)]) := hown
 have hbx : W.heap[X]? = some (.cells #[x5] 29) := hbx
 obtain ⟨g, c, L, ev, hg, hgh, _, _, _, _⟩ := OwnPf.row hown (by simp)
 obtain ⟨n, HN⟩ : ∃ n, Hid ((ps ++ [(p1, p2)]).length = n) := ⟨_, hid rfl⟩
 rw [HN.out] at ev
 subst ev
 have hn7 : n ≤ 7 := by have h1 := HN.out; have h2 := HPL.out; simp at h1; omega
 have HS := hid (sortS_any ps (p1, p2) W1.heap.size g X n c W hown (by omega) hbx HASC.out)
 have HBW := hid hbw
 have HBX := hid hbx
 obtain ⟨y0, yf, yl⟩ := box1c hbx
 have hXg : X ≠ g := by
  rintro rfl
  rw [hgh] at hbx
  simp at hbx
 clear hown hbx hbw hgh hxl
 simp only [setFrom_spl, spl]
 refine hK _ W ?_
 go_wp2_with (go_at_call 187; refine HS.out.mono ?_; rintro e w' ⟨rfl, ho', hb'⟩; have y0' := (box1c ((hb'.block X yl hXg).trans HBX.out)).1)
 go_ret
 have hb2 : Below W1.heap.size W w' := But.below hb' hg (HBW.out.size)
 exact ⟨_, rfl, OwnP.mono ho' hz1, HB1.out.trans ((HBW.out.trans hb2).mono hz1)⟩
def SV.pfxs (base : Nat) (ps : List (Int × Int)) : SV := ⟨fun u W => OwnPf W base u ps, fun _ _ _ hb h => OwnP.below h hb⟩
set_option maxHeartbeats 8000000 in
theorem netGive5 {Q : Exit → Act → World → Prop} {a0 : Act} {w0 : World} {B xb a pl pc : Nat} {p1 p2 : Int} {pa : Option Addr} {ps : List (Int × Int)}
  (hsize : a0.tmps.size = 41)
  (q3 : a0.tmps[3]?.getD undef = .pointer (some ⟨xb, 0, none⟩))
  (q6 : a0.tmps[6]?.getD undef = .pointer (some ⟨B, a * 4, none⟩))
  (hB : B < w0.heap.size)
  (hx : xb < w0.heap.size)
  (X5 : w0.cell? ⟨xb, 5, none⟩ = some (.int .i64 p1))
  (X6 : w0.cell? ⟨xb, 6, none⟩ = some (.int .i64 p2))
  (PN : w0.cell? ⟨B, a * 4 + 1, none⟩ = some (.slice pa pl pc))
  (HP : IsPairs w0 pa pl pc ps)
  (hl : pl ≤ 6)
  (hn : pa = none → pl = 0)
  (hasc : ps.Pairwise fun a b => Pl.pltB a b = true)
  (hQ : ∀ xs W, xs.length = 23 → OwnPf W w0.heap.size (xs.getD 0 undef) (Pl.insP ps (p1, p2)) → Below w0.heap.size w0 W → Q .normal { a0 with tmps := setFrom a0.tmps 7 xs } W) :
  ∀ ops, regIn Tryz.f113 5 = some ops → (Code.region 5 ops true).wp Tryz.prog Q a0 w0 := by
 intro ops hops
 have eo := Option.some.inj (hops.symm.trans (rfl : regIn Tryz.f113 5 = some _))
 subst eo
 clear hops
 have hsz : 7 + 23 ≤ a0.tmps.size := by omega
 refine wp_region_any (by kernel_rfl) ?_
 refine wpAny_inv2 (RInv a0 7 23 8 (fun k => some (([16, 17, 18, 19, 20, 21, 22, 0] : List Nat).getD k 0)) (SV.V [SV.pfxs w0.heap.size (Pl.insP ps (p1, p2)), SV.any, SV.any, SV.any, SV.any, SV.any, SV.any, SV.any, SV.any, SV.any, SV.any, SV.any, SV.any, SV.any, SV.any, SV.any, SV.eq (.pointer (some ⟨B, a * 4, none⟩)), SV.eq (.pointer (some ⟨B, a * 4, none⟩)), SV.eq (.pointer (some ⟨B, a * 4 + 1, none⟩)), SV.eq (.slice pa pl pc), SV.eq (.pointer (some ⟨xb, 5, none⟩)), SV.eq (.agg #[.int .i64 p1, .int .i64 p2]), SV.pfxs w0.heap.size (Pl.insP ps (p1, p2))]) (fun W => Below w0.heap.size w0 W)) ?_ ?_ _ _ _ _ (by decide +kernel) ?_ (closed_start _ _ _)
 ·rintro i listed a' W hi hCl hI
  rw [mem_ready] at hi
  obtain ⟨hl0, o, ho, hall⟩ := hi
  have hlti : i < 8 := (Array.getElem?_eq_some_iff.1 ho).1
  have o3 := (hI.out (k := 3) (by omega)).trans q3
  have o6 := (hI.out (k := 6) (by omega)).trans q6
  have x5 := (hI.cw.cell (p := ⟨xb, 5, none⟩) hx).trans X5
  have x6 := (hI.cw.cell (p := ⟨xb, 6, none⟩) hx).trans X6
  have pn := (hI.cw.cell (p := ⟨B, a * 4 + 1, none⟩) hB).trans PN
  have hcs : i = 0 ∨ i = 1 ∨ i = 2 ∨ i = 3 ∨ i = 4 ∨ i = 5 ∨ i = 6 ∨ i = 7 := by omega
  rcases hcs with rfl | rfl | rfl | rfl | rfl | rfl | rfl | rfl
  all_goals
   simp at ho
   subst ho
  ·refine wpOp_of rfl rfl ?_
   simp [Oper.wp, go_sem, o6]
   exact hI.put (i := 0) (j := 16) rfl (by omega) (fun _ _ h => h) rfl hI.cw
  ·refine wpOp_of rfl rfl ?_
   have e23 : a'.tmps[23]?.getD undef = .pointer (some ⟨B, a * 4, none⟩) := hI.at (k := 0) (j := 16) hsz rfl (by omega) (hall ⟨0, .data⟩ (by simp) rfl)
   simp [Oper.wp, go_sem, e23]
   exact hI.put (i := 1) (j := 17) rfl (by omega) (fun _ _ h => h) rfl hI.cw
  ·refine wpOp_of rfl rfl ?_
   have e24 : a'.tmps[24]?.getD undef = .pointer (some ⟨B, a * 4, none⟩) := hI.at (k := 1) (j := 17) hsz rfl (by omega) (hall ⟨1, .data⟩ (by simp) rfl)
   simp [Oper.wp, go_sem, e24]
   exact hI.put (i := 2) (j := 18) rfl (by omega) (fun _ _ h => h) rfl hI.cw
  ·refine wpOp_of rfl rfl ?_
   have e25 : a'.tmps[25]?.getD undef = .pointer (some ⟨B, a * 4 + 1, none⟩) := hI.at (k := 2) (j := 18) hsz rfl (by omega) (hall ⟨2, .data⟩ (by simp) rfl)
   simp [Oper.wp, go_sem, e25, pn]
   exact hI.put (i := 3) (j := 19) rfl (by omega) (fun _ _ h => h) rfl hI.cw
  ·refine wpOp_of rfl rfl ?_
   simp [Oper.wp, go_sem, o3]
   exact hI.put (i := 4) (j := 20) rfl (by omega) (fun _ _ h => h) rfl hI.cw
  ·refine wpOp_of rfl rfl ?_
   have e27 : a'.tmps[27]?.getD undef = .pointer (some ⟨xb, 5, none⟩) := hI.at (k := 4) (j := 20) hsz rfl (by omega) (hall ⟨4, .data⟩ (by simp) rfl)
   simp [Oper.wp, go_sem, e27, x5, x6]
   exact hI.put (i := 5) (j := 21) rfl (by omega) (fun _ _ h => h) rfl hI.cw
  ·refine wpOp_of rfl rfl ?_
   have e26 : a'.tmps[26]?.getD undef = .slice pa pl pc := hI.at (k := 3) (j := 19) hsz rfl (by omega) (hall ⟨3, .data⟩ (by simp) rfl)
   have e28 : a'.tmps[28]?.getD undef = .agg #[.int .i64 p1, .int .i64 p2] := hI.at (k := 5) (j := 21) hsz rfl (by omega) (hall ⟨5, .data⟩ (by simp) rfl)
   simp [Oper.wp, go_sem, e26, e28]
   refine (with_any pa pl pc ps p1 p2 W (HP.below hI.cw) hl hn hasc).mono ?_
   rintro e W' ⟨v, rfl, ho', hb'⟩
   exact hI.put (i := 6) (j := 22) rfl (by omega) (SV.grow hb') (OwnP.mono ho' hI.cw.size) (hI.cw.trans (hb'.mono hI.cw.size))
  ·refine wpOp_of rfl rfl ?_
   have h0 := hI.at (k := 6) (j := 22) hsz rfl (by omega) (hall ⟨6, .data⟩ (by simp) rfl)
   simp [Oper.wp, go_sem]
   exact hI.put (i := 7) (j := 0) rfl (by omega) (fun _ _ h => h) h0 hI.cw
 ·rintro listed a' W hr hI
  have hal := all_listed2 (by decide +kernel) hI.ls hr
  obtain ⟨xs, hxl, rfl, hf⟩ := hI.fr
  exact hQ xs W hxl (hf 7 0 rfl (hal 7 (by decide))) hI.cw
 ·exact RInv.start hsz (Below.refl _ _).drew
theorem NetAt.setNew {w0 w : World} {B : Nat} {s : Pl.Nt} (h : NetAt w0 B s) (hb : Below w0.heap.size w0 w) (a : Nat) (ha : a < 12) (v : Value) (ps : List (Int × Int)) (hv : OwnPf w w0.heap.size v ps) : NetAt (w.setCell ⟨B, a * 4 + 1, none⟩ v) B { s with P := Pl.upd s.P a ps } := by
 have hB := h.lt
 have hnew : v.ownBlock = none ∨ ∃ k, v.ownBlock = some k ∧ w0.heap.size ≤ k := by
  obtain ⟨_, ⟨rfl, _⟩ | ⟨g, cap, cur, rfl, hg, _⟩⟩ := hv
  ·exact .inl rfl
  ·exact .inr ⟨g, by simp [Value.ownBlock], hg⟩
 obtain ⟨VP, VK, VT, h1, h2, h3, h4, h5⟩ := h
 refine NetAt.setPrefixes (NetAt.below ⟨VP, VK, VT, h1, h2, h3, h4, h5⟩ hb) a ha v ps (OwnP.mono hv (by omega)) fun VP' VK' VT' hn i hi hne => ?_
 have e : VP' i = VP i := by
  have q1 := hn.prefixes i hi
  have q2 := (h1.below hb).prefixes i hi
  rw [q1] at q2
  exact Option.some.inj q2
 have hold : (VP' i).ownBlock = none ∨ ∃ k, (VP' i).ownBlock = some k ∧ k < w0.heap.size := by
  rw [e]
  obtain ⟨_, ⟨q, _⟩ | ⟨g, cap, cur, q, hg, hh, _⟩⟩ := h2 i hi
  ·rw [q]; exact .inl rfl
  ·rw [q]; exact .inr ⟨g, by simp [Value.ownBlock], blockLt hh⟩
 rcases hnew with h0 | ⟨k, h0, hk⟩
 ·refine ⟨.inl h0, ?_⟩
  rcases hold with g0 | ⟨m, g0, _⟩
  ·exact .inl g0
  ·right; rw [g0, h0]; simp
 ·rcases hold with g0 | ⟨m, g0, hm⟩
  ·refine ⟨?_, .inl g0⟩
   right; rw [g0, h0]; simp
  ·refine ⟨?_, ?_⟩
   ·right; rw [g0, h0]; simp; omega
   ·right; rw [g0, h0]; simp; omega
theorem listN23 (xs : List Value) (h : xs.length = 23) : ∃ x0 x1 x2 x3 x4 x5 x6 x7 x8 x9 x10 x11 x12 x13 x14 x15 x16 x17 x18 x19 x20 x21 x22, xs = [x0, x1, x2, x3, x4, x5, x6, x7, x8, x9, x10, x11, x12, x13, x14, x15, x16, x17, x18, x19, x20, x21, x22] := by
 obtain ⟨x0, y0, rfl, h0⟩ := consN h
 obtain ⟨x1, y1, rfl, h1⟩ := consN h0
 obtain ⟨x2, x3, x4, x5, x6, x7, x8, x9, x10, x11, x12, x13, x14, x15, x16, x17, x18, x19, x20, x21, x22, rfl⟩ := listN21 y1 h1
 exact ⟨x0, x1, x2, x3, x4, x5, x6, x7, x8, x9, x10, x11, x12, x13, x14, x15, x16, x17, x18, x19, x20, x21, x22, rfl⟩
set_option maxHeartbeats 8000000 in
theorem netGive_any (B : Nat) (s : Pl.Nt) (x : Pl.Ac) (a : Nat) (w : World) (h : NetAt w B s) (hxa : x.a = a) (ha : a < 12) (hg : Pl.GoodN s) (hp : Pl.pairOk x.p) :
  Calls Tryz.prog 113 #[.pointer (some ⟨B, 0, none⟩), .agg #[.int .i64 x.kind, .int .i64 x.a, .int .i64 x.b, .int .i64 x.n, .int .i64 x.m, .int .i64 x.p.1, .int .i64 x.p.2, .string x.key, .string x.val]] w fun e w' =>
   e = .returned (.agg #[.int .i64 (Pl.giveC s x), .slice none 0 0, .int .i64 0, .slice none 0 0]) ∧ NetAt w' B (Pl.giveN s x) ∧ NKept B w w' := by
 have HN := hid h
 have hBl := h.lt
 have HG := hid hg
 have HPO := hid hp
 clear h hg hp
 obtain ⟨cd, HCD⟩ : ∃ c, Hid (Pl.giveC s x = c) := ⟨_, hid rfl⟩
 obtain ⟨sn, HSN⟩ : ∃ c, Hid (Pl.giveN s x = c) := ⟨_, hid rfl⟩
 have HCE : Hid (cd = if Pl.pfxF [x.p] = 0 then Pl.pfxF (Pl.insP (s.P x.a.toNat) x.p) else Pl.pfxF [x.p]) := hid HCD.out.symm
 have HSE : Hid (sn = if cd = 0 then { s with P := Pl.upd s.P x.a.toNat (Pl.insP (s.P x.a.toNat) x.p) } else s) := hid (by rw [← HSN.out, ← HCD.out]; rfl)
 rw [HCD.out, HSN.out]
 clear HCD HSN
 obtain ⟨kind, xa, b, n, m, ⟨p1, p2⟩, key, val⟩ := x
 simp only at hxa HCE HSE HPO ⊢
 subst hxa
 rw [Int.toNat_natCast] at HCE HSE
 have ha' : (a : Int) < 12 := by omega
 have HRF := hid (fun (c : Int) (W : World) => refused_any c W)
 obtain ⟨b0, b1, bz, bb⟩ := two (w := w) (.cells #[.int .i64 kind, .int .i64 (a : Int), .int .i64 b, .int .i64 n, .int .i64 m, .int .i64 p1, .int .i64 p2, .string key, .string val] 51) (.cells #[.int .i64 0, .slice none 0 0, .int .i64 0, .slice none 0 0] 40)
 obtain ⟨W2, HW2⟩ : ∃ W, Hid (W = (w.alloc (.cells #[.int .i64 kind, .int .i64 (a : Int), .int .i64 b, .int .i64 n, .int .i64 m, .int .i64 p1, .int .i64 p2, .string key, .string val] 51)).alloc (.cells #[.int .i64 0, .slice none 0 0, .int .i64 0, .slice none 0 0] 40)) := ⟨_, hid rfl⟩
 rw [← HW2.out] at b0 b1 bz bb
 obtain ⟨q0, q1, q2, q3, q4, q5, q6, q7, q8⟩ := box9 b0
 have HX1 := hid b1
 have HBB := hid bb
 have Q1 := hid q1
 have Q5 := hid q5
 have Q6 := hid q6
 have hxl : w.heap.size < W2.heap.size := by omega
 have hBl2 : B < W2.heap.size := by omega
 have hle : w.heap.size ≤ w.heap.size + 1 := by omega
 have hne1 : B ≠ w.heap.size + 1 := by omega
 have hne2 : w.heap.size + 1 ≠ B := by omega
 have HFI : Hid (∀ (c : Int) (W3 : World), Below w.heap.size w W3 → cd = c → c ≠ 0 → NetAt (set4 W3 (w.heap.size + 1) (.int .i64 c) (.slice none 0 0) (.int .i64 0) (.slice none 0 0)) B sn ∧ NKept B w (set4 W3 (w.heap.size + 1) (.int .i64 c) (.slice none 0 0) (.int .i64 0) (.slice none 0 0))) := hid fun c W3 hb e hc => by
  have hfin : Below w.heap.size w (set4 W3 (w.heap.size + 1) (.int .i64 c) (.slice none 0 0) (.int .i64 0) (.slice none 0 0)) := (((hb.setCell (p := ⟨w.heap.size + 1, 0, none⟩) hle _).setCell (p := ⟨w.heap.size + 1, 1, none⟩) hle _).setCell (p := ⟨w.heap.size + 1, 2, none⟩) hle _).setCell (p := ⟨w.heap.size + 1, 3, none⟩) hle _
  rw [HSE.out, if_neg (by omega)]
  exact ⟨HN.out.below hfin, NKept.of (But.of hfin)⟩
 obtain ⟨c1, HC1⟩ : ∃ c, Hid (Pl.pfxF [(p1, p2)] = c) := ⟨_, hid rfl⟩
 obtain ⟨c2, HC2⟩ : ∃ c, Hid (Pl.pfxF (Pl.insP (s.P a) (p1, p2)) = c) := ⟨_, hid rfl⟩
 rw [HC1.out, HC2.out] at HCE
 clear q0 q2 q3 q4 q7 q8 b0 b1 bb
 go_enter Tryz.func113, Tryz.ntmps113
 go_wp2_with (rw [← HW2.out])
 refine (CheckPrefixes_any _ _ _ [(p1, p2)] _ (onePair _ _ p1 p2 _ HPO.out (by omega))).mono ?_
 rw [HC1.out]
 rintro e w1 ⟨rfl, hb1⟩
 have hb21 : Below W2.heap.size W2 w1 := ((Below.refl _ _).alloc (Nat.le_refl _) _).trans (hb1.mono (by simp))
 have HB1 : Hid (Below w.heap.size w w1) := hid (HBB.out.trans (hb21.mono (by omega)))
 have HX2 := hid ((hb21.block _ (blockLt HX1.out)).trans HX1.out)
 have r1 := (hb21.cell (p := ⟨w.heap.size, 1, none⟩) hxl).trans Q1.out
 have R5 := hid ((hb21.cell (p := ⟨w.heap.size, 5, none⟩) hxl).trans Q5.out)
 have R6 := hid ((hb21.cell (p := ⟨w.heap.size, 6, none⟩) hxl).trans Q6.out)
 have hz1 := hb21.size
 have hxl1 : w.heap.size < w1.heap.size := by omega
 have hBl1 : B < w1.heap.size := by omega
 clear hb1 hb21 q1 q5 q6
 by_cases h1 : c1 = 0
 ·rw [if_pos h1] at HCE
  have hc1 : (c1 != 0) = false := by simpa using h1
  clear h1
  go_wp2_with fail
  go_quiet (fail)
  go_wp2_with fail
  rename_i K hK
  obtain ⟨W3, HW3⟩ : ∃ W, Hid (W = w1.drewN nq) := ⟨_, hid rfl⟩
  rw [← HW3.out]
  have HB13 : Hid (Below w1.heap.size w1 W3) := hid (by rw [HW3.out]; exact below_drew (Below.refl _ _) _)
  have HB3 : Hid (Below w.heap.size w W3) := hid (HB1.out.trans (HB13.out.mono HB1.out.size))
  have hz3 := HB13.out.size
  have HN3 := hid (HN.out.below HB3.out)
  obtain ⟨VP, VK, VT, h1, h2, h3, h4, h5⟩ := HN3.out
  obtain ⟨g1, g2, g3⟩ := Pl.pfxF_good (HG.out.P a)
  have hpk : ∀ p ∈ s.P a, Pl.pairOk p := fun p hp => Pl.pairOk_of (by have := Pl.pfx1_zero (g2 p hp); omega)
  obtain ⟨pa, pc, ev, hpi, hpn0, _⟩ := (h2 a ha).shape hpk
  have hpn := h1.prefixes a ha
  rw [ev] at hpn
  have hB3 := h1.lt
  have hxl3 : w.heap.size < W3.heap.size := by omega
  obtain ⟨pl, HPL⟩ : ∃ c, Hid ((s.P a).length = c) := ⟨_, hid rfl⟩
  have hsf := h1.soft (a * 4 + 1)
  rw [HPL.out] at hpn hpi g1
  have HPI := hid hpi
  have hnn : pa = none → pl = 0 := fun e => by
   rw [← HPL.out]
   rcases hpi.2.2.2.2 with h | ⟨b, off, h, _⟩
   ·rw [h]; rfl
   ·rw [e] at h; cases h
  have HIN : Hid (∀ p ∈ Pl.insP (s.P a) (p1, p2), Pl.pairOk p) := hid (by
   have key : ∀ (l : List (Int × Int)) (q : Int × Int), Pl.pairOk q → (∀ p ∈ l, Pl.pairOk p) → ∀ p ∈ Pl.insP l q, Pl.pairOk p := by
    intro l q hq
    induction l with
    | nil => intro _ p hp; simp [Pl.insP] at hp; subst hp; exact hq
    | cons y r ih =>
     intro hl p hp
     unfold Pl.insP at hp
     split at hp
     ·rcases List.mem_cons.1 hp with rfl | hp
      ·exact hq
      ·exact hl p hp
     ·rcases List.mem_cons.1 hp with rfl | hp
      ·exact hl _ (by simp)
      ·exact ih (fun z hz => hl z (by simp [hz])) p hp
   exact key _ _ HPO.out hpk)
  refine netGive5 (B := B) (xb := w.heap.size) (a := a) (p1 := p1) (p2 := p2) rfl rfl rfl hB3 hxl3 ((HB13.out.cell (p := ⟨w.heap.size, 5, none⟩) hxl1).trans R5.out) ((HB13.out.cell (p := ⟨w.heap.size, 6, none⟩) hxl1).trans R6.out) hpn HPI.out g1 hnn g3 ?_ _ (by kernel_rfl)
  intro xs W hxl2 ho hbw
  obtain ⟨x0, x1, x2, x3, x4, x5, x6, x7, x8, x9, x10, x11, x12, x13, x14, x15, x16, x17, x18, x19, x20, x21, x22, rfl⟩ := listN23 xs hxl2
  have ho : OwnPf W W3.heap.size x0 (Pl.insP (s.P a) (p1, p2)) := ho
  obtain ⟨na, nc, en, hni, hnn0, _⟩ := OwnP.shape ho HIN.out
  obtain ⟨nl, HNL⟩ : ∃ c, Hid ((Pl.insP (s.P a) (p1, p2)).length = c) := ⟨_, hid rfl⟩
  rw [HNL.out] at en hni
  subst en
  have HO := hid ho
  have HNI := hid hni
  have HBW := hid hbw
  have HX3 := hid ((hbw.block _ (by omega)).trans ((HB13.out.block _ (blockLt HX2.out)).trans HX2.out))
  have HB4 : Hid (Below w.heap.size w W) := hid (HB3.out.trans (hbw.mono HB3.out.size))
  have hpnW := (hbw.cell (p := ⟨B, a * 4 + 1, none⟩) hB3).trans hpn
  have hsfW := (hbw.frozen (p := ⟨B, a * 4 + 1, none⟩) hB3).trans hsf
  have hzW := hbw.size
  have hBW : B < W.heap.size := by omega
  clear h1 h2 h3 h4 h5 g2 g3 hpk hpi hpn0 hpn ev ho hni hnn0 hbw hxl2 hnn hsf r1
  simp only [setFrom_spl, spl]
  refine hK _ W ?_
  have HCK := hid (CheckPrefixes_any na nl nc (Pl.insP (s.P a) (p1, p2)) W HNI.out)
  rw [HC2.out] at HCK
  go_wp2_with fail
  refine HCK.out.mono ?_
  rintro e w5 ⟨rfl, hb5⟩
  have HX5 := hid ((hb5.block _ (blockLt HX3.out)).trans HX3.out)
  have HB5 : Hid (Below w.heap.size w w5) := hid (HB4.out.trans (hb5.mono HB4.out.size))
  have hpn5 := (hb5.cell (p := ⟨B, a * 4 + 1, none⟩) hBW).trans hpnW
  have hsf5 := (hb5.frozen (p := ⟨B, a * 4 + 1, none⟩) hBW).trans hsfW
  have HO5 : Hid (OwnPf w5 W3.heap.size (.slice na nl nc) (Pl.insP (s.P a) (p1, p2))) := hid (OwnP.below HO.out hb5)
  have HB35 : Hid (Below W3.heap.size W3 w5) := hid (HBW.out.trans (hb5.mono hzW))
  have hz5 := hb5.size
  have hB5 : B < w5.heap.size := by omega
  clear hb5 hpnW hsfW
  by_cases h2 : c2 = 0
  ·have hc2 : (c2 != 0) = false := by simpa using h2
   rw [h2] at HCE
   have HS1 : Hid (sn = { s with P := Pl.upd s.P a (Pl.insP (s.P a) (p1, p2)) }) := hid (by rw [HSE.out, if_pos HCE.out])
   clear h2
   obtain ⟨⟨y0, y1, y2, y3⟩, yf, yl⟩ := box4c HX5.out
   go_wp2_with fail
   obtain ⟨WS, HWS⟩ : ∃ x, Hid (x = w5.setCell ⟨B, a * 4 + 1, none⟩ (.slice na nl nc)) := ⟨_, hid rfl⟩
   have HBS : Hid (But B w5 WS) := hid (by rw [HWS.out]; exact (But.refl B w5).setCell _ _)
   have HXS := hid ((HBS.out.block _ (blockLt HX5.out) hne2).trans HX5.out)
   rw [← HWS.out]
   obtain ⟨Wf, HWF⟩ : ∃ x, Hid (x = set4 WS (w.heap.size + 1) (.int .i64 0) (.slice none 0 0) (.int .i64 0) (.slice none 0 0)) := ⟨_, hid rfl⟩
   have hbut : But (w.heap.size + 1) WS Wf := by rw [HWF.out]; exact set4_but (But.refl (w.heap.size + 1) WS) _ _ _ _
   have hfx : Wf.heap[w.heap.size + 1]? = some (.cells #[.int .i64 0, .slice none 0 0, .int .i64 0, .slice none 0 0] 40) := by
    rw [HWF.out]; exact set4_at HXS.out _ _ _ _
   obtain ⟨⟨z0, z1, z2, z3⟩, _, _⟩ := box4c hfx
   rw [show (((WS.setCell ⟨w.heap.size + 1, 0, none⟩ (.int .i64 0)).setCell ⟨w.heap.size + 1, 1, none⟩ (.slice none 0 0)).setCell ⟨w.heap.size + 1, 2, none⟩ (.int .i64 0)).setCell ⟨w.heap.size + 1, 3, none⟩ (.slice none 0 0) = Wf from HWF.out.symm]
   refine bodyPost_ret (v := .agg #[.int .i64 0, .slice none 0 0, .int .i64 0, .slice none 0 0]) (by simp [results, Tryz.results113, go_sem, z0, z1, z2, z3]) rfl ⟨by rw [HCE.out], ?_, ?_⟩
   ·rw [HS1.out]
    refine NetAt.reply ?_ hbut HXS.out hne2
    rw [HWS.out]
    exact NetAt.setNew HN3.out HB35.out a ha _ _ HO5.out
   ·exact NKept.of (But.over ((But.of HB5.out : But B w w5).trans HBS.out) hbut hle)
  ·have hc2 : (c2 != 0) = true := by simpa using h2
   have HNZ := hid h2
   clear h2 hpn5 hsf5
   go_wp2_with fail
   refine (HRF.out c2 _).mono ?_
   rintro e w6 ⟨rfl, hb6⟩
   have hbx := (hb6.block _ (blockLt HX5.out)).trans HX5.out
   have HB6 := hid (HB5.out.trans (hb6.mono HB5.out.size))
   have HFN := hid (HFI.out c2 w6 HB6.out HCE.out HNZ.out)
   obtain ⟨⟨y0, y1, y2, y3⟩, yf, yl⟩ := box4c hbx
   clear hb6 hbx
   go_wp2_with fail
   exact bodyPost_ret (v := .agg #[.int .i64 c2, .slice none 0 0, .int .i64 0, .slice none 0 0]) (by simp [results, Tryz.results113, go_sem, y0, y1, y2, y3]) rfl ⟨by rw [HCE.out], HFN.out.1, HFN.out.2⟩
 ·rw [if_neg h1] at HCE
  have hc1 : (c1 != 0) = true := by simpa using h1
  have HNZ := hid h1
  clear h1
  go_wp2_with fail
  refine (HRF.out c1 _).mono ?_
  rintro e w3 ⟨rfl, hb3⟩
  have hbx := (hb3.block _ (blockLt HX2.out)).trans HX2.out
  have HB3 := hid (HB1.out.trans (hb3.mono HB1.out.size))
  have HFN := hid (HFI.out c1 w3 HB3.out HCE.out HNZ.out)
  obtain ⟨⟨y0, y1, y2, y3⟩, yf, yl⟩ := box4c hbx
  clear hb3 hbx
  go_wp2_with fail
  exact bodyPost_ret (v := .agg #[.int .i64 c1, .slice none 0 0, .int .i64 0, .slice none 0 0]) (by simp [results, Tryz.results113, go_sem, y0, y1, y2, y3]) rfl ⟨by rw [HCE.out], HFN.out.1, HFN.out.2⟩
def nodes48 (D : Nat → Bool) (P K T : Nat → Value) (L : Nat → Nat → Int) : List Value := (List.range 48).map (nwCell D P K T L)
theorem NwAt.nodes {w B D P K T L} (h : NwAt w B D P K T L) : w.rangeAt B 0 (nodes48 D P K T L) := CellsAt.range h _ _ (by simp [nodes48]) fun j hj => by
 simp [nodes48]
theorem infoNodes : (Tryz.prog.info? 89).map (·.size) = some 48 := by kernel_rfl
theorem infoNode1 : (Tryz.prog.info? 88).map (·.size) = some 4 := by kernel_rfl
theorem nodes_at (D : Nat → Bool) (P K T : Nat → Value) (L : Nat → Nat → Int) (k : Nat) (hk : k < 12) : (nodes48 D P K T L).toArray.extract (k * 4) (k * 4 + 4) = #[.bool (D k), P k, K k, T k] := by
 have e : ∀ i, i < 48 → (nodes48 D P K T L)[i]? = some (nwCell D P K T L i) := fun i hi => by simp [nodes48, hi]
 have c0 : nwCell D P K T L (k * 4) = .bool (D k) := by unfold nwCell; rw [if_pos (by omega), if_pos (by omega), show k * 4 / 4 = k by omega]
 have c1 : nwCell D P K T L (k * 4 + 1) = P k := by unfold nwCell; rw [if_pos (by omega), if_neg (by omega), if_pos (by omega), show (k * 4 + 1) / 4 = k by omega]
 have c2 : nwCell D P K T L (k * 4 + 2) = K k := by unfold nwCell; rw [if_pos (by omega), if_neg (by omega), if_neg (by omega), if_pos (by omega), show (k * 4 + 2) / 4 = k by omega]
 have c3 : nwCell D P K T L (k * 4 + 3) = T k := by unfold nwCell; rw [if_pos (by omega), if_neg (by omega), if_neg (by omega), if_neg (by omega), show (k * 4 + 3) / 4 = k by omega]
 apply Array.ext_getElem?
 intro i
 rw [Array.getElem?_extract]
 have hl : (nodes48 D P K T L).toArray.size = 48 := by simp [nodes48]
 rw [hl]
 by_cases hi : i < 4
 ·rw [if_pos (by omega), List.getElem?_toArray, e _ (by omega)]
  have : i = 0 ∨ i = 1 ∨ i = 2 ∨ i = 3 := by omega
  rcases this with rfl | rfl | rfl | rfl
  ·rw [Nat.add_zero, c0]; rfl
  ·rw [c1]; rfl
  ·rw [c2]; rfl
  ·rw [c3]; rfl
 ·rw [if_neg (by omega)]
  simp
  omega
theorem run_index_node (D : Nat → Bool) (P K T : Nat → Value) (L : Nat → Nat → Int) (k : Nat) (hk : k < 12) (w : World) : (Instr.index 89 (.agg (nodes48 D P K T L).toArray) (.int .i64 k)).run Tryz.prog w = .ok (.agg #[.bool (D k), P k, K k, T k]) w := by
 obtain ⟨i, hi, hz⟩ := infoSome infoNode1
 have hx := nodes_at D P K T L k hk
 simp [Instr.index, part, isAgg, sizeOf, typeInfo, underlying, go_sem, Tryz.underlying89, Tryz.underlying88, hi, hz, hk]
 simpa using hx
theorem infoEnts1 : (Tryz.prog.info? 28).map (fun i => (i.zero, i.size, i.bytes)) = some (some (.slice none 0 0), 1, 24) := by kernel_rfl
def OwnL (w : World) (base : Nat) (v : Value) (vs : List Value) : Prop := w.ownsRow base 28 1 v vs.length vs
theorem append_sl {w : World} {ops : Array Oper} {rest : List Oper} {o : Oper} {a : Act} {Q : Exit → Act → World → Prop} (hgd : o.guard = none) (s x : Operand)
  (ho : o.op = .call { callee := .builtin .append, args := #[s, x], argTypes := #[24, 24] })
  (base : Nat) (v : Value) (vs : List Value) (ea : Option Addr) (el ec : Nat) (hs : a.eval s = v) (hown : OwnL w base v vs) (hbase : base ≤ w.heap.size) (hx : a.eval x = .slice (some ⟨w.heap.size, 0, none⟩) 1 1) (hb : (vs.length + 1) * 24 ≤ 140737488355328)
  (h : ∀ v' w', OwnL w' base v' (vs ++ [.slice ea el ec]) → (w.alloc (.cells #[.slice ea el ec] 28)).grownBy w' v.ownBlock → Below base w w' → wpList Tryz.prog ops Q rest (a.put o.dst v') w') :
  wpList Tryz.prog ops Q (o :: rest) a (w.alloc (.cells #[.slice ea el ec] 28)) := by
 obtain ⟨i0, hi0, hz0, hz1, hz2⟩ := info_parts infoEnts1
 refine wpList_append_own (w := _) hgd s x 24 ho base 28 i0 _ 1 24 Tryz.underlying24 hi0 hz0 hz1 hz2 rfl (by decide) _ vs.length vs hs (World.ownsRow.alloc hown _) ⟨w.heap.size, 0, none⟩ 1 1 [.slice ea el ec] hx rfl ?_ ?_ (by unfold maxLen; omega) hb (by simp; omega) ?_
 ·intro j u hj
  match j, hj with
  | 0, hj => simp at hj; subst hj; rw [add_none]; simp
 ·intro u hu; simp at hu; subst hu; rfl
 ·intro v' w' hown' hg _
  have hlt := World.ownsRow.lt hown
  refine h v' w' ?_ hg (((Below.refl _ _).alloc hbase _).grown hg (by simp; omega) (fun k hk => (hlt k hk).1))
  unfold OwnL
  simpa using hown'
set_option maxHeartbeats 4000000 in
theorem netStores_any (B : Nat) (s : Pl.Nt) (w : World) (h : NetAt w B s) :
  Calls Tryz.prog 46 #[.pointer (some ⟨B, 0, none⟩)] w fun e w' => ∃ v vs, e = .returned v ∧ OwnL w' w.heap.size v vs ∧ vs.length = 12 ∧ (∀ i, i < 12 → Own w' (B + 1) (vs.getD i undef) (s.K i)) ∧ Below w.heap.size w w' := by
 obtain ⟨VP, VK, VT, h1, h2, h3, h4, h5⟩ := h
 have H3 := hid h3
 have hBl := h1.lt
 have HSL : Hid (∀ i, i < 12 → ∃ ea ec, VK i = .slice ea (s.K i).length ec) := hid fun i hi => ownsRow_slice (h3 i hi)
 have HSP : Hid (∀ i, i < 12 → ∃ ea en ec, VP i = .slice ea en ec) := hid fun i hi => by obtain ⟨x, y, e⟩ := ownsRow_slice (h2 i hi); exact ⟨x, _, y, e⟩
 have HSQ : Hid (∀ i, i < 12 → ∃ ea en ec, VT i = .slice ea en ec) := hid fun i hi => by obtain ⟨hs, q⟩ := h4 i hi; obtain ⟨x, y, e⟩ := ownsRow_slice q.1; exact ⟨x, _, y, e⟩
 have HRH := hid h1.nodes
 obtain ⟨D, HD⟩ : ∃ D, Hid (s.D = D) := ⟨_, hid rfl⟩
 obtain ⟨L, HL⟩ : ∃ D, Hid (s.L = D) := ⟨_, hid rfl⟩
 rw [HD.out, HL.out] at HRH
 clear h1 h2 h3 h4 h5
 go_enter Tryz.func46, Tryz.ntmps46
 go_wp2_with (refine wpList_load_mid rfl 89 (.tmp 8) rfl B 0 rfl (nodes48 D VP VK VT L) _ HRH.out Tryz.underlying89 rfl infoNodes ?_)
 go_loopw [3, 10] (fun ul i wr => ∃ (j : Nat) (v : Value) (vs : List Value), v = ul ∧ j ≤ 12 ∧ i = .int .i64 j ∧ Hid (OwnL wr w.heap.size v vs) ∧ Hid (vs.length = j) ∧ Hid (∀ t, t < j → vs.getD t undef = VK t) ∧ Hid (Below w.heap.size w wr)) (fun _ i _ => 12 - (intOf i).toNat)
 case atStart => exact ⟨0, _, [], rfl, by omega, rfl, hid (World.ownsRow_nil _ _ _ _), hid rfl, hid (fun t ht => by omega), hid (Below.refl _ _)⟩
 case round =>
  obtain ⟨j, v, vs, hvl, hj, rfl, HO, HN, HV, HB⟩ := hrel
  subst hvl
  have hz := HB.out.size
  by_cases hjl : j < 12
  ·have hg := fun w => run_index_node D VP VK VT L j hjl w
   obtain ⟨ea, ec, ek⟩ := HSL.out j hjl
   obtain ⟨en, HEN⟩ : ∃ n, Hid ((s.K j).length = n) := ⟨_, hid rfl⟩
   rw [HEN.out] at ek
   have HEK := hid ek
   rw [ek] at hg
   clear ek
   obtain ⟨d, HDD⟩ : ∃ d, Hid (D j = d) := ⟨_, hid rfl⟩
   obtain ⟨pa, pn, pc, ep⟩ := HSP.out j hjl
   obtain ⟨ra, rn, rc, er⟩ := HSQ.out j hjl
   rw [HDD.out, ep, er] at hg
   have hjl' : (j : Int) < 12 := by omega
   clear ep er
   obtain ⟨W2, HW2⟩ : ∃ x, Hid (x = wr.alloc (.cells #[.bool d, .slice pa pn pc, .slice ea en ec, .slice ra rn rc] 88)) := ⟨_, hid rfl⟩
   have HB2 : Hid (Below wr.heap.size wr W2) := hid (by rw [HW2.out]; exact (Below.refl _ _).alloc (Nat.le_refl _) _)
   have hz2 : W2.heap.size = wr.heap.size + 1 := by rw [HW2.out]; simp
   have HX2 : Hid (W2.heap[wr.heap.size]? = some (.cells #[.bool d, .slice pa pn pc, .slice ea en ec, .slice ra rn rc] 88)) := hid (by rw [HW2.out]; exact heapNew _ _)
   obtain ⟨⟨c0, c1, c2, c3⟩, cf, hcl⟩ := box4c HX2.out
   have HO2 := hid ((show OwnL W2 w.heap.size v vs from ownsRow_below HO.out HB2.out))
   have HNL := hid HN.out
   go_wp2_with (first | (rw [← HW2.out]) | (at_builtin; refine append_sl rfl (.tmp 13) (.tmp 16) rfl w.heap.size v vs ea en ec rfl HO2.out (by omega) (by show Value.slice (some ⟨wr.heap.size + 1, 0, none⟩) 1 1 = _; rw [hz2]) (by have := HNL.out; omega) ?_; intro v5 w5 ho5 hg5 hb5; have HO5 := hid ho5; have HB5 := hid hb5; clear ho5 hg5 hb5))
   go_roundw
   case rel =>
    refine ⟨j + 1, _, vs ++ [.slice ea en ec], rfl, by omega, by go_num, HO5, hid (by simp [HN.out]), hid (fun t ht => ?_), hid ((HB.out.trans (HB2.out.mono hz)).trans HB5.out)⟩
    rcases Nat.lt_or_ge t j with g | g
    ·rw [← HV.out t g]
     simp [List.getD, List.getElem?_append_left (show t < vs.length by rw [HN.out]; exact g)]
    ·obtain rfl : t = j := by omega
     rw [HEK.out]
     have := HN.out
     simp [List.getD, ← this]
   case measure => simp [intOf]; omega
  ·obtain rfl : j = 12 := by omega
   go_wp2_with fail
   go_ret
   exact ⟨_, vs, rfl, HO.out, HN.out, fun i hi => by rw [HV.out i hi]; exact (H3.out i hi).below HB.out, HB.out⟩
theorem Pl.sidesK_ok {L : Nat → Int} (h : ∀ i, i < 12 → 0 ≤ L i ∧ L i ≤ 1000) : ∀ k, k ≤ 12 → Pl.adjF (Pl.sidesK L k) = 0 ∧ ∀ p ∈ Pl.sidesK L k, p.1 < (k : Int) ∧ Pl.small p
 | 0, _ => ⟨rfl, fun p hp => by cases hp⟩
 | k + 1, hk => by
  obtain ⟨h1, h2⟩ := Pl.sidesK_ok h k (by omega)
  have hb := h k (by omega)
  unfold Pl.sidesK
  split
  ·rename_i hp
   refine ⟨Pl.adjF_snoc h1 (fun p hp => (h2 p hp).1) (by omega) (by omega), fun p hp => ?_⟩
   rcases List.mem_append.1 hp with hp | hp
   ·have := h2 p hp; exact ⟨by have := this.1; push_cast; omega, this.2⟩
   ·simp at hp
    subst hp
    exact ⟨by push_cast; omega, by show (0 : Int) ≤ (k : Int) ∧ (k : Int) ≤ 1000 ∧ 0 ≤ L k ∧ L k ≤ 1000; omega⟩
  ·exact ⟨h1, fun p hp => by have := h2 p hp; exact ⟨by have := this.1; push_cast; omega, this.2⟩⟩
end Go.Proofs.YtjjelkdajdeikaaGreatDoor
namespace Go.Proofs.YtjjelkdajdeikaaGreatDoor.Pl
def look : List Ent → ByteArray → Option Ent
 | [], _ => none
 | e :: r, k => if e.key = k then some e else look r k
theorem look_key : ∀ {es : List Ent} {k : ByteArray} {e : Ent}, look es k = some e → e.key = k ∧ e ∈ es
 | [], _, _, h => by cases h
 | x :: r, k, e, h => by
  unfold look at h
  by_cases hx : x.key = k
  ·rw [if_pos hx] at h; cases h; exact ⟨hx, by simp⟩
  ·rw [if_neg hx] at h; have := look_key h; exact ⟨this.1, by simp [this.2]⟩
theorem look_low : ∀ {es : List Ent} {k : ByteArray}, (∀ e ∈ es, ltB k e.key = true) → look es k = none
 | [], _, _ => rfl
 | x :: r, k, h => by
  unfold look
  have hx := h x (by simp)
  rw [if_neg (fun e => by rw [e, ltB_irrefl] at hx; cases hx)]
  exact look_low (fun e he => h e (by simp [he]))
theorem srt_tail {e : Ent} {r : List Ent} (h : Srt (e :: r)) : Srt r ∧ ∀ y ∈ r, ltB e.key y.key = true := by
 unfold Srt at h ⊢
 rw [List.pairwise_cons] at h
 exact ⟨h.2, h.1⟩
theorem look_mem : ∀ {es : List Ent} {e : Ent}, Srt es → e ∈ es → look es e.key = some e
 | x :: r, e, h, he => by
  unfold look
  have ht := srt_tail h
  rcases List.mem_cons.1 he with rfl | he
  ·rw [if_pos rfl]
  ·have := ht.2 e he
   rw [if_neg (fun q => by rw [q, ltB_irrefl] at this; cases this)]
   exact look_mem ht.1 he
theorem there_look : ∀ {es : List Ent} (k : ByteArray), Srt es → (there es k = true ∧ look es k = some (ent es (pos es k))) ∨ (there es k = false ∧ look es k = none)
 | [], k, _ => by right; exact ⟨by simp [there], rfl⟩
 | e :: r, k, h => by
  have ht := srt_tail h
  cases hl : ltB e.key k
  ·rw [there_cons_ge hl]
   unfold look
   by_cases hk : e.key = k
   ·left
    rw [if_pos hk]
    have hp : pos (e :: r) k = 0 := by simp [pos, hl]
    rw [hp]
    exact ⟨by simp [hk], rfl⟩
   ·right
    rw [if_neg hk]
    refine ⟨by simp [hk], look_low ?_⟩
    intro y hy
    have hy' := ht.2 y hy
    cases hq : ltB k e.key
    ·exact absurd (ltB_total hl hq) hk
    ·exact ltB_trans hq hy'
  ·rw [there_cons_lt hl]
   unfold look
   rw [if_neg (fun q => by rw [q, ltB_irrefl] at hl; cases hl)]
   have ih := there_look k ht.1
   have hp : ent (e :: r) (pos (e :: r) k) = ent r (pos r k) := by simp [pos, hl, ent]
   rw [hp]; exact ih
theorem look_ins : ∀ {es : List Ent} (x : Ent) (k : ByteArray), Srt es → look (ins es x) k = if k = x.key then some x else look es k
 | [], x, k, _ => by
  unfold ins look look
  by_cases h : x.key = k
  ·rw [if_pos h, if_pos h.symm]
  ·rw [if_neg h, if_neg (fun q => h q.symm)]
 | e :: r, x, k, hs => by
  have ht := srt_tail hs
  unfold ins
  by_cases hl : ltB e.key x.key = true
  ·rw [if_pos hl]
   unfold look
   rw [look_ins x k ht.1]
   by_cases hk : e.key = k
   ·rw [if_pos hk, if_pos hk, if_neg (fun q => by rw [hk, q, ltB_irrefl] at hl; cases hl)]
   ·rw [if_neg hk, if_neg hk]
  ·rw [if_neg hl]
   by_cases he : e.key = x.key
   ·rw [if_pos he]
    unfold look
    by_cases hk : x.key = k
    ·rw [if_pos hk, if_pos hk.symm]
    ·rw [if_neg hk, if_neg (fun q => hk q.symm), if_neg (fun q => hk (he ▸ q))]
   ·rw [if_neg he]
    by_cases hk : x.key = k
    ·rw [if_pos hk.symm, look, if_pos hk]
    ·rw [if_neg (fun q => hk q.symm), look, if_neg hk]
theorem cmpI_cases (a b : Int) : (a < b ∧ cmpI a b = -1) ∨ (a = b ∧ cmpI a b = 0) ∨ (b < a ∧ cmpI a b = 1) := by
 unfold cmpI
 by_cases h1 : a < b
 ·left; rw [if_pos h1]; exact ⟨h1, rfl⟩
 ·rw [if_neg h1]
  by_cases h2 : b < a
  ·right; right; rw [if_pos h2]; exact ⟨h2, rfl⟩
  ·right; left; rw [if_neg h2]; exact ⟨by omega, rfl⟩
theorem cmpS_cases (a b : ByteArray) : (ltB a b = true ∧ cmpS a b = -1) ∨ (a = b ∧ cmpS a b = 0) ∨ (ltB b a = true ∧ cmpS a b = 1) := by
 unfold cmpS
 cases h1 : ltB a b
 ·cases h2 : ltB b a
  ·right; left; exact ⟨ltB_total h1 h2, by simp⟩
  ·right; right; exact ⟨rfl, by simp⟩
 ·left; exact ⟨rfl, by simp⟩
theorem cmpE_cases (v1 o1 : Int) (x1 : ByteArray) (v2 o2 : Int) (x2 : ByteArray) :
  (cmpE v1 o1 x1 v2 o2 x2 = -1 ∧ (v1 < v2 ∨ v1 = v2 ∧ (o1 < o2 ∨ o1 = o2 ∧ ltB x1 x2 = true))) ∨ (cmpE v1 o1 x1 v2 o2 x2 = 0 ∧ v1 = v2 ∧ o1 = o2 ∧ x1 = x2) ∨
  (cmpE v1 o1 x1 v2 o2 x2 = 1 ∧ (v2 < v1 ∨ v1 = v2 ∧ (o2 < o1 ∨ o1 = o2 ∧ ltB x2 x1 = true))) := by
 unfold cmpE
 rcases cmpI_cases v1 v2 with ⟨h, e⟩ | ⟨h, e⟩ | ⟨h, e⟩
 ·left; rw [e]; exact ⟨by simp, .inl h⟩
 ·rcases cmpI_cases o1 o2 with ⟨h', e'⟩ | ⟨h', e'⟩ | ⟨h', e'⟩
  ·left; rw [e, e']; exact ⟨by simp, .inr ⟨h, .inl h'⟩⟩
  ·rcases cmpS_cases x1 x2 with ⟨q, f⟩ | ⟨q, f⟩ | ⟨q, f⟩
   ·left; rw [e, e', f]; exact ⟨by simp, .inr ⟨h, .inr ⟨h', q⟩⟩⟩
   ·right; left; rw [e, e', f]; exact ⟨by simp, h, h', q⟩
   ·right; right; rw [e, e', f]; exact ⟨by simp, .inr ⟨h, .inr ⟨h', q⟩⟩⟩
  ·right; right; rw [e, e']; exact ⟨by simp, .inr ⟨h, .inl h'⟩⟩
 ·right; right; rw [e]; exact ⟨by simp, .inl h⟩
end Go.Proofs.YtjjelkdajdeikaaGreatDoor.Pl
namespace Go.Proofs.YtjjelkdajdeikaaGreatDoor.Pl
theorem look_ext : ∀ {a b : List Ent}, Srt a → Srt b → (∀ k, look a k = look b k) → a = b
 | [], [], _, _, _ => rfl
 | [], f :: s, _, _, h => by have := h f.key; simp [look] at this
 | e :: r, [], _, _, h => by have := h e.key; simp [look] at this
 | e :: r, f :: s, ha, hb, h => by
  have ta := srt_tail ha
  have tb := srt_tail hb
  have hk : e.key = f.key := by
   cases h1 : ltB e.key f.key
   ·cases h2 : ltB f.key e.key
    ·exact ltB_total h1 h2
    ·exfalso
     have h3 := h f.key
     rw [look_low (es := e :: r) (k := f.key) (by
      intro y hy
      rcases List.mem_cons.1 hy with rfl | hy
      ·exact h2
      ·exact ltB_trans h2 (ta.2 y hy))] at h3
     simp [look] at h3
   ·exfalso
    have h3 := h e.key
    rw [look_low (es := f :: s) (k := e.key) (by
     intro y hy
     rcases List.mem_cons.1 hy with rfl | hy
     ·exact h1
     ·exact ltB_trans h1 (tb.2 y hy))] at h3
    simp [look] at h3
  have he : e = f := by
   have h3 := h e.key
   unfold look at h3
   rw [if_pos rfl, if_pos hk.symm] at h3
   cases h3; rfl
  subst he
  have : r = s := look_ext ta.1 tb.1 (by
   intro k
   by_cases hke : e.key = k
   ·subst hke
    rw [look_low ta.2, look_low tb.2]
   ·have h3 := h k
    unfold look at h3
    rw [if_neg hke, if_neg hke] at h3
    exact h3)
  rw [this]
def mx : Option Ent → Option Ent → Option Ent
 | none, y => y
 | some g, none => some g
 | some g, some x => if 0 < cmpE x.ver x.org x.val g.ver g.org g.val then some x else some g
theorem mx_none (x : Option Ent) : mx x none = x := by cases x <;> rfl
theorem mrg_look : ∀ (b out : List Ent) (ks : List ByteArray) (k : ByteArray), Srt out → Srt b → out.length + b.length ≤ 60 → look (mrg out ks b).1 k = mx (look out k) (look b k)
 | [], out, ks, k, _, _, _ => by rw [mrg, look, mx_none]
 | x :: r, out, ks, k, ho, hb, hl => by
  have tb := srt_tail hb
  simp only [List.length_cons] at hl
  rw [mrg, look]
  by_cases hc : comesB out x = true
  ·have hlen : (ins out x).length ≤ out.length + 1 := by rw [ins_len]; split <;> omega
   rw [if_pos hc, mrg_look r (ins out x) _ k (ins_srt ho) tb.1 (by omega), look_ins x k ho]
   by_cases hk : x.key = k
   ·subst hk
    rw [if_pos rfl, if_pos rfl, look_low tb.2]
    unfold comesB at hc
    rcases there_look x.key ho with ⟨t1, t2⟩ | ⟨t1, t2⟩
    ·rw [if_pos t1] at hc
     rw [t2, mx, mx, if_pos (of_decide_eq_true hc)]
    ·rw [t2]; rfl
   ·rw [if_neg (fun q => hk q.symm), if_neg hk]
  ·rw [if_neg hc, mrg_look r out _ k ho tb.1 (by omega)]
   by_cases hk : x.key = k
   ·subst hk
    rw [if_pos rfl, look_low tb.2]
    unfold comesB at hc
    rcases there_look x.key ho with ⟨t1, t2⟩ | ⟨t1, t2⟩
    ·rw [if_pos t1] at hc
     rw [t2, mx, mx, if_neg (fun q => hc (decide_eq_true q))]
    ·rw [t1] at hc
     simp at hc
     omega
   ·rw [if_neg hk]
def gt (a b : Ent) : Prop := b.ver < a.ver ∨ a.ver = b.ver ∧ (b.org < a.org ∨ a.org = b.org ∧ ltB b.val a.val = true)
theorem cmp_gt (a b : Ent) : 0 < cmpE a.ver a.org a.val b.ver b.org b.val ↔ gt a b := by
 unfold gt
 rcases cmpE_cases a.ver a.org a.val b.ver b.org b.val with ⟨q, p⟩ | ⟨q, p1, p2, p3⟩ | ⟨q, p⟩
 ·rw [q]
  constructor
  ·intro h; omega
  ·intro h
   exfalso
   rcases p with p | ⟨p, p' | ⟨p', p''⟩⟩ <;> rcases h with h | ⟨h, h' | ⟨h', h''⟩⟩ <;> try omega
   rw [ltB_asymm p''] at h''; cases h''
 ·rw [q]
  constructor
  ·intro h; omega
  ·intro h
   rw [p1, p2, p3, ltB_irrefl] at h
   simp at h
 ·rw [q]
  exact ⟨fun _ => p, fun _ => by omega⟩
theorem gt_asymm {a b : Ent} (h : gt a b) (k : gt b a) : False := by
 unfold gt at *
 rcases h with h | ⟨h, h' | ⟨h', h''⟩⟩ <;> rcases k with k | ⟨k, k' | ⟨k', k''⟩⟩ <;> try omega
 rw [ltB_asymm h''] at k''; cases k''
theorem gt_trans {a b c : Ent} (h : gt a b) (k : gt b c) : gt a c := by
 unfold gt at *
 rcases h with h | ⟨h, h' | ⟨h', h''⟩⟩ <;> rcases k with k | ⟨k, k' | ⟨k', k''⟩⟩ <;> first | (left; omega) | (right; refine ⟨by omega, ?_⟩; first | (left; omega) | (right; exact ⟨by omega, ltB_trans k'' h''⟩))
theorem gt_total {a b : Ent} (hk : a.key = b.key) (h : ¬ gt a b) (k : ¬ gt b a) : a = b := by
 rw [← cmp_gt] at h k
 rcases cmpE_cases a.ver a.org a.val b.ver b.org b.val with ⟨q, p⟩ | ⟨q, p1, p2, p3⟩ | ⟨q, p⟩
 ·exfalso
  rw [cmp_gt] at k
  apply k
  unfold gt
  rcases p with p | ⟨p, p' | ⟨p', p''⟩⟩
  ·exact .inl p
  ·exact .inr ⟨p.symm, .inl p'⟩
  ·exact .inr ⟨p.symm, .inr ⟨p'.symm, p''⟩⟩
 ·cases a; cases b; simp only at hk p1 p2 p3; subst hk p1 p2 p3; rfl
 ·omega
theorem mx_some (g x : Ent) : (gt x g ∧ mx (some g) (some x) = some x) ∨ (¬ gt x g ∧ mx (some g) (some x) = some g) := by
 by_cases h : gt x g
 ·left; exact ⟨h, by rw [mx, if_pos ((cmp_gt x g).2 h)]⟩
 ·right; exact ⟨h, by rw [mx, if_neg (fun q => h ((cmp_gt x g).1 q))]⟩
theorem mx_comm {k : ByteArray} {x y : Option Ent} (hx : ∀ e, x = some e → e.key = k) (hy : ∀ e, y = some e → e.key = k) : mx x y = mx y x := by
 rcases x with _ | a <;> rcases y with _ | b
 ·rfl
 ·rfl
 ·rfl
 ·have hk : a.key = b.key := (hx a rfl).trans (hy b rfl).symm
  rcases mx_some a b with ⟨h, e⟩ | ⟨h, e⟩ <;> rcases mx_some b a with ⟨h', e'⟩ | ⟨h', e'⟩ <;> rw [e, e']
  ·exact absurd (gt_asymm h h') (fun x => x)
  ·rw [gt_total hk h' h]
theorem mx_idem (x : Option Ent) : mx x x = x := by
 rcases x with _ | a
 ·rfl
 ·rcases mx_some a a with ⟨_, e⟩ | ⟨_, e⟩ <;> exact e
theorem mx_assoc {k : ByteArray} {x y z : Option Ent} (hx : ∀ e, x = some e → e.key = k) (hy : ∀ e, y = some e → e.key = k) (hz : ∀ e, z = some e → e.key = k) : mx (mx x y) z = mx x (mx y z) := by
 rcases x with _ | a
 ·rfl
 rcases y with _ | b
 ·rfl
 rcases z with _ | c
 ·rw [mx_none, mx_none]
 have kab : a.key = b.key := (hx a rfl).trans (hy b rfl).symm
 have kbc : b.key = c.key := (hy b rfl).trans (hz c rfl).symm
 rcases mx_some a b with ⟨h1, e1⟩ | ⟨h1, e1⟩ <;> rcases mx_some b c with ⟨h2, e2⟩ | ⟨h2, e2⟩ <;> rw [e1, e2]
 ·rcases mx_some a c with ⟨h3, e3⟩ | ⟨h3, e3⟩
  ·rw [e3]
  ·exact absurd (gt_trans h2 h1) h3
 ·rw [e1]
 ·rw [e1]
  rcases mx_some a c with ⟨h3, e3⟩ | ⟨h3, e3⟩
  ·exfalso
   by_cases hba : gt a b
   ·exact h2 (gt_trans h3 hba)
   ·rw [gt_total kab hba h1] at h3
    exact h2 h3
  ·exact e3
end Go.Proofs.YtjjelkdajdeikaaGreatDoor.Pl
namespace Go.Proofs.YtjjelkdajdeikaaGreatDoor.Pl
def mg (a b : List Ent) : List Ent := (mrg a [] b).1
theorem look_at {es : List Ent} {k : ByteArray} : ∀ e, look es k = some e → e.key = k := fun _ h => (look_key h).1
theorem mg_look {a b : List Ent} (ha : Good a) (hb : Good b) (hl : a.length + b.length ≤ 60) (k : ByteArray) : look (mg a b) k = mx (look a k) (look b k) := mrg_look b a [] k ha.2.2 hb.2.2 hl
end Go.Proofs.YtjjelkdajdeikaaGreatDoor.Pl
namespace Go.Proofs.YtjjelkdajdeikaaGreatDoor
open Go.RowKit
set_option maxRecDepth 20000
theorem Pl.flip_ne (x : UInt8) : Pl.flip x ≠ x := by
 have key : ∀ n : Fin 256, Pl.flip (UInt8.ofNat n) ≠ UInt8.ofNat n := by decide +kernel
 have := key ⟨x.toNat, x.toNat_lt⟩
 simpa using this
theorem Pl.sendB_bad {es : List Pl.Ent} (h : Pl.fault es = 0) {n : Int} (hn : 0 ≤ n) : Pl.decC (Pl.sendB es n) ≠ 0 := by
 have hl := (Pl.enc_len h).1
 have hi : n.toNat % (Pl.enc es).length < (Pl.enc es).length := Nat.mod_lt _ (by omega)
 unfold Pl.sendB
 rw [if_pos hn]
 refine Pl.dec_bad (Pl.frameC_enc h) hi ?_
 rw [List.getD_eq_getElem?_getD, List.getElem?_eq_getElem hi]
 exact Pl.flip_ne _
theorem Pl.send_spoilt {s : Pl.Nt} {x : Pl.Ac} (h : Pl.fault (s.K x.a.toNat) = 0) (hn : 0 ≤ x.n) : Pl.sendC s x ≠ 0 ∧ Pl.sendN s x = s := by
 have hb := Pl.sendB_bad h hn
 unfold Pl.sendC Pl.sendN
 by_cases hf : Pl.sendF s x = 0
 ·have hc : Pl.recvC s x.b.toNat (Pl.sendB (s.K x.a.toNat) x.n) ≠ 0 := by unfold Pl.recvC; rw [if_neg hb]; exact hb
  rw [if_pos hf, if_pos hf]
  exact ⟨hc, by unfold Pl.recvN; rw [if_neg hc]⟩
 ·rw [if_neg hf, if_neg hf]
  exact ⟨hf, rfl⟩
theorem Pl.send_whole {s : Pl.Nt} {x : Pl.Ac} (h : Pl.fault (s.K x.a.toNat) = 0) (h2 : Pl.fault (s.K x.b.toNat) = 0) (hn : x.n < 0) (hf : Pl.sendF s x = 0) : Pl.sendC s x = 0 ∧ Pl.sendK s x = Pl.mergeK (s.K x.b.toNat) (s.K x.a.toNat) ∧ Pl.sendN s x = { s with K := Pl.upd s.K x.b.toNat (Pl.mergeO (s.K x.b.toNat) (s.K x.a.toNat)) } := by
 have hb : Pl.sendB (s.K x.a.toNat) x.n = Pl.enc (s.K x.a.toNat) := by unfold Pl.sendB; rw [if_neg (by omega)]
 obtain ⟨d1, d2⟩ := Pl.dec_fwd h
 have hc : Pl.recvC s x.b.toNat (Pl.enc (s.K x.a.toNat)) = 0 := by
  unfold Pl.recvC; rw [if_pos d1, d2]; unfold Pl.mergeC; rw [if_pos h2]; exact h
 unfold Pl.sendC Pl.sendK Pl.sendN
 rw [if_pos hf, if_pos hf, if_pos hf, hb]
 refine ⟨hc, ?_, ?_⟩
 ·unfold Pl.recvK; rw [if_pos hc, d2]
 ·unfold Pl.recvN; rw [if_pos hc, d2]
theorem wf_bounds {n : Int} (h : (Lit.int .i64 n).wf = true) : -9223372036854775808 ≤ n ∧ n ≤ 9223372036854775807 := by
 unfold Lit.wf at h
 simp only [Bool.and_eq_true, decide_eq_true_eq] at h
 exact h
set_option maxHeartbeats 4000000 in
set_option maxRecDepth 20000 in
theorem Entry_any4 (k0 k1 k2 k3 : Int) (w : World) (h0 : (Lit.int .i64 k0).wf = true) (h1 : (Lit.int .i64 k1).wf = true) (h2 : (Lit.int .i64 k2).wf = true) (h3 : (Lit.int .i64 k3).wf = true) :
  Calls Tryz.prog 49 #[.agg #[.int .i64 k0, .int .i64 k1, .int .i64 k2, .int .i64 k3]] w fun e w' =>
   ∃ x : Pl.Ent, e = .returned (.agg #[.string x.key, .int .i64 x.ver, .int .i64 x.org, .string x.val]) ∧ (x.may = true ∧ x.ver ≤ 4) ∧ Below w.heap.size w w' := by
 have b0 := wf_bounds h0
 have b1 := wf_bounds h1
 have b2 := wf_bounds h2
 have b3 := wf_bounds h3
 go_enter Tryz.func49, Tryz.ntmps49
 go_wp2_with fail
 refine wp_region_any (by kernel_rfl) ?_
 have hW0 : ∃ W0 : World, W0 = ((w.alloc (.cells #[.int .i64 k0, .int .i64 k1, .int .i64 k2, .int .i64 k3] 98)).alloc (.cells #[.string ⟨#[]⟩, .int .i64 0, .int .i64 0, .string ⟨#[]⟩] 55)) := ⟨_, rfl⟩
 obtain ⟨W0, hW0⟩ := hW0
 have hR : w.heap.size < W0.heap.size := by rw [hW0]; simp; omega
 have c0 : W0.cell? ⟨w.heap.size, 0, none⟩ = some (.int .i64 k0) := by rw [hW0]; simp
 have c1 : W0.cell? ⟨w.heap.size, 1, none⟩ = some (.int .i64 k1) := by rw [hW0]; simp
 have c2 : W0.cell? ⟨w.heap.size, 2, none⟩ = some (.int .i64 k2) := by rw [hW0]; simp
 have c3 : W0.cell? ⟨w.heap.size, 3, none⟩ = some (.int .i64 k3) := by rw [hW0]; simp
 have hR1 : w.heap.size + 1 < W0.heap.size := by rw [hW0]; simp
 have cB : W0.heap[w.heap.size + 1]? = some (.cells #[.string ⟨#[]⟩, .int .i64 0, .int .i64 0, .string ⟨#[]⟩] 55 (0, 0)) := by
  rw [hW0]
  have := heap_new (w.alloc (.cells #[.int .i64 k0, .int .i64 k1, .int .i64 k2, .int .i64 k3] 98)) (.cells #[.string ⟨#[]⟩, .int .i64 0, .int .i64 0, .string ⟨#[]⟩] 55)
  simpa using this
 have hB0 : Below w.heap.size w W0 := by rw [hW0]; exact ((Below.refl _ _).alloc (Nat.le_refl _) _).alloc (by simp) _
 refine wpAny_inv (EInv k0 k1 k2 k3 w.heap.size W0) ?_ ?_ _ _ _ _ (by decide +kernel) ?_
 ·intro i listed a W hi hI
  rw [mem_ready] at hi
  obtain ⟨hl, o, ho, hall⟩ := hi
  have hlt : i < 21 := (Array.getElem?_eq_some_iff.1 ho).1
  have hn20 : i < 20 → listed.getD 20 false = false := by
   intro hi
   cases hx : listed.getD 20 false with
   | false => rfl
   | true =>
    have := hI.al hx i hi
    have hls := hI.ls
    have hil : i < listed.size := by omega
    simp [hil] at this hl
    rw [this] at hl
    cases hl
  have hcs : i = 0 ∨ i = 1 ∨ i = 2 ∨ i = 3 ∨ i = 4 ∨ i = 5 ∨ i = 6 ∨ i = 7 ∨ i = 8 ∨ i = 9 ∨ i = 10 ∨ i = 11 ∨ i = 12 ∨ i = 13 ∨ i = 14 ∨ i = 15 ∨ i = 16 ∨ i = 17 ∨ i = 18 ∨ i = 19 ∨ i = 20 := by omega
  rcases hcs with rfl | rfl | rfl | rfl | rfl | rfl | rfl | rfl | rfl | rfl | rfl | rfl | rfl | rfl | rfl | rfl | rfl | rfl | rfl | rfl | rfl
  all_goals
   simp at ho
   subst ho
   refine wpOp_of rfl rfl ?_
  ·simp [Oper.wp, go_sem]
   refine hI.put (by omega) (hn20 (by omega)) ((Below.refl _ _).alloc (Nat.le_refl _) _) ⟨W.heap.size, rfl, by simp, ?_⟩
   intro j hj
   have hjs : j = 0 ∨ j = 1 ∨ j = 2 ∨ j = 3 ∨ j = 4 ∨ j = 5 := by omega
   rcases hjs with rfl | rfl | rfl | rfl | rfl | rfl
   all_goals exact ⟨_, by simp; rfl, by decide⟩
  ·have e1 := hI.s1
   simp [Oper.wp, go_sem, e1]
   exact hI.put (i := 1) (by omega) (hn20 (by omega)) (Below.refl _ _) rfl
  ·have e1 : a.tmps[4]?.getD undef = .pointer (some ⟨w.heap.size, 0, none⟩) := hI.f (hn20 (by omega)) 1 (by omega) (hall ⟨1, .data⟩ (by simp) rfl)
   have e2 := ((bcell (hI.nb (hn20 (by omega)))).1 w.heap.size 0 hR).trans c0
   simp [Oper.wp, go_sem, e1, e2]
   exact hI.put (by omega) (hn20 (by omega)) (Below.refl _ _) rfl
  ·have e1 : a.tmps[5]?.getD undef = .int .i64 k0 := hI.f (hn20 (by omega)) 2 (by omega) (hall ⟨2, .data⟩ (by simp) rfl)
   simp [Oper.wp, go_sem, e1]
   refine (picked_any k0 6 W b0.1 b0.2 (by omega) (by omega)).mono ?_
   rintro e w1 ⟨rfl, rfl⟩
   have hr := Pl.pk_range k0 6 (by omega)
   obtain ⟨n, hn⟩ := Int.eq_ofNat_of_zero_le hr.1
   rw [hn] at hr ⊢
   exact hI.put (by omega) (hn20 (by omega)) (Below.refl _ _) ⟨n, rfl, by omega⟩
  ·obtain ⟨b, e1, hb, hc⟩ := hI.f (hn20 (by omega)) 0 (by omega) (hall ⟨0, .data⟩ (by simp) rfl)
   obtain ⟨n, e2, hn⟩ := hI.f (hn20 (by omega)) 3 (by omega) (hall ⟨3, .data⟩ (by simp) rfl)
   obtain ⟨s, hs, hp⟩ := hc n hn
   simp only [Nat.reduceAdd] at e1 e2
   have hn' : (n : Int) < 6 := by omega
   simp [Oper.wp, go_sem, e1, e2, hn']
   exact hI.put (by omega) (hn20 (by omega)) (Below.refl _ _) ⟨b, n, s, by simp, hb, hs, hp⟩
  ·obtain ⟨b, j, s, e1, hb, hc, hp⟩ := hI.f (hn20 (by omega)) 4 (by omega) (hall ⟨4, .data⟩ (by simp) rfl)
   simp only [Nat.reduceAdd] at e1
   simp [Oper.wp, go_sem, e1, hc]
   exact hI.put (by omega) (hn20 (by omega)) (Below.refl _ _) ⟨s, rfl, hp⟩
  ·have e1 := hI.s1
   simp [Oper.wp, go_sem, e1]
   exact hI.put (i := 6) (by omega) (hn20 (by omega)) (Below.refl _ _) rfl
  ·have e1 : a.tmps[9]?.getD undef = .pointer (some ⟨w.heap.size, 1, none⟩) := hI.f (hn20 (by omega)) 6 (by omega) (hall ⟨6, .data⟩ (by simp) rfl)
   have e2 := ((bcell (hI.nb (hn20 (by omega)))).1 w.heap.size 1 hR).trans c1
   simp [Oper.wp, go_sem, e1, e2]
   exact hI.put (by omega) (hn20 (by omega)) (Below.refl _ _) rfl
  ·have e1 : a.tmps[10]?.getD undef = .int .i64 k1 := hI.f (hn20 (by omega)) 7 (by omega) (hall ⟨7, .data⟩ (by simp) rfl)
   simp [Oper.wp, go_sem, e1]
   refine (picked_any k1 4 W b1.1 b1.2 (by omega) (by omega)).mono ?_
   rintro e w1 ⟨rfl, rfl⟩
   have hr := Pl.pk_range k1 4 (by omega)
   obtain ⟨n, hn⟩ := Int.eq_ofNat_of_zero_le hr.1
   rw [hn] at hr ⊢
   exact hI.put (by omega) (hn20 (by omega)) (Below.refl _ _) ⟨n, rfl, by omega⟩
  ·obtain ⟨n, e1, hn⟩ := hI.f (hn20 (by omega)) 8 (by omega) (hall ⟨8, .data⟩ (by simp) rfl)
   simp only [Nat.reduceAdd] at e1
   have hw : IntKind.i64.wrap (1 + (n : Int)) = 1 + (n : Int) := by rw [IntKind.wrap_i64]; omega
   simp [Oper.wp, go_sem, e1, hw]
   exact hI.put (by omega) (hn20 (by omega)) (Below.refl _ _) ⟨_, rfl, by omega, by omega⟩
  ·have e1 := hI.s1
   simp [Oper.wp, go_sem, e1]
   exact hI.put (i := 10) (by omega) (hn20 (by omega)) (Below.refl _ _) rfl
  ·have e1 : a.tmps[13]?.getD undef = .pointer (some ⟨w.heap.size, 2, none⟩) := hI.f (hn20 (by omega)) 10 (by omega) (hall ⟨10, .data⟩ (by simp) rfl)
   have e2 := ((bcell (hI.nb (hn20 (by omega)))).1 w.heap.size 2 hR).trans c2
   simp [Oper.wp, go_sem, e1, e2]
   exact hI.put (by omega) (hn20 (by omega)) (Below.refl _ _) rfl
  ·have e1 : a.tmps[14]?.getD undef = .int .i64 k2 := hI.f (hn20 (by omega)) 11 (by omega) (hall ⟨11, .data⟩ (by simp) rfl)
   simp [Oper.wp, go_sem, e1]
   refine (picked_any k2 3 W b2.1 b2.2 (by omega) (by omega)).mono ?_
   rintro e w1 ⟨rfl, rfl⟩
   have hr := Pl.pk_range k2 3 (by omega)
   obtain ⟨n, hn⟩ := Int.eq_ofNat_of_zero_le hr.1
   rw [hn] at hr ⊢
   exact hI.put (by omega) (hn20 (by omega)) (Below.refl _ _) ⟨n, rfl, by omega⟩
  ·simp [Oper.wp, go_sem]
   refine hI.put (by omega) (hn20 (by omega)) ((Below.refl _ _).alloc (Nat.le_refl _) _) ⟨W.heap.size, rfl, by simp, ?_⟩
   intro j hj
   have hjs : j = 0 ∨ j = 1 ∨ j = 2 ∨ j = 3 ∨ j = 4 := by omega
   rcases hjs with rfl | rfl | rfl | rfl | rfl
   all_goals exact ⟨_, by simp; rfl, by decide⟩
  ·have e1 := hI.s1
   simp [Oper.wp, go_sem, e1]
   exact hI.put (i := 14) (by omega) (hn20 (by omega)) (Below.refl _ _) rfl
  ·have e1 : a.tmps[17]?.getD undef = .pointer (some ⟨w.heap.size, 3, none⟩) := hI.f (hn20 (by omega)) 14 (by omega) (hall ⟨14, .data⟩ (by simp) rfl)
   have e2 := ((bcell (hI.nb (hn20 (by omega)))).1 w.heap.size 3 hR).trans c3
   simp [Oper.wp, go_sem, e1, e2]
   exact hI.put (by omega) (hn20 (by omega)) (Below.refl _ _) rfl
  ·have e1 : a.tmps[18]?.getD undef = .int .i64 k3 := hI.f (hn20 (by omega)) 15 (by omega) (hall ⟨15, .data⟩ (by simp) rfl)
   simp [Oper.wp, go_sem, e1]
   refine (picked_any k3 5 W b3.1 b3.2 (by omega) (by omega)).mono ?_
   rintro e w1 ⟨rfl, rfl⟩
   have hr := Pl.pk_range k3 5 (by omega)
   obtain ⟨n, hn⟩ := Int.eq_ofNat_of_zero_le hr.1
   rw [hn] at hr ⊢
   exact hI.put (by omega) (hn20 (by omega)) (Below.refl _ _) ⟨n, rfl, by omega⟩
  ·obtain ⟨b, e1, hb, hc⟩ := hI.f (hn20 (by omega)) 13 (by omega) (hall ⟨13, .data⟩ (by simp) rfl)
   obtain ⟨n, e2, hn⟩ := hI.f (hn20 (by omega)) 16 (by omega) (hall ⟨16, .data⟩ (by simp) rfl)
   obtain ⟨s, hs, hp⟩ := hc n hn
   simp only [Nat.reduceAdd] at e1 e2
   have hn' : (n : Int) < 5 := by omega
   simp [Oper.wp, go_sem, e1, e2, hn']
   exact hI.put (by omega) (hn20 (by omega)) (Below.refl _ _) ⟨b, n, s, by simp, hb, hs, hp⟩
  ·obtain ⟨b, j, s, e1, hb, hc, hp⟩ := hI.f (hn20 (by omega)) 17 (by omega) (hall ⟨17, .data⟩ (by simp) rfl)
   simp only [Nat.reduceAdd] at e1
   simp [Oper.wp, go_sem, e1, hc]
   exact hI.put (by omega) (hn20 (by omega)) (Below.refl _ _) ⟨s, rfl, hp⟩
  ·obtain ⟨s, e1, p1⟩ := hI.f (hn20 (by omega)) 5 (by omega) (hall ⟨5, .data⟩ (by simp) rfl)
   obtain ⟨v, e2, p2, p2'⟩ := hI.f (hn20 (by omega)) 9 (by omega) (hall ⟨9, .data⟩ (by simp) rfl)
   obtain ⟨n, e3, p3⟩ := hI.f (hn20 (by omega)) 12 (by omega) (hall ⟨12, .data⟩ (by simp) rfl)
   obtain ⟨t, e4, p4⟩ := hI.f (hn20 (by omega)) 18 (by omega) (hall ⟨18, .data⟩ (by simp) rfl)
   simp only [Nat.reduceAdd] at e1 e2 e3 e4
   simp [Oper.wp, go_sem, e1, e2, e3, e4]
   refine hI.put (by omega) (hn20 (by omega)) (Below.refl _ _) ⟨⟨s, v, n, t⟩, rfl, ?_, p2'⟩
   unfold Pl.Ent.may Pl.entB
   simp only [p1, Bool.true_and, Bool.and_eq_true, decide_eq_true_eq]
   exact ⟨⟨⟨p2, by omega⟩, by omega, by omega⟩, p4⟩
  ·have hn : listed.getD 20 false = false := by
    have hls := hI.ls
    have hil : 20 < listed.size := by omega
    simp [hil] at hl ⊢
    exact hl
   obtain ⟨x, e1, p1⟩ := hI.f hn 19 (by omega) (hall ⟨19, .data⟩ (by simp) rfl)
   have e2 := hI.s2
   simp only [Nat.reduceAdd] at e1
   have hal : ∀ k, k < 20 → listed.getD k false = true := by
    intro k hk
    have hcs : k = 0 ∨ k = 1 ∨ k = 2 ∨ k = 3 ∨ k = 4 ∨ k = 5 ∨ k = 6 ∨ k = 7 ∨ k = 8 ∨ k = 9 ∨ k = 10 ∨ k = 11 ∨ k = 12 ∨ k = 13 ∨ k = 14 ∨ k = 15 ∨ k = 16 ∨ k = 17 ∨ k = 18 ∨ k = 19 := by omega
    rcases hcs with rfl | rfl | rfl | rfl | rfl | rfl | rfl | rfl | rfl | rfl | rfl | rfl | rfl | rfl | rfl | rfl | rfl | rfl | rfl | rfl
    all_goals exact hall ⟨_, .phase⟩ (by simp) rfl
   have hb := hI.nb hn
   have hblk := (hb.block (w.heap.size + 1) hR1).trans cB
   obtain ⟨⟨x0, x1, x2, x3⟩, ⟨y0, y1, y2, y3⟩⟩ := rblk4 hblk
   simp [Oper.wp, go_sem, e1, e2, x0, x1, x2, x3, y0, y1, y2, y3]
   refine ⟨by simp [hI.ls], hI.sz, hI.df, hI.s1, hI.s2, ?_, ?_, ?_, ?_⟩
   ·intro h
    have hls := hI.ls
    have hil : 20 < listed.size := by omega
    simp [hil] at h
   ·intro h
    have hls := hI.ls
    have hil : 20 < listed.size := by omega
    simp [hil] at h
   ·intro _ k hk
    rw [getD_set_ne false (by omega)]
    exact hal k hk
   ·intro _
    refine ⟨x, p1, rbelow_set (rbelow_set (rbelow_set (rbelow_set (hb.mono (by omega)) (by omega)) (by omega)) (by omega)) (by omega), ?_⟩
    have := rblk_set (o := 3) (v := .string x.val) (rblk_set (o := 2) (v := .int .i64 x.org) (rblk_set (o := 1) (v := .int .i64 x.ver) (rblk_set (o := 0) (v := .string x.key) hblk)))
    simpa using this
 ·intro listed a W hr hI
  rename_i K hK
  have hal := all_listed (by decide +kernel) hI.ls hr 20 (by decide)
  obtain ⟨x, hx, hb, hblk⟩ := hI.dn hal
  obtain ⟨⟨x0, x1, x2, x3⟩, _⟩ := rblk4 hblk
  have e2 := hI.s2
  refine hK a W ?_
  refine wp_ret ?_
  show bodyPost Tryz.prog Tryz.f49 _ Exit.ret a W
  refine bodyPost_ret (v := .agg #[.string x.key, .int .i64 x.ver, .int .i64 x.org, .string x.val]) (by simp [results, Tryz.results49, go_sem, e2, x0, x1, x2, x3]) hI.df ⟨x, rfl, hx, hB0.trans hb⟩
 ·rw [← hW0]
  refine ⟨by rfl, by rfl, rfl, by rfl, by rfl, ?_, ?_, ?_, ?_⟩
  ·intro _ k hk h
   have : (Array.replicate 21 false).getD k false = true := h
   rw [show (Array.replicate 21 false).getD k false = false from by by_cases hk' : k < 21 <;> simp [hk']] at this
   cases this
  ·intro _
   exact Below.drew (Below.refl _ _)
  ·intro h
   have : (Array.replicate 21 false).getD 20 false = true := h
   simp at this
  ·intro h
   have : (Array.replicate 21 false).getD 20 false = true := h
   simp at this
theorem Entry_any (k0 k1 k2 k3 : Int) (w : World) (h0 : (Lit.int .i64 k0).wf = true) (h1 : (Lit.int .i64 k1).wf = true) (h2 : (Lit.int .i64 k2).wf = true) (h3 : (Lit.int .i64 k3).wf = true) :
  Calls Tryz.prog 49 #[.agg #[.int .i64 k0, .int .i64 k1, .int .i64 k2, .int .i64 k3]] w fun e w' =>
   ∃ x : Pl.Ent, e = .returned (.agg #[.string x.key, .int .i64 x.ver, .int .i64 x.org, .string x.val]) ∧ x.may = true ∧ Below w.heap.size w w' :=
 (Entry_any4 k0 k1 k2 k3 w h0 h1 h2 h3).mono fun _ _ ⟨x, e, m, b⟩ => ⟨x, e, m.1, b⟩
def IsRaws (w : World) (a : Option Addr) (len cap : Nat) : Prop :=
 len ≤ cap ∧ cap ≤ maxLen ∧ (len = 0 ∨ ∃ b off, a = some ⟨b, off, none⟩ ∧ b < w.heap.size ∧ ∀ i, i < len → ∃ k0 k1 k2 k3 : Int,
  (w.cell? ⟨b, off + i * 4, none⟩ = some (.int .i64 k0) ∧ w.cell? ⟨b, off + i * 4 + 1, none⟩ = some (.int .i64 k1) ∧ w.cell? ⟨b, off + i * 4 + 2, none⟩ = some (.int .i64 k2) ∧ w.cell? ⟨b, off + i * 4 + 3, none⟩ = some (.int .i64 k3)) ∧
  (Lit.int .i64 k0).wf = true ∧ (Lit.int .i64 k1).wf = true ∧ (Lit.int .i64 k2).wf = true ∧ (Lit.int .i64 k3).wf = true)
theorem IsRaws.below {w w' : World} {a : Option Addr} {len cap : Nat} (h : IsRaws w a len cap) (k : Below w.heap.size w w') : IsRaws w' a len cap := by
 obtain ⟨h1, h2, h3⟩ := h
 refine ⟨h1, h2, ?_⟩
 rcases h3 with h3 | ⟨b, off, rfl, hb, hr⟩
 ·exact .inl h3
 ·refine .inr ⟨b, off, rfl, Nat.lt_of_lt_of_le hb k.size, fun i hi => ?_⟩
  obtain ⟨k0, k1, k2, k3, ⟨q0, q1, q2, q3⟩, hw⟩ := hr i hi
  have hc := (bcell k).1
  exact ⟨k0, k1, k2, k3, ⟨(hc b _ hb).trans q0, (hc b _ hb).trans q1, (hc b _ hb).trans q2, (hc b _ hb).trans q3⟩, hw⟩
namespace Pl
end Pl
theorem Pl.merge_good {a b : List Pl.Ent} (ha : Pl.Good a) (hb : Pl.Good b) : Pl.mergeC a b = 0 ∧ Pl.mergeO a b = (Pl.mrg a [] b).1 ∧ Pl.Good (Pl.mergeO a b) := by
 have h1 := (Pl.good_iff a).2 ha
 have h2 := (Pl.good_iff b).2 hb
 have hc : Pl.mergeC a b = 0 := by unfold Pl.mergeC; rw [if_pos h1]; exact h2
 have ho : Pl.mergeO a b = (Pl.mrg a [] b).1 := by unfold Pl.mergeO; rw [if_pos hc]
 exact ⟨hc, ho, by rw [ho]; exact Pl.mrg_good _ _ _ ha hb.2.1⟩
def Pl.geS (a b : List Pl.Ent) : Prop := ∀ k, Pl.mx (Pl.look a k) (Pl.look b k) = Pl.look a k
theorem Pl.geS.refl (a : List Pl.Ent) : Pl.geS a a := fun _ => Pl.mx_idem _
theorem Pl.geS.trans {a b c : List Pl.Ent} (h : Pl.geS a b) (k : Pl.geS b c) : Pl.geS a c := fun q => by
 rw [← h q, Pl.mx_assoc (k := q) Pl.look_at Pl.look_at Pl.look_at, k q]
theorem Pl.geS.anti {a b : List Pl.Ent} (ha : Pl.Srt a) (hb : Pl.Srt b) (h : Pl.geS a b) (k : Pl.geS b a) : a = b :=
 Pl.look_ext ha hb fun q => by rw [← h q, Pl.mx_comm (k := q) Pl.look_at Pl.look_at, k q]
def Pl.Few (Ks : List ByteArray) (es : List Pl.Ent) : Prop := ∀ e ∈ es, e.key ∈ Ks
theorem Pl.nodup_le {α : Type} [DecidableEq α] : ∀ {l m : List α}, l.Nodup → (∀ x ∈ l, x ∈ m) → l.length ≤ m.length
 | [], _, _, _ => by simp
 | x :: r, m, h, hs => by
  have hx : x ∈ m := hs x (by simp)
  obtain ⟨h1, h2⟩ := List.nodup_cons.1 h
  have := Pl.nodup_le (l := r) (m := m.erase x) h2 fun y hy => (List.mem_erase_of_ne (by rintro rfl; exact h1 hy)).2 (hs y (by simp [hy]))
  have hl := List.length_erase_of_mem hx
  have hp : 0 < m.length := List.length_pos_of_mem hx
  simp only [List.length_cons]
  omega
theorem Pl.Few.len {Ks : List ByteArray} {es : List Pl.Ent} (h : Pl.Few Ks es) (hs : Pl.Srt es) : es.length ≤ Ks.length := by
 have hn : (es.map Pl.Ent.key).Nodup := by
  unfold Pl.Srt at hs
  refine List.pairwise_map.2 (hs.imp fun {a b} hab e => ?_)
  rw [e, Pl.ltB_irrefl] at hab
  cases hab
 have := Pl.nodup_le hn (m := Ks) fun x hx => by
  obtain ⟨e, he, rfl⟩ := List.mem_map.1 hx
  exact h e he
 simpa using this
theorem Pl.join_all {Ks : List ByteArray} (hK : Ks.length ≤ 20) {a b : List Pl.Ent} (ha : Pl.fault a = 0) (hb : Pl.fault b = 0) (fa : Pl.Few Ks a) (fb : Pl.Few Ks b) :
  (∀ k, Pl.look (Pl.mergeO a b) k = Pl.mx (Pl.look a k) (Pl.look b k)) ∧ Pl.Few Ks (Pl.mergeO a b) ∧ Pl.fault (Pl.mergeO a b) = 0 ∧ Pl.geS (Pl.mergeO a b) a ∧ Pl.geS (Pl.mergeO a b) b ∧ ∀ c, Pl.geS c a → Pl.geS c b → Pl.geS c (Pl.mergeO a b) := by
 have ga := (Pl.good_iff a).1 ha
 have gb := (Pl.good_iff b).1 hb
 have la := fa.len ga.2.2
 have lb := fb.len gb.2.2
 obtain ⟨m1, m2, m3⟩ := Pl.merge_good ga gb
 have hl : ∀ k, Pl.look (Pl.mergeO a b) k = Pl.mx (Pl.look a k) (Pl.look b k) := fun k => by
  rw [m2]; exact Pl.mg_look ga gb (by omega) k
 refine ⟨hl, ?_, (Pl.good_iff _).2 m3, fun k => ?_, fun k => ?_, fun c h1 h2 k => ?_⟩
 ·intro e he
  have h1 := Pl.look_mem m3.2.2 he
  rw [hl] at h1
  cases q1 : Pl.look a e.key with
  | none =>
   rw [q1] at h1
   exact fb e (Pl.look_key h1).2
  | some x =>
   cases q2 : Pl.look b e.key with
   | none =>
    rw [q1, q2] at h1
    have : x = e := by simpa [Pl.mx] using h1
    subst this
    exact fa _ (Pl.look_key q1).2
   | some y =>
    have := fa x (Pl.look_key q1).2
    rwa [(Pl.look_key q1).1] at this
 ·rw [hl, Pl.mx_comm (k := k) (x := Pl.mx (Pl.look a k) (Pl.look b k)) (fun e he => by rw [← hl] at he; exact Pl.look_at e he) Pl.look_at, ← Pl.mx_assoc (k := k) Pl.look_at Pl.look_at Pl.look_at, Pl.mx_idem]
 ·rw [hl, Pl.mx_assoc (k := k) Pl.look_at Pl.look_at Pl.look_at, Pl.mx_idem]
 ·rw [hl, ← Pl.mx_assoc (k := k) Pl.look_at Pl.look_at Pl.look_at, h1 k, h2 k]
def Pl.Ac.send (a b : Nat) : Pl.Ac := ⟨7, a, b, -1, 0, (0, 0), ⟨#[]⟩, ⟨#[]⟩⟩
structure Pl.FewN (Ks : List ByteArray) (s : Pl.Nt) : Prop where
 good : Pl.GoodN s
 few : ∀ i, Pl.Few Ks (s.K i)
def Pl.isSend (x : Pl.Ac) (a b : Nat) : Prop := x.kind = 7 ∧ x.a = (a : Int) ∧ x.b = (b : Int) ∧ x.n < 0
theorem Pl.send_act {s : Pl.Nt} (h : Pl.GoodN s) {x : Pl.Ac} {a b : Nat} (hx : Pl.isSend x a b) (ha : a < 12) (hb : b < 12) :
  (s.L a b = 0 ∧ Pl.actN s x = s ∧ Pl.actR s x = Pl.Rp.no 6) ∨ (s.L a b ≠ 0 ∧ Pl.actN s x = { s with K := Pl.upd s.K b (Pl.mergeO (s.K b) (s.K a)) } ∧ Pl.actR s x = ⟨0, [], 0, Pl.mergeK (s.K b) (s.K a)⟩) := by
 obtain ⟨h1, h2, h3, h4⟩ := hx
 have eN : Pl.actN s x = Pl.sendN s x := by
  unfold Pl.actN
  rw [if_neg (by omega), if_neg (by omega), if_neg (by omega), if_neg (by omega), if_neg (by omega), if_neg (by omega), if_neg (by omega), if_neg (by omega), if_pos h1]
 have eR : Pl.actR s x = ⟨Pl.sendC s x, [], 0, Pl.sendK s x⟩ := by
  unfold Pl.actR
  rw [if_neg (by omega), if_neg (by omega), if_neg (by omega), if_neg (by omega), if_neg (by omega), if_neg (by omega), if_neg (by omega), if_neg (by omega), if_pos h1]
 have ta : x.a.toNat = a := by omega
 have tb : x.b.toNat = b := by omega
 by_cases hl : s.L a b = 0
 ·left
  have hf : Pl.sendF s x = 6 := by unfold Pl.sendF; rw [if_neg (by omega), ta, tb, if_pos hl]
  refine ⟨hl, ?_, ?_⟩
  ·rw [eN]; unfold Pl.sendN; rw [hf, if_neg (by decide)]
  ·rw [eR]; unfold Pl.sendC Pl.sendK; rw [hf, if_neg (by decide), if_neg (by decide)]; rfl
 ·right
  have hf : Pl.sendF s x = 0 := by unfold Pl.sendF; rw [if_neg (by omega), ta, tb, if_neg hl]
  obtain ⟨c1, c2, c3⟩ := Pl.send_whole (h.K _) (h.K _) h4 hf
  rw [ta, tb] at c2 c3
  exact ⟨hl, by rw [eN, c3], by rw [eR, c1, c2]⟩
theorem Pl.FewN.send {Ks : List ByteArray} (hK : Ks.length ≤ 20) {s : Pl.Nt} (h : Pl.FewN Ks s) {x : Pl.Ac} {a b : Nat} (hx : Pl.isSend x a b) (ha : a < 12) (hb : b < 12) : Pl.FewN Ks (Pl.actN s x) := by
 refine ⟨h.good.act x, fun i => ?_⟩
 rcases Pl.send_act h.good hx ha hb with ⟨_, e, _⟩ | ⟨_, e, _⟩
 ·rw [e]; exact h.few i
 ·rw [e]
  exact Pl.upd_all (P := Pl.Few Ks) h.few (Pl.join_all hK (h.good.K b) (h.good.K a) (h.few b) (h.few a)).2.1 i
structure Pl.Grown (s t : Pl.Nt) : Prop where
 K : ∀ i, Pl.geS (t.K i) (s.K i)
 L : t.L = s.L
 D : t.D = s.D
 P : t.P = s.P
 T : t.T = s.T
theorem Pl.Grown.refl (s : Pl.Nt) : Pl.Grown s s := ⟨fun _ => Pl.geS.refl _, rfl, rfl, rfl, rfl⟩
theorem Pl.Grown.trans {a b c : Pl.Nt} (h : Pl.Grown a b) (k : Pl.Grown b c) : Pl.Grown a c := ⟨fun i => (k.K i).trans (h.K i), k.L.trans h.L, k.D.trans h.D, k.P.trans h.P, k.T.trans h.T⟩
theorem Pl.Grown.send {Ks : List ByteArray} (hK : Ks.length ≤ 20) {s : Pl.Nt} (h : Pl.FewN Ks s) {x : Pl.Ac} {a b : Nat} (hx : Pl.isSend x a b) (ha : a < 12) (hb : b < 12) :
  Pl.Grown s (Pl.actN s x) ∧ (s.L a b ≠ 0 → Pl.geS ((Pl.actN s x).K b) (s.K a)) ∧ ∀ U, (∀ i, s.L i b ≠ 0 ∨ i = b → Pl.geS U (s.K i)) → Pl.geS U ((Pl.actN s x).K b) := by
 rcases Pl.send_act h.good hx ha hb with ⟨hl, e, _⟩ | ⟨hl, e, _⟩
 ·rw [e]
  exact ⟨Pl.Grown.refl s, fun g => absurd hl g, fun U hU => hU b (.inr rfl)⟩
 ·obtain ⟨j1, j2, j3, j4, j5, j6⟩ := Pl.join_all hK (h.good.K b) (h.good.K a) (h.few b) (h.few a)
  have eb : (Pl.actN s x).K b = Pl.mergeO (s.K b) (s.K a) := by rw [e]; exact Pl.upd_same _ _ _
  refine ⟨⟨fun i => ?_, by rw [e], by rw [e], by rw [e], by rw [e]⟩, fun _ => by rw [eb]; exact j5, fun U hU => by rw [eb]; exact j6 U (hU b (.inr rfl)) (hU a (.inl hl))⟩
  by_cases hi : i = b
  ·rw [hi, eb]; exact j4
  ·have : (Pl.actN s x).K i = s.K i := by rw [e]; exact Pl.upd_ne _ _ hi
   rw [this]; exact Pl.geS.refl _
theorem Pl.dec2 {n : Int} (h0 : 0 ≤ n) (h1 : n < 100) : (Pl.dec n).data.toList.length ≤ 2 := by
 obtain ⟨m, rfl⟩ : ∃ m : Nat, n = m := ⟨n.toNat, by omega⟩
 have hm : m < 100 := by omega
 rw [Pl.dec_list]
 have : (List.range 100).all (fun m => decide ((Lib.decDigits m).length ≤ 2)) = true := by decide +kernel
 exact of_decide_eq_true (List.all_eq_true.1 this m (List.mem_range.2 hm))
theorem Pl.gotE_look {es : List Pl.Ent} (h : Pl.Good es) (k : ByteArray) : Pl.gotE es k = (Pl.look es k).getD Pl.Ent.none := by
 unfold Pl.gotE
 rw [if_pos ((Pl.good_iff es).2 h)]
 rcases Pl.there_look k h.2.2 with ⟨t1, t2⟩ | ⟨t1, t2⟩
 ·rw [t1, t2]; rfl
 ·rw [t1, t2]; rfl
theorem Pl.putV_look {es : List Pl.Ent} (h : Pl.Srt es) (k : ByteArray) : (∃ g, Pl.look es k = some g ∧ Pl.putV es k = g.ver + 1) ∨ (Pl.look es k = none ∧ Pl.putV es k = 1) := by
 unfold Pl.putV
 rcases Pl.there_look k h with ⟨t1, t2⟩ | ⟨t1, t2⟩
 ·exact .inl ⟨_, t2, by rw [t1]; rfl⟩
 ·exact .inr ⟨t2, by rw [t1]; rfl⟩
theorem Pl.putC_ok {es : List Pl.Ent} {n : Int} {key val : ByteArray} (hf : Pl.fault es = 0) (hn : 0 ≤ n ∧ n ≤ 11) (hk : Pl.keyB key = true) (hx : val.size ≤ 120) (hl : es.length < 60) (hv : ∀ e ∈ es, e.ver < 1099511627776) : Pl.putC es n key val = 0 := by
 have hpv : Pl.putV es key ≤ 1099511627776 := by
  rcases Pl.putV_look ((Pl.good_iff es).1 hf).2.2 key with ⟨g, h1, h2⟩ | ⟨_, h2⟩
  ·have := hv g (Pl.look_key h1).2; omega
  ·omega
 unfold Pl.putC
 rw [if_neg (by simp [hf]), if_neg (by simp; omega), if_neg (by simp [hk]), if_neg (by omega), if_neg (by omega), if_neg (by omega)]
theorem Pl.putO_look {es : List Pl.Ent} {n : Int} {key val : ByteArray} (h : Pl.putC es n key val = 0) (hs : Pl.Srt es) (k : ByteArray) : Pl.look (Pl.putO es n key val) k = if k = key then some ⟨key, Pl.putV es key, n, val⟩ else Pl.look es k := by
 unfold Pl.putO
 rw [if_pos h, Pl.look_ins _ k hs]
theorem Pl.putC_fault {es : List Pl.Ent} {n : Int} {key val : ByteArray} (h : Pl.putC es n key val = 0) : Pl.fault es = 0 := by
 by_cases e : Pl.fault es = 0
 ·exact e
 ·unfold Pl.putC at h; rw [if_pos e] at h; exact absurd h e
theorem Pl.putO_ge {es : List Pl.Ent} {n : Int} {key val : ByteArray} (h : Pl.putC es n key val = 0) : Pl.geS (Pl.putO es n key val) es := by
 have hs := ((Pl.good_iff es).1 (Pl.putC_fault h)).2.2
 intro k
 rw [Pl.putO_look h hs]
 by_cases e : k = key
 ·subst e
  rw [if_pos rfl]
  rcases Pl.putV_look hs k with ⟨g, h1, h2⟩ | ⟨h1, _⟩
  ·rw [h1]
   rcases Pl.mx_some ⟨k, Pl.putV es k, n, val⟩ g with ⟨q, _⟩ | ⟨_, q⟩
   ·exfalso
    rcases q with q | ⟨q, _⟩
    ·rw [h2] at q; simp only at q; omega
    ·rw [h2] at q; simp only at q; omega
   ·exact q
  ·rw [h1]; exact Pl.mx_none _
 ·rw [if_neg e]; exact Pl.mx_idem _
theorem Pl.puts_inv {Ks : List ByteArray} {es : List Pl.Ent} {of : Int} {its : List (ByteArray × ByteArray)} {t : Int} (ht : 0 ≤ t) (hf : Pl.fault es = 0) (fw : Pl.Few Ks es) (hv : ∀ e ∈ es, e.ver ≤ t) (hk : ∀ p ∈ its, p.1 ∈ Ks) : ∀ j : Nat, j ≤ its.length →
  Pl.fault (Pl.putsS es of its j).2.1 = 0 ∧ Pl.Few Ks (Pl.putsS es of its j).2.1 ∧ (∀ e ∈ (Pl.putsS es of its j).2.1, e.ver ≤ t + j) ∧ Pl.geS (Pl.putsS es of its j).2.1 es ∧ ∀ k, (∀ p ∈ its, p.1 ≠ k) → Pl.look (Pl.putsS es of its j).2.1 k = Pl.look es k
 | 0, _ => ⟨hf, fw, fun e he => by have := hv e he; simpa using this, Pl.geS.refl _, fun _ _ => rfl⟩
 | j + 1, hj => by
  obtain ⟨i1, i2, i3, i4, i5⟩ := Pl.puts_inv (of := of) ht hf fw hv hk j (by omega)
  have hold : Pl.fault (Pl.putsS es of its j).2.1 = 0 ∧ Pl.Few Ks (Pl.putsS es of its j).2.1 ∧ (∀ e ∈ (Pl.putsS es of its j).2.1, e.ver ≤ t + ((j + 1 : Nat) : Int)) ∧ Pl.geS (Pl.putsS es of its j).2.1 es ∧ ∀ k, (∀ p ∈ its, p.1 ≠ k) → Pl.look (Pl.putsS es of its j).2.1 k = Pl.look es k :=
   ⟨i1, i2, fun e he => by have := i3 e he; push_cast; omega, i4, i5⟩
  have hm : its.getD j (⟨#[]⟩, ⟨#[]⟩) ∈ its := by rw [List.getD_eq_getElem?_getD, List.getElem?_eq_getElem (by omega)]; exact List.getElem_mem _
  generalize hp : its.getD j (⟨#[]⟩, ⟨#[]⟩) = p at *
  generalize hr : Pl.putsS es of its j = r at *
  have e : Pl.putsS es of its (j + 1) = if r.1 ≠ 0 then r else if Pl.stands r.2.1 of p.1 p.2 = true then r else if Pl.putC r.2.1 of p.1 p.2 ≠ 0 then (Pl.putC r.2.1 of p.1 p.2, r.2.1, r.2.2) else (0, Pl.putO r.2.1 of p.1 p.2, r.2.2 ++ [p.1]) := by
   subst hr; subst hp; rfl
  rw [e]
  by_cases c1 : r.1 ≠ 0
  ·rw [if_pos c1]; exact hold
  rw [if_neg c1]
  by_cases c2 : Pl.stands r.2.1 of p.1 p.2 = true
  ·rw [if_pos c2]; exact hold
  rw [if_neg c2]
  by_cases c3 : Pl.putC r.2.1 of p.1 p.2 ≠ 0
  ·rw [if_pos c3]; exact hold
  rw [if_neg c3]
  have c3 : Pl.putC r.2.1 of p.1 p.2 = 0 := by simpa using c3
  have hs := ((Pl.good_iff _).1 i1).2.2
  refine ⟨(Pl.good_iff _).2 (Pl.putO_good c3), fun x hx => ?_, fun x hx => ?_, (Pl.putO_ge c3).trans i4, fun k hk' => ?_⟩
  ·unfold Pl.putO at hx
   rw [if_pos c3] at hx
   rcases Pl.mem_ins hx with rfl | hx
   ·exact hk p hm
   ·exact i2 x hx
  ·unfold Pl.putO at hx
   rw [if_pos c3] at hx
   rcases Pl.mem_ins hx with rfl | hx
   ·show Pl.putV r.2.1 p.1 ≤ _
    rcases Pl.putV_look hs p.1 with ⟨g, h1, h2⟩ | ⟨_, h2⟩
    ·have := i3 g (Pl.look_key h1).2; push_cast; omega
    ·push_cast; omega
   ·have := i3 x hx; push_cast; omega
  ·show Pl.look (Pl.putO r.2.1 of p.1 p.2) k = _
   rw [Pl.putO_look c3 hs, if_neg (fun h => hk' p hm h.symm)]
   exact i5 k hk'
theorem Pl.stands_look {es : List Pl.Ent} (hf : Pl.fault es = 0) {of : Int} {key val : ByteArray} : Pl.stands es of key val = true ↔ ∃ e, Pl.look es key = some e ∧ e.org = of ∧ e.val = val := by
 have hg := (Pl.good_iff es).1 hf
 unfold Pl.stands
 rw [Pl.gotE_look hg]
 unfold Pl.gotC
 rw [if_pos hf]
 rcases Pl.there_look key hg.2.2 with ⟨t1, t2⟩ | ⟨t1, t2⟩
 ·rw [t1, t2]; simp
 ·rw [t1, t2]; simp
theorem Pl.puts_two {es : List Pl.Ent} {of : Int} {k1 v1 k2 v2 : ByteArray} (hne : k1 ≠ k2) (hf : Pl.fault es = 0) (hc : (Pl.putsS es of [(k1, v1), (k2, v2)] 2).1 = 0) :
  (∃ e, Pl.look (Pl.putsS es of [(k1, v1), (k2, v2)] 2).2.1 k1 = some e ∧ e.org = of ∧ e.val = v1) ∧ (∃ e, Pl.look (Pl.putsS es of [(k1, v1), (k2, v2)] 2).2.1 k2 = some e ∧ e.org = of ∧ e.val = v2) := by
 have step : ∀ (j : Nat) (k v : ByteArray), [(k1, v1), (k2, v2)].getD j (⟨#[]⟩, ⟨#[]⟩) = (k, v) → (Pl.putsS es of [(k1, v1), (k2, v2)] (j + 1)).1 = 0 → (Pl.putsS es of [(k1, v1), (k2, v2)] j).1 = 0 ∧ (∃ e, Pl.look (Pl.putsS es of [(k1, v1), (k2, v2)] (j + 1)).2.1 k = some e ∧ e.org = of ∧ e.val = v) ∧ ∀ q, q ≠ k → Pl.look (Pl.putsS es of [(k1, v1), (k2, v2)] (j + 1)).2.1 q = Pl.look (Pl.putsS es of [(k1, v1), (k2, v2)] j).2.1 q := by
  intro j k v hp h0
  have i1 := Pl.putsS_good (of := of) (its := [(k1, v1), (k2, v2)]) hf j
  generalize hr : Pl.putsS es of [(k1, v1), (k2, v2)] j = r at *
  have e : Pl.putsS es of [(k1, v1), (k2, v2)] (j + 1) = if r.1 ≠ 0 then r else if Pl.stands r.2.1 of k v = true then r else if Pl.putC r.2.1 of k v ≠ 0 then (Pl.putC r.2.1 of k v, r.2.1, r.2.2) else (0, Pl.putO r.2.1 of k v, r.2.2 ++ [k]) := by
   subst hr
   show (if (Pl.putsS es of [(k1, v1), (k2, v2)] j).1 ≠ 0 then Pl.putsS es of [(k1, v1), (k2, v2)] j else if Pl.stands (Pl.putsS es of [(k1, v1), (k2, v2)] j).2.1 of ([(k1, v1), (k2, v2)].getD j (⟨#[]⟩, ⟨#[]⟩)).1 ([(k1, v1), (k2, v2)].getD j (⟨#[]⟩, ⟨#[]⟩)).2 = true then Pl.putsS es of [(k1, v1), (k2, v2)] j else if Pl.putC (Pl.putsS es of [(k1, v1), (k2, v2)] j).2.1 of ([(k1, v1), (k2, v2)].getD j (⟨#[]⟩, ⟨#[]⟩)).1 ([(k1, v1), (k2, v2)].getD j (⟨#[]⟩, ⟨#[]⟩)).2 ≠ 0 then (Pl.putC (Pl.putsS es of [(k1, v1), (k2, v2)] j).2.1 of ([(k1, v1), (k2, v2)].getD j (⟨#[]⟩, ⟨#[]⟩)).1 ([(k1, v1), (k2, v2)].getD j (⟨#[]⟩, ⟨#[]⟩)).2, (Pl.putsS es of [(k1, v1), (k2, v2)] j).2.1, (Pl.putsS es of [(k1, v1), (k2, v2)] j).2.2) else (0, Pl.putO (Pl.putsS es of [(k1, v1), (k2, v2)] j).2.1 of ([(k1, v1), (k2, v2)].getD j (⟨#[]⟩, ⟨#[]⟩)).1 ([(k1, v1), (k2, v2)].getD j (⟨#[]⟩, ⟨#[]⟩)).2, (Pl.putsS es of [(k1, v1), (k2, v2)] j).2.2 ++ [([(k1, v1), (k2, v2)].getD j (⟨#[]⟩, ⟨#[]⟩)).1])) = _
   rw [hp]
  rw [e] at h0 ⊢
  by_cases c1 : r.1 ≠ 0
  ·rw [if_pos c1] at h0; exact absurd h0 c1
  rw [if_neg c1] at h0 ⊢
  have c1 : r.1 = 0 := by simpa using c1
  by_cases c2 : Pl.stands r.2.1 of k v = true
  ·rw [if_pos c2]
   exact ⟨c1, (Pl.stands_look i1).1 c2, fun _ _ => rfl⟩
  rw [if_neg c2] at h0 ⊢
  by_cases c3 : Pl.putC r.2.1 of k v ≠ 0
  ·rw [if_pos c3] at h0; exact absurd h0 c3
  rw [if_neg c3]
  have c3 : Pl.putC r.2.1 of k v = 0 := by simpa using c3
  have hs := ((Pl.good_iff _).1 i1).2.2
  exact ⟨c1, ⟨_, by rw [Pl.putO_look c3 hs, if_pos rfl], rfl, rfl⟩, fun q hq => by rw [Pl.putO_look c3 hs, if_neg hq]⟩
 obtain ⟨s1, s2, s3⟩ := step 1 k2 v2 rfl hc
 obtain ⟨_, r2, _⟩ := step 0 k1 v1 rfl s1
 exact ⟨by rw [s3 k1 hne]; exact r2, s2⟩
theorem Pl.dec4 {n : Int} (h0 : 0 ≤ n) (h1 : n ≤ 1000) : (Pl.dec n).data.toList.length ≤ 4 := by
 obtain ⟨m, rfl⟩ : ∃ m : Nat, n = m := ⟨n.toNat, by omega⟩
 have hm : m < 1001 := by omega
 rw [Pl.dec_list]
 have : (List.range 1001).all (fun m => decide ((Lib.decDigits m).length ≤ 4)) = true := by decide +kernel
 exact of_decide_eq_true (List.all_eq_true.1 this m (List.mem_range.2 hm))
theorem Pl.showT_short (m : ByteArray) (ps : List (Int × Int)) (B : Nat) (h : ∀ p ∈ ps, (Pl.dec p.1).data.toList.length + m.data.toList.length + (Pl.dec p.2).data.toList.length ≤ B) : (Pl.showT m ps).size ≤ ps.length * (B + 1) := by
 have e : (Pl.showT m ps).size = (Pl.showT m ps).data.toList.length := by simp
 rw [e, Pl.showT_list]
 refine Nat.le_trans (Pl.join_le B _ _ ?_) (by simp)
 intro x hx
 simp only [List.mem_map] at hx
 obtain ⟨y, ⟨p, hp, rfl⟩, rfl⟩ := hx
 have := h p hp
 unfold Pl.sideT
 simp only [ByteArray.data_append, Array.toList_append, List.length_append]
 omega
theorem Pl.adjText_short {d : Bool} {L : Nat → Int} (h : ∀ i, i < 12 → 0 ≤ L i ∧ L i ≤ 1000) : (Pl.adjText d (Pl.sidesK L 12)).size ≤ 120 := by
 obtain ⟨h1, h2⟩ := Pl.sidesK_ok h 12 (Nat.le_refl _)
 have hl := Pl.sidesK_len L 12
 have hs := Pl.showT_short ⟨#[61]⟩ (Pl.sidesK L 12) 7 (fun p hp => by
  obtain ⟨q1, q2, q3, q4, q5⟩ := h2 p hp
  have a1 := Pl.dec2 (n := p.1) q2 (by omega)
  have a2 := Pl.dec4 (n := p.2) q4 q5
  show _ + 1 + _ ≤ 7
  omega)
 unfold Pl.adjText
 rw [if_pos h1]
 split
 ·rw [ByteArray.size_append]
  have : (⟨#[33]⟩ : ByteArray).size = 1 := rfl
  omega
 ·omega
theorem Pl.pfxText_short {ps : List (Int × Int)} (h : Pl.pfxF ps = 0) : (Pl.pfxText ps).size ≤ 120 := by
 obtain ⟨hl, hs⟩ := Pl.pfxF_ok h
 have hs := Pl.showT_short ⟨#[47]⟩ ps 9 (fun p hp => by
  obtain ⟨q2, q3, q4, q5⟩ := hs p hp
  have a1 := Pl.dec4 (n := p.1) q2 q3
  have a2 := Pl.dec4 (n := p.2) q4 q5
  show _ + 1 + _ ≤ 9
  omega)
 unfold Pl.pfxText
 rw [if_pos h]
 omega
def Pl.keys10 : List ByteArray := ((List.range 5).map fun (j : Nat) => Pl.adjKey (j : Int)) ++ (List.range 5).map fun (j : Nat) => Pl.pfxKey (j : Int)
theorem Pl.keys10_len : Pl.keys10.length ≤ 20 := by simp [Pl.keys10]
theorem Pl.keys10_adj {j : Nat} (h : j < 5) : Pl.adjKey (j : Int) ∈ Pl.keys10 := List.mem_append_left _ (List.mem_map.2 ⟨j, List.mem_range.2 h, rfl⟩)
theorem Pl.keys10_pfx {j : Nat} (h : j < 5) : Pl.pfxKey (j : Int) ∈ Pl.keys10 := List.mem_append_right _ (List.mem_map.2 ⟨j, List.mem_range.2 h, rfl⟩)
theorem Pl.adjKey_list (n : Nat) : (Pl.adjKey (n : Int)).data.toList = 97 :: 58 :: Lib.decDigits n := by
 unfold Pl.adjKey
 rw [ByteArray.data_append, Array.toList_append, Pl.dec_list]; rfl
theorem Pl.pfxKey_list (n : Nat) : (Pl.pfxKey (n : Int)).data.toList = 112 :: 58 :: Lib.decDigits n := by
 unfold Pl.pfxKey
 rw [ByteArray.data_append, Array.toList_append, Pl.dec_list]; rfl
theorem Pl.digits_inj : (List.range 12).all (fun i => (List.range 12).all fun j => decide (Lib.decDigits i = Lib.decDigits j → i = j)) = true := by decide +kernel
theorem Pl.digits_ne {i j : Nat} (hi : i < 12) (hj : j < 12) (h : Lib.decDigits i = Lib.decDigits j) : i = j := by
 have := List.all_eq_true.1 Pl.digits_inj i (List.mem_range.2 hi)
 have := List.all_eq_true.1 this j (List.mem_range.2 hj)
 exact of_decide_eq_true this h
theorem Pl.adjKey_inj {i j : Nat} (hi : i < 12) (hj : j < 12) (h : Pl.adjKey (i : Int) = Pl.adjKey (j : Int)) : i = j := by
 have := congrArg (fun s : ByteArray => s.data.toList) h
 simp only [Pl.adjKey_list, List.cons.injEq, true_and] at this
 exact Pl.digits_ne hi hj this
theorem Pl.pfxKey_inj {i j : Nat} (hi : i < 12) (hj : j < 12) (h : Pl.pfxKey (i : Int) = Pl.pfxKey (j : Int)) : i = j := by
 have := congrArg (fun s : ByteArray => s.data.toList) h
 simp only [Pl.pfxKey_list, List.cons.injEq, true_and] at this
 exact Pl.digits_ne hi hj this
theorem Pl.adj_ne_pfx (i j : Nat) : Pl.adjKey (i : Int) ≠ Pl.pfxKey (j : Int) := by
 intro h
 have := congrArg (fun s : ByteArray => s.data.toList) h
 simp only [Pl.adjKey_list, Pl.pfxKey_list, List.cons.injEq] at this
 exact absurd this.1 (by decide)
theorem Pl.keyB_list (s : ByteArray) : Pl.keyB s = (decide (1 ≤ s.data.toList.length ∧ s.data.toList.length ≤ 8) && Pl.kbs s.data.toList) := by
 unfold Pl.keyB
 have : s.size = s.data.toList.length := by simp
 rw [this]
theorem Pl.digits_keys : (List.range 12).all (fun i => (decide (1 ≤ (97 :: 58 :: Lib.decDigits i : List UInt8).length ∧ (97 :: 58 :: Lib.decDigits i : List UInt8).length ≤ 8) && Pl.kbs (97 :: 58 :: Lib.decDigits i)) && (decide (1 ≤ (112 :: 58 :: Lib.decDigits i : List UInt8).length ∧ (112 :: 58 :: Lib.decDigits i : List UInt8).length ≤ 8) && Pl.kbs (112 :: 58 :: Lib.decDigits i))) = true := by decide +kernel
theorem Pl.keyB_own {j : Nat} (h : j < 12) : Pl.keyB (Pl.adjKey (j : Int)) = true ∧ Pl.keyB (Pl.pfxKey (j : Int)) = true := by
 have := List.all_eq_true.1 Pl.digits_keys j (List.mem_range.2 h)
 rw [Bool.and_eq_true] at this
 rw [Pl.keyB_list, Pl.keyB_list, Pl.adjKey_list, Pl.pfxKey_list]
 exact this
structure Pl.AcOk (x : Pl.Ac) : Prop where
 key : x.key.size ≤ maxLen
 val : x.val.size ≤ maxLen
 p : Pl.pairOk x.p
 n : x.n ≤ 9223372036854775807
 m : x.m ≤ 9223372036854775807
def acV (x : Pl.Ac) : Value := .agg #[.int .i64 x.kind, .int .i64 x.a, .int .i64 x.b, .int .i64 x.n, .int .i64 x.m, .int .i64 x.p.1, .int .i64 x.p.2, .string x.key, .string x.val]
def ActP (B : Nat) (w : World) (r : Pl.Rp) (s : Pl.Nt) (e : Ending) (w' : World) : Prop := ∃ vp vk, e = .returned (.agg #[.int .i64 r.code, vp, .int .i64 r.cost, vk]) ∧ OwnZ w' w.heap.size vp r.path ∧ OwnS w' w.heap.size vk r.keys ∧ NetAt w' B s ∧ NKept B w w'
set_option maxHeartbeats 4000000 in
theorem actDo_any (f : Nat) (enters : ∀ args w, (callFunc f args).run Tryz.prog w = .ok (.enter f args) w) (B : Nat) (r : Pl.Rp) (sn s : Pl.Nt) (x : Pl.Ac) (w : World) (h : NetAt w B s) (ha : 0 ≤ x.a ∧ x.a ≤ 11)
  (hd : doerV B x.kind = .func (.func f) #[.pointer (some ⟨B, 0, none⟩)] #[])
  (hc : ∀ W, NetAt W B s → Below w.heap.size w W → Calls Tryz.prog f #[.pointer (some ⟨B, 0, none⟩), acV x] W (ActP B W r sn)) :
  Calls Tryz.prog 45 #[.pointer (some ⟨B, 0, none⟩), acV x] w (ActP B w r sn) := by
 have HN := hid h
 have hBl := h.lt
 have HC := hid hc
 have HD := hid hd
 clear h hc hd
 obtain ⟨kind, xa, b, n, m, ⟨p1, p2⟩, key, val⟩ := x
 unfold acV at HC ⊢
 simp only at ha HC HD ⊢
 have HDO := hid (fun (W : World) => doer_any B kind W)
 rw [HD.out] at HDO
 obtain ⟨b0, b1, bz, bb⟩ := two (w := w) (.cells #[.int .i64 kind, .int .i64 xa, .int .i64 b, .int .i64 n, .int .i64 m, .int .i64 p1, .int .i64 p2, .string key, .string val] 51) (.cells #[.int .i64 0, .slice none 0 0, .int .i64 0, .slice none 0 0] 40)
 obtain ⟨W2, HW2⟩ : ∃ W, Hid (W = (w.alloc (.cells #[.int .i64 kind, .int .i64 xa, .int .i64 b, .int .i64 n, .int .i64 m, .int .i64 p1, .int .i64 p2, .string key, .string val] 51)).alloc (.cells #[.int .i64 0, .slice none 0 0, .int .i64 0, .slice none 0 0] 40)) := ⟨_, hid rfl⟩
 rw [← HW2.out] at b0 b1 bz bb
 obtain ⟨q0, q1, q2, q3, q4, q5, q6, q7, q8⟩ := box9 b0
 have HX1 := hid b1
 have HBB := hid bb
 have hz2 : W2.heap.size = w.heap.size + 2 := bz
 have hle : w.heap.size ≤ w.heap.size + 1 := by omega
 have hne2 : w.heap.size + 1 ≠ B := by omega
 have HCW := hid (HC.out W2 (HN.out.below bb) bb)
 have hdb : decide (0 ≤ xa ∧ xa ≤ 11) = true := by simpa using ha
 have hnil : ∀ W, (binOp .eql 93 (.func (.func f) #[.pointer (some ⟨B, 0, none⟩)] #[]) Value.nilFunc).run Tryz.prog W = .ok (.bool false) W := fun W => by kernel_rfl
 clear b0 b1 bb
 go_enter Tryz.func45, Tryz.ntmps45
 go_wp2_with (first | (go_at_call 70; refine (HDO.out _).mono ?_; rintro e w' ⟨rfl, hw'⟩; rw [hw']; clear hw' w') | (go_at_call 72; refine (isNode_any _ _).mono ?_; rw [hdb]; rintro e w' ⟨rfl, hw'⟩; rw [hw']; clear hw' w'))
 rw [← HW2.out]
 refine HCW.out.mono ?_
 rintro e w3 ⟨vp, vk, rfl, hp3, hk3, hn3, hkk⟩
 obtain ⟨pa, pc, rfl⟩ := ownsRow_slice hp3
 obtain ⟨ka, kc, rfl⟩ := ownsRow_slice hk3
 have HX3 := hid ((hkk.block _ (by omega) hne2 (.inr (by intro cur m e; rw [HX1.out] at e; simp at e))).trans HX1.out)
 have HP3 := hid hp3
 have HK3 := hid hk3
 have HN3 := hid hn3
 have HKK : Hid (NKept B w w3) := hid ((NKept.of (But.of HBB.out)).trans hkk)
 obtain ⟨np, HNP⟩ : ∃ c, Hid (r.path.length = c) := ⟨_, hid rfl⟩
 obtain ⟨nk, HNK⟩ : ∃ c, Hid (r.keys.length = c) := ⟨_, hid rfl⟩
 rw [HNP.out] at HP3 ⊢
 rw [HNK.out] at HK3 ⊢
 obtain ⟨⟨y0, y1, y2, y3⟩, yf, yl⟩ := box4c HX3.out
 clear hp3 hk3 hn3 hkk
 go_wp2_with fail
 obtain ⟨Wf, HWF⟩ : ∃ x, Hid (x = set4 w3 (w.heap.size + 1) (.int .i64 r.code) (.slice pa np pc) (.int .i64 r.cost) (.slice ka nk kc)) := ⟨_, hid rfl⟩
 have hbut : But (w.heap.size + 1) w3 Wf := by rw [HWF.out]; exact set4_but (But.refl (w.heap.size + 1) w3) _ _ _ _
 have hfx : Wf.heap[w.heap.size + 1]? = some (.cells #[.int .i64 r.code, .slice pa np pc, .int .i64 r.cost, .slice ka nk kc] 40) := by
  rw [HWF.out]; exact set4_at HX3.out _ _ _ _
 obtain ⟨⟨z0, z1, z2, z3⟩, _, _⟩ := box4c hfx
 rw [show (((w3.setCell ⟨w.heap.size + 1, 0, none⟩ (.int .i64 r.code)).setCell ⟨w.heap.size + 1, 1, none⟩ (.slice pa np pc)).setCell ⟨w.heap.size + 1, 2, none⟩ (.int .i64 r.cost)).setCell ⟨w.heap.size + 1, 3, none⟩ (.slice ka nk kc) = Wf from HWF.out.symm]
 refine bodyPost_ret (v := .agg #[.int .i64 r.code, .slice pa np pc, .int .i64 r.cost, .slice ka nk kc]) (by simp [results, Tryz.results45, go_sem, z0, z1, z2, z3]) rfl ⟨_, _, rfl, ?_, ?_, ?_, ?_⟩
 ·exact OwnZ.mono (ownsRow_apart HP3.out hbut (by intro cur m e; rw [HX3.out] at e; simp at e)) (by omega)
 ·exact World.ownsRow_mono (ownS_reply HK3.out hbut HX3.out) (by omega)
 ·exact NetAt.reply HN3.out hbut HX3.out hne2
 ·exact NKept.over HKK.out hbut hle
theorem Pl.pfxKey_size (n : Int) (h0 : 0 ≤ n) (h1 : n ≤ 1000) : (Pl.pfxKey n).size ≤ 23 := by
 unfold Pl.pfxKey
 rw [ByteArray.size_append]
 have := Pl.dec_size n (by omega) (by omega)
 have e : (⟨#[112, 58]⟩ : ByteArray).size = 2 := rfl
 omega
set_option maxHeartbeats 4000000 in
theorem actNo_any (c : Int) (B : Nat) (s : Pl.Nt) (x : Pl.Ac) (w : World) (h : NetAt w B s) (hc : (c = 3 ∧ ¬ (1 ≤ x.kind ∧ x.kind ≤ 10)) ∨ (c = 2 ∧ (∃ f, doerV B x.kind = .func (.func f) #[.pointer (some ⟨B, 0, none⟩)] #[]) ∧ ¬ (0 ≤ x.a ∧ x.a ≤ 11))) :
  Calls Tryz.prog 45 #[.pointer (some ⟨B, 0, none⟩), acV x] w (ActP B w (Pl.Rp.no c) s) := by
 have HN := hid h
 have hBl := h.lt
 clear h
 obtain ⟨kind, xa, b, n, m, ⟨p1, p2⟩, key, val⟩ := x
 unfold acV
 simp only at hc ⊢
 have HDO := hid (fun (W : World) => doer_any B kind W)
 have HRF := hid (fun (c : Int) (W : World) => refused_any c W)
 obtain ⟨b0, b1, bz, bb⟩ := two (w := w) (.cells #[.int .i64 kind, .int .i64 xa, .int .i64 b, .int .i64 n, .int .i64 m, .int .i64 p1, .int .i64 p2, .string key, .string val] 51) (.cells #[.int .i64 0, .slice none 0 0, .int .i64 0, .slice none 0 0] 40)
 obtain ⟨W2, HW2⟩ : ∃ W, Hid (W = (w.alloc (.cells #[.int .i64 kind, .int .i64 xa, .int .i64 b, .int .i64 n, .int .i64 m, .int .i64 p1, .int .i64 p2, .string key, .string val] 51)).alloc (.cells #[.int .i64 0, .slice none 0 0, .int .i64 0, .slice none 0 0] 40)) := ⟨_, hid rfl⟩
 rw [← HW2.out] at b0 b1 bz bb
 obtain ⟨q0, q1, q2, q3, q4, q5, q6, q7, q8⟩ := box9 b0
 have HX1 := hid b1
 have HBB := hid bb
 have hz2 : W2.heap.size = w.heap.size + 2 := bz
 have hle : w.heap.size ≤ w.heap.size + 1 := by omega
 have hnil : ∀ f W, (binOp .eql 93 (.func (.func f) #[.pointer (some ⟨B, 0, none⟩)] #[]) Value.nilFunc).run Tryz.prog W = .ok (.bool false) W := fun f W => by kernel_rfl
 have hnil2 : ∀ W, (binOp .eql 93 Value.nilFunc Value.nilFunc).run Tryz.prog W = .ok (.bool true) W := fun W => by kernel_rfl
 have HFI : Hid (∀ (W3 : World), Below w.heap.size w W3 → ActP B w (Pl.Rp.no c) s (.returned (.agg #[.int .i64 c, .slice none 0 0, .int .i64 0, .slice none 0 0])) (set4 W3 (w.heap.size + 1) (.int .i64 c) (.slice none 0 0) (.int .i64 0) (.slice none 0 0))) := hid fun W3 hb => by
  have hfin : Below w.heap.size w (set4 W3 (w.heap.size + 1) (.int .i64 c) (.slice none 0 0) (.int .i64 0) (.slice none 0 0)) := (((hb.setCell (p := ⟨w.heap.size + 1, 0, none⟩) hle _).setCell (p := ⟨w.heap.size + 1, 1, none⟩) hle _).setCell (p := ⟨w.heap.size + 1, 2, none⟩) hle _).setCell (p := ⟨w.heap.size + 1, 3, none⟩) hle _
  exact ⟨_, _, rfl, OwnZ.nil _ _, OwnS.nil _ _, HN.out.below hfin, NKept.of (But.of hfin)⟩
 clear b0 b1 bb
 rcases hc with ⟨rfl, hk⟩ | ⟨rfl, ⟨f, hd⟩, ha⟩
 ·have HV : Hid (doerV B kind = Value.nilFunc) := hid (by
   unfold doerV
   rw [if_neg (by omega), if_neg (by omega), if_neg (by omega), if_neg (by omega), if_neg (by omega), if_neg (by omega), if_neg (by omega), if_neg (by omega), if_neg (by omega), if_neg (by omega)])
  rw [HV.out] at HDO
  clear hk hnil
  go_enter Tryz.func45, Tryz.ntmps45
  go_wp2_with (first | (go_at_call 70; refine (HDO.out _).mono ?_; rintro e w' ⟨rfl, hw'⟩; rw [hw']; clear hw' w'))
  rw [← HW2.out]
  refine (HRF.out 3 _).mono ?_
  rintro e w3 ⟨rfl, hb3⟩
  have hbx := (hb3.block _ (blockLt HX1.out)).trans HX1.out
  have HB3 := hid (HBB.out.trans (hb3.mono (by omega)))
  have HFN := hid (HFI.out w3 HB3.out)
  obtain ⟨⟨y0, y1, y2, y3⟩, yf, yl⟩ := box4c hbx
  clear hb3 hbx
  go_wp2_with fail
  exact bodyPost_ret (v := .agg #[.int .i64 3, .slice none 0 0, .int .i64 0, .slice none 0 0]) (by simp [results, Tryz.results45, go_sem, y0, y1, y2, y3]) rfl HFN.out
 ·rw [hd] at HDO
  have hdb : decide (0 ≤ xa ∧ xa ≤ 11) = false := by simpa using ha
  clear hd ha hnil2
  go_enter Tryz.func45, Tryz.ntmps45
  go_wp2_with (first | (go_at_call 70; refine (HDO.out _).mono ?_; rintro e w' ⟨rfl, hw'⟩; rw [hw']; clear hw' w') | (go_at_call 72; refine (isNode_any _ _).mono ?_; rw [hdb]; rintro e w' ⟨rfl, hw'⟩; rw [hw']; clear hw' w'))
  rw [← HW2.out]
  refine (HRF.out 2 _).mono ?_
  rintro e w3 ⟨rfl, hb3⟩
  have hbx := (hb3.block _ (blockLt HX1.out)).trans HX1.out
  have HB3 := hid (HBB.out.trans (hb3.mono (by omega)))
  have HFN := hid (HFI.out w3 HB3.out)
  obtain ⟨⟨y0, y1, y2, y3⟩, yf, yl⟩ := box4c hbx
  clear hb3 hbx
  go_wp2_with fail
  exact bodyPost_ret (v := .agg #[.int .i64 2, .slice none 0 0, .int .i64 0, .slice none 0 0]) (by simp [results, Tryz.results45, go_sem, y0, y1, y2, y3]) rfl HFN.out
theorem doerV_func (B : Nat) {k : Int} (h : 1 ≤ k ∧ k ≤ 10) : ∃ f, doerV B k = .func (.func f) #[.pointer (some ⟨B, 0, none⟩)] #[] := by
 have hcs : k = 1 ∨ k = 2 ∨ k = 3 ∨ k = 4 ∨ k = 5 ∨ k = 6 ∨ k = 7 ∨ k = 8 ∨ k = 9 ∨ k = 10 := by omega
 rcases hcs with rfl | rfl | rfl | rfl | rfl | rfl | rfl | rfl | rfl | rfl <;> exact ⟨_, rfl⟩
theorem ActP.of {B : Nat} {w : World} {c : Int} {s : Pl.Nt} {e : Ending} {w' : World} (h : e = .returned (.agg #[.int .i64 c, .slice none 0 0, .int .i64 0, .slice none 0 0])) (hn : NetAt w' B s) (hk : NKept B w w') : ActP B w (Pl.Rp.no c) s e w' := ⟨_, _, h, OwnZ.nil _ _, OwnS.nil _ _, hn, hk⟩
set_option maxHeartbeats 4000000 in
theorem act_any (B : Nat) (s : Pl.Nt) (x : Pl.Ac) (w : World) (h : NetAt w B s) (hg : Pl.GoodN s) (hx : Pl.AcOk x) (hT : Tab w) :
  Calls Tryz.prog 45 #[.pointer (some ⟨B, 0, none⟩), acV x] w (ActP B w (Pl.actR s x) (Pl.actN s x)) := by
 by_cases hk : 1 ≤ x.kind ∧ x.kind ≤ 10
 ·by_cases ha : 0 ≤ x.a ∧ x.a ≤ 11
  ·have eR : Pl.actR s x = if x.kind = 1 then Pl.Rp.no (Pl.linkC x) else if x.kind = 2 then Pl.Rp.no (Pl.cutCd s.L x) else if x.kind = 3 then Pl.Rp.no (Pl.drainC x) else if x.kind = 4 then Pl.Rp.no (Pl.giveC s x) else if x.kind = 5 then Pl.Rp.no (Pl.takeC s x) else if x.kind = 6 then ⟨(Pl.putsS (s.K x.a.toNat) x.a.toNat (Pl.tellI s x.a.toNat) 2).1, [], 0, Pl.putsK s x.a.toNat (Pl.tellI s x.a.toNat)⟩ else if x.kind = 7 then ⟨Pl.sendC s x, [], 0, Pl.sendK s x⟩ else if x.kind = 8 then ⟨Pl.writeC s x, [], 0, Pl.writeK s x⟩ else if x.kind = 9 then Pl.Rp.no 0 else ⟨(Pl.walkR s x).1, (Pl.walkR s x).2.1, (Pl.walkR s x).2.2, []⟩ := by
    unfold Pl.actR
    rw [if_neg (by simpa using hk), if_neg (by simpa using ha)]
   have eN : Pl.actN s x = if x.kind = 1 then { s with L := Pl.linkL s.L x } else if x.kind = 2 then { s with L := Pl.cutLn s.L x } else if x.kind = 3 then { s with D := Pl.drainD s.D x } else if x.kind = 4 then Pl.giveN s x else if x.kind = 5 then Pl.takeN s x else if x.kind = 6 then Pl.putsN s x.a.toNat (Pl.tellI s x.a.toNat) else if x.kind = 7 then Pl.sendN s x else if x.kind = 8 then Pl.writeN s x else if x.kind = 9 then { s with T := Pl.upd s.T x.a.toNat (Pl.tabL (s.K x.a.toNat) x.a.toNat) } else s := by
    unfold Pl.actN
    rw [if_neg (by simpa using hk), if_neg (by simpa using ha)]
   have hxa : x.a = ((x.a.toNat : Nat) : Int) := by omega
   have ha12 : x.a.toNat < 12 := by omega
   obtain ⟨g1, g2, g3⟩ := Pl.pfxF_good (hg.P x.a.toNat)
   have hpk : ∀ p ∈ s.P x.a.toNat, Pl.pairOk p := fun p hp => Pl.pairOk_of (by have := Pl.pfx1_zero (g2 p hp); omega)
   rw [eR, eN]
   have hcs : x.kind = 1 ∨ x.kind = 2 ∨ x.kind = 3 ∨ x.kind = 4 ∨ x.kind = 5 ∨ x.kind = 6 ∨ x.kind = 7 ∨ x.kind = 8 ∨ x.kind = 9 ∨ x.kind = 10 := by omega
   rcases hcs with k | k | k | k | k | k | k | k | k | k
   ·rw [if_pos k, if_pos k]
    exact actDo_any 110 (enters_of Tryz.func110 (by kernel_rfl) rfl) B _ _ s x w h ha (by rw [k]; rfl) fun W hW _ => (netLink_at B s x W hW ha).mono fun e w' ⟨h1, h2, h3⟩ => ActP.of h1 h2 h3
   ·rw [if_neg (by omega), if_pos k, if_neg (by omega), if_pos k]
    exact actDo_any 111 (enters_of Tryz.func111 (by kernel_rfl) rfl) B _ _ s x w h ha (by rw [k]; rfl) fun W hW _ => (netCut_at B s x W hW ha).mono fun e w' ⟨h1, h2, h3⟩ => ActP.of h1 h2 h3
   ·rw [if_neg (by omega), if_neg (by omega), if_pos k, if_neg (by omega), if_neg (by omega), if_pos k]
    exact actDo_any 112 (enters_of Tryz.func112 (by kernel_rfl) rfl) B _ _ s x w h ha (by rw [k]; rfl) fun W hW _ => (netDrain_at B s x W hW ha).mono fun e w' ⟨h1, h2, h3⟩ => ActP.of h1 h2 h3
   ·rw [if_neg (by omega), if_neg (by omega), if_neg (by omega), if_pos k, if_neg (by omega), if_neg (by omega), if_neg (by omega), if_pos k]
    exact actDo_any 113 (enters_of Tryz.func113 (by kernel_rfl) rfl) B _ _ s x w h ha (by rw [k]; rfl) fun W hW _ => (netGive_any B s x _ W hW hxa ha12 hg hx.p).mono fun e w' ⟨h1, h2, h3⟩ => ActP.of h1 h2 h3
   ·rw [if_neg (by omega), if_neg (by omega), if_neg (by omega), if_neg (by omega), if_pos k, if_neg (by omega), if_neg (by omega), if_neg (by omega), if_neg (by omega), if_pos k]
    exact actDo_any 114 (enters_of Tryz.func114 (by kernel_rfl) rfl) B _ _ s x w h ha (by rw [k]; rfl) fun W hW _ => (netTake_any B s x _ W hW hxa ha12 hpk g1).mono fun e w' ⟨h1, h2, h3⟩ => ActP.of h1 h2 h3
   ·rw [if_neg (by omega), if_neg (by omega), if_neg (by omega), if_neg (by omega), if_neg (by omega), if_pos k, if_neg (by omega), if_neg (by omega), if_neg (by omega), if_neg (by omega), if_neg (by omega), if_pos k]
    obtain ⟨s1, s2⟩ := Pl.sidesK_ok (L := s.L x.a.toNat) (fun i _ => hg.L _ i) 12 (Nat.le_refl _)
    refine actDo_any 115 (enters_of Tryz.func115 (by kernel_rfl) rfl) B _ _ s x w h ha (by rw [k]; rfl) fun W hW hb => (netTell_any B s x _ W hW hxa ha12 (hg.K _) s1 (fun p hp => ?_) (hg.P _) hpk (fun t ht => ?_) (hT.below hb)).mono fun e w' ⟨vk, h1, h2, h3, h4⟩ => ⟨_, vk, h1, OwnZ.nil _ _, h2, h3, h4⟩
    ·obtain ⟨_, q1, q2, q3, q4⟩ := s2 p hp
     exact Pl.pairOk_of (by omega)
    ·unfold Pl.tellI at ht
     simp only [List.mem_cons, List.not_mem_nil, or_false] at ht
     rcases ht with rfl | rfl
     ·have q1 := Pl.adjKey_size (x.a.toNat : Int) (by omega) (by omega)
      have q2 := Pl.adjText_short (d := s.D x.a.toNat) (L := s.L x.a.toNat) (fun i _ => hg.L _ i)
      exact ⟨Nat.le_trans q1 (by unfold maxLen; omega), Nat.le_trans q2 (by unfold maxLen; omega)⟩
     ·have q1 := Pl.pfxKey_size (x.a.toNat : Int) (by omega) (by omega)
      have q2 := Pl.pfxText_short (hg.P x.a.toNat)
      exact ⟨Nat.le_trans q1 (by unfold maxLen; omega), Nat.le_trans q2 (by unfold maxLen; omega)⟩
   ·rw [if_neg (by omega), if_neg (by omega), if_neg (by omega), if_neg (by omega), if_neg (by omega), if_neg (by omega), if_pos k, if_neg (by omega), if_neg (by omega), if_neg (by omega), if_neg (by omega), if_neg (by omega), if_neg (by omega), if_pos k]
    exact actDo_any 116 (enters_of Tryz.func116 (by kernel_rfl) rfl) B _ _ s x w h ha (by rw [k]; rfl) fun W hW _ => (netSend_any B s x _ W hW hxa ha12 (fun i _ => hg.K i) hx.n).mono fun e w' ⟨vk, h1, h2, h3, h4⟩ => ⟨_, vk, h1, OwnZ.nil _ _, h2, h3, h4⟩
   ·rw [if_neg (by omega), if_neg (by omega), if_neg (by omega), if_neg (by omega), if_neg (by omega), if_neg (by omega), if_neg (by omega), if_pos k, if_neg (by omega), if_neg (by omega), if_neg (by omega), if_neg (by omega), if_neg (by omega), if_neg (by omega), if_neg (by omega), if_pos k]
    exact actDo_any 117 (enters_of Tryz.func117 (by kernel_rfl) rfl) B _ _ s x w h ha (by rw [k]; rfl) fun W hW _ => (netWrite_any B s x W hW ha (Pl.Good.ok ((Pl.good_iff _).1 (hg.K _))) hx.key hx.val).mono fun e w' ⟨vk, h1, h2, h3, h4⟩ => ⟨_, vk, h1, OwnZ.nil _ _, h2, h3, h4⟩
   ·rw [if_neg (by omega), if_neg (by omega), if_neg (by omega), if_neg (by omega), if_neg (by omega), if_neg (by omega), if_neg (by omega), if_neg (by omega), if_pos k, if_neg (by omega), if_neg (by omega), if_neg (by omega), if_neg (by omega), if_neg (by omega), if_neg (by omega), if_neg (by omega), if_neg (by omega), if_pos k]
    exact actDo_any 118 (enters_of Tryz.func118 (by kernel_rfl) rfl) B _ _ s x w h ha (by rw [k]; rfl) fun W hW hb => (netDecide_any B s x _ W hW hxa ha12 (hg.K _) (hg.T _) (hT.below hb)).mono fun e w' ⟨h1, h2, h3⟩ => ActP.of h1 h2 h3
   ·rw [if_neg (by omega), if_neg (by omega), if_neg (by omega), if_neg (by omega), if_neg (by omega), if_neg (by omega), if_neg (by omega), if_neg (by omega), if_neg (by omega), if_neg (by omega), if_neg (by omega), if_neg (by omega), if_neg (by omega), if_neg (by omega), if_neg (by omega), if_neg (by omega), if_neg (by omega), if_neg (by omega)]
    exact actDo_any 119 (enters_of Tryz.func119 (by kernel_rfl) rfl) B _ _ s x w h ha (by rw [k]; rfl) fun W hW _ => (netWalk_any B s x _ W hW hxa ha12 hg hx.m).mono fun e w' ⟨vp, h1, h2, h3, h4⟩ => ⟨vp, _, h1, h2, OwnS.nil _ _, h3, h4⟩
  ·have eR : Pl.actR s x = Pl.Rp.no 2 := by unfold Pl.actR; rw [if_neg (by simpa using hk), if_pos (by simpa using ha)]
   have eN : Pl.actN s x = s := by unfold Pl.actN; rw [if_neg (by simpa using hk), if_pos (by simpa using ha)]
   rw [eR, eN]
   exact actNo_any 2 B s x w h (.inr ⟨rfl, doerV_func B hk, ha⟩)
 ·have eR : Pl.actR s x = Pl.Rp.no 3 := by unfold Pl.actR; rw [if_pos (by simpa using hk)]
  have eN : Pl.actN s x = s := by unfold Pl.actN; rw [if_pos (by simpa using hk)]
  rw [eR, eN]
  exact actNo_any 3 B s x w h (.inl ⟨rfl, hk⟩)
def acCells (x : Pl.Ac) : List Value := [.int .i64 x.kind, .int .i64 x.a, .int .i64 x.b, .int .i64 x.n, .int .i64 x.m, .int .i64 x.p.1, .int .i64 x.p.2, .string x.key, .string x.val]
def Pl.Ac.none : Pl.Ac := ⟨0, 0, 0, 0, 0, (0, 0), ⟨#[]⟩, ⟨#[]⟩⟩
def Pl.ac (xs : List Pl.Ac) (i : Nat) : Pl.Ac := xs.getD i Pl.Ac.none
theorem Pl.ac_eq (xs : List Pl.Ac) (i : Nat) (h : i < xs.length) : Pl.ac xs i = xs[i] := by simp [Pl.ac, List.getD, h]
theorem Pl.ac_mem (xs : List Pl.Ac) (i : Nat) (h : i < xs.length) : Pl.ac xs i ∈ xs := by rw [Pl.ac_eq xs i h]; exact List.getElem_mem h
theorem Pl.take_ac (xs : List Pl.Ac) (i : Nat) (h : i < xs.length) : xs.take (i + 1) = xs.take i ++ [Pl.ac xs i] := by
 rw [Pl.ac_eq xs i h]; exact (List.take_append_getElem h).symm
def ActsAt (w : World) (b off : Nat) (xs : List Pl.Ac) : Prop := ∀ i, i < xs.length → ∀ k v, (acCells (Pl.ac xs i))[k]? = some v → w.cell? ⟨b, off + i * 9 + k, none⟩ = some v
def IsActs (w : World) (a : Option Addr) (len cap : Nat) (xs : List Pl.Ac) : Prop :=
 xs.length = len ∧ len ≤ cap ∧ cap ≤ maxLen ∧ (∀ x ∈ xs, Pl.AcOk x) ∧ (xs = [] ∨ ∃ b off, a = some ⟨b, off, none⟩ ∧ b < w.heap.size ∧ ActsAt w b off xs)
theorem IsActs.below {w w' : World} {a : Option Addr} {len cap : Nat} {xs : List Pl.Ac} (h : IsActs w a len cap xs) (k : Below w.heap.size w w') : IsActs w' a len cap xs := by
 obtain ⟨h1, h2, h3, h4, h5⟩ := h
 refine ⟨h1, h2, h3, h4, ?_⟩
 rcases h5 with h5 | ⟨b, off, rfl, hb, hr⟩
 ·exact .inl h5
 ·exact .inr ⟨b, off, rfl, Nat.lt_of_lt_of_le hb k.size, fun i hi q v hv => (k.cell (p := ⟨b, _, none⟩) hb).trans (hr i hi q v hv)⟩
theorem IsActs.at {w : World} {a : Option Addr} {len cap : Nat} {xs : List Pl.Ac} (h : IsActs w a len cap xs) {k : Nat} (hk : k < len) : ∃ b off, a = some ⟨b, off, none⟩ ∧ b < w.heap.size ∧ ActsAt w b off xs := by
 rcases h.2.2.2.2 with e | h'
 ·have := h.1; rw [e] at this; simp at this; omega
 ·exact h'
theorem ActsAt.nine {w : World} {b off : Nat} {xs : List Pl.Ac} (h : ActsAt w b off xs) {i : Nat} (hi : i < xs.length) {x : Pl.Ac} (hx : Pl.ac xs i = x) :
  w.cell? ⟨b, off + i * 9, none⟩ = some (.int .i64 x.kind) ∧ w.cell? ⟨b, off + i * 9 + 1, none⟩ = some (.int .i64 x.a) ∧ w.cell? ⟨b, off + i * 9 + 2, none⟩ = some (.int .i64 x.b) ∧ w.cell? ⟨b, off + i * 9 + 3, none⟩ = some (.int .i64 x.n) ∧ w.cell? ⟨b, off + i * 9 + 4, none⟩ = some (.int .i64 x.m) ∧ w.cell? ⟨b, off + i * 9 + 5, none⟩ = some (.int .i64 x.p.1) ∧ w.cell? ⟨b, off + i * 9 + 6, none⟩ = some (.int .i64 x.p.2) ∧ w.cell? ⟨b, off + i * 9 + 7, none⟩ = some (.string x.key) ∧ w.cell? ⟨b, off + i * 9 + 8, none⟩ = some (.string x.val) := by
 have g := h i hi
 rw [hx] at g
 exact ⟨g 0 _ rfl, g 1 _ rfl, g 2 _ rfl, g 3 _ rfl, g 4 _ rfl, g 5 _ rfl, g 6 _ rfl, g 7 _ rfl, g 8 _ rfl⟩
structure RpV where
 vp : Value
 vk : Value
 r : Pl.Rp
def cellsRp : List RpV → List Value
 | [] => []
 | t :: r => .int .i64 t.r.code :: t.vp :: .int .i64 t.r.cost :: t.vk :: cellsRp r
theorem cellsRp_append : ∀ a b : List RpV, cellsRp (a ++ b) = cellsRp a ++ cellsRp b
 | [], _ => rfl
 | t :: r, b => by simp [cellsRp, cellsRp_append r b]
def OwnRp (w : World) (base : Nat) (v : Value) (ts : List RpV) : Prop := w.ownsRow base 40 4 v ts.length (cellsRp ts) ∧ ∀ t ∈ ts, OwnZ w base t.vp t.r.path ∧ OwnS w base t.vk t.r.keys
theorem infoReply : (Tryz.prog.info? 40).map (fun i => (i.zero, i.size, i.bytes)) = some (some (.agg #[.int .i64 0, .slice none 0 0, .int .i64 0, .slice none 0 0]), 4, 64) := by kernel_rfl
theorem OwnRp.nil (w : World) (base : Nat) : OwnRp w base (.slice none 0 0) [] := ⟨World.ownsRow_nil _ _ _ _, fun t h => (by cases h)⟩
theorem OwnRp.below {w w' : World} {base : Nat} {v : Value} {ts : List RpV} (h : OwnRp w base v ts) (k : Below w.heap.size w w') : OwnRp w' base v ts := ⟨ownsRow_under h.1 k, fun t ht => ⟨(h.2 t ht).1.below k, (h.2 t ht).2.below k⟩⟩
theorem OwnRp.mono {w : World} {base base' : Nat} {v : Value} {ts : List RpV} (h : OwnRp w base v ts) (k : base' ≤ base) : OwnRp w base' v ts := ⟨World.ownsRow_mono h.1 k, fun t ht => ⟨(h.2 t ht).1.mono k, World.ownsRow_mono (h.2 t ht).2 k⟩⟩
theorem ownsRow_nkept {B : Nat} {w w' : World} {base : Nat} {e : TypeId} {sz : Nat} {v : Value} {n : Nat} {xs : List Value} (h : w.ownsRow base e sz v n xs) (k : NKept B w w') (hB : B < base) (he : e ≠ 49) : w'.ownsRow base e sz v n xs := by
 obtain ⟨h0, h1⟩ := h
 refine ⟨h0, ?_⟩
 rcases h1 with h1 | ⟨g, cap, cur, rfl, hb, hh, hr⟩
 ·exact .inl h1
 ·refine .inr ⟨g, cap, cur, rfl, hb, (k.block g (blockLt hh) (by omega) (.inr ?_)).trans hh, hr⟩
  intro c m q
  rw [hh] at q
  simp at q
  exact he q.2.1
theorem OwnRp.nkept {B : Nat} {w w' : World} {base : Nat} {v : Value} {ts : List RpV} (h : OwnRp w base v ts) (k : NKept B w w') (hB : B < base) : OwnRp w' base v ts :=
 ⟨ownsRow_nkept h.1 k hB (by decide), fun t ht => ⟨ownsRow_nkept (h.2 t ht).1 k hB (by decide), ownsRow_nkept (h.2 t ht).2 k hB (by decide)⟩⟩
theorem append_rp {w : World} {ops : Array Oper} {rest : List Oper} {o : Oper} {a : Act} {Q : Exit → Act → World → Prop} (hgd : o.guard = none) (s x : Operand)
  (ho : o.op = .call { callee := .builtin .append, args := #[s, x], argTypes := #[23, 23] })
  (base : Nat) (v : Value) (ts : List RpV) (t : RpV) (ea eb : Option Addr) (el ec fl fc : Nat) (ep : t.vp = .slice ea el ec) (ek : t.vk = .slice eb fl fc) (hs : a.eval s = v) (hown : w.ownsRow base 40 4 v ts.length (cellsRp ts)) (hbase : base ≤ w.heap.size) (hx : a.eval x = .slice (some ⟨w.heap.size, 0, none⟩) 1 1) (hb : ts.length ≤ 1000000)
  (h : ∀ v' w', w'.ownsRow base 40 4 v' (ts ++ [t]).length (cellsRp (ts ++ [t])) → (w.alloc (.cells #[.int .i64 t.r.code, t.vp, .int .i64 t.r.cost, t.vk] 40)).grownBy w' v.ownBlock → wpList Tryz.prog ops Q rest (a.put o.dst v') w') :
  wpList Tryz.prog ops Q (o :: rest) a (w.alloc (.cells #[.int .i64 t.r.code, t.vp, .int .i64 t.r.cost, t.vk] 40)) := by
 obtain ⟨i0, hi0, hz0, hz1, hz2⟩ := partsOf infoReply
 refine wpList_append_own (w := _) hgd s x 23 ho base 40 i0 _ 4 64 Tryz.underlying23 hi0 hz0 hz1 hz2 rfl (by decide) _ ts.length (cellsRp ts) hs (World.ownsRow.alloc hown _) ⟨w.heap.size, 0, none⟩ 1 1 [.int .i64 t.r.code, t.vp, .int .i64 t.r.cost, t.vk] hx rfl ?_ ?_ (by unfold maxLen; omega) (by omega) (by simp; omega) ?_
 ·have hn := heapNew w (.cells #[.int .i64 t.r.code, t.vp, .int .i64 t.r.cost, t.vk] 40)
  obtain ⟨⟨c0, c1, c2, c3⟩, _, _⟩ := box4c hn
  intro j u hj
  rw [add_none]
  match j, hj with
  | 0, hj => simp at hj; subst hj; exact c0
  | 1, hj => simp at hj; subst hj; exact c1
  | 2, hj => simp at hj; subst hj; exact c2
  | 3, hj => simp at hj; subst hj; exact c3
  | j + 4, hj => simp at hj
 ·intro u hu
  rw [ep, ek] at hu
  simp at hu
  rcases hu with rfl | rfl | rfl | rfl <;> rfl
 ·intro v' w' hown' hg _
  refine h v' w' ?_ hg
  rw [cellsRp_append]
  simpa [cellsRp] using hown'
theorem grown_keeps {w w' : World} {base sz n : Nat} {v : Value} {xs : List Value} (hv : w.ownsRow base 40 sz v n xs) (hg : w.grownBy w' v.ownBlock) {base2 : Nat} {e : TypeId} {sz2 : Nat} {u : Value} {m : Nat} {ys : List Value} (h : w.ownsRow base2 e sz2 u m ys) (he : e ≠ 40) : w'.ownsRow base2 e sz2 u m ys :=
 World.ownsRow.kept h hg (apartTy he h hv)
theorem NetAt.grown {w w' : World} {B : Nat} {s : Pl.Nt} {base sz n : Nat} {v : Value} {xs : List Value} (h : NetAt w B s) (hv : w.ownsRow base 40 sz v n xs) (hg : w.grownBy w' v.ownBlock) (hB : B < base) : NetAt w' B s := by
 have hlt := World.ownsRow.lt hv
 have hBl := h.lt
 obtain ⟨VP, VK, VT, h1, h2, h3, h4, h5⟩ := h
 refine ⟨VP, VK, VT, (hg.block B hBl (fun e => by have := (hlt B e.symm).1; omega)).trans h1, fun i hi => grown_keeps hv hg (h2 i hi) (by decide), fun i hi => grown_keeps hv hg (h3 i hi) (by decide), fun i hi => ?_, h5⟩
 obtain ⟨hs, q⟩ := h4 i hi
 refine ⟨hs, grown_keeps hv hg q.1 (by decide), q.2.1, fun j hj => ?_⟩
 obtain ⟨q1, q2, q3, q4, q5⟩ := q.2.2 j hj
 exact ⟨q1, q2, q3, grown_keeps hv hg q4 (by decide), q5⟩
theorem NKept.grownRp {B : Nat} {w w' : World} {base sz n : Nat} {v : Value} {xs : List Value} {a : World} (h : NKept B a w) (hv : w.ownsRow base 40 sz v n xs) (hg : w.grownBy w' v.ownBlock) (hb : a.heap.size ≤ base) : NKept B a w' :=
 ⟨hg.os.trans h.os, hg.tape.trans h.tape, hg.output.trans h.output, Nat.le_trans h.size hg.size, fun k hk hB ht => by
  have hlt := World.ownsRow.lt hv
  exact (hg.block k (Nat.lt_of_lt_of_le hk h.size) (fun e => by have := (hlt k e.symm).1; omega)).trans (h.block k hk hB ht)⟩
theorem NKept.below {B C : Nat} {w w' : World} (h : NKept B w w') (hC : C ≤ B) (hw : C ≤ w.heap.size) : Below C w w' := ⟨h.os, h.tape, h.output, h.size, fun k hk => h.block k (by omega) (by omega) (.inl (by omega))⟩
theorem zeroNw : Tryz.zeroCells92 = Array.ofFn (n := 192) fun i => nwCell (fun _ => false) (fun _ => .slice none 0 0) (fun _ => .slice none 0 0) (fun _ => .slice none 0 0) (fun _ _ => 0) i.1 := by kernel_rfl
theorem NetAt.new (w : World) : NetAt (w.alloc (.cells Tryz.zeroCells92 92)) w.heap.size Pl.Nt.new := by
 refine ⟨fun _ => .slice none 0 0, fun _ => .slice none 0 0, fun _ => .slice none 0 0, ?_, fun i _ => OwnP.nil _ _ _, fun i _ => ?_, fun i _ => ⟨[], OwnTb.nil _ _⟩, fun i j _ _ _ => .inl rfl⟩
 ·show _ = _
  rw [zeroNw]
  exact heapNew _ _
 ·exact World.ownsRow_nil _ _ _ _
def RunP (w : World) (xs : List Pl.Ac) (w' : World) (vr vs : Value) : Prop :=
 (∃ ts, OwnRp w' w.heap.size vr ts ∧ ts.map RpV.r = Pl.runR Pl.Nt.new xs) ∧ ∃ us, OwnL w' w.heap.size vs us ∧ us.length = 12 ∧ ∀ i, i < 12 → Own w' w.heap.size (us.getD i undef) ((Pl.runN Pl.Nt.new xs).K i)
set_option maxHeartbeats 8000000 in
theorem Run_any (a : Option Addr) (len cap : Nat) (xs : List Pl.Ac) (w : World) (h : IsActs w a len cap xs) (hl : len ≤ 400) (hT : Tab w) :
  Calls Tryz.prog 12 #[.slice a len cap] w fun e w' => ∃ vr vs, e = .returned (.tuple #[vr, vs, .int .i64 0]) ∧ RunP w xs w' vr vs ∧ Below w.heap.size w w' := by
 have HA := hid h
 have HTab := hid hT
 have HLN := hid h.1
 have HOK := hid h.2.2.2.1
 have hcap := h.2.1
 have hmx := h.2.2.1
 unfold maxLen at hmx
 clear h hT
 have hl' : ¬ (400 : Int) < (len : Int) := by omega
 obtain ⟨W1, HW1⟩ : ∃ W, Hid (W = w.alloc (.cells Tryz.zeroCells92 92)) := ⟨_, hid rfl⟩
 have HN1 : Hid (NetAt W1 w.heap.size Pl.Nt.new) := hid (by rw [HW1.out]; exact NetAt.new w)
 have HB1 : Hid (Below w.heap.size w W1) := hid (by rw [HW1.out]; exact (Below.refl _ _).alloc (Nat.le_refl _) _)
 have hz1 : W1.heap.size = w.heap.size + 1 := by rw [HW1.out]; simp
 go_enter Tryz.func12, Tryz.ntmps12
 go_wp2_with (rw [← HW1.out])
 go_loopw [6, 14] (fun vr vi wr => ∃ (k : Nat) (v : Value) (ts : List RpV), v = vr ∧ vi = .int .i64 k ∧ k ≤ len ∧ Hid (OwnRp wr (w.heap.size + 1) v ts) ∧ Hid (ts.map RpV.r = Pl.runR Pl.Nt.new (xs.take k)) ∧ Hid (NetAt wr w.heap.size (Pl.runN Pl.Nt.new (xs.take k))) ∧ Hid (NKept w.heap.size W1 wr)) (fun _ vi _ => len - (intOf vi).toNat)
 case atStart => exact ⟨0, _, [], rfl, rfl, by omega, hid (OwnRp.nil _ _), hid rfl, hid HN1.out, hid (NKept.refl _ _)⟩
 case round =>
  obtain ⟨k, v, ts, hv, rfl, hk, HO, HTS, HN, HK⟩ := hrel
  subst hv
  have HLT : Hid (ts.length = k) := hid (by
   have := congrArg List.length HTS.out
   rw [List.length_map, Pl.runR_len, List.length_take, HLN.out] at this
   omega)
  have HBW : Hid (Below w.heap.size w wr) := hid (HB1.out.trans (HK.out.below (Nat.le_refl _) (by omega)))
  have hzr := HK.out.size
  obtain ⟨ra, rc, rfl⟩ := ownsRow_slice HO.out.1
  obtain ⟨nr, HNR⟩ : ∃ c, Hid (ts.length = c) := ⟨_, hid rfl⟩
  by_cases hkl : k < len
  ·have hkl' : (k : Int) < (len : Int) := by omega
   obtain ⟨b, off, rfl, hbw, hr⟩ := HA.out.at hkl
   obtain ⟨x, HX⟩ : ∃ x, Hid (Pl.ac xs k = x) := ⟨_, hid rfl⟩
   have HXOK : Hid (Pl.AcOk x) := hid (by rw [← HX.out]; exact HOK.out _ (Pl.ac_mem xs k (by rw [HLN.out]; exact hkl)))
   obtain ⟨c0, c1, c2, c3, c4, c5, c6, c7, c8⟩ := hr.nine (by rw [HLN.out]; exact hkl) HX.out
   have HTK : Hid (xs.take (k + 1) = xs.take k ++ [x]) := hid (by rw [← HX.out]; exact Pl.take_ac xs k (by rw [HLN.out]; exact hkl))
   obtain ⟨s, HS⟩ : ∃ s, Hid (Pl.runN Pl.Nt.new (xs.take k) = s) := ⟨_, hid rfl⟩
   rw [HS.out] at HN
   have HG : Hid (Pl.GoodN s) := hid (by rw [← HS.out]; exact Pl.GoodN.new.run _)
   have HR1 : Hid (Pl.runR Pl.Nt.new (xs.take (k + 1)) = Pl.runR Pl.Nt.new (xs.take k) ++ [Pl.actR s x]) := hid (by rw [HTK.out, Pl.runR_snoc, HS.out])
   have HN2 : Hid (Pl.runN Pl.Nt.new (xs.take (k + 1)) = Pl.actN s x) := hid (by rw [HTK.out, Pl.runN_snoc, HS.out])
   obtain ⟨W2, HW2⟩ : ∃ W, Hid (W = wr.alloc (.cells #[.int .i64 x.kind, .int .i64 x.a, .int .i64 x.b, .int .i64 x.n, .int .i64 x.m, .int .i64 x.p.1, .int .i64 x.p.2, .string x.key, .string x.val] 51)) := ⟨_, hid rfl⟩
   have HB2 : Hid (Below wr.heap.size wr W2) := hid (by rw [HW2.out]; exact (Below.refl _ _).alloc (Nat.le_refl _) _)
   have hx2 : W2.heap[wr.heap.size]? = some (.cells #[.int .i64 x.kind, .int .i64 x.a, .int .i64 x.b, .int .i64 x.n, .int .i64 x.m, .int .i64 x.p.1, .int .i64 x.p.2, .string x.key, .string x.val] 51) := by rw [HW2.out]; exact heapNew _ _
   have HAC := hid (act_any w.heap.size s x W2 (HN.out.below HB2.out) HG.out HXOK.out (HTab.out.below (HBW.out.trans (HB2.out.mono (by omega)))))
   unfold acV at HAC
   have d0 := (HBW.out.cell (p := ⟨b, off + k * 9, none⟩) hbw).trans c0
   have d1 := (HBW.out.cell (p := ⟨b, off + k * 9 + 1, none⟩) hbw).trans c1
   have d2 := (HBW.out.cell (p := ⟨b, off + k * 9 + 2, none⟩) hbw).trans c2
   have d3 := (HBW.out.cell (p := ⟨b, off + k * 9 + 3, none⟩) hbw).trans c3
   have d4 := (HBW.out.cell (p := ⟨b, off + k * 9 + 4, none⟩) hbw).trans c4
   have d5 := (HBW.out.cell (p := ⟨b, off + k * 9 + 5, none⟩) hbw).trans c5
   have d6 := (HBW.out.cell (p := ⟨b, off + k * 9 + 6, none⟩) hbw).trans c6
   have d7 := (HBW.out.cell (p := ⟨b, off + k * 9 + 7, none⟩) hbw).trans c7
   have d8 := (HBW.out.cell (p := ⟨b, off + k * 9 + 8, none⟩) hbw).trans c8
   obtain ⟨r, HRR⟩ : ∃ r, Hid (Pl.actR s x = r) := ⟨_, hid rfl⟩
   obtain ⟨sn, HSN⟩ : ∃ r, Hid (Pl.actN s x = r) := ⟨_, hid rfl⟩
   rw [HRR.out, HSN.out] at HAC
   rw [HRR.out] at HR1
   rw [HSN.out] at HN2
   obtain ⟨kind, xa, xb, n, m, ⟨p1, p2⟩, key, val⟩ := x
   simp only at d0 d1 d2 d3 d4 d5 d6 d7 d8 HAC HW2 hx2
   have hzw2 := HB2.out.size
   obtain ⟨e0, e1, e2, e3, e4, e5, e6, e7, e8⟩ := box9 hx2
   clear c0 c1 c2 c3 c4 c5 c6 c7 c8 hr hx2
   rw [HNR.out]
   go_wp2_with (rw [← HW2.out])
   refine HAC.out.mono ?_
   rintro e w3 ⟨vp, vk, rfl, hp3, hk3, hn3, hkk⟩
   obtain ⟨ya, yc, rfl⟩ := ownsRow_slice hp3
   obtain ⟨za, zc, rfl⟩ := ownsRow_slice hk3
   have HKK : Hid (NKept w.heap.size W1 w3) := hid ((HK.out.trans (NKept.of (But.of HB2.out))).trans hkk)
   have HOT : Hid (OwnRp w3 (w.heap.size + 1) (.slice ra ts.length rc) ts) := hid ((HO.out.below HB2.out).nkept hkk (by omega))
   have HP3 := hid hp3
   have HK3 := hid hk3
   have HN3 := hid hn3
   have hz3 := hkk.size
   obtain ⟨np, HNP⟩ : ∃ c, Hid (r.path.length = c) := ⟨_, hid rfl⟩
   obtain ⟨nk, HNK⟩ : ∃ c, Hid (r.keys.length = c) := ⟨_, hid rfl⟩
   rw [HNP.out] at HP3 ⊢
   rw [HNK.out] at HK3 ⊢
   have hnr : ts.length ≤ 1000000 := by have := HLT.out; omega
   clear e0 e1 e2 e3 e4 e5 e6 e7 e8 d0 d1 d2 d3 d4 d5 d6 d7 d8 hp3 hk3 hn3 hkk
   have HAP := hid (HNR.out)
   go_wp2_with (at_builtin; refine append_rp rfl (.tmp 18) (.tmp 21) rfl (w.heap.size + 1) (.slice ra ts.length rc) ts ⟨.slice ya np yc, .slice za nk zc, r⟩ ya za np yc nk zc rfl rfl (by rw [HAP.out]; rfl) HOT.out.1 (by omega) rfl hnr ?_; intro v7 w7 ho7 hg7; obtain ⟨a7, c7, rfl⟩ := ownsRow_slice ho7; have HO7 := hid ho7; have HG7 := hid hg7; obtain ⟨n7, HN7⟩ : ∃ c, Hid ((ts ++ [(⟨.slice ya np yc, .slice za nk zc, r⟩ : RpV)]).length = c) := ⟨_, hid rfl⟩; rw [HN7.out]; clear ho7 hg7)
   have HVR := hid (World.ownsRow.alloc HOT.out.1 (.cells #[.int .i64 r.code, .slice ya np yc, .int .i64 r.cost, .slice za nk zc] 40))
   have hb3 : Below w3.heap.size w3 (w3.alloc (.cells #[.int .i64 r.code, .slice ya np yc, .int .i64 r.cost, .slice za nk zc] 40)) := (Below.refl _ _).alloc (Nat.le_refl _) _
   go_roundw
   case rel =>
    refine ⟨k + 1, _, ts ++ [⟨.slice ya np yc, .slice za nk zc, r⟩], rfl, by go_num, by omega, hid ⟨?_, fun t ht => ?_⟩, hid ?_, hid ?_, hid ?_⟩
    ·have h1 := HO7.out
     rw [HN7.out] at h1 ⊢
     exact h1
    ·rcases List.mem_append.1 ht with ht | ht
     ·obtain ⟨q1, q2⟩ := HOT.out.2 t ht
      exact ⟨grown_keeps HVR.out HG7.out (OwnZ.below q1 hb3) (by decide), grown_keeps HVR.out HG7.out (OwnS.below q2 hb3) (by decide)⟩
     ·have ht : t = ⟨.slice ya np yc, .slice za nk zc, r⟩ := by simpa using ht
      subst ht
      have h1 := (HP3.out.mono (show w.heap.size + 1 ≤ W2.heap.size by omega)).below hb3
      have h2 := OwnS.below (World.ownsRow_mono HK3.out (show w.heap.size + 1 ≤ W2.heap.size by omega)) hb3
      exact ⟨grown_keeps HVR.out HG7.out h1 (by decide), grown_keeps HVR.out HG7.out h2 (by decide)⟩
    ·rw [HR1.out, ← HTS.out, List.map_append]; rfl
    ·rw [HN2.out]
     exact NetAt.grown (HN3.out.below hb3) HVR.out HG7.out (Nat.lt_succ_self _)
    ·exact NKept.grownRp (HKK.out.trans (NKept.of (But.of hb3))) HVR.out HG7.out (by omega)
   case measure => simp [intOf]; omega
  ·obtain rfl : k = len := by omega
   have HTF : Hid (xs.take k = xs) := hid (by rw [← HLN.out]; exact List.take_length)
   rw [HTF.out] at HTS HN
   have HST := hid (netStores_any w.heap.size (Pl.runN Pl.Nt.new xs) wr HN.out)
   rw [HNR.out]
   go_wp2_with fail
   refine HST.out.mono ?_
   rintro e w5 ⟨v5, us, rfl, ho5, hu5, hs5, hb5⟩
   obtain ⟨ua, uc, rfl⟩ := ownsRow_slice ho5
   obtain ⟨n5, HN5⟩ : ∃ c, Hid (us.length = c) := ⟨_, hid rfl⟩
   have HO5 := hid ho5
   have HS5 := hid hs5
   have HB5 := hid hb5
   have HU5 := hid hu5
   rw [HN5.out]
   clear ho5 hs5 hb5 hu5
   go_wp2_with fail
   refine bodyPost_ret (v := .tuple #[.slice ra nr rc, .slice ua n5 uc, .int .i64 0]) (by simp [results, Tryz.results12, go_sem]) rfl ⟨_, _, rfl, ⟨⟨ts, ?_, HTS.out⟩, us, ?_, HU5.out, fun i hi => Own.mono (HS5.out i hi) (by omega)⟩, HBW.out.trans (HB5.out.mono HBW.out.size)⟩
   ·rw [← HNR.out]
    exact (HO.out.below HB5.out).mono (by omega)
   ·have h1 := HO5.out
    rw [HN5.out] at h1
    exact World.ownsRow_mono h1 HBW.out.size
set_option maxHeartbeats 2000000 in
theorem TopRun_any (a : Option Addr) (len cap : Nat) (xs : List Pl.Ac) (w : World) (h : IsActs w a len cap xs) (hl : len ≤ 400) (hT : Tab w) :
  Calls Tryz.prog 24 #[.slice a len cap] w fun e w' => ∃ vr vs, e = .returned (.tuple #[vr, vs, .int .i64 0]) ∧ RunP w xs w' vr vs ∧ Below w.heap.size w w' := by
 have HR := hid (Run_any a len cap xs w h hl hT)
 have HL := hid h.1
 clear h hT
 go_enter Tryz.func24, Tryz.ntmps24
 go_wp2_with (go_at_call 12; go_loud (refine HR.out.mono ?_; rintro e w1 ⟨vr, vs, rfl, ⟨⟨ts, ht, hts⟩, hus⟩, hb⟩; obtain ⟨ra, rc, rfl⟩ := ownsRow_slice ht.1; have hlen : ts.length = len := (by rw [← HL.out, ← Pl.runR_len Pl.Nt.new xs, ← hts, List.length_map]); rw [hlen] at ht ⊢; have HP := hid (And.intro hlen (And.intro ht (And.intro hts (And.intro hus hb)))); clear hlen ht hts hus hb))
 refine bodyPost_ret (v := .tuple #[.slice ra len rc, vs, .int .i64 0]) (by simp [results, Tryz.results24, go_sem]) rfl ?_
 obtain ⟨hlen, ht, hts, hus, hb⟩ := HP.out
 rw [← hlen] at ht ⊢
 exact ⟨_, _, rfl, ⟨⟨ts, ht, hts⟩, hus⟩, hb⟩
end Go.Proofs.YtjjelkdajdeikaaGreatDoor
