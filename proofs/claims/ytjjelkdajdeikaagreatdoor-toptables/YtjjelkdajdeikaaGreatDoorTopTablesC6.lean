/-
  Contracts and facts that the proof rests on, put together out of several texts.
-/
import Derived.Test.YtjjelkdajdeikaaGreatDoorShelf
import Derived.Test.YtjjelkdajdeikaaGreatDoorTopTablesC1
import Derived.Lib.ItoaMem
import Derived.Lib.ItoaLen
import Derived.Lib.Join
import Derived.Test.YtjjelkdajdeikaaGreatDoorTopTablesC4
import Derived.Test.YtjjelkdajdeikaaGreatDoorTopTablesC2
import Derived.Test.YtjjelkdajdeikaaGreatDoorTopTablesC3
import Derived.Laws.Cover3
import Derived.Laws.IdiomStrings
import Derived.Lib.BufferRead
namespace Go.Proofs.YtjjelkdajdeikaaGreatDoor
open Go.RowKit
set_option maxRecDepth 20000
def Tab (w : World) : Prop := Lib.TabIs Tryz.prog w "internal/strconv.uint64pow10" .u64 Lib.pow10Tab
theorem Tab.below {w w' : World} (h : Tab w) (k : Below w.heap.size w w') : Tab w' := by
 unfold Tab Lib.TabIs World.var? at h ⊢
 cases hg : Tryz.prog.globalNamed "internal/strconv.uint64pow10" with
 | none => rw [hg] at h; cases h
 | some g =>
 rw [hg] at h
 simp only [Option.bind_some] at h ⊢
 have hlt : g < w.heap.size := by
  rcases Nat.lt_or_ge g w.heap.size with h' | h'
  ·exact h'
  ·rw [Array.getElem?_eq_none h'] at h; cases h
 rw [k.block g hlt]
 exact h
theorem below_grow (w : World) (k : Nat) (os : Array Obj) : Below w.heap.size w (Sort.grow (w.drewN k) os) := by
 refine ⟨rfl, rfl, rfl, ?_, fun j hj => ?_⟩
 ·show w.heap.size ≤ (w.heap ++ os).size
  simp
 ·show (w.heap ++ os)[j]? = w.heap[j]?
  rw [Array.getElem?_append_left hj]
def Pl.dec (n : Int) : ByteArray := ⟨(Lib.itoa n).toArray⟩
theorem Pl.dec_size (n : Int) (h0 : -9223372036854775808 ≤ n) (h1 : n ≤ 9223372036854775807) : (Pl.dec n).size ≤ 21 := by
 have := Lib.itoa_length_le n h0 h1
 show (Lib.itoa n).toArray.size ≤ 21
 simpa using this
theorem Itoa_any (n : Int) (w : World) (h0 : 0 ≤ n) (h1 : n ≤ 100000) (hT : Tab w) :
  Calls Tryz.prog 31 #[.int .i64 n] w fun e w' => e = .returned (.string (Pl.dec n)) ∧ Below w.heap.size w w' :=
 (Tryz.strconv_Itoa n (by omega) (by omega) w hT).mono fun e w' ⟨h, k, os, hw⟩ => ⟨h, hw ▸ below_grow w k os⟩
def Pl.sideT (m : ByteArray) (p : Int × Int) : ByteArray := Pl.dec p.1 ++ m ++ Pl.dec p.2
def Pl.showT (m : ByteArray) (ps : List (Int × Int)) : ByteArray := ⟨(Lib.join ((ps.map (Pl.sideT m)).map (·.data.toList)) [44]).toArray⟩
def Pl.small (p : Int × Int) : Prop := 0 ≤ p.1 ∧ p.1 ≤ 1000 ∧ 0 ≤ p.2 ∧ p.2 ≤ 1000
theorem Pl.dec_le (n : Int) (h0 : 0 ≤ n) (h1 : n ≤ 1000) : (Pl.dec n).size ≤ 21 := Pl.dec_size n (by omega) (by omega)
theorem Pl.sideT_size (m : ByteArray) (p : Int × Int) (h : Pl.small p) : (Pl.sideT m p).size ≤ 42 + m.size := by
 obtain ⟨h1, h2, h3, h4⟩ := h
 unfold Pl.sideT
 rw [ByteArray.size_append, ByteArray.size_append]
 have := Pl.dec_le p.1 h1 h2
 have := Pl.dec_le p.2 h3 h4
 omega
def Pl.gotE (es : List Pl.Ent) (key : ByteArray) : Pl.Ent := if Pl.fault es = 0 then (if Pl.there es key then Pl.ent es (Pl.pos es key) else Pl.Ent.none) else Pl.Ent.none
def Pl.gotC (es : List Pl.Ent) (key : ByteArray) : Int := if Pl.fault es = 0 then (if Pl.there es key then 0 else 6) else Pl.fault es
set_option maxHeartbeats 400000 in
theorem Get_any (a : Option Addr) (len cap : Nat) (es : List Pl.Ent) (key : ByteArray) (w : World) (h : IsEnts w a len cap es) :
  Calls Tryz.prog 30 #[.slice a len cap, .string key] w fun e w' =>
   e = .returned (.tuple #[.agg #[.string (Pl.gotE es key).key, .int .i64 (Pl.gotE es key).ver, .int .i64 (Pl.gotE es key).org, .string (Pl.gotE es key).val], .int .i64 (Pl.gotC es key)]) ∧ Below w.heap.size w w' := by
 have HH : Hid (IsEnts w a len cap es) := h
 clear h
 obtain ⟨c, HC⟩ : ∃ c, Hid (Pl.fault es = c) := ⟨_, rfl⟩
 by_cases hc0 : c = 0
 ·subst hc0
  obtain ⟨g1, g2, g3⟩ := Pl.good_of_fault HC.out
  have hlen : es.length = len := HH.out.1
  have HL : Hid (len ≤ 60) := by show _ ≤ _; omega
  have HA : Hid (Pl.Asc es) := g3
  clear g1 g2 g3
  obtain ⟨t, HT⟩ : ∃ t, Hid (Pl.there es key = t) := ⟨_, rfl⟩
  cases t
  ·have HE : Hid (Pl.gotE es key = Pl.Ent.none ∧ Pl.gotC es key = 6) := by unfold Pl.gotE Pl.gotC; rw [HC.out, HT.out]; exact ⟨rfl, rfl⟩
   go_enter Tryz.func30, Tryz.ntmps30
   go_wp2_with fail
   refine (Check_any _ _ _ es _ (HH.out.below ((Below.refl _ _).alloc (Nat.le_refl _) _))).mono ?_
   rw [HC.out]
   rintro e w1 ⟨rfl, hb1⟩
   have hz := hb1.size
   simp at hz
   go_wp2_with fail
   refine (find_any _ _ _ es key _ (HH.out.below (((Below.refl _ _).alloc (Nat.le_refl _) _).trans (hb1.mono (by simp)))) HA.out HL.out).mono ?_
   rw [HT.out]
   rintro e w2 ⟨rfl, hb2⟩
   have hb12 := hb1.trans (hb2.mono (by simp; omega))
   obtain ⟨hcc, hff⟩ := bcell hb12
   go_wp2_with fail
   refine bodyPost_ret (v := .tuple #[.agg #[.string (Pl.gotE es key).key, .int .i64 (Pl.gotE es key).ver, .int .i64 (Pl.gotE es key).org, .string (Pl.gotE es key).val], .int .i64 (Pl.gotC es key)]) (by rw [HE.out.1, HE.out.2]; simp [results, Tryz.results30, go_sem, hcc, Pl.Ent.none]) rfl ⟨rfl, ((((((Below.refl _ _).alloc (Nat.le_refl _) _).trans (hb12.mono (by simp))).setCell (Nat.le_refl _) _).setCell (Nat.le_refl _) _).setCell (Nat.le_refl _) _).setCell (Nat.le_refl _) _⟩
  ·have hlt : Pl.pos es key < len := by
    have := HT.out
    unfold Pl.there at this
    simp only [Bool.and_eq_true, decide_eq_true_eq] at this
    omega
   have HE : Hid (Pl.gotE es key = Pl.ent es (Pl.pos es key) ∧ Pl.gotC es key = 0) := by unfold Pl.gotE Pl.gotC; rw [HC.out, HT.out]; exact ⟨rfl, rfl⟩
   obtain ⟨p, HP⟩ : ∃ p, Hid (Pl.pos es key = p) := ⟨_, rfl⟩
   rw [HP.out] at hlt HE
   obtain ⟨b, off, rfl, hbw, hr⟩ : ∃ b off, a = some ⟨b, off, none⟩ ∧ b < w.heap.size ∧ RowAt w b off es := by
    rcases HH.out.2.2.2.2 with h | h
    ·rw [h] at hlen; simp at hlen; omega
    ·exact h
   have hcap := HH.out.2.1
   have hm := HH.out.2.2.1
   unfold maxLen at hm
   obtain ⟨q0, q1, q2, q3⟩ := hr p (by omega)
   have hlt' : (p : Int) < (len : Int) := by omega
   go_enter Tryz.func30, Tryz.ntmps30
   go_wp2_with fail
   refine (Check_any _ _ _ es _ (HH.out.below ((Below.refl _ _).alloc (Nat.le_refl _) _))).mono ?_
   rw [HC.out]
   rintro e w1 ⟨rfl, hb1⟩
   have hz := hb1.size
   simp at hz
   go_wp2_with fail
   refine (find_any _ _ _ es key _ (HH.out.below (((Below.refl _ _).alloc (Nat.le_refl _) _).trans (hb1.mono (by simp)))) HA.out HL.out).mono ?_
   rw [HT.out, HP.out]
   rintro e w2 ⟨rfl, hb2⟩
   have hb12 := hb1.trans (hb2.mono (by simp; omega))
   obtain ⟨hcc, hff⟩ := bcell hb12
   go_wp2_with fail
   refine bodyPost_ret (v := .tuple #[.agg #[.string (Pl.gotE es key).key, .int .i64 (Pl.gotE es key).ver, .int .i64 (Pl.gotE es key).org, .string (Pl.gotE es key).val], .int .i64 (Pl.gotC es key)]) (by rw [HE.out.1, HE.out.2]; simp [results, Tryz.results30, go_sem, hcc]) rfl ⟨rfl, ((((((Below.refl _ _).alloc (Nat.le_refl _) _).trans (hb12.mono (by simp))).setCell (Nat.le_refl _) _).setCell (Nat.le_refl _) _).setCell (Nat.le_refl _) _).setCell (Nat.le_refl _) _⟩
 ·have hcn : (c != 0) = true := by simp [hc0]
  have HE : Hid (Pl.gotE es key = Pl.Ent.none ∧ Pl.gotC es key = c) := by unfold Pl.gotE Pl.gotC; rw [HC.out, if_neg hc0, if_neg hc0]; exact ⟨rfl, rfl⟩
  clear hc0
  go_enter Tryz.func30, Tryz.ntmps30
  go_wp2_with fail
  refine (Check_any _ _ _ es _ (HH.out.below ((Below.refl _ _).alloc (Nat.le_refl _) _))).mono ?_
  rw [HC.out]
  rintro e w1 ⟨rfl, hb12⟩
  obtain ⟨hcc, hff⟩ := bcell hb12
  go_wp2_with fail
  refine bodyPost_ret (v := .tuple #[.agg #[.string (Pl.gotE es key).key, .int .i64 (Pl.gotE es key).ver, .int .i64 (Pl.gotE es key).org, .string (Pl.gotE es key).val], .int .i64 (Pl.gotC es key)]) (by rw [HE.out.1, HE.out.2]; simp [results, Tryz.results30, go_sem, hcc, Pl.Ent.none]) rfl ⟨rfl, ((((((Below.refl _ _).alloc (Nat.le_refl _) _).trans (hb12.mono (by simp))).setCell (Nat.le_refl _) _).setCell (Nat.le_refl _) _).setCell (Nat.le_refl _) _).setCell (Nat.le_refl _) _⟩
def Pl.adjKey (n : Int) : ByteArray := ⟨#[97, 58]⟩ ++ Pl.dec n
def Pl.pfxKey (n : Int) : ByteArray := ⟨#[112, 58]⟩ ++ Pl.dec n
theorem Pl.adjKey_size (n : Int) (h0 : 0 ≤ n) (h1 : n ≤ 1000) : (Pl.adjKey n).size ≤ 23 := by
 unfold Pl.adjKey
 rw [ByteArray.size_append]
 have := Pl.dec_le n h0 h1
 show 2 + _ ≤ 23
 omega
def Pl.toldV (es : List Pl.Ent) (n : Int) : ByteArray := (Pl.gotE es (Pl.adjKey n)).val
theorem Pl.gotE_val (es : List Pl.Ent) (k : ByteArray) : (Pl.gotE es k).val.size ≤ 120 := by
 unfold Pl.gotE
 split
 ·rename_i hf
  split
  ·rename_i ht
   obtain ⟨h1, h2, h3⟩ := Pl.good_of_fault hf
   have hp : Pl.pos es k < es.length := by unfold Pl.there at ht; simp only [Bool.and_eq_true, decide_eq_true_eq] at ht; exact ht.1
   have := h2 _ hp
   unfold Pl.Ent.may Pl.entB at this
   simp only [Bool.and_eq_true, decide_eq_true_eq] at this
   exact this.2
  ·simp [Pl.Ent.none, ByteArray.size]
 ·simp [Pl.Ent.none, ByteArray.size]
theorem adjAt_set0 {w : World} {B : Nat} {c0 c1 : Value} {T : TypeId} (h : w.heap[B]? = some (.cells #[c0, c1] T)) (v : Value) : (w.setCell ⟨B, 0, none⟩ v).heap[B]? = some (.cells #[v, c1] T) := by
 have := blockLt h
 simp [World.setCell, Array.getElem?_modify, h]
set_option maxHeartbeats 1000000 in
theorem AdjKey_any (n : Int) (w : World) (h0 : 0 ≤ n) (h1 : n ≤ 1000) (hT : Tab w) :
  Calls Tryz.prog 148 #[.int .i64 n] w fun e w' => e = .returned (.string (Pl.adjKey n)) ∧ Below w.heap.size w w' := by
 have HT := hid hT
 have hz := Pl.dec_le n h0 h1
 clear hT
 have HIT := hid (Itoa_any n w h0 (by omega) HT.out)
 have HK : Hid (Pl.adjKey n = ⟨#[97, 58]⟩ ++ Pl.dec n) := hid rfl
 generalize Pl.dec n = s at *
 go_enter Tryz.func148, Tryz.ntmps148
 go_wp2_with fail
 refine HIT.out.mono ?_
 rintro e w1 ⟨rfl, hb1⟩
 go_wp2_with fail
 go_ret
 exact ⟨by rw [HK.out]; rfl, hb1⟩
set_option maxHeartbeats 1000000 in
theorem toldAdj_any (a : Option Addr) (len cap : Nat) (es : List Pl.Ent) (n : Int) (w : World) (h : IsEnts w a len cap es) (h0 : 0 ≤ n) (h1 : n ≤ 1000) (hT : Tab w) :
  Calls Tryz.prog 101 #[.slice a len cap, .int .i64 n] w fun e w' => ∃ vl : Value, e = .returned (.agg #[.bool (Pl.adjD (Pl.toldV es n).data.toList), vl]) ∧
   OwnP 143 w' w.heap.size vl (Pl.adjS (Pl.toldV es n).data.toList) ∧ Below w.heap.size w w' := by
 have HH := hid h
 have HT := hid hT
 clear h hT
 have hvz : (Pl.toldV es n).size ≤ 120 := Pl.gotE_val _ _
 obtain ⟨g, HG⟩ : ∃ g, Hid (Pl.gotE es (Pl.adjKey n) = g) := ⟨_, hid rfl⟩
 have HV : Hid (Pl.toldV es n = g.val) := hid (by unfold Pl.toldV; rw [HG.out])
 rw [HV.out] at hvz
 rw [HV.out]
 obtain ⟨gk, gv, go, gx⟩ := g
 simp only at hvz ⊢
 obtain ⟨rc, HRC⟩ : ∃ x, Hid (Pl.adjC gx.data.toList = x) := ⟨_, hid rfl⟩
 obtain ⟨rd, HRD⟩ : ∃ x, Hid (Pl.adjD gx.data.toList = x) := ⟨_, hid rfl⟩
 obtain ⟨rs, HRS⟩ : ∃ x, Hid (Pl.adjS gx.data.toList = x) := ⟨_, hid rfl⟩
 rw [HRD.out, HRS.out]
 have b1 : Below w.heap.size w (w.alloc (.cells #[.bool false, .slice none 0 0] 141)) := (Below.refl _ _).alloc (Nat.le_refl _) _
 go_enter Tryz.func101, Tryz.ntmps101
 go_wp2_with fail
 refine (AdjKey_any n _ h0 h1 (HT.out.below b1)).mono ?_
 rintro e w1 ⟨rfl, hb1⟩
 have hbA : Below (w.heap.size + 1) (w.alloc (.cells #[.bool false, .slice none 0 0] 141)) w1 := by simpa using hb1
 have hw1 : Below w.heap.size w w1 := b1.trans (hb1.mono b1.size)
 clear hb1
 go_wp2_with fail
 refine (Get_any _ _ _ es (Pl.adjKey n) _ (HH.out.below hw1)).mono ?_
 rw [HG.out]
 rintro e w2 ⟨rfl, hb2⟩
 have hbA2 := hbA.trans (hb2.mono (by have := hbA.size; simp at this; omega))
 clear hb2
 go_wp2_with fail
 refine (ReadAdj_any gx _ (by omega)).mono ?_
 rw [HRC.out, HRD.out, HRS.out]
 rintro e w3 ⟨v3, rfl, ho3, hb3⟩
 have hz2 := hbA2.size
 simp at hz2
 have hbA3 : Below (w.heap.size + 1) (w.alloc (.cells #[.bool false, .slice none 0 0] 141)) w3 := (hbA2.alloc (by omega) _).trans (hb3.mono (by simp; omega))
 obtain ⟨a3, n3, cap3, rfl⟩ := ho3.slice
 have HO3 := hid ho3
 obtain ⟨x0, x1, xs, hbb⟩ := box2 hbA3
 obtain ⟨f0, f1⟩ := box2f hbA3
 have hz3 := hb3.size
 simp at hz3
 clear ho3 hb3
 go_wp2_with fail
 have hblk : w3.heap[w.heap.size]? = some (.cells #[.bool false, .slice none 0 0] 141) := (hbA3.block _ (Nat.lt_succ_self _)).trans (heapNew w _)
 have hfin := heapOld (adjAt_set (adjAt_set0 hblk (.bool rd)) (.slice a3 n3 cap3)) (.cells #[.bool rd, .slice a3 n3 cap3] 141)
 obtain ⟨z0, z1, _, _⟩ := adjAt_cells hfin
 refine bodyPost_ret (v := .agg #[.bool rd, .slice a3 n3 cap3]) (by simp [results, Tryz.results101, go_sem, z0, z1]) rfl ⟨_, rfl, ?_, ?_⟩
 ·exact OwnP.mono (World.ownsRow.alloc (ownsRow_setCell_below (ownsRow_setCell_below HO3.out (by simp; omega) _) (by simp; omega) _) _) (by simp; omega)
 ·exact ((hbb.setCell (Nat.le_refl _) _).setCell (Nat.le_refl _) _).alloc (by simp [World.setCell]; omega) _
def Pl.sidesUp (ps : List (Int × Int)) : Prop := ∀ j, j < ps.length → (0 ≤ (Pl.pr ps j).1 ∧ (Pl.pr ps j).1 ≤ 11 ∧ 1 ≤ (Pl.pr ps j).2 ∧ (Pl.pr ps j).2 ≤ 1000) ∧ (0 < j → (Pl.pr ps (j - 1)).1 < (Pl.pr ps j).1)
theorem Pl.adjN_up (ps : List (Int × Int)) : ∀ (n i : Nat), i + n = ps.length → Pl.adjN ps n i = 0 → ∀ j, i ≤ j → j < ps.length → Pl.sideB (Pl.pr ps j).1 (Pl.pr ps j).2 = true ∧ (0 < j → (Pl.pr ps (j - 1)).1 < (Pl.pr ps j).1)
 | 0, i, h, _, j, h1, h2 => by omega
 | n + 1, i, h, h0, j, h1, h2 => by
  rw [Pl.adjN] at h0
  by_cases g1 : Pl.sideB (Pl.pr ps i).1 (Pl.pr ps i).2 = true
  ·rw [if_pos g1] at h0
   by_cases g2 : 0 < i ∧ (Pl.pr ps i).1 ≤ (Pl.pr ps (i - 1)).1
   ·rw [if_pos g2] at h0; cases h0
   ·rw [if_neg g2] at h0
    rcases Nat.eq_or_lt_of_le h1 with e | h1
    ·subst e
     exact ⟨g1, fun hp => by omega⟩
    ·exact Pl.adjN_up ps n (i + 1) (by omega) h0 j h1 h2
  ·rw [if_neg g1] at h0; cases h0
theorem Pl.adjF_up {ps : List (Int × Int)} (h : Pl.adjF ps = 0) : Pl.sidesUp ps := by
 intro j hj
 obtain ⟨h1, h2⟩ := Pl.adjN_up ps ps.length 0 (by omega) h j (by omega) hj
 unfold Pl.sideB at h1
 simp at h1
 exact ⟨by omega, h2⟩
theorem Pl.adjS_up (l : List UInt8) : Pl.sidesUp (Pl.adjS l) := by
 unfold Pl.adjS
 by_cases h : Pl.adjC l = 0
 ·rw [if_pos h]
  unfold Pl.adjC at h
  cases hs : Pl.sidesL l with
  | none => rw [hs] at h; cases h
  | some ps => rw [hs] at h; exact Pl.adjF_up h
 ·rw [if_neg h]
  intro j hj; simp at hj
theorem Pl.sidesUp.ok {ps : List (Int × Int)} (h : Pl.sidesUp ps) : Pl.sidesOk ps := by
 intro p hp
 obtain ⟨i, hi, rfl⟩ := List.getElem_of_mem hp
 have := (h i hi).1
 rw [Pl.pr_eq ps i hi] at this
 exact this
theorem Pl.sidesOk.pairs {ps : List (Int × Int)} (h : Pl.sidesOk ps) : ∀ p ∈ ps, Pl.pairOk p := fun p hp => by
 have := h p hp
 exact Pl.pairOk_of ⟨by omega, by omega, by omega, by omega⟩
theorem IsPairs.but {w w' : World} {A : Nat} {a : Option Addr} {len cap : Nat} {ps : List (Int × Int)} (h : IsPairs w a len cap ps) (hx : ∀ x, a = some x → x.block ≠ A) (k : But A w w') : IsPairs w' a len cap ps := by
 obtain ⟨h1, h2, h3, h4, h5⟩ := h
 refine ⟨h1, h2, h3, h4, ?_⟩
 rcases h5 with h5 | ⟨b, off, rfl, hb, hr⟩
 ·exact .inl h5
 ·refine .inr ⟨b, off, rfl, Nat.lt_of_lt_of_le hb k.size, fun i hi => ?_⟩
  obtain ⟨c0, c1⟩ := hr i hi
  have e : w'.heap[b]? = w.heap[b]? := k.block b hb (hx _ rfl)
  exact ⟨(World.cell?_of_block (w := w) e).trans c0, (World.cell?_of_block (w := w) e).trans c1⟩
theorem ToldAt.set {w A D ps} (h : ToldAt w A D ps) (k : Nat) (d : Bool) (a : Option Addr) (len cap : Nat) (q : List (Int × Int)) (hx : ∀ x, a = some x → x.block ≠ A) (hp : IsPairs w a len cap q) :
  ToldAt ((w.setCell ⟨A, k * 2, none⟩ (.bool d)).setCell ⟨A, k * 2 + 1, none⟩ (.slice a len cap)) A (Pl.upd D k d) (Pl.upd ps k q) := by
 obtain ⟨V, h1, h2⟩ := h
 have hb : But A w ((w.setCell ⟨A, k * 2, none⟩ (.bool d)).setCell ⟨A, k * 2 + 1, none⟩ (.slice a len cap)) := ((But.refl A w).setCell _ _).setCell _ _
 refine ⟨Pl.upd V k (.slice a len cap), ?_, fun i hi => ?_⟩
 ·refine ((h1.set _ _).set _ _).ext fun o ho => ?_
  unfold Pl.upd toldCell
  by_cases g1 : o = k * 2 + 1
  ·subst g1; rw [if_pos rfl, if_neg (by omega)]; simp only; rw [if_pos (by omega)]
  ·rw [if_neg g1]
   by_cases g2 : o = k * 2
   ·subst g2; rw [if_pos rfl, if_pos (by omega)]; simp only; rw [if_pos (by omega)]
   ·rw [if_neg g2]
    by_cases g3 : o % 2 = 0
    ·rw [if_pos g3, if_pos g3]; simp only; rw [if_neg (by omega)]
    ·rw [if_neg g3, if_neg g3]; simp only; rw [if_neg (by omega)]
 ·by_cases hik : i = k
  ·subst hik
   refine ⟨a, len, cap, Pl.upd_same _ _ _, hx, ?_⟩
   rw [Pl.upd_same]
   exact hp.but hx hb
  ·obtain ⟨a', len', cap', e, hx', hp'⟩ := h2 i hi
   refine ⟨a', len', cap', by rw [Pl.upd_ne _ _ hik]; exact e, hx', ?_⟩
   rw [Pl.upd_ne _ _ hik]
   exact hp'.but hx' hb
theorem ToldAt.ext {w A D ps D' ps'} (h : ToldAt w A D ps) (h1 : ∀ i, i < 12 → D i = D' i) (h2 : ∀ i, i < 12 → ps i = ps' i) : ToldAt w A D' ps' := by
 obtain ⟨V, g1, g2⟩ := h
 refine ⟨V, g1.ext fun o ho => ?_, fun i hi => ?_⟩
 ·unfold toldCell; split
  ·rw [h1 _ (by omega)]
  ·rfl
 ·rw [← h2 i hi]; exact g2 i hi
theorem ToldAt.new (w : World) (cs : Array Value) (e : cs = Array.ofFn (n := 24) fun i => toldCell (fun _ => false) (fun _ => .slice none 0 0) i.1) : ToldAt (w.alloc (.cells cs 170)) w.heap.size (fun _ => false) (fun _ => []) := by
 refine ⟨fun _ => .slice none 0 0, CellsAt.new w _ _ _ _ (by rw [e]; simp) fun i hi => ?_, fun i hi => ⟨none, 0, 0, rfl, by simp, rfl, Nat.le_refl _, by simp, by simp, .inl rfl⟩⟩
 simp only [e, Array.getElem_ofFn]
def Pl.tD (es : List Pl.Ent) (i : Nat) : Bool := Pl.adjD (Pl.toldV es i).data.toList
def Pl.tS (es : List Pl.Ent) (i : Nat) : List (Int × Int) := Pl.adjS (Pl.toldV es i).data.toList
def Pl.wayC (es : List Pl.Ent) (f : Int) : Int := if Pl.fault es ≠ 0 then Pl.fault es else if 0 ≤ f ∧ f ≤ 11 then 0 else 2
def Pl.wayA (es : List Pl.Ent) (f : Int) : List (Int × List Int) := if Pl.wayC es f = 0 then Pl.wayL (Pl.dIter (Pl.lnk (Pl.tS es)) (Pl.tD es) f.toNat 12) 12 else []
theorem ret_two {v u : Value} {a b : Int} (h : v = u) (e : a = b) : Ending.returned (.tuple #[v, .int .i64 a]) = .returned (.tuple #[u, .int .i64 b]) := by rw [h, e]
theorem World.ownsRow_mono {w : World} {base base' : Nat} {e : TypeId} {sz : Nat} {v : Value} {n : Nat} {xs : List Value} (h : w.ownsRow base e sz v n xs) (k : base' ≤ base) : w.ownsRow base' e sz v n xs := by
 obtain ⟨h0, h1⟩ := h
 refine ⟨h0, ?_⟩
 rcases h1 with h1 | ⟨g, cap, cur, rfl, hb, hr⟩
 ·exact .inl h1
 ·exact .inr ⟨g, cap, cur, rfl, by omega, hr⟩
set_option maxHeartbeats 2000000 in
theorem Ways_any (a : Option Addr) (len cap : Nat) (es : List Pl.Ent) (f : Int) (w : World) (h : IsEnts w a len cap es) (hT : Tab w) :
  Calls Tryz.prog 63 #[.slice a len cap, .int .i64 f] w fun e w' => ∃ v ts, e = .returned (.tuple #[v, .int .i64 (Pl.wayC es f)]) ∧ OwnW w' w.heap.size v ts ∧ Pl.flat ts = Pl.wayA es f ∧ Below w.heap.size w w' := by
 have HE := hid h
 have HTab := hid hT
 clear h hT
 obtain ⟨cd, HCD⟩ : ∃ x, Hid (Pl.fault es = x) := ⟨_, rfl⟩
 go_enter Tryz.func63, Tryz.ntmps63
 go_wp2_with fail
 refine (Check_any a len cap es w HE.out).mono ?_
 rw [HCD.out]
 rintro e w1 ⟨rfl, hb1⟩
 have HB1 := hid hb1
 clear hb1
 by_cases hcd : cd = 0
 ·subst hcd
  by_cases hfr : 0 ≤ f ∧ f ≤ 11
  ·obtain ⟨n, rfl⟩ : ∃ n : Nat, f = n := ⟨f.toNat, by omega⟩
   have hn : n < 12 := by omega
   have hdec : decide (0 ≤ (n : Int) ∧ (n : Int) ≤ 11) = true := by simp; omega
   have HWC : Hid (Pl.wayC es n = 0) := hid (by unfold Pl.wayC; rw [HCD.out, if_neg (by simp), if_pos (by omega)])
   go_wp2_with (go_at_call 72; refine (isNode_any _ _).mono ?_; rw [hdec]; rintro e w' ⟨rfl, hw'⟩; rw [hw']; clear hw' w')
   go_loopw [18] (fun i wr => ∃ k : Nat, k ≤ 12 ∧ i = .int .i64 k ∧ Hid (ToldAt wr w1.heap.size (fun i => decide (i < k) && Pl.tD es i) (fun i => if i < k then Pl.tS es i else [])) ∧ Hid (Below w1.heap.size w1 wr)) (fun i _ => 12 - (intOf i).toNat)
   case atStart => exact ⟨0, by omega, rfl, (ToldAt.new w1 _ (by kernel_rfl)).ext (fun i _ => by simp) (fun i _ => by simp), (Below.refl _ _).alloc (Nat.le_refl _) _⟩
   case round =>
    obtain ⟨k, hk, rfl, HT, HB⟩ := hrel
    have HBW := hid (HB1.out.trans (HB.out.mono HB1.out.size))
    have hAr := HT.out.lt
    by_cases hlt : k < 12
    ·go_wp2_with fail
     refine (toldAdj_any a len cap es k wr (HE.out.below HBW.out) (by omega) (by omega) (HTab.out.below HBW.out)).mono ?_
     rintro e w2 ⟨vl, rfl, ho2, hb2⟩
     obtain ⟨a2, cap2, rfl, hp2, _, hx2⟩ := OwnP.shape ho2 (Pl.adjS_up _).ok.pairs
     have HP2 := hid hp2
     have HX2 := hid hx2
     have HB2 := hid hb2
     have HT2 := hid (HT.out.below hb2)
     clear ho2 hp2 hx2 hb2
     obtain ⟨V2, g1, _⟩ := HT2.out
     have c0 := g1.cell (k * 2) (by omega)
     have c1 := g1.cell (k * 2 + 1) (by omega)
     have f0 := g1.soft (k * 2)
     have f1 := g1.soft (k * 2 + 1)
     have hA2 := g1.lt
     clear g1
     go_wp2_with fail
     go_roundw
     case rel =>
      refine ⟨k + 1, by omega, by go_num, (HT2.out.set k _ a2 _ cap2 _ (fun x hx => ?_) HP2.out).ext (fun i hi => ?_) (fun i hi => ?_), hid (((HB.out.trans (HB2.out.mono (by omega))).setCell (Nat.le_refl _) _).setCell (Nat.le_refl _) _)⟩
      ·have := HX2.out x hx; omega
      ·by_cases hik : i = k
       ·subst hik; rw [Pl.upd_same]; simp [Pl.tD]
       ·rw [Pl.upd_ne _ _ hik, show decide (i < k + 1) = decide (i < k) from decide_eq_decide.2 (by omega)]
      ·by_cases hik : i = k
       ·subst hik; rw [Pl.upd_same, if_pos (by omega)]; rfl
       ·rw [Pl.upd_ne _ _ hik]
        by_cases h1 : i < k
        ·rw [if_pos h1, if_pos (by omega)]
        ·rw [if_neg h1, if_neg (by omega)]
     case measure => simp [intOf]; omega
    ·obtain rfl : k = 12 := by omega
     have HTA := hid (HT.out.ext (D' := Pl.tD es) (ps' := Pl.tS es) (fun i hi => by simp [hi]) (fun i hi => by rw [if_pos hi]))
     have HOK : Hid (∀ i, i < 12 → Pl.sidesOk (Pl.tS es i)) := hid fun i _ => (Pl.adjS_up _).ok
     have HL : Hid (∀ a b, Pl.lnk (Pl.tS es) a b ≤ 1000) := hid fun x y => by
      unfold Pl.lnk
      split
      ·exact (Pl.say_le (Pl.adjS_up _).ok y).2
      ·omega
     go_wp2_with fail
     refine (newSearch_any n hn wr).mono ?_
     rintro e w2 ⟨rfl, hs2, hb2⟩
     have HS2 := hid hs2
     have HB2 := hid hb2
     have HT2 := hid (HTA.out.below hb2)
     clear hs2 hb2
     go_wp2_with fail
     refine (run_any wr.heap.size w1.heap.size n (Pl.tD es) (Pl.tS es) w2 HS2.out HT2.out (by omega) hn HOK.out HL.out).mono ?_
     rintro e w3 ⟨rfl, hs3, hu3⟩
     have HS3 := hid hs3
     have HU3 := hid hu3
     clear hs3 hu3
     go_wp2_with fail
     refine (ways_any wr.heap.size n _ w3 HS3.out).mono ?_
     rintro e w4 ⟨v, ts, rfl, ho4, hf4, hb4⟩
     have HO4 := hid ho4
     have HF4 := hid hf4
     have HB4 := hid hb4
     clear ho4 hf4 hb4
     go_wp2_with fail
     have hz := HBW.out.size
     have HBF : Hid (Below w.heap.size w w3) := hid ((HBW.out.trans (HB2.out.mono hz)).trans (HU3.out.below hz (Nat.le_trans hz HB2.out.size)))
     refine bodyPost_ret (results_tmp2 rfl _ _ _) rfl ⟨v, ts, ret_two rfl HWC.out.symm, ?_, ?_, HBF.out.trans (HB4.out.mono HBF.out.size)⟩
     ·exact ⟨World.ownsRow_mono HO4.out.1 HBF.out.size, HO4.out.2⟩
     ·rw [HF4.out]; unfold Pl.wayA; rw [HWC.out, if_pos rfl, Int.toNat_natCast]
  ·have hdec : decide (0 ≤ f ∧ f ≤ 11) = false := by simp; omega
   have HWC : Hid (Pl.wayC es f = 2) := hid (by unfold Pl.wayC; rw [HCD.out, if_neg (by simp), if_neg hfr])
   go_wp2_with (go_at_call 72; refine (isNode_any _ _).mono ?_; rw [hdec]; rintro e w' ⟨rfl, hw'⟩; rw [hw']; clear hw' w')
   refine bodyPost_ret (results_tmp2 rfl _ _ _) rfl ⟨_, [], ret_two rfl HWC.out.symm, OwnW.nil _ _, ?_, HB1.out⟩
   unfold Pl.wayA; rw [HWC.out, if_neg (by decide)]; rfl
 ·have HWC : Hid (Pl.wayC es f = cd) := hid (by unfold Pl.wayC; rw [HCD.out, if_pos hcd])
  go_wp2_with fail
  refine bodyPost_ret (results_tmp2 rfl _ _ _) rfl ⟨_, [], ret_two rfl HWC.out.symm, OwnW.nil _ _, ?_, HB1.out⟩
  unfold Pl.wayA; rw [HWC.out, if_neg hcd]; rfl
def Pl.recvC (s : Pl.Nt) (to : Nat) (bs : List UInt8) : Int := if Pl.decC bs = 0 then Pl.mergeC (s.K to) (Pl.decO bs) else Pl.decC bs
def Pl.recvK (s : Pl.Nt) (to : Nat) (bs : List UInt8) : List ByteArray := if Pl.recvC s to bs = 0 then Pl.mergeK (s.K to) (Pl.decO bs) else []
def Pl.recvN (s : Pl.Nt) (to : Nat) (bs : List UInt8) : Pl.Nt := if Pl.recvC s to bs = 0 then { s with K := Pl.upd s.K to (Pl.mergeO (s.K to) (Pl.decO bs)) } else s
set_option maxHeartbeats 4000000 in
theorem receive_any (B : Nat) (s : Pl.Nt) (to : Nat) (a : Option Addr) (len cap : Nat) (bs : List UInt8) (w : World) (h : NetAt w B s) (hto : to < 12) (hok : ∀ e ∈ s.K to, e.ok) (hbs : IsBytes w a len cap bs) :
  Calls Tryz.prog 165 #[.pointer (some ⟨B, 0, none⟩), .int .i64 to, .slice a len cap] w fun e w' =>
   ∃ vk, e = .returned (.agg #[.int .i64 (Pl.recvC s to bs), .slice none 0 0, .int .i64 0, vk]) ∧ OwnS w' w.heap.size vk (Pl.recvK s to bs) ∧ NetAt w' B (Pl.recvN s to bs) ∧ NKept B w w' := by
 have HN := hid h
 have HBS := hid hbs
 have hBl := h.lt
 have HOK := hid hok
 clear h hbs hok
 have ht' : (to : Int) < 12 := by omega
 obtain ⟨cd, HCD⟩ : ∃ c, Hid (Pl.recvC s to bs = c) := ⟨_, hid rfl⟩
 obtain ⟨ks, HKS⟩ : ∃ c, Hid (Pl.recvK s to bs = c) := ⟨_, hid rfl⟩
 obtain ⟨sn, HSN⟩ : ∃ c, Hid (Pl.recvN s to bs = c) := ⟨_, hid rfl⟩
 obtain ⟨d, HD⟩ : ∃ c, Hid (Pl.decC bs = c) := ⟨_, hid rfl⟩
 obtain ⟨O, HO⟩ : ∃ c, Hid (Pl.decO bs = c) := ⟨_, hid rfl⟩
 have HCE : Hid (cd = if d = 0 then Pl.mergeC (s.K to) O else d) := hid (by rw [← HCD.out, ← HO.out, ← HD.out]; rfl)
 have HK1 : Hid (cd = 0 → ks = Pl.mergeK (s.K to) O) := hid fun e => by rw [← HKS.out]; unfold Pl.recvK; rw [HCD.out, if_pos e, HO.out]
 have HK2 : Hid (cd ≠ 0 → ks = []) := hid fun e => by rw [← HKS.out]; unfold Pl.recvK; rw [HCD.out, if_neg e]
 have HS1 : Hid (cd = 0 → sn = { s with K := Pl.upd s.K to (Pl.mergeO (s.K to) O) }) := hid fun e => by rw [← HSN.out]; unfold Pl.recvN; rw [HCD.out, if_pos e, HO.out]
 have HS2 : Hid (cd ≠ 0 → sn = s) := hid fun e => by rw [← HSN.out]; unfold Pl.recvN; rw [HCD.out, if_neg e]
 have HG : Hid (d = 0 → Pl.fault O = 0) := hid fun e => by rw [← HO.out]; exact (Pl.dec_back (by rw [HD.out, e])).1
 rw [HCD.out, HKS.out, HSN.out]
 have HRF := hid (fun (c : Int) (W : World) => refused_any c W)
 obtain ⟨W1, HW1⟩ : ∃ W, Hid (W = w.alloc (.cells #[.int .i64 0, .slice none 0 0, .int .i64 0, .slice none 0 0] 40)) := ⟨_, hid rfl⟩
 have HX1 : Hid (W1.heap[w.heap.size]? = some (.cells #[.int .i64 0, .slice none 0 0, .int .i64 0, .slice none 0 0] 40)) := hid (by rw [HW1.out]; exact heapNew _ _)
 have HB1 : Hid (Below w.heap.size w W1) := hid (by rw [HW1.out]; exact (Below.refl _ _).alloc (Nat.le_refl _) _)
 have hz1 : W1.heap.size = w.heap.size + 1 := by rw [HW1.out]; simp
 have hne1 : B ≠ w.heap.size := by omega
 have hne2 : w.heap.size ≠ B := by omega
 have hle : w.heap.size ≤ w.heap.size := Nat.le_refl _
 have HREF : Hid (∀ (c : Int) (W3 : World), Below w.heap.size w W3 → W3.heap[w.heap.size]? = some (.cells #[.int .i64 0, .slice none 0 0, .int .i64 0, .slice none 0 0] 40) → cd = c → c ≠ 0 →
   ∃ vk, Ending.returned (.agg #[.int .i64 c, .slice none 0 0, .int .i64 0, .slice none 0 0]) = .returned (.agg #[.int .i64 cd, .slice none 0 0, .int .i64 0, vk]) ∧ OwnS (set4 W3 w.heap.size (.int .i64 c) (.slice none 0 0) (.int .i64 0) (.slice none 0 0)) w.heap.size vk ks ∧ NetAt (set4 W3 w.heap.size (.int .i64 c) (.slice none 0 0) (.int .i64 0) (.slice none 0 0)) B sn ∧ NKept B w (set4 W3 w.heap.size (.int .i64 c) (.slice none 0 0) (.int .i64 0) (.slice none 0 0))) := hid fun c W3 hb hx e hc => by
  have hfin : Below w.heap.size w (set4 W3 w.heap.size (.int .i64 c) (.slice none 0 0) (.int .i64 0) (.slice none 0 0)) := (((hb.setCell (p := ⟨w.heap.size, 0, none⟩) hle _).setCell (p := ⟨w.heap.size, 1, none⟩) hle _).setCell (p := ⟨w.heap.size, 2, none⟩) hle _).setCell (p := ⟨w.heap.size, 3, none⟩) hle _
  refine ⟨_, by rw [e], ?_, ?_, NKept.of (But.of hfin)⟩
  ·rw [HK2.out (by rw [e]; exact hc)]; exact OwnS.nil _ _
  ·rw [HS2.out (by rw [e]; exact hc)]; exact HN.out.below hfin
 clear HCD HKS HSN
 go_enter Tryz.func165, Tryz.ntmps165
 go_wp2_with fail
 rw [← HW1.out]
 refine (Decode_any a len cap bs W1 (HBS.out.below HB1.out)).mono ?_
 rw [HD.out, HO.out]
 rintro e w2 ⟨v2, rfl, ho2, hb2⟩
 have HX2 := hid ((hb2.block _ (by omega)).trans HX1.out)
 have HB2 := hid (HB1.out.trans (hb2.mono HB1.out.size))
 have HO2 := hid ho2
 have hz2 := hb2.size
 clear ho2 hb2
 by_cases hd : d = 0
 ·have HCM : Hid (cd = Pl.mergeC (s.K to) O) := hid (by rw [HCE.out, if_pos hd])
  have HF0 := hid (HG.out hd)
  clear HCE HG HD
  subst hd
  obtain ⟨VP, VK, VT, h1, h2, h3, h4, h5⟩ := HN.out.below HB2.out
  obtain ⟨ka, kc, ev, hke, hnil, hkb⟩ := (h3 to hto).shape HOK.out
  obtain ⟨va, vc, rfl, hve, hvn, hvb⟩ := HO2.out.shape (Pl.Good.ok ((Pl.good_iff O).1 HF0.out))
  have hkn := h1.knows to hto
  rw [ev] at hkn
  have hB2 := h1.lt
  have hfl := h1.soft (to * 4 + 2)
  obtain ⟨mc, HMC⟩ : ∃ c, Hid (Pl.mergeC (s.K to) O = c) := ⟨_, hid rfl⟩
  have HMM := hid (Merge_any ka _ kc (s.K to) va _ vc O w2 hke hnil hve)
  rw [HMC.out] at HMM HCM
  obtain ⟨nk, HNK⟩ : ∃ c, Hid ((s.K to).length = c) := ⟨_, hid rfl⟩
  obtain ⟨no, HNO⟩ : ∃ c, Hid (O.length = c) := ⟨_, hid rfl⟩
  rw [HNK.out] at HMM hkn
  rw [HNO.out] at HMM ⊢
  clear h1 h2 h3 h4 h5 ev hke hnil hkb hve hvn hvb HO2
  go_wp2_with fail
  refine HMM.out.mono ?_
  rintro e w3 ⟨vo, vk, rfl, ho3, hk3, hb3⟩
  have HX3 := hid ((hb3.block _ (by omega)).trans HX2.out)
  have HB3 := hid (HB2.out.trans (hb3.mono HB2.out.size))
  have HNW := hid (HN.out.below HB3.out)
  have hcl := (hb3.cell (p := ⟨B, to * 4 + 2, none⟩) hB2).trans hkn
  have hfl3 := (hb3.frozen (p := ⟨B, to * 4 + 2, none⟩) hB2).trans hfl
  have hz3 := hb3.size
  obtain ⟨sa, sc, rfl⟩ := ownsRow_slice ho3
  obtain ⟨ta, tc, rfl⟩ := ownsRow_slice hk3
  have HOW := hid (Own.mono ho3 (show B + 1 ≤ w2.heap.size by omega))
  have HKW : Hid (OwnS w3 w.heap.size (.slice ta (Pl.mergeK (s.K to) O).length tc) (Pl.mergeK (s.K to) O)) := hid (World.ownsRow_mono hk3 (by omega))
  have hBW : B < w3.heap.size := by omega
  obtain ⟨n3, HN3⟩ : ∃ c, Hid ((Pl.mergeO (s.K to) O).length = c) := ⟨_, hid rfl⟩
  obtain ⟨k3, HN4⟩ : ∃ c, Hid ((Pl.mergeK (s.K to) O).length = c) := ⟨_, hid rfl⟩
  rw [HN3.out] at HOW ⊢
  rw [HN4.out] at HKW ⊢
  clear ho3 hk3 hb3 hkn hfl
  obtain ⟨⟨y0, y1, y2, y3⟩, yf, yl⟩ := box4c HX3.out
  by_cases hm : mc = 0
  ·have HKS := hid (HK1.out (HCM.out.trans hm))
   have HSS := hid (HS1.out (HCM.out.trans hm))
   clear HK1 HK2 HS1 HS2 HREF HMM HMC
   subst hm
   go_wp2_with fail
   obtain ⟨WS, HWS⟩ : ∃ x, Hid (x = w3.setCell ⟨B, to * 4 + 2, none⟩ (.slice sa n3 sc)) := ⟨_, hid rfl⟩
   have HBS : Hid (But B w3 WS) := hid (by rw [HWS.out]; exact (But.refl B w3).setCell _ _)
   have HXS := hid ((HBS.out.block _ yl hne2).trans HX3.out)
   rw [← HWS.out]
   obtain ⟨Wf, HWF⟩ : ∃ x, Hid (x = set4 WS w.heap.size (.int .i64 0) (.slice none 0 0) (.int .i64 0) (.slice ta k3 tc)) := ⟨_, hid rfl⟩
   have hbut : But w.heap.size WS Wf := by rw [HWF.out]; exact set4_but (But.refl w.heap.size WS) _ _ _ _
   have hfx : Wf.heap[w.heap.size]? = some (.cells #[.int .i64 0, .slice none 0 0, .int .i64 0, .slice ta k3 tc] 40) := by
    rw [HWF.out]; exact set4_at HXS.out _ _ _ _
   have hks : OwnS Wf w.heap.size (.slice ta k3 tc) (Pl.mergeK (s.K to) O) := ownS_reply (ownS_nw HKW.out HBS.out (HNW.out.blk)) hbut HXS.out
   obtain ⟨⟨z0, z1, z2, z3⟩, _, _⟩ := box4c hfx
   rw [show (((WS.setCell ⟨w.heap.size, 0, none⟩ (.int .i64 0)).setCell ⟨w.heap.size, 1, none⟩ (.slice none 0 0)).setCell ⟨w.heap.size, 2, none⟩ (.int .i64 0)).setCell ⟨w.heap.size, 3, none⟩ (.slice ta k3 tc) = Wf from HWF.out.symm]
   refine bodyPost_ret (v := .agg #[.int .i64 0, .slice none 0 0, .int .i64 0, .slice ta k3 tc]) (by simp [results, Tryz.results165, go_sem, z0, z1, z2, z3]) rfl ⟨_, by rw [HCM.out], ?_, ?_, ?_⟩
   ·rw [HKS.out]; exact hks
   ·rw [HSS.out]
    refine NetAt.reply ?_ hbut HXS.out hne2
    rw [HWS.out]
    exact HNW.out.setKnows to hto (.slice sa n3 sc) _ HOW.out
   ·exact NKept.of (But.over ((But.of HB3.out : But B w w3).trans HBS.out) hbut hle)
  ·have hm' : (mc != 0) = true := by simpa using hm
   clear y0 y1 y2 y3 yf yl hcl hfl3
   go_wp2_with fail
   refine (HRF.out mc _).mono ?_
   rintro e w4 ⟨rfl, hb4⟩
   have hbx := (hb4.block _ (by omega)).trans HX3.out
   have HB4 := hid (HB3.out.trans (hb4.mono HB3.out.size))
   have HFI := hid (HREF.out mc w4 HB4.out hbx HCM.out hm)
   obtain ⟨⟨y0, y1, y2, y3⟩, yf, yl⟩ := box4c hbx
   clear hb4 hbx
   go_wp2_with fail
   exact bodyPost_ret (v := .agg #[.int .i64 mc, .slice none 0 0, .int .i64 0, .slice none 0 0]) (by simp [results, Tryz.results165, go_sem, y0, y1, y2, y3]) rfl HFI.out
 ·have hd' : (d != 0) = true := by simpa using hd
  have HCM : Hid (cd = d) := hid (by rw [HCE.out, if_neg hd])
  obtain ⟨sa, sc, rfl⟩ := ownsRow_slice HO2.out
  go_wp2_with fail
  refine (HRF.out d _).mono ?_
  rintro e w4 ⟨rfl, hb4⟩
  have hbx := (hb4.block _ (by omega)).trans HX2.out
  have HB4 := hid (HB2.out.trans (hb4.mono HB2.out.size))
  have HFI := hid (HREF.out d w4 HB4.out hbx HCM.out hd)
  obtain ⟨⟨y0, y1, y2, y3⟩, yf, yl⟩ := box4c hbx
  clear hb4 hbx
  go_wp2_with fail
  exact bodyPost_ret (v := .agg #[.int .i64 d, .slice none 0 0, .int .i64 0, .slice none 0 0]) (by simp [results, Tryz.results165, go_sem, y0, y1, y2, y3]) rfl HFI.out
def SV.bytes (base : Nat) (bs : List UInt8) : SV := ⟨fun u W => OwnB W base u bs, fun _ _ _ hb h => h.below hb⟩
set_option maxHeartbeats 8000000 in
theorem netSend5 {Q : Exit → Act → World → Prop} {a0 : Act} {w0 : World} {B xb a kl kc : Nat} {ka : Option Addr} {es : List Pl.Ent}
  (hsize : a0.tmps.size = 58)
  (q0 : a0.tmps[0]?.getD undef = .pointer (some ⟨B, 0, none⟩))
  (q3 : a0.tmps[3]?.getD undef = .pointer (some ⟨xb, 0, none⟩))
  (hB : B < w0.heap.size)
  (hx : xb < w0.heap.size)
  (X1 : w0.cell? ⟨xb, 1, none⟩ = some (.int .i64 a))
  (KN : w0.cell? ⟨B, a * 4 + 2, none⟩ = some (.slice ka kl kc))
  (ha : (a : Int) < 12)
  (HK : IsEnts w0 ka kl kc es)
  (hQ : ∀ xs W, xs.length = 31 → OwnB W w0.heap.size (xs.getD 0 undef) (Pl.encO es) → (xs.getD 1 undef) = .int .i64 (Pl.fault es) → Below w0.heap.size w0 W → Q .normal { a0 with tmps := setFrom a0.tmps 5 xs } W) :
  ∀ ops, regIn Tryz.f116 5 = some ops → (Code.region 5 ops true).wp Tryz.prog Q a0 w0 := by
 intro ops hops
 have eo := Option.some.inj (hops.symm.trans (rfl : regIn Tryz.f116 5 = some _))
 subst eo
 clear hops
 have hsz : 5 + 31 ≤ a0.tmps.size := by omega
 refine wp_region_any (by kernel_rfl) ?_
 refine wpAny_inv2 (RInv a0 5 31 14 (fun k => some (([20, 21, 22, 23, 24, 25, 26, 27, 28, 19, 29, 30, 0, 1] : List Nat).getD k 0)) (SV.V [SV.bytes w0.heap.size (Pl.encO es), SV.eq (.int .i64 (Pl.fault es)), SV.any, SV.any, SV.any, SV.any, SV.any, SV.any, SV.any, SV.any, SV.any, SV.any, SV.any, SV.any, SV.any, SV.any, SV.any, SV.any, SV.any, SV.two (SV.bytes w0.heap.size (Pl.encO es)) (Pl.fault es), SV.eq (.pointer (some ⟨B, 0, none⟩)), SV.eq (.pointer (some ⟨xb, 1, none⟩)), SV.eq (.int .i64 a), SV.eq (.pointer (some ⟨B, 0, none⟩)), SV.eq (.pointer (some ⟨B, 0, none⟩)), SV.eq (.pointer (some ⟨B, a * 4, none⟩)), SV.eq (.pointer (some ⟨B, a * 4 + 2, none⟩)), SV.eq (.slice ka kl kc), SV.two (SV.bytes w0.heap.size (Pl.encO es)) (Pl.fault es), SV.bytes w0.heap.size (Pl.encO es), SV.eq (.int .i64 (Pl.fault es))]) (fun W => Below w0.heap.size w0 W)) ?_ ?_ _ _ _ _ (by decide +kernel) ?_ (closed_start _ _ _)
 ·rintro i listed a' W hi hCl hI
  rw [mem_ready] at hi
  obtain ⟨hl0, o, ho, hall⟩ := hi
  have hlti : i < 14 := (Array.getElem?_eq_some_iff.1 ho).1
  have o0 := (hI.out (k := 0) (by omega)).trans q0
  have o3 := (hI.out (k := 3) (by omega)).trans q3
  have x1 := (hI.cw.cell (p := ⟨xb, 1, none⟩) hx).trans X1
  have kn := (hI.cw.cell (p := ⟨B, a * 4 + 2, none⟩) hB).trans KN
  have hcs : i = 0 ∨ i = 1 ∨ i = 2 ∨ i = 3 ∨ i = 4 ∨ i = 5 ∨ i = 6 ∨ i = 7 ∨ i = 8 ∨ i = 9 ∨ i = 10 ∨ i = 11 ∨ i = 12 ∨ i = 13 := by omega
  rcases hcs with rfl | rfl | rfl | rfl | rfl | rfl | rfl | rfl | rfl | rfl | rfl | rfl | rfl | rfl
  all_goals
   simp at ho
   subst ho
  ·refine wpOp_of rfl rfl ?_
   simp [Oper.wp, go_sem, o0]
   exact hI.put (i := 0) (j := 20) rfl (by omega) (fun _ _ h => h) rfl hI.cw
  ·refine wpOp_of rfl rfl ?_
   simp [Oper.wp, go_sem, o3]
   exact hI.put (i := 1) (j := 21) rfl (by omega) (fun _ _ h => h) rfl hI.cw
  ·refine wpOp_of rfl rfl ?_
   have e26 : a'.tmps[26]?.getD undef = .pointer (some ⟨xb, 1, none⟩) := hI.at (k := 1) (j := 21) hsz rfl (by omega) (hall ⟨1, .data⟩ (by simp) rfl)
   simp [Oper.wp, go_sem, e26, x1]
   exact hI.put (i := 2) (j := 22) rfl (by omega) (fun _ _ h => h) rfl hI.cw
  ·refine wpOp_of rfl rfl ?_
   have e25 : a'.tmps[25]?.getD undef = .pointer (some ⟨B, 0, none⟩) := hI.at (k := 0) (j := 20) hsz rfl (by omega) (hall ⟨0, .data⟩ (by simp) rfl)
   simp [Oper.wp, go_sem, e25]
   exact hI.put (i := 3) (j := 23) rfl (by omega) (fun _ _ h => h) rfl hI.cw
  ·refine wpOp_of rfl rfl ?_
   have e28 : a'.tmps[28]?.getD undef = .pointer (some ⟨B, 0, none⟩) := hI.at (k := 3) (j := 23) hsz rfl (by omega) (hall ⟨3, .data⟩ (by simp) rfl)
   simp [Oper.wp, go_sem, e28]
   exact hI.put (i := 4) (j := 24) rfl (by omega) (fun _ _ h => h) rfl hI.cw
  ·refine wpOp_of rfl rfl ?_
   have e29 : a'.tmps[29]?.getD undef = .pointer (some ⟨B, 0, none⟩) := hI.at (k := 4) (j := 24) hsz rfl (by omega) (hall ⟨4, .data⟩ (by simp) rfl)
   have e27 : a'.tmps[27]?.getD undef = .int .i64 a := hI.at (k := 2) (j := 22) hsz rfl (by omega) (hall ⟨2, .data⟩ (by simp) rfl)
   simp [Oper.wp, go_sem, e29, e27, ha]
   exact hI.put (i := 5) (j := 25) rfl (by omega) (fun _ _ h => h) rfl hI.cw
  ·refine wpOp_of rfl rfl ?_
   have e30 : a'.tmps[30]?.getD undef = .pointer (some ⟨B, a * 4, none⟩) := hI.at (k := 5) (j := 25) hsz rfl (by omega) (hall ⟨5, .data⟩ (by simp) rfl)
   simp [Oper.wp, go_sem, e30]
   exact hI.put (i := 6) (j := 26) rfl (by omega) (fun _ _ h => h) rfl hI.cw
  ·refine wpOp_of rfl rfl ?_
   have e31 : a'.tmps[31]?.getD undef = .pointer (some ⟨B, a * 4 + 2, none⟩) := hI.at (k := 6) (j := 26) hsz rfl (by omega) (hall ⟨6, .data⟩ (by simp) rfl)
   simp [Oper.wp, go_sem, e31, kn]
   exact hI.put (i := 7) (j := 27) rfl (by omega) (fun _ _ h => h) rfl hI.cw
  ·refine wpOp_of rfl rfl ?_
   have e32 : a'.tmps[32]?.getD undef = .slice ka kl kc := hI.at (k := 7) (j := 27) hsz rfl (by omega) (hall ⟨7, .data⟩ (by simp) rfl)
   simp [Oper.wp, go_sem, e32]
   refine (Encode_any ka kl kc es W (HK.below hI.cw)).mono ?_
   rintro e W' ⟨v, rfl, ho', hb'⟩
   exact hI.put (i := 8) (j := 28) rfl (by omega) (SV.grow hb') ⟨_, rfl, ho'.mono hI.cw.size⟩ (hI.cw.trans (hb'.mono hI.cw.size))
  ·refine wpOp_of rfl rfl ?_
   obtain ⟨l, hl, hp⟩ := hI.at (k := 8) (j := 28) hsz rfl (by omega) (hall ⟨8, .data⟩ (by simp) rfl)
   have hl : a'.tmps[33]?.getD undef = _ := hl
   simp [Oper.wp, go_sem, hl]
   exact hI.put (i := 9) (j := 19) rfl (by omega) (fun _ _ h => h) ⟨l, rfl, hp⟩ hI.cw
  ·refine wpOp_of rfl rfl ?_
   obtain ⟨l, hl, hp⟩ := hI.at (k := 9) (j := 19) hsz rfl (by omega) (hall ⟨9, .data⟩ (by simp) rfl)
   have hl : a'.tmps[24]?.getD undef = _ := hl
   simp [Oper.wp, go_sem, hl]
   exact hI.put (i := 10) (j := 29) rfl (by omega) (fun _ _ h => h) hp hI.cw
  ·refine wpOp_of rfl rfl ?_
   obtain ⟨l, hl, hp⟩ := hI.at (k := 9) (j := 19) hsz rfl (by omega) (hall ⟨9, .data⟩ (by simp) rfl)
   have hl : a'.tmps[24]?.getD undef = _ := hl
   simp [Oper.wp, go_sem, hl]
   exact hI.put (i := 11) (j := 30) rfl (by omega) (fun _ _ h => h) rfl hI.cw
  ·refine wpOp_of rfl rfl ?_
   have h0 := hI.at (k := 10) (j := 29) hsz rfl (by omega) (hall ⟨10, .data⟩ (by simp) rfl)
   simp [Oper.wp, go_sem]
   exact hI.put (i := 12) (j := 0) rfl (by omega) (fun _ _ h => h) h0 hI.cw
  ·refine wpOp_of rfl rfl ?_
   have e35 : a'.tmps[35]?.getD undef = .int .i64 (Pl.fault es) := hI.at (k := 11) (j := 30) hsz rfl (by omega) (hall ⟨11, .data⟩ (by simp) rfl)
   simp [Oper.wp, go_sem, e35]
   exact hI.put (i := 13) (j := 1) rfl (by omega) (fun _ _ h => h) rfl hI.cw
 ·rintro listed a' W hr hI
  have hal := all_listed2 (by decide +kernel) hI.ls hr
  obtain ⟨xs, hxl, rfl, hf⟩ := hI.fr
  exact hQ xs W hxl (hf 12 0 rfl (hal 12 (by decide))) (hf 13 1 rfl (hal 13 (by decide))) hI.cw
 ·exact RInv.start hsz (Below.refl _ _).drew
end Go.Proofs.YtjjelkdajdeikaaGreatDoor
namespace Go.Proofs.YtjjelkdajdeikaaGreatDoor.Pl
theorem num_fwd {x : Int} (h0 : 0 ≤ x) (h1 : x ≤ 255) (t : List UInt8) : num 0 (u8 x :: t) = (x, 0, t) := by
 rw [num_cons, u8_val h0 h1]
theorem txt_fwd {s : ByteArray} (h : s.size ≤ 255) (t : List UInt8) : txt 0 (encT s ++ t) = (s, 0, t) := by
 unfold txt encT
 rw [List.cons_append, num_fwd (by omega) (by omega)]
 have hl : s.data.toList.length = s.size := by simp
 simp only [if_true, Int.toNat_natCast]
 rw [if_pos (by rw [List.length_append, hl]; omega)]
 refine Prod.ext ?_ (Prod.ext rfl ?_)
 ·show (⟨((s.data.toList ++ t).take s.size).toArray⟩ : ByteArray) = s
  rw [List.take_left' hl]
 ·show (s.data.toList ++ t).drop s.size = t
  rw [List.drop_left' hl]
theorem verF_fwd : ∀ (f k : Nat) (v m : Int) (t : List UInt8), f + k = 8 → k ≤ 6 → 0 ≤ m → m < 128 ^ (7 - k) → (0 < k → 1 ≤ m) → verF f k v 0 (encV (6 - k) m ++ t) = (v + m * 128 ^ k, 0, t)
 | 0, k, v, m, t => fun h1 h2 => by omega
 | f + 1, k, v, m, t => fun h1 h2 h3 h4 h5 => by
  by_cases hx : m < 128
  ·rw [encV_small hx, List.singleton_append, verF, num_fwd h3 (by omega)]
   simp only [if_true]
   rw [if_neg (by omega), if_pos hx, Int.emod_eq_of_lt h3 hx]
  ·have hk6 : k < 6 := by
    rcases Nat.lt_or_ge k 6 with h | h
    ·exact h
    ·obtain rfl : k = 6 := by omega
     simp at h4; omega
   obtain ⟨g, hg⟩ : ∃ g, 6 - k = g + 1 := ⟨5 - k, by omega⟩
   rw [hg, encV_great hx, List.cons_append, verF, num_fwd (by omega) (by omega)]
   simp only [if_true]
   rw [if_neg (by omega), if_neg (by omega)]
   have e4 : m / 128 < 128 ^ (7 - (k + 1)) := by
    have e : 7 - k = (7 - (k + 1)) + 1 := by omega
    rw [e, Int.pow_succ] at h4
    generalize (128 : Int) ^ (7 - (k + 1)) = P at *
    omega
   have ih := verF_fwd f (k + 1) (v + (m % 128 + 128) % 128 * 128 ^ k) (m / 128) t (by omega) (by omega) (by omega) e4 (by omega)
   rw [show g = 6 - (k + 1) by omega, ih]
   refine Prod.ext ?_ rfl
   show v + (m % 128 + 128) % 128 * 128 ^ k + m / 128 * 128 ^ (k + 1) = v + m * 128 ^ k
   have e1 : (m % 128 + 128) % 128 = m % 128 := by omega
   rw [e1, Int.pow_succ, Int.add_assoc]
   congr 1
   rw [Int.mul_comm (128 ^ k) 128, ← Int.mul_assoc, ← Int.add_mul]
   congr 1
   omega
theorem ver_fwd {n : Int} (h0 : 0 ≤ n) (h1 : n ≤ 1099511627776) (t : List UInt8) : ver 0 (encV 6 n ++ t) = (n, 0, t) := by
 unfold ver
 have := verF_fwd 8 0 0 n t rfl (by omega) h0 (by show n < (128 : Int) ^ 7; have : (128 : Int) ^ 7 = 562949953421312 := (by decide); omega) (by omega)
 simpa using this
theorem ent4_fwd {e : Ent} (h : e.may = true) (t : List UInt8) : ent4 0 (encE e ++ t) = (e, 0, t) := by
 have hp := may_parts h
 unfold ent4 encE
 simp only [List.append_assoc]
 rw [txt_fwd (by omega)]
 simp only
 rw [ver_fwd (by omega) (by omega)]
 simp only
 rw [List.singleton_append, num_fwd (by omega) (by omega)]
 simp only
 rw [txt_fwd (by omega)]
theorem entsN_fwd : ∀ (es : List Ent) (l : List Ent) (t : List UInt8), (∀ e ∈ es, e.may = true) → entsN es.length l 0 (encL es ++ t) = (l ++ es, 0, t)
 | [], l, t, _ => by simp [entsN, encL]
 | e :: r, l, t, h => by
  rw [List.length_cons, entsN, encL, List.append_assoc, ent4_fwd (h e (by simp))]
  simp only [if_true]
  rw [entsN_fwd r _ t (fun x hx => h x (by simp [hx]))]
  simp
theorem good_may {es : List Ent} (h : fault es = 0) : es.length ≤ 60 ∧ ∀ e ∈ es, e.may = true := by
 obtain ⟨h1, h2, _⟩ := (good_iff es).1 h
 exact ⟨h1, h2⟩
theorem rdL_fwd {es : List Ent} (h : fault es = 0) (t : List UInt8) : rdL (u8 (es.length : Int) :: (encL es ++ t)) = if t = [] then (es, 0) else ([], 4) := by
 obtain ⟨h1, h2⟩ := good_may h
 unfold rdL
 rw [num_fwd (by omega) (by omega)]
 simp only [if_true, Int.toNat_natCast]
 rw [entsN_fwd es [] t h2]
 simp
theorem encL_len : ∀ {es : List Ent}, (∀ e ∈ es, e.may = true) → (encL es).length ≤ es.length * 138
 | [], _ => by simp [encL]
 | e :: r, h => by
  have h1 := encE_len (h e (by simp))
  have h2 := encL_len (es := r) (fun x hx => h x (by simp [hx]))
  simp only [encL, List.length_append, List.length_cons]; omega
theorem enc_len {es : List Ent} (h : fault es = 0) : 6 ≤ (enc es).length ∧ (enc es).length ≤ 8286 ∧ (body es).length + 4 = (enc es).length := by
 obtain ⟨h1, h2⟩ := good_may h
 have h3 := encL_len h2
 have hb : (body es).length = (encL es).length + 2 := by unfold body; simp
 have he : (enc es).length = (body es).length + 4 := by unfold enc; simp [sealL_len]
 omega
theorem enc_take {es : List Ent} (t : List UInt8) (n : Nat) (h : n = (body es).length) : (enc es ++ t).take n = body es := by
 subst h
 unfold enc
 rw [List.append_assoc, List.take_left]
theorem frameC_enc {es : List Ent} (h : fault es = 0) : frameC (enc es) = 0 := by
 obtain ⟨h1, h2, h3⟩ := enc_len h
 have ht : (enc es).take ((enc es).length - 4) = body es := by
  have := enc_take (es := es) [] ((enc es).length - 4) (by omega)
  simpa using this
 have hd : (enc es).drop ((enc es).length - 4) = sealL (body es) := by
  rw [show (enc es).length - 4 = (body es).length by omega]
  unfold enc
  rw [List.drop_left]
 unfold frameC
 rw [if_neg (by omega), if_neg (by omega), if_neg (by show ¬ ¬ (enc es).getD 0 0 = 116; simp [enc, body]), ht, hd, if_neg (by simp)]
theorem dec_fwd {es : List Ent} (h : fault es = 0) : decC (enc es) = 0 ∧ decO (enc es) = es := by
 obtain ⟨h1, h2, h3⟩ := enc_len h
 have ht : (enc es).take ((enc es).length - 4) = body es := by
  have := enc_take (es := es) [] ((enc es).length - 4) (by omega)
  simpa using this
 have hr : rdL ((body es).drop 1) = (es, 0) := by
  have := rdL_fwd h []
  simpa [body] using this
 have hc : decC (enc es) = 0 := by
  unfold decC
  rw [frameC_enc h, ht, hr]
  simpa using h
 refine ⟨hc, ?_⟩
 unfold decO
 rw [if_pos hc, ht, hr]
def sumB (bs : List UInt8) : Int := (bs.map fun c => (c.toNat : Int)).sum
theorem sxy_sum : ∀ (bs : List UInt8) (x y : Int), 0 ≤ x → x < 65521 → (sxy bs x y).1 = (x + sumB bs) % 65521 ∧ 0 ≤ (sxy bs x y).1 ∧ (sxy bs x y).1 < 65521
 | [], x, y, h0, h1 => by simp [sxy, sumB]; omega
 | c :: r, x, y, h0, h1 => by
  obtain ⟨a, b, d⟩ := sxy_sum r ((x + (c.toNat : Int)) % 65521) ((y + (x + (c.toNat : Int)) % 65521) % 65521) (by omega) (by omega)
  refine ⟨?_, b, d⟩
  show (sxy r _ _).1 = _
  rw [a]
  simp only [sumB, List.map_cons, List.sum_cons]
  omega
theorem sumB_cons (c : UInt8) (r : List UInt8) : sumB (c :: r) = (c.toNat : Int) + sumB r := by simp [sumB]
theorem sumB_set : ∀ {bs : List UInt8} {i : Nat} (h : i < bs.length) (v : UInt8), sumB (bs.set i v) = sumB bs + (v.toNat : Int) - (bs[i].toNat : Int)
 | [], i, h, _ => by simp at h
 | b :: r, 0, _, v => by simp only [List.set_cons_zero, sumB_cons, List.getElem_cons_zero]; omega
 | b :: r, i + 1, h, v => by
  have ih := sumB_set (bs := r) (i := i) (by simpa using h) v
  simp only [List.set_cons_succ, sumB_cons, List.getElem_cons_succ, ih]; omega
theorem seal_x {a b : List UInt8} (h : sealL a = sealL b) : (sxy a 1 0).1 = (sxy b 1 0).1 := by
 obtain ⟨_, a0, a1⟩ := sxy_sum a 1 0 (by omega) (by omega)
 obtain ⟨_, b0, b1⟩ := sxy_sum b 1 0 (by omega) (by omega)
 unfold sealL at h
 simp only [List.cons.injEq, and_true] at h
 obtain ⟨_, _, h1, h2⟩ := h
 generalize (sxy a 1 0).1 = x at *
 generalize (sxy b 1 0).1 = y at *
 have g1 := congrArg (fun c : UInt8 => (c.toNat : Int)) h1
 have g2 := congrArg (fun c : UInt8 => (c.toNat : Int)) h2
 rw [u8_val (by omega) (by omega), u8_val (by omega) (by omega)] at g1 g2
 omega
theorem dec_bad {b : List UInt8} (hf : frameC b = 0) {i : Nat} (hi : i < b.length) {v : UInt8} (hv : v ≠ b[i]) : decC (b.set i v) ≠ 0 := by
 have seals : ∀ x : List UInt8, frameC x = 0 → 6 ≤ x.length ∧ sealL (x.take (x.length - 4)) = x.drop (x.length - 4) := by
  intro x hx
  unfold frameC at hx
  by_cases g1 : 20000 < x.length
  ·rw [if_pos g1] at hx; simp at hx
  rw [if_neg g1] at hx
  by_cases g2 : x.length < 6
  ·rw [if_pos g2] at hx; simp at hx
  rw [if_neg g2] at hx
  by_cases g3 : x.getD 0 0 = 116
  ·rw [if_neg (fun k => k g3)] at hx
   by_cases g4 : sealL (x.take (x.length - 4)) = x.drop (x.length - 4)
   ·exact ⟨by omega, g4⟩
   ·rw [if_pos g4] at hx; simp at hx
  ·rw [if_pos g3] at hx; simp at hx
 have hc : frameC (b.set i v) ≠ 0 := by
  intro hg
  obtain ⟨l1, s1⟩ := seals b hf
  obtain ⟨l2, s2⟩ := seals _ hg
  rw [List.length_set] at s2
  rcases Nat.lt_or_ge i (b.length - 4) with hlt | hge
  ·have e1 : (b.set i v).drop (b.length - 4) = b.drop (b.length - 4) := by rw [List.drop_set]; simp [hlt]
   have e2 : (b.set i v).take (b.length - 4) = (b.take (b.length - 4)).set i v := by rw [List.take_set]
   rw [e1, e2, ← s1] at s2
   have hx := seal_x s2
   have hlt' : i < (b.take (b.length - 4)).length := by simp; omega
   rw [(sxy_sum _ 1 0 (by omega) (by omega)).1, (sxy_sum _ 1 0 (by omega) (by omega)).1, sumB_set hlt'] at hx
   have hb : (b.take (b.length - 4))[i] = b[i] := by simp
   rw [hb] at hx
   have hn : (v.toNat : Int) ≠ (b[i].toNat : Int) := by
    intro e; apply hv; apply UInt8.toNat_inj.1; omega
   have := v.toNat_lt
   have := (b[i]).toNat_lt
   omega
  ·have e1 : (b.set i v).take (b.length - 4) = b.take (b.length - 4) := by
    rw [List.take_set, List.set_eq_of_length_le (by simp; omega)]
   rw [e1, s1] at s2
   have e2 := congrArg (fun l => l[i - (b.length - 4)]?) s2
   simp only [List.getElem?_drop, show b.length - 4 + (i - (b.length - 4)) = i by omega] at e2
   rw [List.getElem?_set_self hi, List.getElem?_eq_getElem hi] at e2
   simp at e2
   exact hv e2.symm
 unfold decC
 rw [if_neg hc]; exact hc
end Go.Proofs.YtjjelkdajdeikaaGreatDoor.Pl
namespace Go.Proofs.YtjjelkdajdeikaaGreatDoor
open Go.RowKit
set_option maxRecDepth 20000
theorem rblk_set {w : World} {b : Nat} {cs : Array Value} {T : TypeId} {z : Nat × Nat} {o : Nat} {v : Value} (h : w.heap[b]? = some (.cells cs T z)) :
  (w.setCell ⟨b, o, none⟩ v).heap[b]? = some (.cells (cs.setIfInBounds o v) T z) := by
 simp only [World.setCell, Array.getElem?_modify, h]
 simp
theorem rblk4 {w : World} {b : Nat} {c0 c1 c2 c3 : Value} {T : TypeId} (h : w.heap[b]? = some (.cells #[c0, c1, c2, c3] T (0, 0))) :
  (w.cell? ⟨b, 0, none⟩ = some c0 ∧ w.cell? ⟨b, 1, none⟩ = some c1 ∧ w.cell? ⟨b, 2, none⟩ = some c2 ∧ w.cell? ⟨b, 3, none⟩ = some c3) ∧
  (w.frozen? ⟨b, 0, none⟩ = false ∧ w.frozen? ⟨b, 1, none⟩ = false ∧ w.frozen? ⟨b, 2, none⟩ = false ∧ w.frozen? ⟨b, 3, none⟩ = false) := by
 refine ⟨⟨?_, ?_, ?_, ?_⟩, ⟨?_, ?_, ?_, ?_⟩⟩
 all_goals simp [World.cell?, World.frozen?, h]
theorem rbelow_set {B X o : Nat} {a W : World} {v : Value} (h : Below B a W) (hB : B ≤ X) : Below B a (W.setCell ⟨X, o, none⟩ v) :=
 ⟨h.os, h.tape, h.output, by simpa [World.setCell] using h.size, fun k hk => (Below.heap_setCell _ _ _ _ (by simp; omega)).trans (h.block k hk)⟩
def EF (k0 k1 k2 k3 : Int) (R : Nat) (w : World) : Nat → Value → Prop
 | 0, v => ∃ b, v = .slice (some ⟨b, 0, none⟩) 6 6 ∧ b < w.heap.size ∧ ∀ j, j < 6 → ∃ s, w.cell? ⟨b, j, none⟩ = some (.string s) ∧ Pl.keyB s = true
 | 1, v => v = .pointer (some ⟨R, 0, none⟩)
 | 2, v => v = .int .i64 k0
 | 3, v => ∃ n : Nat, v = .int .i64 (n : Int) ∧ n < 6
 | 4, v => ∃ b j s, v = .pointer (some ⟨b, j, none⟩) ∧ b < w.heap.size ∧ w.cell? ⟨b, j, none⟩ = some (.string s) ∧ Pl.keyB s = true
 | 5, v => ∃ s, v = .string s ∧ Pl.keyB s = true
 | 6, v => v = .pointer (some ⟨R, 1, none⟩)
 | 7, v => v = .int .i64 k1
 | 8, v => ∃ n : Nat, v = .int .i64 (n : Int) ∧ n < 4
 | 9, v => ∃ n : Int, v = .int .i64 n ∧ 1 ≤ n ∧ n ≤ 4
 | 10, v => v = .pointer (some ⟨R, 2, none⟩)
 | 11, v => v = .int .i64 k2
 | 12, v => ∃ n : Nat, v = .int .i64 (n : Int) ∧ n < 3
 | 13, v => ∃ b, v = .slice (some ⟨b, 0, none⟩) 5 5 ∧ b < w.heap.size ∧ ∀ j, j < 5 → ∃ s, w.cell? ⟨b, j, none⟩ = some (.string s) ∧ s.size ≤ 120
 | 14, v => v = .pointer (some ⟨R, 3, none⟩)
 | 15, v => v = .int .i64 k3
 | 16, v => ∃ n : Nat, v = .int .i64 (n : Int) ∧ n < 5
 | 17, v => ∃ b j s, v = .pointer (some ⟨b, j, none⟩) ∧ b < w.heap.size ∧ w.cell? ⟨b, j, none⟩ = some (.string s) ∧ s.size ≤ 120
 | 18, v => ∃ s, v = .string s ∧ s.size ≤ 120
 | 19, v => ∃ x : Pl.Ent, v = .agg #[.string x.key, .int .i64 x.ver, .int .i64 x.org, .string x.val] ∧ x.may = true ∧ x.ver ≤ 4
 | _, _ => True
theorem EF.mono {k0 k1 k2 k3 : Int} {R : Nat} {w w' : World} {k : Nat} {v : Value} (h : EF k0 k1 k2 k3 R w k v) (hb : Below w.heap.size w w') : EF k0 k1 k2 k3 R w' k v := by
 have hz := hb.size
 match k, h with
 | 0, ⟨b, h1, h2, h3⟩ => exact ⟨b, h1, by omega, fun j hj => by obtain ⟨s, e, q⟩ := h3 j hj; exact ⟨s, ((bcell hb).1 b j h2).trans e, q⟩⟩
 | 13, ⟨b, h1, h2, h3⟩ => exact ⟨b, h1, by omega, fun j hj => by obtain ⟨s, e, q⟩ := h3 j hj; exact ⟨s, ((bcell hb).1 b j h2).trans e, q⟩⟩
 | 4, ⟨b, j, s, h1, h2, h3, h4⟩ => exact ⟨b, j, s, h1, by omega, ((bcell hb).1 b j h2).trans h3, h4⟩
 | 17, ⟨b, j, s, h1, h2, h3, h4⟩ => exact ⟨b, j, s, h1, by omega, ((bcell hb).1 b j h2).trans h3, h4⟩
 | 1, h => exact h
 | 2, h => exact h
 | 3, h => exact h
 | 5, h => exact h
 | 6, h => exact h
 | 7, h => exact h
 | 8, h => exact h
 | 9, h => exact h
 | 10, h => exact h
 | 11, h => exact h
 | 12, h => exact h
 | 14, h => exact h
 | 15, h => exact h
 | 16, h => exact h
 | 18, h => exact h
 | 19, h => exact h
 | n + 20, h => exact h
structure EInv (k0 k1 k2 k3 : Int) (R : Nat) (W0 : World) (listed : Array Bool) (a : Act) (w : World) : Prop where
 ls : listed.size = 21
 sz : a.tmps.size = 23
 df : a.defers = []
 s1 : a.tmps[1]?.getD undef = .pointer (some ⟨R, 0, none⟩)
 s2 : a.tmps[2]?.getD undef = .pointer (some ⟨R + 1, 0, none⟩)
 f : listed.getD 20 false = false → ∀ k, k < 20 → listed.getD k false = true → EF k0 k1 k2 k3 R w k (a.tmps[k + 3]?.getD undef)
 nb : listed.getD 20 false = false → Below W0.heap.size W0 w
 al : listed.getD 20 false = true → ∀ k, k < 20 → listed.getD k false = true
 dn : listed.getD 20 false = true → ∃ x : Pl.Ent, (x.may = true ∧ x.ver ≤ 4) ∧ Below R W0 w ∧ w.heap[R + 1]? = some (.cells #[.string x.key, .int .i64 x.ver, .int .i64 x.org, .string x.val] 55 (0, 0))
theorem EInv.put {k0 k1 k2 k3 : Int} {R : Nat} {W0 : World} {listed : Array Bool} {a : Act} {w w' : World} {i : Nat} {v : Value} (h : EInv k0 k1 k2 k3 R W0 listed a w) (hi : i < 20) (hn : listed.getD 20 false = false) (hb : Below w.heap.size w w') (hv : EF k0 k1 k2 k3 R w' i v) :
  EInv k0 k1 k2 k3 R W0 (listed.setIfInBounds i true) (a.put (some (i + 3)) v) w' := by
 have h20 : (listed.setIfInBounds i true).getD 20 false = false := by rw [getD_set_ne false (by omega)]; exact hn
 refine ⟨by simp [h.ls], by simp [Act.put, h.sz], h.df, by rw [eval_ne (by omega)]; exact h.s1, by rw [eval_ne (by omega)]; exact h.s2, ?_, fun _ => ?_, (fun h' => by rw [h20] at h'; cases h'), fun h' => by rw [h20] at h'; cases h'⟩
 ·intro _ k hk hl
  by_cases hki : i = k
  ·subst hki
   rw [eval_eq (by rw [h.sz]; omega)]
   exact hv
  ·rw [getD_set_ne false hki] at hl
   rw [eval_ne (by omega)]
   exact (h.f hn k hk hl).mono hb
 ·have := h.nb hn
  exact this.trans (hb.mono this.size)
theorem OwnB.opened {w : World} {base : Nat} {v : Value} {bs : List UInt8} (h : OwnB w base v bs) (hne : 0 < bs.length) :
  ∃ g cap, v = .slice (some ⟨g, 0, none⟩) bs.length cap ∧ base ≤ g ∧ g < w.heap.size ∧ bs.length ≤ cap ∧ cap ≤ maxLen ∧
   (∀ (i : Nat) (hi : i < bs.length), w.cell? ⟨g, i, none⟩ = some (.int .u8 (bs[i].toNat : Int)) ∧ w.frozen? ⟨g, i, none⟩ = false) ∧
   (∀ (i : Nat) (x : UInt8), OwnB (w.setCell ⟨g, i, none⟩ (.int .u8 (x.toNat : Int))) base v (bs.set i x)) := by
 obtain ⟨hl, h | ⟨g, cap, cur, rfl, hb, hh, hn, hm, hs, hx⟩⟩ := h
 ·obtain ⟨_, hn⟩ := h; omega
 ·refine ⟨g, cap, rfl, hb, lt_of_block hh, hn, hm, ?_, ?_⟩
  ·intro i hi
   constructor
   ·have hj : (bcells bs)[i]? = some (.int .u8 (bs[i].toNat : Int)) := by simp [bcells, hi]
    rw [← hx] at hj
    have hj' : cur[i]? = some (.int .u8 (bs[i].toNat : Int)) := by
     rw [List.getElem?_take] at hj
     split at hj
     ·rw [← Array.getElem?_toList]; exact hj
     ·cases hj
    simp [World.cell?, hh, hj']
   ·simp [World.frozen?, hh]
  ·intro i x
   refine ⟨by simp [bcells], .inr ⟨g, cap, cur.setIfInBounds i (.int .u8 (x.toNat : Int)), by simp, hb, rblk_set hh, by simpa using hn, hm, by simpa using hs, ?_⟩⟩
   rw [Array.toList_setIfInBounds, List.take_set, List.length_set, hx]
   simp [bcells]
def Pl.flip (x : UInt8) : UInt8 := x ^^^ 1
theorem flip_bits (x : UInt8) : bits BinOp.xor IntKind.u8 (x.toNat : Int) 1 = ((Pl.flip x).toNat : Int) := by
 have key : ∀ n : Fin 256, bits BinOp.xor IntKind.u8 ((n : Nat) : Int) 1 = ((Pl.flip (UInt8.ofNat n)).toNat : Int) := by decide +kernel
 have := key ⟨x.toNat, x.toNat_lt⟩
 simpa using this
def Pl.sendB (es : List Pl.Ent) (n : Int) : List UInt8 := if 0 ≤ n then (Pl.enc es).set (n.toNat % (Pl.enc es).length) (Pl.flip ((Pl.enc es).getD (n.toNat % (Pl.enc es).length) 0)) else Pl.enc es
def Pl.sendF (s : Pl.Nt) (x : Pl.Ac) : Int := if ¬ (0 ≤ x.b ∧ x.b ≤ 11) then 2 else if s.L x.a.toNat x.b.toNat = 0 then 6 else 0
def Pl.sendC (s : Pl.Nt) (x : Pl.Ac) : Int := if Pl.sendF s x = 0 then Pl.recvC s x.b.toNat (Pl.sendB (s.K x.a.toNat) x.n) else Pl.sendF s x
def Pl.sendK (s : Pl.Nt) (x : Pl.Ac) : List ByteArray := if Pl.sendF s x = 0 then Pl.recvK s x.b.toNat (Pl.sendB (s.K x.a.toNat) x.n) else []
def Pl.sendN (s : Pl.Nt) (x : Pl.Ac) : Pl.Nt := if Pl.sendF s x = 0 then Pl.recvN s x.b.toNat (Pl.sendB (s.K x.a.toNat) x.n) else s
theorem NKept.over {B X : Nat} {a b c : World} (h : NKept B a b) (k : But X b c) (hX : a.heap.size ≤ X) : NKept B a c :=
 ⟨k.os.trans h.os, k.tape.trans h.tape, k.output.trans h.output, Nat.le_trans h.size k.size, fun i hi hB ht => (k.block i (Nat.lt_of_lt_of_le hi h.size) (by omega)).trans (h.block i hi hB ht)⟩
set_option maxHeartbeats 8000000 in
theorem netSend_any (B : Nat) (s : Pl.Nt) (x : Pl.Ac) (a : Nat) (w : World) (h : NetAt w B s) (hxa : x.a = a) (ha : a < 12) (hf : ∀ i, i < 12 → Pl.fault (s.K i) = 0) (hxn : x.n ≤ 9223372036854775807) :
  Calls Tryz.prog 116 #[.pointer (some ⟨B, 0, none⟩), .agg #[.int .i64 x.kind, .int .i64 x.a, .int .i64 x.b, .int .i64 x.n, .int .i64 x.m, .int .i64 x.p.1, .int .i64 x.p.2, .string x.key, .string x.val]] w fun e w' =>
   ∃ vk, e = .returned (.agg #[.int .i64 (Pl.sendC s x), .slice none 0 0, .int .i64 0, vk]) ∧ OwnS w' w.heap.size vk (Pl.sendK s x) ∧ NetAt w' B (Pl.sendN s x) ∧ NKept B w w' := by
 have HN := hid h
 have hBl := h.lt
 have HF := hid hf
 clear h hf
 obtain ⟨cd, HCD⟩ : ∃ c, Hid (Pl.sendC s x = c) := ⟨_, hid rfl⟩
 obtain ⟨ks, HKS⟩ : ∃ c, Hid (Pl.sendK s x = c) := ⟨_, hid rfl⟩
 obtain ⟨sn, HSN⟩ : ∃ c, Hid (Pl.sendN s x = c) := ⟨_, hid rfl⟩
 have HR1 : Hid (Pl.sendF s x ≠ 0 → cd = Pl.sendF s x ∧ ks = [] ∧ sn = s) := hid fun e => by
  refine ⟨?_, ?_, ?_⟩
  ·rw [← HCD.out]; unfold Pl.sendC; rw [if_neg e]
  ·rw [← HKS.out]; unfold Pl.sendK; rw [if_neg e]
  ·rw [← HSN.out]; unfold Pl.sendN; rw [if_neg e]
 have HR2 : Hid (Pl.sendF s x = 0 → cd = Pl.recvC s x.b.toNat (Pl.sendB (s.K x.a.toNat) x.n) ∧ ks = Pl.recvK s x.b.toNat (Pl.sendB (s.K x.a.toNat) x.n) ∧ sn = Pl.recvN s x.b.toNat (Pl.sendB (s.K x.a.toNat) x.n)) := hid fun e => by
  refine ⟨?_, ?_, ?_⟩
  ·rw [← HCD.out]; unfold Pl.sendC; rw [if_pos e]
  ·rw [← HKS.out]; unfold Pl.sendK; rw [if_pos e]
  ·rw [← HSN.out]; unfold Pl.sendN; rw [if_pos e]
 have HFE : Hid (Pl.sendF s x = if ¬ (0 ≤ x.b ∧ x.b ≤ 11) then 2 else if s.L x.a.toNat x.b.toNat = 0 then 6 else 0) := hid rfl
 rw [HCD.out, HKS.out, HSN.out]
 clear HCD HKS HSN
 obtain ⟨fc, HFC⟩ : ∃ c, Hid (Pl.sendF s x = c) := ⟨_, hid rfl⟩
 rw [HFC.out] at HR1 HR2 HFE
 clear HFC
 obtain ⟨kind, xa, b, n, m, ⟨p1, p2⟩, key, val⟩ := x
 simp only at hxa hxn HR2 HFE ⊢
 subst hxa
 rw [Int.toNat_natCast] at HR2 HFE
 have ha' : (a : Int) < 12 := by omega
 have HRF := hid (fun (c : Int) (W : World) => refused_any c W)
 obtain ⟨b0, b1, bz, bb⟩ := two (w := w) (.cells #[.int .i64 kind, .int .i64 (a : Int), .int .i64 b, .int .i64 n, .int .i64 m, .int .i64 p1, .int .i64 p2, .string key, .string val] 51) (.cells #[.int .i64 0, .slice none 0 0, .int .i64 0, .slice none 0 0] 40)
 obtain ⟨W2, HW2⟩ : ∃ W, Hid (W = (w.alloc (.cells #[.int .i64 kind, .int .i64 (a : Int), .int .i64 b, .int .i64 n, .int .i64 m, .int .i64 p1, .int .i64 p2, .string key, .string val] 51)).alloc (.cells #[.int .i64 0, .slice none 0 0, .int .i64 0, .slice none 0 0] 40)) := ⟨_, hid rfl⟩
 rw [← HW2.out] at b0 b1 bz bb
 obtain ⟨q0, q1, q2, q3, q4, q5, q6, q7, q8⟩ := box9 b0
 have HX1 := hid b1
 have HBB := hid bb
 have Q1 := hid q1
 have Q2 := hid q2
 have Q3 := hid q3
 have hxl : w.heap.size < W2.heap.size := by omega
 have hBl2 : B < W2.heap.size := by omega
 have hle : w.heap.size ≤ w.heap.size + 1 := by omega
 have hne1 : B ≠ w.heap.size + 1 := by omega
 have hne2 : w.heap.size + 1 ≠ B := by omega
 have HREF : Hid (∀ (c : Int) (W3 : World), Below w.heap.size w W3 → W3.heap[w.heap.size + 1]? = some (.cells #[.int .i64 0, .slice none 0 0, .int .i64 0, .slice none 0 0] 40) → fc = c → c ≠ 0 →
   ∃ vk, Ending.returned (.agg #[.int .i64 c, .slice none 0 0, .int .i64 0, .slice none 0 0]) = .returned (.agg #[.int .i64 cd, .slice none 0 0, .int .i64 0, vk]) ∧ OwnS (set4 W3 (w.heap.size + 1) (.int .i64 c) (.slice none 0 0) (.int .i64 0) (.slice none 0 0)) w.heap.size vk ks ∧ NetAt (set4 W3 (w.heap.size + 1) (.int .i64 c) (.slice none 0 0) (.int .i64 0) (.slice none 0 0)) B sn ∧ NKept B w (set4 W3 (w.heap.size + 1) (.int .i64 c) (.slice none 0 0) (.int .i64 0) (.slice none 0 0))) := hid fun c W3 hb hx e hc => by
  obtain ⟨r1, r2, r3⟩ := HR1.out (by rw [e]; exact hc)
  have hfin : Below w.heap.size w (set4 W3 (w.heap.size + 1) (.int .i64 c) (.slice none 0 0) (.int .i64 0) (.slice none 0 0)) := (((hb.setCell (p := ⟨w.heap.size + 1, 0, none⟩) hle _).setCell (p := ⟨w.heap.size + 1, 1, none⟩) hle _).setCell (p := ⟨w.heap.size + 1, 2, none⟩) hle _).setCell (p := ⟨w.heap.size + 1, 3, none⟩) hle _
  refine ⟨_, by rw [r1, e], ?_, ?_, NKept.of (But.of hfin)⟩
  ·rw [r2]; exact OwnS.nil _ _
  ·rw [r3]; exact HN.out.below hfin
 clear q0 q1 q2 q3 q4 q5 q6 q7 q8 b0 b1 bb
 by_cases hb : 0 ≤ b ∧ b ≤ 11
 ·have hdb : decide (0 ≤ b ∧ b ≤ 11) = true := by simpa using hb
  obtain ⟨b, rfl⟩ : ∃ k : Nat, b = k := ⟨b.toNat, by omega⟩
  rw [Int.toNat_natCast] at HR2 HFE
  have hb12 : b < 12 := by omega
  have hb' : (b : Int) < 12 := by omega
  have HN2 := hid (HN.out.below HBB.out)
  obtain ⟨VP, VK, VT, h1, h2, h3, h4, h5⟩ := HN2.out
  have hln := h1.line a b ha hb12
  obtain ⟨L, HL⟩ : ∃ c, Hid (s.L a b = c) := ⟨_, hid rfl⟩
  rw [HL.out] at hln HFE
  by_cases hL : L = 0
  ·have HC2 : Hid (fc = 6) := hid (by rw [HFE.out, if_neg (by omega), if_pos hL])
   subst hL
   have q1 := Q1.out
   have q2 := Q2.out
   clear h1 h2 h3 h4 h5
   go_enter Tryz.func116, Tryz.ntmps116
   go_wp2_with (go_at_call 72; refine (isNode_any _ _).mono ?_; rw [hdb]; rintro e w' ⟨rfl, hw'⟩; rw [hw']; clear hw' w')
   rw [← HW2.out]
   go_quiet (fail)
   go_wp2_with fail
   refine (HRF.out 6 _).mono ?_
   rintro e w3 ⟨rfl, hb3⟩
   have hbx := (hb3.block _ (by show w.heap.size + 1 < W2.heap.size; omega)).trans HX1.out
   have hbd : Below W2.heap.size W2 w3 := (below_drew (Below.refl _ _) nq).trans hb3
   have HB3 := hid (HBB.out.trans (hbd.mono (by omega)))
   clear hbd
   have HFI := hid (HREF.out 6 w3 HB3.out hbx HC2.out (by decide))
   obtain ⟨⟨y0, y1, y2, y3⟩, yf, yl⟩ := box4c hbx
   clear hb3 hbx
   go_wp2_with fail
   exact bodyPost_ret (v := .agg #[.int .i64 6, .slice none 0 0, .int .i64 0, .slice none 0 0]) (by simp [results, Tryz.results116, go_sem, y0, y1, y2, y3]) rfl HFI.out
  ·have hLb : (L == 0) = false := by simpa using hL
   have HF0 : Hid (fc = 0) := hid (by rw [HFE.out, if_neg (by omega), if_neg hL])
   obtain ⟨r1, r2, r3⟩ := HR2.out HF0.out
   have HE1 := hid r1
   have HE2 := hid r2
   have HE3 := hid r3
   have HOKA : Hid (∀ e ∈ s.K a, e.ok) := hid (Pl.Good.ok ((Pl.good_iff _).1 (HF.out a ha)))
   have HOKB : Hid (∀ e ∈ s.K b, e.ok) := hid (Pl.Good.ok ((Pl.good_iff _).1 (HF.out b hb12)))
   have HFA := hid (HF.out a ha)
   have HEN : Hid (Pl.encO (s.K a) = Pl.enc (s.K a)) := hid (by unfold Pl.encO; rw [HFA.out, if_pos rfl])
   have HLEN := hid (Pl.enc_len HFA.out)
   have q1 := Q1.out
   have q2 := Q2.out
   clear h1 h2 h3 h4 h5 hL r1 r2 r3 HREF HR1 HR2 HFE
   go_enter Tryz.func116, Tryz.ntmps116
   go_wp2_with (go_at_call 72; refine (isNode_any _ _).mono ?_; rw [hdb]; rintro e w' ⟨rfl, hw'⟩; rw [hw']; clear hw' w')
   rw [← HW2.out]
   go_quiet (fail)
   go_wp2_with fail
   rename_i K hK
   clear q1 q2 hln
   obtain ⟨W3, HW3⟩ : ∃ W, Hid (W = W2.drewN nq) := ⟨_, hid rfl⟩
   rw [← HW3.out]
   have HB23 : Hid (Below W2.heap.size W2 W3) := hid (by rw [HW3.out]; exact below_drew (Below.refl _ _) _)
   have HB3 : Hid (Below w.heap.size w W3) := hid (HBB.out.trans (HB23.out.mono (by omega)))
   have hz3 := HB23.out.size
   obtain ⟨VP, VK, VT, h1, h2, h3, h4, h5⟩ := HN.out.below HB3.out
   obtain ⟨ka, kc, ev, hke, hnil, hkb⟩ := (h3 a ha).shape HOKA.out
   have hkn := h1.knows a ha
   rw [ev] at hkn
   have hB3 := h1.lt
   refine netSend5 (B := B) (xb := w.heap.size) (a := a) rfl rfl rfl hB3 (by omega) ((HB23.out.cell (p := ⟨w.heap.size, 1, none⟩) hxl).trans Q1.out) hkn ha' hke ?_ _ (by kernel_rfl)
   rw [HEN.out, HFA.out]
   intro xs W hxl2 ho hc hbw
   obtain ⟨x0, x1, x2, x3, x4, x5, x6, x7, x8, x9, x10, x11, x12, x13, x14, x15, x16, x17, x18, x19, x20, x21, x22, x23, x24, x25, x26, x27, x28, x29, x30, rfl⟩ := listN31 xs hxl2
   have hc : x1 = .int .i64 0 := hc
   subst hc
   have ho : OwnB W W3.heap.size x0 (Pl.enc (s.K a)) := ho
   have HB4 : Hid (Below w.heap.size w W) := hid (HB3.out.trans (hbw.mono HB3.out.size))
   have g2 := (hbw.cell (p := ⟨w.heap.size, 2, none⟩) (show w.heap.size < W3.heap.size by omega)).trans ((HB23.out.cell (p := ⟨w.heap.size, 2, none⟩) hxl).trans Q2.out)
   have g3 := (hbw.cell (p := ⟨w.heap.size, 3, none⟩) (show w.heap.size < W3.heap.size by omega)).trans ((HB23.out.cell (p := ⟨w.heap.size, 3, none⟩) hxl).trans Q3.out)
   have HX4 := hid ((hbw.block _ (by omega)).trans ((HB23.out.block _ (by omega)).trans HX1.out))
   have hz4 := hbw.size
   obtain ⟨g, gc, rfl, hgb, hgl, hgc, hgm, hgr, hgs⟩ := ho.opened (by have := HLEN.out.1; omega)
   obtain ⟨bs, HBS⟩ : ∃ x, Hid (Pl.enc (s.K a) = x) := ⟨_, hid rfl⟩
   rw [HBS.out] at HLEN ho hgc hgr hgs
   rw [HBS.out]
   have HSB : Hid (Pl.sendB (s.K a) n = if 0 ≤ n then bs.set (n.toNat % bs.length) (Pl.flip (bs.getD (n.toNat % bs.length) 0)) else bs) := hid (by unfold Pl.sendB; rw [HBS.out])
   have HOW := hid ho
   have HGR := hid hgr
   have HGS := hid hgs
   obtain ⟨ln, HLN⟩ : ∃ x, Hid (bs.length = x) := ⟨_, hid rfl⟩
   have hl6 : 6 ≤ ln := by have := HLEN.out.1; have := HLN.out; omega
   have hl9 : ln ≤ 20000 := by have := HLEN.out.2.1; have := HLN.out; omega
   rw [HLN.out]
   rw [HLN.out] at hgc
   have HEND : Hid (∀ (W5 : World) (bt : List UInt8), bt = Pl.sendB (s.K a) n → bt.length = ln → Below w.heap.size w W5 → W5.heap[w.heap.size + 1]? = some (.cells #[.int .i64 0, .slice none 0 0, .int .i64 0, .slice none 0 0] 40) → OwnB W5 W3.heap.size (.slice (some ⟨g, 0, none⟩) ln gc) bt →
     Calls Tryz.prog 165 #[.pointer (some ⟨B, 0, none⟩), .int .i64 (b : Int), .slice (some ⟨g, 0, none⟩) ln gc] W5 fun e w' => ∃ ta tn tc, e = .returned (.agg #[.int .i64 cd, .slice none 0 0, .int .i64 0, .slice ta tn tc]) ∧ w'.heap[w.heap.size + 1]? = some (.cells #[.int .i64 0, .slice none 0 0, .int .i64 0, .slice none 0 0] 40) ∧
      ∀ Wf, But (w.heap.size + 1) w' Wf → OwnS Wf w.heap.size (.slice ta tn tc) ks ∧ NetAt Wf B sn ∧ NKept B w Wf) := hid fun W5 bt e1 e2 hb5 hx5 hob => by
    obtain ⟨ba, bc, ebv, hbi, _, _⟩ := hob.shape
    rw [e2] at ebv hbi
    cases ebv
    have hrc := receive_any B s b _ ln _ bt W5 (HN.out.below hb5) hb12 HOKB.out hbi
    rw [e1, ← HE1.out, ← HE2.out, ← HE3.out] at hrc
    refine hrc.mono ?_
    rintro e w6 ⟨vk, rfl, hk6, hn6, hp6⟩
    obtain ⟨ta, tc, rfl⟩ := ownsRow_slice hk6
    have hx6 : w6.heap[w.heap.size + 1]? = some (.cells #[.int .i64 0, .slice none 0 0, .int .i64 0, .slice none 0 0] 40) := (hp6.block _ (blockLt hx5) hne2 (.inr (by intro cur m e; rw [hx5] at e; simp at e))).trans hx5
    refine ⟨ta, _, tc, rfl, hx6, fun Wf hbut => ⟨?_, hn6.reply hbut hx6 hne2, ((NKept.of (But.of hb5)).trans hp6).over hbut hle⟩⟩
    exact ownS_reply (World.ownsRow_mono hk6 hb5.size) hbut hx6
   clear hxl2 ho hbw h1 h2 h3 h4 h5 ev hke hnil hkb hkn hgr hgs HE1 HE2 HE3 HOKA HOKB HEN
   simp only [setFrom_spl, spl]
   refine hK _ W ?_
   by_cases hn : 0 ≤ n
   ·have hnb : decide (0 ≤ n) = true := by simpa using hn
    obtain ⟨k, HK⟩ : ∃ k, Hid (n.toNat % ln = k) := ⟨_, hid rfl⟩
    have hkl : k < ln := by rw [← HK.out]; exact Nat.mod_lt _ (by omega)
    have hkl' : (k : Int) < (ln : Int) := by omega
    have htm : n.tmod (ln : Int) = (k : Int) := by
     rw [Int.tmod_eq_emod_of_nonneg hn, ← HK.out]
     have : n = (n.toNat : Int) := by omega
     rw [this]; simp
    have hs0 : ((ln : Int) == 0) = false := by simp; omega
    obtain ⟨hcl, hcf⟩ := HGR.out k (by have := HLN.out; omega)
    obtain ⟨c, HC⟩ : ∃ c, Hid (bs[k]'(by have := HLN.out; omega) = c) := ⟨_, hid rfl⟩
    rw [HC.out] at hcl
    have hxr := flip_bits c
    obtain ⟨fb, HFB⟩ : ∃ c', Hid (Pl.flip c = c') := ⟨_, hid rfl⟩
    rw [HFB.out] at hxr
    have HBT : Hid (bs.set k fb = Pl.sendB (s.K a) n) := hid (by
     rw [HSB.out, if_pos hn, HLN.out, HK.out]
     congr 1
     rw [← HFB.out, ← HC.out, List.getD_eq_getElem?_getD, List.getElem?_eq_getElem (by have := HLN.out; omega)]
     rfl)
    obtain ⟨W5, HW5⟩ : ∃ x, Hid (x = W.setCell ⟨g, k, none⟩ (.int .u8 (fb.toNat : Int))) := ⟨_, hid rfl⟩
    have HB5 : Hid (Below w.heap.size w W5) := hid (by rw [HW5.out]; exact HB4.out.setCell (p := ⟨g, k, none⟩) (show w.heap.size ≤ g by omega) _)
    have hgX : w.heap.size + 1 ≠ g := by omega
    have HX5 : Hid (W5.heap[w.heap.size + 1]? = some (.cells #[.int .i64 0, .slice none 0 0, .int .i64 0, .slice none 0 0] 40)) := hid (by rw [HW5.out]; exact (((But.refl g W).setCell _ _).block _ (blockLt HX4.out) hgX).trans HX4.out)
    have HO5 : Hid (OwnB W5 W3.heap.size (.slice (some ⟨g, 0, none⟩) ln gc) (bs.set k fb)) := hid (by rw [HW5.out]; have := HGS.out k fb; rw [HLN.out] at this; exact this)
    have HCL := hid (HEND.out W5 (bs.set k fb) HBT.out (by rw [List.length_set]; exact HLN.out) HB5.out HX5.out HO5.out)
    have hgne : w.heap.size ≠ g := by omega
    have hgne2 : g ≠ w.heap.size := by omega
    clear HEND hn HSB HGS HGR
    go_wp2_with fail
    rw [← HW5.out]
    refine HCL.out.mono ?_
    rintro e w6 ⟨ta, tn, tc, rfl, hx6, hfin⟩
    have HX6 := hid hx6
    have HFIN := hid hfin
    obtain ⟨⟨y0, y1, y2, y3⟩, yf, yl⟩ := box4c hx6
    clear hx6 hfin
    go_wp2_with fail
    obtain ⟨Wf, HWF⟩ : ∃ x, Hid (x = set4 w6 (w.heap.size + 1) (.int .i64 cd) (.slice none 0 0) (.int .i64 0) (.slice ta tn tc)) := ⟨_, hid rfl⟩
    have hfx : Wf.heap[w.heap.size + 1]? = some (.cells #[.int .i64 cd, .slice none 0 0, .int .i64 0, .slice ta tn tc] 40) := by
     rw [HWF.out]; exact set4_at HX6.out _ _ _ _
    have hbut : But (w.heap.size + 1) w6 Wf := by rw [HWF.out]; exact set4_but (But.refl _ _) _ _ _ _
    obtain ⟨⟨z0, z1, z2, z3⟩, _, _⟩ := box4c hfx
    rw [show (((w6.setCell ⟨w.heap.size + 1, 0, none⟩ (.int .i64 cd)).setCell ⟨w.heap.size + 1, 1, none⟩ (.slice none 0 0)).setCell ⟨w.heap.size + 1, 2, none⟩ (.int .i64 0)).setCell ⟨w.heap.size + 1, 3, none⟩ (.slice ta tn tc) = Wf from HWF.out.symm]
    obtain ⟨f1, f2, f3⟩ := HFIN.out Wf hbut
    exact bodyPost_ret (v := .agg #[.int .i64 cd, .slice none 0 0, .int .i64 0, .slice ta tn tc]) (by simp [results, Tryz.results116, go_sem, z0, z1, z2, z3]) rfl ⟨_, rfl, f1, f2, f3⟩
   ·have hnb : decide (0 ≤ n) = false := by simpa using hn
    have HCL := hid (HEND.out W bs (by rw [HSB.out, if_neg hn]) HLN.out HB4.out HX4.out (by have := HOW.out; rw [HLN.out] at this; exact this))
    clear HEND hn HSB
    go_wp2_with fail
    refine HCL.out.mono ?_
    rintro e w6 ⟨ta, tn, tc, rfl, hx6, hfin⟩
    have HX6 := hid hx6
    have HFIN := hid hfin
    obtain ⟨⟨y0, y1, y2, y3⟩, yf, yl⟩ := box4c hx6
    clear hx6 hfin
    go_wp2_with fail
    obtain ⟨Wf, HWF⟩ : ∃ x, Hid (x = set4 w6 (w.heap.size + 1) (.int .i64 cd) (.slice none 0 0) (.int .i64 0) (.slice ta tn tc)) := ⟨_, hid rfl⟩
    have hfx : Wf.heap[w.heap.size + 1]? = some (.cells #[.int .i64 cd, .slice none 0 0, .int .i64 0, .slice ta tn tc] 40) := by
     rw [HWF.out]; exact set4_at HX6.out _ _ _ _
    have hbut : But (w.heap.size + 1) w6 Wf := by rw [HWF.out]; exact set4_but (But.refl _ _) _ _ _ _
    obtain ⟨⟨z0, z1, z2, z3⟩, _, _⟩ := box4c hfx
    rw [show (((w6.setCell ⟨w.heap.size + 1, 0, none⟩ (.int .i64 cd)).setCell ⟨w.heap.size + 1, 1, none⟩ (.slice none 0 0)).setCell ⟨w.heap.size + 1, 2, none⟩ (.int .i64 0)).setCell ⟨w.heap.size + 1, 3, none⟩ (.slice ta tn tc) = Wf from HWF.out.symm]
    obtain ⟨f1, f2, f3⟩ := HFIN.out Wf hbut
    exact bodyPost_ret (v := .agg #[.int .i64 cd, .slice none 0 0, .int .i64 0, .slice ta tn tc]) (by simp [results, Tryz.results116, go_sem, z0, z1, z2, z3]) rfl ⟨_, rfl, f1, f2, f3⟩
 ·have hdb : decide (0 ≤ b ∧ b ≤ 11) = false := by simpa using hb
  have HC2 : Hid (fc = 2) := hid (by rw [HFE.out, if_pos hb])
  have q2 := Q2.out
  clear hb
  go_enter Tryz.func116, Tryz.ntmps116
  go_wp2_with (go_at_call 72; refine (isNode_any _ _).mono ?_; rw [hdb]; rintro e w' ⟨rfl, hw'⟩; rw [hw']; clear hw' w')
  rw [← HW2.out]
  refine (HRF.out 2 _).mono ?_
  rintro e w3 ⟨rfl, hb3⟩
  have hbx := (hb3.block _ (by omega)).trans HX1.out
  have HB3 := hid (HBB.out.trans (hb3.mono (by omega)))
  have HFI := hid (HREF.out 2 w3 HB3.out hbx HC2.out (by decide))
  obtain ⟨⟨y0, y1, y2, y3⟩, yf, yl⟩ := box4c hbx
  clear hb3 hbx
  go_wp2_with fail
  exact bodyPost_ret (v := .agg #[.int .i64 2, .slice none 0 0, .int .i64 0, .slice none 0 0]) (by simp [results, Tryz.results116, go_sem, y0, y1, y2, y3]) rfl HFI.out
theorem NetAt.nw {w w' : World} {B : Nat} {s : Pl.Nt} {VP VK VT : Nat → Value} {D' : Nat → Bool} {L' : Nat → Nat → Int} (h2 : ∀ i, i < 12 → OwnP 49 w (B + 1) (VP i) (s.P i)) (h3 : ∀ i, i < 12 → Own w (B + 1) (VK i) (s.K i)) (h4 : ∀ i, i < 12 → ∃ hs, OwnTb w (B + 1) (VT i) hs (s.T i)) (h5 : ∀ i j, i < 12 → j < 12 → i ≠ j → (VP i).ownBlock = none ∨ (VP i).ownBlock ≠ (VP j).ownBlock) (hn : NwAt w' B D' VP VK VT L') (hb : But B w w') : NetAt w' B { s with D := D', L := L' } :=
 ⟨VP, VK, VT, hn, fun i hi => ownsRow_but (h2 i hi) hb (Nat.lt_succ_self _), fun i hi => ownsRow_but (h3 i hi) hb (Nat.lt_succ_self _), fun i hi => by obtain ⟨hs, q⟩ := h4 i hi; exact ⟨hs, q.but hb (Nat.lt_succ_self _)⟩, h5⟩
theorem netLink_at (B : Nat) (s : Pl.Nt) (x : Pl.Ac) (w : World) (h : NetAt w B s) (ha : 0 ≤ x.a ∧ x.a ≤ 11) :
  Calls Tryz.prog 110 #[.pointer (some ⟨B, 0, none⟩), .agg #[.int .i64 x.kind, .int .i64 x.a, .int .i64 x.b, .int .i64 x.n, .int .i64 x.m, .int .i64 x.p.1, .int .i64 x.p.2, .string x.key, .string x.val]] w fun e w' =>
   e = .returned (.agg #[.int .i64 (Pl.linkC x), .slice none 0 0, .int .i64 0, .slice none 0 0]) ∧ NetAt w' B { s with L := Pl.linkL s.L x } ∧ NKept B w w' := by
 obtain ⟨VP, VK, VT, h1, h2, h3, h4, h5⟩ := h
 exact (link_any B s.D VP VK VT s.L x w h1 ha).mono fun e w' ⟨e1, e2, e3⟩ => ⟨e1, NetAt.nw h2 h3 h4 h5 e2 e3, NKept.of e3⟩
theorem netCut_at (B : Nat) (s : Pl.Nt) (x : Pl.Ac) (w : World) (h : NetAt w B s) (ha : 0 ≤ x.a ∧ x.a ≤ 11) :
  Calls Tryz.prog 111 #[.pointer (some ⟨B, 0, none⟩), .agg #[.int .i64 x.kind, .int .i64 x.a, .int .i64 x.b, .int .i64 x.n, .int .i64 x.m, .int .i64 x.p.1, .int .i64 x.p.2, .string x.key, .string x.val]] w fun e w' =>
   e = .returned (.agg #[.int .i64 (Pl.cutCd s.L x), .slice none 0 0, .int .i64 0, .slice none 0 0]) ∧ NetAt w' B { s with L := Pl.cutLn s.L x } ∧ NKept B w w' := by
 obtain ⟨VP, VK, VT, h1, h2, h3, h4, h5⟩ := h
 exact (netCut_any B s.D VP VK VT s.L x w h1 ha).mono fun e w' ⟨e1, e2, e3⟩ => ⟨e1, NetAt.nw h2 h3 h4 h5 e2 e3, NKept.of e3⟩
theorem netDrain_at (B : Nat) (s : Pl.Nt) (x : Pl.Ac) (w : World) (h : NetAt w B s) (ha : 0 ≤ x.a ∧ x.a ≤ 11) :
  Calls Tryz.prog 112 #[.pointer (some ⟨B, 0, none⟩), .agg #[.int .i64 x.kind, .int .i64 x.a, .int .i64 x.b, .int .i64 x.n, .int .i64 x.m, .int .i64 x.p.1, .int .i64 x.p.2, .string x.key, .string x.val]] w fun e w' =>
   e = .returned (.agg #[.int .i64 (Pl.drainC x), .slice none 0 0, .int .i64 0, .slice none 0 0]) ∧ NetAt w' B { s with D := Pl.drainD s.D x } ∧ NKept B w w' := by
 obtain ⟨VP, VK, VT, h1, h2, h3, h4, h5⟩ := h
 exact (netDrain_any B s.D VP VK VT s.L x w h1 ha).mono fun e w' ⟨e1, e2, e3⟩ => ⟨e1, NetAt.nw h2 h3 h4 h5 e2 e3, NKept.of e3⟩
def Pl.stands (es : List Pl.Ent) (of : Int) (key val : ByteArray) : Bool := (Pl.gotC es key == 0) && ((Pl.gotE es key).org == of) && decide ((Pl.gotE es key).val = val)
set_option maxHeartbeats 4000000 in
theorem stands_any (a : Option Addr) (len cap : Nat) (es : List Pl.Ent) (of : Int) (key val : ByteArray) (w : World) (h : IsEnts w a len cap es) :
  Calls Tryz.prog 190 #[.slice a len cap, .int .i64 of, .agg #[.string key, .string val]] w fun e w' => e = .returned (.bool (Pl.stands es of key val)) ∧ Below w.heap.size w w' := by
 have HE := hid h
 clear h
 obtain ⟨R, HR⟩ : ∃ R, Hid (Pl.stands es of key val = R) := ⟨_, hid rfl⟩
 have HRE : Hid (R = ((Pl.gotC es key == 0) && ((Pl.gotE es key).org == of) && decide ((Pl.gotE es key).val = val))) := hid HR.out.symm
 rw [HR.out]
 clear HR
 obtain ⟨W1, HW1⟩ : ∃ x, Hid (x = w.alloc (.cells #[.string key, .string val] 223)) := ⟨_, hid rfl⟩
 have HB1 : Hid (Below w.heap.size w W1) := hid (by rw [HW1.out]; exact (Below.refl _ _).alloc (Nat.le_refl _) _)
 have HX1 : Hid (W1.heap[w.heap.size]? = some (.cells #[.string key, .string val] 223)) := hid (by rw [HW1.out]; exact heapNew _ _)
 have hz1 : W1.heap.size = w.heap.size + 1 := by rw [HW1.out]; simp
 obtain ⟨k0, k1, kf0, kf1, hkl⟩ := adjAt_cells HX1.out
 have HG := hid (Get_any a len cap es key W1 (HE.out.below HB1.out))
 obtain ⟨c, HC⟩ : ∃ c, Hid (Pl.gotC es key = c) := ⟨_, hid rfl⟩
 obtain ⟨g, HGE⟩ : ∃ c, Hid (Pl.gotE es key = c) := ⟨_, hid rfl⟩
 rw [HC.out, HGE.out] at HG HRE
 obtain ⟨gk, gv, go, gx⟩ := g
 simp only at HG HRE
 go_enter Tryz.func190, Tryz.ntmps190
 go_wp2_with (rw [← HW1.out])
 refine HG.out.mono ?_
 rintro e w2 ⟨rfl, hb2⟩
 have HB2 := hid (HB1.out.trans (hb2.mono HB1.out.size))
 have m0 := (hb2.cell (p := ⟨w.heap.size, 0, none⟩) hkl).trans k0
 have m1 := (hb2.cell (p := ⟨w.heap.size, 1, none⟩) hkl).trans k1
 have hz2 := hb2.size
 have hml : w.heap.size < w2.heap.size := by omega
 clear hb2 k0 k1 kf0 kf1
 have HFIN : Hid (∀ o, Below w.heap.size w (w2.alloc o)) := hid fun o => HB2.out.alloc (by omega) _
 by_cases hc : c = 0
 ·subst hc
  by_cases ho : go = of
  ·have hob : (go == of) = true := by simpa using ho
   have HRV : Hid (R = (gx.toList == val.toList)) := hid (by rw [HRE.out, hob, Pl.beqL]; rfl)
   clear ho
   go_wp2_with fail
   go_ret
   exact ⟨ret_bool HRV.out.symm, HFIN.out _⟩
  ·have hob : (go == of) = false := by simpa using ho
   have HRV : Hid (R = false) := hid (by rw [HRE.out, hob]; simp)
   clear ho
   go_wp2_with fail
   go_ret
   exact ⟨ret_bool HRV.out.symm, HFIN.out _⟩
 ·have hcb : (c == 0) = false := by simpa using hc
  have HRV : Hid (R = false) := hid (by rw [HRE.out, hcb]; simp)
  clear hc
  go_wp2_with fail
  go_ret
  exact ⟨ret_bool HRV.out.symm, HFIN.out _⟩
theorem row_at {w w' : World} {b off k : Nat} {es : List Pl.Ent} {y : Pl.Ent} (h : RowAt w b off es) (hb : b < w.heap.size) (hw : Below w.heap.size w w') (hy : Pl.ent es k = y) (hk : k < es.length) :
  w'.cell? ⟨b, off + k * 4, none⟩ = some (.string y.key) ∧ w'.cell? ⟨b, off + k * 4 + 1, none⟩ = some (.int .i64 y.ver) ∧ w'.cell? ⟨b, off + k * 4 + 2, none⟩ = some (.int .i64 y.org) ∧ w'.cell? ⟨b, off + k * 4 + 3, none⟩ = some (.string y.val) := by
 subst hy
 exact (h.below hb hw) k hk
def Pl.putV (es : List Pl.Ent) (key : ByteArray) : Int := if Pl.there es key then (Pl.ent es (Pl.pos es key)).ver + 1 else 1
def Pl.putC (es : List Pl.Ent) (node : Int) (key val : ByteArray) : Int :=
 if ¬ Pl.fault es = 0 then Pl.fault es else if decide (0 ≤ node ∧ node ≤ 11) = false then 2 else if Pl.keyB key = false then 4 else if 120 < val.size then 1
 else if Pl.there es key = false ∧ 60 ≤ es.length then 1 else if 1099511627776 < Pl.putV es key then 2 else 0
def Pl.putO (es : List Pl.Ent) (node : Int) (key val : ByteArray) : List Pl.Ent := if Pl.putC es node key val = 0 then Pl.ins es ⟨key, Pl.putV es key, node, val⟩ else []
theorem Pl.putO_err {es : List Pl.Ent} {node : Int} {key val : ByteArray} {c : Int} (h : Pl.putC es node key val = c) (hc : ¬ c = 0) : Pl.putO es node key val = [] := by
 unfold Pl.putO; rw [h, if_neg hc]
set_option maxHeartbeats 1000000 in
theorem Put_any (a : Option Addr) (len cap : Nat) (es : List Pl.Ent) (node : Int) (key val : ByteArray) (w : World) (h : IsEnts w a len cap es) (hnil : a = none → cap = 0) (hk : key.size ≤ maxLen) (hv : val.size ≤ maxLen) :
  Calls Tryz.prog 166 #[.slice a len cap, .int .i64 node, .string key, .string val] w fun e w' => ∃ v, e = .returned (.tuple #[v, .int .i64 (Pl.putC es node key val)]) ∧ Own w' w.heap.size v (Pl.putO es node key val) ∧ Below w.heap.size w w' := by
 have HH : Hid (IsEnts w a len cap es) := h
 have HN : Hid (a = none → cap = 0) := hnil
 have hlen : es.length = len := h.1
 have hcap := h.2.1
 have hm := h.2.2.1
 have HK : Hid (key.size ≤ maxLen) := hk
 unfold maxLen at hm hv hk
 clear h hnil
 obtain ⟨c, HC⟩ : ∃ c, Hid (Pl.fault es = c) := ⟨_, rfl⟩
 obtain ⟨nn, HD⟩ : ∃ c, Hid (decide (0 ≤ node ∧ node ≤ 11) = c) := ⟨_, rfl⟩
 obtain ⟨kk, HY⟩ : ∃ c, Hid (Pl.keyB key = c) := ⟨_, rfl⟩
 obtain ⟨t, HT⟩ : ∃ t, Hid (Pl.there es key = t) := ⟨_, rfl⟩
 by_cases hc0 : c = 0
 case neg =>
  have hcn : (c != 0) = true := by simp [hc0]
  have hce : (c == 0) = false := by simp [hc0]
  have HP : Hid (Pl.putC es node key val = c ∧ ¬ c = 0) := by
   refine ⟨?_, hc0⟩
   unfold Pl.putC; rw [HC.out, if_pos hc0]
  clear hc0
  go_enter Tryz.func166, Tryz.ntmps166
  go_wp2_with fail
  refine (Check_any _ _ _ es _ HH.out).mono ?_
  rw [HC.out]
  rintro e w1 ⟨rfl, hb1⟩
  go_wp2_with (first | (go_at_call 72; refine (isNode_any _ _).mono ?_; rw [HD.out]; rintro e w' ⟨rfl, rfl⟩) | (go_at_call 87; refine (Key_any _ _ HK.out).mono ?_; rw [HY.out]; rintro e w' ⟨rfl, rfl⟩))
  go_ret2
  exact ⟨_, by rw [HP.out.1]; rfl, by rw [Pl.putO_err HP.out.1 HP.out.2]; exact Own.nil _ _, hb1⟩
 case pos =>
 subst hc0
 have hng : ¬ ¬ Pl.fault es = 0 := fun h => h HC.out
 have HNG : Hid (¬ ¬ Pl.fault es = 0) := hng
 clear hng
 cases nn
 case false =>
  have HP : Hid (Pl.putC es node key val = 2) := by
   show _ = _
   unfold Pl.putC; rw [if_neg HNG.out, if_pos HD.out]
  go_enter Tryz.func166, Tryz.ntmps166
  go_wp2_with fail
  refine (Check_any _ _ _ es _ HH.out).mono ?_
  rw [HC.out]
  rintro e w1 ⟨rfl, hb1⟩
  go_wp2_with (first | (go_at_call 72; refine (isNode_any _ _).mono ?_; rw [HD.out]; rintro e w' ⟨rfl, rfl⟩) | (go_at_call 87; refine (Key_any _ _ HK.out).mono ?_; rw [HY.out]; rintro e w' ⟨rfl, rfl⟩))
  go_ret2
  exact ⟨_, by rw [HP.out]; rfl, by rw [Pl.putO_err HP.out (by decide)]; exact Own.nil _ _, hb1⟩
 case true =>
 have HDN : Hid (¬ decide (0 ≤ node ∧ node ≤ 11) = false) := by rw [HD.out]; exact fun h => by cases h
 cases kk
 case false =>
  have HP : Hid (Pl.putC es node key val = 4) := by
   show _ = _
   unfold Pl.putC; rw [if_neg HNG.out, if_neg HDN.out, if_pos HY.out]
  go_enter Tryz.func166, Tryz.ntmps166
  go_wp2_with fail
  refine (Check_any _ _ _ es _ HH.out).mono ?_
  rw [HC.out]
  rintro e w1 ⟨rfl, hb1⟩
  go_wp2_with (first | (go_at_call 72; refine (isNode_any _ _).mono ?_; rw [HD.out]; rintro e w' ⟨rfl, rfl⟩) | (go_at_call 87; refine (Key_any _ _ HK.out).mono ?_; rw [HY.out]; rintro e w' ⟨rfl, rfl⟩))
  go_ret2
  exact ⟨_, by rw [HP.out]; rfl, by rw [Pl.putO_err HP.out (by decide)]; exact Own.nil _ _, hb1⟩
 case true =>
 have HYN : Hid (¬ Pl.keyB key = false) := by rw [HY.out]; exact fun h => by cases h
 by_cases hx : 120 < val.size
 case pos =>
  have HP : Hid (Pl.putC es node key val = 1) := by
   show _ = _
   unfold Pl.putC; rw [if_neg HNG.out, if_neg HDN.out, if_neg HYN.out, if_pos hx]
  go_enter Tryz.func166, Tryz.ntmps166
  go_wp2_with fail
  refine (Check_any _ _ _ es _ HH.out).mono ?_
  rw [HC.out]
  rintro e w1 ⟨rfl, hb1⟩
  go_wp2_with (first | (go_at_call 72; refine (isNode_any _ _).mono ?_; rw [HD.out]; rintro e w' ⟨rfl, rfl⟩) | (go_at_call 87; refine (Key_any _ _ HK.out).mono ?_; rw [HY.out]; rintro e w' ⟨rfl, rfl⟩))
  go_ret2
  exact ⟨_, by rw [HP.out]; rfl, by rw [Pl.putO_err HP.out (by decide)]; exact Own.nil _ _, hb1⟩
 case neg =>
 have HXN : Hid (¬ 120 < val.size) := hx
 have HG : Hid (Pl.Good es) := (Pl.good_iff es).1 HC.out
 have HA : Hid (Pl.Asc es) := (Pl.asc_iff es).2 HG.out.2.2
 have HL : Hid (len ≤ 60) := by have := HG.out.1; show _ ≤ _; omega
 cases t
 case false =>
  by_cases h60 : 60 ≤ len
  case pos =>
   have HP : Hid (Pl.putC es node key val = 1) := by
    show _ = _
    unfold Pl.putC; rw [if_neg HNG.out, if_neg HDN.out, if_neg HYN.out, if_neg HXN.out, if_pos ⟨HT.out, by omega⟩]
   go_enter Tryz.func166, Tryz.ntmps166
   go_wp2_with fail
   refine (Check_any _ _ _ es _ HH.out).mono ?_
   rw [HC.out]
   rintro e w1 ⟨rfl, hb1⟩
   go_wp2_with (first | (go_at_call 72; refine (isNode_any _ _).mono ?_; rw [HD.out]; rintro e w' ⟨rfl, rfl⟩) | (go_at_call 87; refine (Key_any _ _ HK.out).mono ?_; rw [HY.out]; rintro e w' ⟨rfl, rfl⟩))
   refine (find_any _ _ _ es key _ (HH.out.below hb1) HA.out HL.out).mono ?_
   rw [HT.out]
   rintro e w2 ⟨rfl, hb2⟩
   have hb12 := hb1.trans (hb2.mono hb1.size)
   have hz := hb12.size
   go_wp2_with fail
   go_ret2
   exact ⟨_, by rw [HP.out]; rfl, by rw [Pl.putO_err HP.out (by decide)]; exact Own.nil _ _, hb12⟩
  case neg =>
   have HV : Hid (Pl.putV es key = 1) := by show _ = _; unfold Pl.putV; rw [HT.out]; rfl
   have HP : Hid (Pl.putC es node key val = 0) := by
    show _ = _
    unfold Pl.putC; rw [if_neg HNG.out, if_neg HDN.out, if_neg HYN.out, if_neg HXN.out, if_neg (fun h => by omega), HV.out, if_neg (by omega)]
   have HO : Hid (Pl.putO es node key val = Pl.ins es ⟨key, 1, node, val⟩) := by show _ = _; unfold Pl.putO; rw [if_pos HP.out, HV.out]
   go_enter Tryz.func166, Tryz.ntmps166
   go_wp2_with fail
   refine (Check_any _ _ _ es _ HH.out).mono ?_
   rw [HC.out]
   rintro e w1 ⟨rfl, hb1⟩
   go_wp2_with (first | (go_at_call 72; refine (isNode_any _ _).mono ?_; rw [HD.out]; rintro e w' ⟨rfl, rfl⟩) | (go_at_call 87; refine (Key_any _ _ HK.out).mono ?_; rw [HY.out]; rintro e w' ⟨rfl, rfl⟩))
   refine (find_any _ _ _ es key _ (HH.out.below hb1) HA.out HL.out).mono ?_
   rw [HT.out]
   rintro e w2 ⟨rfl, hb2⟩
   have hb12 := hb1.trans (hb2.mono hb1.size)
   have hz := hb12.size
   go_wp2_with fail
   refine (lay_any _ _ _ es (Pl.pos es key) false ⟨key, 1, node, val⟩ _ (HH.out.below (hb12.alloc hz _)) HN.out HL.out (by have := Pl.pos_le es key; omega) (fun h => by cases h)).mono ?_
   rintro e w3 ⟨v3, rfl, ho3, hb3⟩
   have ho3' : Own w3 w.heap.size v3 (Pl.ins es ⟨key, 1, node, val⟩) := by
    have e1 := Pl.lay_ins es ⟨key, 1, node, val⟩
    simp only [HT.out] at e1
    rw [e1] at ho3
    exact ho3.mono (by simp; omega)
   have HO3 := hid ho3'
   clear ho3 ho3'
   go_wp2_with fail
   go_ret2
   exact ⟨_, by rw [HP.out]; rfl, by rw [HO.out]; exact HO3.out, (hb12.alloc hz _).trans (hb3.mono (by simp; omega))⟩
 case true =>
  have hpos : Pl.pos es key < len := by
   have := HT.out
   unfold Pl.there at this
   simp only [Bool.and_eq_true, decide_eq_true_eq] at this
   omega
  obtain ⟨b, off, rfl, hbw, hr⟩ : ∃ b off, a = some ⟨b, off, none⟩ ∧ b < w.heap.size ∧ RowAt w b off es := by
   rcases HH.out.2.2.2.2 with h | h
   ·rw [h] at hlen; simp at hlen; omega
   ·exact h
  have HRW : Hid (RowAt w b off es) := hr
  clear hr
  have hvb : 1 ≤ (Pl.ent es (Pl.pos es key)).ver ∧ (Pl.ent es (Pl.pos es key)).ver ≤ 1099511627776 := by
   have := HG.out.2.1 _ (Pl.ent_mem es (Pl.pos es key) (by omega))
   unfold Pl.Ent.may Pl.entB at this
   simp only [Bool.and_eq_true, decide_eq_true_eq] at this
   exact this.1.1.2
  have HV : Hid (Pl.putV es key = (Pl.ent es (Pl.pos es key)).ver + 1) := by show _ = _; unfold Pl.putV; rw [HT.out]; rfl
  have HLT : Hid (Pl.pos es key < es.length) := by show _ < _; omega
  have HNF : Hid (¬ (Pl.there es key = false ∧ 60 ≤ es.length)) := by
   intro h
   rw [HT.out] at h
   cases h.1
  obtain ⟨p, HPP⟩ : ∃ p, Hid (Pl.pos es key = p) := ⟨_, rfl⟩
  rw [HPP.out] at hpos hvb HV HLT
  obtain ⟨y, HYY⟩ : ∃ y, Hid (Pl.ent es p = y) := ⟨_, rfl⟩
  rw [HYY.out] at hvb HV
  obtain ⟨yk, yv, yo, yx⟩ := y
  simp only at hvb HV
  have hp1 : (p : Int) < (len : Int) := by omega
  have hpd : decide ((p : Int) < 0) = false := decide_eq_false (by omega)
  have hpe : decide ((0 : Int) ≤ (p : Int)) = true := decide_eq_true (by omega)
  obtain ⟨hv1, hv2⟩ := hvb
  by_cases hmax : 1099511627776 < yv + 1
  case pos =>
   have HP : Hid (Pl.putC es node key val = 2) := by
    show _ = _
    unfold Pl.putC; rw [if_neg HNG.out, if_neg HDN.out, if_neg HYN.out, if_neg HXN.out, if_neg HNF.out, HV.out, if_pos hmax]
   go_enter Tryz.func166, Tryz.ntmps166
   go_wp2_with fail
   refine (Check_any _ _ _ es _ HH.out).mono ?_
   rw [HC.out]
   rintro e w1 ⟨rfl, hb1⟩
   go_wp2_with (first | (go_at_call 72; refine (isNode_any _ _).mono ?_; rw [HD.out]; rintro e w' ⟨rfl, rfl⟩) | (go_at_call 87; refine (Key_any _ _ HK.out).mono ?_; rw [HY.out]; rintro e w' ⟨rfl, rfl⟩))
   refine (find_any _ _ _ es key _ (HH.out.below hb1) HA.out HL.out).mono ?_
   rw [HT.out, HPP.out]
   rintro e w2 ⟨rfl, hb2⟩
   have hb12 := hb1.trans (hb2.mono hb1.size)
   have hz := hb12.size
   have hbw2 : b < w2.heap.size := by omega
   obtain ⟨j0, j1, j2, j3⟩ := row_at HRW.out hbw hb12 HYY.out HLT.out
   go_wp2_with fail
   go_ret2
   exact ⟨_, by rw [HP.out]; rfl, by rw [Pl.putO_err HP.out (by decide)]; exact Own.nil _ _, (hb12.alloc hz _)⟩
  case neg =>
   have HP : Hid (Pl.putC es node key val = 0) := by
    show _ = _
    unfold Pl.putC; rw [if_neg HNG.out, if_neg HDN.out, if_neg HYN.out, if_neg HXN.out, if_neg HNF.out, HV.out, if_neg hmax]
   have HO : Hid (Pl.putO es node key val = Pl.ins es ⟨key, yv + 1, node, val⟩) := by show _ = _; unfold Pl.putO; rw [if_pos HP.out, HV.out]
   go_enter Tryz.func166, Tryz.ntmps166
   go_wp2_with fail
   refine (Check_any _ _ _ es _ HH.out).mono ?_
   rw [HC.out]
   rintro e w1 ⟨rfl, hb1⟩
   go_wp2_with (first | (go_at_call 72; refine (isNode_any _ _).mono ?_; rw [HD.out]; rintro e w' ⟨rfl, rfl⟩) | (go_at_call 87; refine (Key_any _ _ HK.out).mono ?_; rw [HY.out]; rintro e w' ⟨rfl, rfl⟩))
   refine (find_any _ _ _ es key _ (HH.out.below hb1) HA.out HL.out).mono ?_
   rw [HT.out, HPP.out]
   rintro e w2 ⟨rfl, hb2⟩
   have hb12 := hb1.trans (hb2.mono hb1.size)
   have hz := hb12.size
   have hbw2 : b < w2.heap.size := by omega
   obtain ⟨j0, j1, j2, j3⟩ := row_at HRW.out hbw hb12 HYY.out HLT.out
   go_wp2_with fail
   refine (lay_any _ _ _ es p true ⟨key, yv + 1, node, val⟩ _ (HH.out.below (hb12.alloc hz _)) HN.out HL.out (by omega) (fun _ => hpos)).mono ?_
   rintro e w3 ⟨v3, rfl, ho3, hb3⟩
   have ho3' : Own w3 w.heap.size v3 (Pl.ins es ⟨key, yv + 1, node, val⟩) := by
    have e1 := Pl.lay_ins es ⟨key, yv + 1, node, val⟩
    simp only [HT.out, HPP.out] at e1
    rw [e1] at ho3
    exact ho3.mono (by simp; omega)
   have HO3 := hid ho3'
   clear ho3 ho3'
   go_wp2_with fail
   go_ret2
   exact ⟨_, by rw [HP.out]; rfl, by rw [HO.out]; exact HO3.out, (hb12.alloc hz _).trans (hb3.mono (by simp; omega))⟩
theorem Pl.putO_good {es : List Pl.Ent} {node : Int} {key val : ByteArray} (h : Pl.putC es node key val = 0) : Pl.Good (Pl.putO es node key val) := by
 have hO : Pl.putO es node key val = Pl.ins es ⟨key, Pl.putV es key, node, val⟩ := by unfold Pl.putO; rw [if_pos h]
 rw [hO]
 unfold Pl.putC at h
 by_cases h1 : Pl.fault es = 0
 ·rw [if_neg (by simpa using h1)] at h
  by_cases h2 : decide (0 ≤ node ∧ node ≤ 11) = false
  ·rw [if_pos h2] at h; cases h
  ·rw [if_neg h2] at h
   by_cases h3 : Pl.keyB key = false
   ·rw [if_pos h3] at h; cases h
   ·rw [if_neg h3] at h
    by_cases h4 : 120 < val.size
    ·rw [if_pos h4] at h; cases h
    ·rw [if_neg h4] at h
     by_cases h5 : Pl.there es key = false ∧ 60 ≤ es.length
     ·rw [if_pos h5] at h; cases h
     ·rw [if_neg h5] at h
      by_cases h6 : 1099511627776 < Pl.putV es key
      ·rw [if_pos h6] at h; cases h
      ·have hg := (Pl.good_iff es).1 h1
       refine ⟨?_, fun e he => ?_, Pl.ins_srt hg.2.2⟩
       ·rw [Pl.ins_len]
        have := hg.1
        show (if Pl.there es key = true then es.length else es.length + 1) ≤ 60
        cases ht : Pl.there es key
        ·rw [ht] at h5
         simp at h5 ⊢
         omega
        ·simpa using this
       ·rcases Pl.mem_ins he with rfl | he
        ·show Pl.entB key (Pl.putV es key) node val = true
         refine Pl.entB_of (by simpa using h3) ?_ (by omega) (by simpa using h2) (by omega)
         unfold Pl.putV
         split
         ·rename_i ht
          have hm : Pl.ent es (Pl.pos es key) ∈ es := by
           unfold Pl.there at ht
           simp only [Bool.and_eq_true, decide_eq_true_eq] at ht
           rw [Pl.ent_eq _ _ ht.1]
           exact List.getElem_mem _
          have := hg.2.1 _ hm
          unfold Pl.Ent.may Pl.entB at this
          simp at this
          omega
         ·omega
        ·exact hg.2.1 e he
 ·rw [if_pos (by simpa using h1)] at h; exact absurd h h1
def Pl.putsS (es : List Pl.Ent) (of : Int) (its : List (ByteArray × ByteArray)) : Nat → Int × List Pl.Ent × List ByteArray
 | 0 => (0, es, [])
 | j + 1 =>
  let r := Pl.putsS es of its j
  let t := its.getD j (⟨#[]⟩, ⟨#[]⟩)
  if r.1 ≠ 0 then r else if Pl.stands r.2.1 of t.1 t.2 = true then r else if Pl.putC r.2.1 of t.1 t.2 ≠ 0 then (Pl.putC r.2.1 of t.1 t.2, r.2.1, r.2.2) else (0, Pl.putO r.2.1 of t.1 t.2, r.2.2 ++ [t.1])
theorem Pl.putsS_stuck {es : List Pl.Ent} {of : Int} {its : List (ByteArray × ByteArray)} {j : Nat} (h : (Pl.putsS es of its j).1 ≠ 0) : ∀ m, j ≤ m → Pl.putsS es of its m = Pl.putsS es of its j := by
 intro m hm
 induction m with
 | zero => rw [show j = 0 by omega]
 | succ m ih =>
  rcases Nat.lt_or_ge m j with g | g
  ·rw [show m + 1 = j by omega]
  ·have e := ih g
   show (if (Pl.putsS es of its m).1 ≠ 0 then _ else _) = _
   rw [if_pos (by rw [e]; exact h), e]
theorem apartTy {e1 e2 : TypeId} (hne : e1 ≠ e2) {w : World} {b1 b2 s1 s2 n1 n2 : Nat} {u v : Value} {xs ys : List Value} (h1 : w.ownsRow b1 e1 s1 u n1 xs) (h2 : w.ownsRow b2 e2 s2 v n2 ys) : u.ownBlock = none ∨ u.ownBlock ≠ v.ownBlock := by
 obtain ⟨_, ⟨rfl, _⟩ | ⟨g, cap, cur, rfl, _, hh, _⟩⟩ := h1
 ·exact .inl rfl
 ·right
  obtain ⟨_, ⟨rfl, _⟩ | ⟨g', cap', cur', rfl, _, hh', _⟩⟩ := h2
  ·simp [Value.ownBlock]
  ·intro e
   simp [Value.ownBlock] at e
   subst e
   rw [hh] at hh'
   simp at hh'
   exact hne hh'.2
def ToldsAt (w : World) (tb : Nat) (its : List (ByteArray × ByteArray)) : Prop := tb < w.heap.size ∧ ∀ j, j < its.length → w.cell? ⟨tb, j * 2, none⟩ = some (.string (its.getD j (⟨#[]⟩, ⟨#[]⟩)).1) ∧ w.cell? ⟨tb, j * 2 + 1, none⟩ = some (.string (its.getD j (⟨#[]⟩, ⟨#[]⟩)).2)
def Pl.putsK (s : Pl.Nt) (a : Nat) (its : List (ByteArray × ByteArray)) : List ByteArray := if (Pl.putsS (s.K a) a its its.length).1 = 0 then (Pl.putsS (s.K a) a its its.length).2.2 else []
def Pl.putsN (s : Pl.Nt) (a : Nat) (its : List (ByteArray × ByteArray)) : Pl.Nt := if (Pl.putsS (s.K a) a its its.length).1 = 0 then { s with K := Pl.upd s.K a (Pl.putsS (s.K a) a its its.length).2.1 } else s
set_option maxHeartbeats 8000000 in
theorem netPut_any (B : Nat) (s : Pl.Nt) (a : Nat) (tb m tc : Nat) (its : List (ByteArray × ByteArray)) (w : World) (h : NetAt w B s) (ha : a < 12) (hf : Pl.fault (s.K a) = 0) (hm : its.length = m) (hm9 : m ≤ 9) (hmc : m ≤ tc) (hit : ToldsAt w tb its) (hsz : ∀ t ∈ its, t.1.size ≤ maxLen ∧ t.2.size ≤ maxLen) :
  Calls Tryz.prog 164 #[.pointer (some ⟨B, 0, none⟩), .int .i64 a, .slice (some ⟨tb, 0, none⟩) m tc] w fun e w' =>
   ∃ vk, e = .returned (.agg #[.int .i64 (Pl.putsS (s.K a) a its its.length).1, .slice none 0 0, .int .i64 0, vk]) ∧ OwnS w' w.heap.size vk (Pl.putsK s a its) ∧ NetAt w' B (Pl.putsN s a its) ∧ NKept B w w' := by
 have HN := hid h
 have hBl := h.lt
 have HF := hid hf
 have HIT := hid hit
 have HSZ := hid hsz
 have HM := hid hm
 have htl := hit.1
 clear h hf hit hsz hm
 have ha' : (a : Int) < 12 := by omega
 obtain ⟨cd, HCD⟩ : ∃ c, Hid ((Pl.putsS (s.K a) a its its.length).1 = c) := ⟨_, hid rfl⟩
 obtain ⟨ks, HKS⟩ : ∃ c, Hid (Pl.putsK s a its = c) := ⟨_, hid rfl⟩
 obtain ⟨sn, HSN⟩ : ∃ c, Hid (Pl.putsN s a its = c) := ⟨_, hid rfl⟩
 have HK1 : Hid (cd = 0 → ks = (Pl.putsS (s.K a) a its m).2.2 ∧ sn = { s with K := Pl.upd s.K a (Pl.putsS (s.K a) a its m).2.1 }) := hid fun e => by
  rw [← HKS.out, ← HSN.out]; unfold Pl.putsK Pl.putsN; rw [HCD.out, if_pos e, if_pos e, HM.out]; exact ⟨rfl, rfl⟩
 have HK2 : Hid (cd ≠ 0 → ks = [] ∧ sn = s) := hid fun e => by
  rw [← HKS.out, ← HSN.out]; unfold Pl.putsK Pl.putsN; rw [HCD.out, if_neg e, if_neg e]; exact ⟨rfl, rfl⟩
 have HCM : Hid ((Pl.putsS (s.K a) a its m).1 = cd) := hid (by rw [← HM.out]; exact HCD.out)
 rw [HCD.out, HKS.out, HSN.out]
 clear HCD HKS HSN
 have HRF := hid (fun (c : Int) (W : World) => refused_any c W)
 obtain ⟨W1, HW1⟩ : ∃ W, Hid (W = w.alloc (.cells #[.int .i64 0, .slice none 0 0, .int .i64 0, .slice none 0 0] 40)) := ⟨_, hid rfl⟩
 have HX1 : Hid (W1.heap[w.heap.size]? = some (.cells #[.int .i64 0, .slice none 0 0, .int .i64 0, .slice none 0 0] 40)) := hid (by rw [HW1.out]; exact heapNew _ _)
 have HB1 : Hid (Below w.heap.size w W1) := hid (by rw [HW1.out]; exact (Below.refl _ _).alloc (Nat.le_refl _) _)
 have hz1 : W1.heap.size = w.heap.size + 1 := by rw [HW1.out]; simp
 have hne1 : B ≠ w.heap.size := by omega
 have hne2 : w.heap.size ≠ B := by omega
 have hle : w.heap.size ≤ w.heap.size := Nat.le_refl _
 obtain ⟨VP, VK, VT, h1, h2, h3, h4, h5⟩ := HN.out.below HB1.out
 have HG0 : Hid (Pl.Good (s.K a)) := hid ((Pl.good_iff _).1 HF.out)
 have hkn := h1.knows a ha
 have HOA := hid (h3 a ha)
 obtain ⟨ka0, kc0, ev0⟩ := ownsRow_slice HOA.out
 rw [ev0] at hkn HOA
 obtain ⟨nk0, HNK0⟩ : ∃ c, Hid ((s.K a).length = c) := ⟨_, hid rfl⟩
 rw [HNK0.out] at hkn HOA
 have hB1 := h1.lt
 have HSF := hid (h1.soft (a * 4 + 2))
 have HKN := hid hkn
 clear h1 h2 h3 h4 h5 ev0
 go_enter Tryz.func164, Tryz.ntmps164
 go_wp2_with (rw [← HW1.out])
 clear hkn
 go_loopw [7, 8, 22] (fun ul uk i wr => ∃ (j : Nat) (vl vk : Value) (es : List Pl.Ent) (kk : List ByteArray), vl = ul ∧ vk = uk ∧ j ≤ m ∧ i = .int .i64 j ∧ Hid (Pl.putsS (s.K a) a its j = (0, es, kk)) ∧ Hid (Pl.Good es) ∧ Hid (Own wr (B + 1) vl es) ∧ Hid (OwnS wr (w.heap.size + 1) vk kk) ∧ Hid (kk.length ≤ j) ∧ Hid (Below (w.heap.size + 1) W1 wr)) (fun _ _ i _ => m - (intOf i).toNat)
 case atStart => exact ⟨0, _, _, s.K a, [], rfl, rfl, by omega, rfl, hid rfl, HG0, HOA, hid (OwnS.nil _ _), hid (Nat.le_refl _), hid (Below.refl _ _)⟩
 case round =>
  obtain ⟨j, vl, vk, es, kk, hvl, hvk, hj, rfl, HPS, HGE, HOL, HOK, HKL, HBJ⟩ := hrel
  subst hvl
  subst hvk
  obtain ⟨la, lc, rfl, hle1, hln, hlb⟩ := HOL.out.shape HGE.out.ok
  obtain ⟨ya, yc, rfl⟩ := ownsRow_slice HOK.out
  have hsj := HBJ.out.size
  have HBW : Hid (Below w.heap.size w wr) := hid (HB1.out.trans (HBJ.out.mono (by omega)))
  have HXJ := hid ((HBJ.out.block w.heap.size (by omega)).trans HX1.out)
  have hBr : B < wr.heap.size := by omega
  have hkn := (HBJ.out.cell (p := ⟨B, a * 4 + 2, none⟩) (show B < w.heap.size + 1 by omega)).trans HKN.out
  have hsf := (HBJ.out.frozen (p := ⟨B, a * 4 + 2, none⟩) (show B < w.heap.size + 1 by omega)).trans HSF.out
  have HNJ := hid (HN.out.below HBW.out)
  obtain ⟨ne, HNE⟩ : ∃ c, Hid (es.length = c) := ⟨_, hid rfl⟩
  obtain ⟨nk, HNK⟩ : ∃ c, Hid (kk.length = c) := ⟨_, hid rfl⟩
  have HLE := hid hle1
  have HLN := hid hln
  rw [HNE.out] at HLE HOL ⊢
  rw [HNK.out] at HOK HKL ⊢
  clear hle1 hln hlb
  by_cases hjl : j < m
  ·have hjl' : (j : Int) < (m : Int) := by omega
   obtain ⟨c0, c1⟩ := HIT.out.2 j (by rw [HM.out]; exact hjl)
   have HTS : Hid ((its.getD j (⟨#[]⟩, ⟨#[]⟩)).1.size ≤ maxLen ∧ (its.getD j (⟨#[]⟩, ⟨#[]⟩)).2.size ≤ maxLen) := hid (HSZ.out _ (by
    rw [List.getD_eq_getElem?_getD, List.getElem?_eq_getElem (by rw [HM.out]; exact hjl)]
    exact List.getElem_mem _))
   have HST : Hid (Pl.putsS (s.K a) a its (j + 1) = if Pl.stands es a (its.getD j (⟨#[]⟩, ⟨#[]⟩)).1 (its.getD j (⟨#[]⟩, ⟨#[]⟩)).2 = true then (0, es, kk) else if Pl.putC es a (its.getD j (⟨#[]⟩, ⟨#[]⟩)).1 (its.getD j (⟨#[]⟩, ⟨#[]⟩)).2 ≠ 0 then (Pl.putC es a (its.getD j (⟨#[]⟩, ⟨#[]⟩)).1 (its.getD j (⟨#[]⟩, ⟨#[]⟩)).2, es, kk) else (0, Pl.putO es a (its.getD j (⟨#[]⟩, ⟨#[]⟩)).1 (its.getD j (⟨#[]⟩, ⟨#[]⟩)).2, kk ++ [(its.getD j (⟨#[]⟩, ⟨#[]⟩)).1])) := hid (by
    show (if (Pl.putsS (s.K a) a its j).1 ≠ 0 then _ else _) = _
    rw [HPS.out, if_neg (by simp)])
   obtain ⟨⟨k, v⟩, HKV⟩ : ∃ t, Hid (its.getD j (⟨#[]⟩, ⟨#[]⟩) = t) := ⟨_, hid rfl⟩
   rw [HKV.out] at c0 c1 HTS HST
   simp only at c0 c1 HTS HST
   have t0 := (HBW.out.cell (p := ⟨tb, j * 2, none⟩) htl).trans c0
   have t1 := (HBW.out.cell (p := ⟨tb, j * 2 + 1, none⟩) htl).trans c1
   have htr : tb < wr.heap.size := by have := HBW.out.size; omega
   obtain ⟨R, HR⟩ : ∃ R, Hid (Pl.stands es a k v = R) := ⟨_, hid rfl⟩
   obtain ⟨pc, HPC⟩ : ∃ R, Hid (Pl.putC es a k v = R) := ⟨_, hid rfl⟩
   rw [HR.out, HPC.out] at HST
   obtain ⟨W2, HW2⟩ : ∃ W, Hid (W = wr.alloc (.cells #[.string k, .string v] 223)) := ⟨_, hid rfl⟩
   have HB2 : Hid (Below wr.heap.size wr W2) := hid (by rw [HW2.out]; exact (Below.refl _ _).alloc (Nat.le_refl _) _)
   have HXT : Hid (W2.heap[wr.heap.size]? = some (.cells #[.string k, .string v] 223)) := hid (by rw [HW2.out]; exact heapNew _ _)
   have hz2 : W2.heap.size = wr.heap.size + 1 := by rw [HW2.out]; simp
   obtain ⟨m0, m1, mf0, mf1, hml⟩ := adjAt_cells HXT.out
   have HSTD := hid (stands_any la ne lc es a k v W2 (HLE.out.below HB2.out))
   rw [HR.out] at HSTD
   clear c0 c1 hkn hsf
   go_wp2_with (rw [← HW2.out])
   refine HSTD.out.mono ?_
   rintro e w3 ⟨rfl, hb3⟩
   have n0 := (hb3.cell (p := ⟨wr.heap.size, 0, none⟩) hml).trans m0
   have n1 := (hb3.cell (p := ⟨wr.heap.size, 1, none⟩) hml).trans m1
   have HB3 : Hid (Below wr.heap.size wr w3) := hid (HB2.out.trans (hb3.mono HB2.out.size))
   have hz3 := hb3.size
   have hnl : wr.heap.size < w3.heap.size := by omega
   clear hb3 m0 m1 mf0 mf1
   cases R with
   | true =>
    have HN1 : Hid (Pl.putsS (s.K a) a its (j + 1) = (0, es, kk)) := hid (by rw [HST.out, if_pos rfl])
    go_wp2_with fail
    go_roundw
    case rel => exact ⟨j + 1, _, _, es, kk, rfl, rfl, by omega, by go_num, HN1, HGE, hid (HOL.out.below HB3.out), hid (HOK.out.below HB3.out), hid (by have := HKL.out; have := HNK.out; omega), hid (HBJ.out.trans (HB3.out.mono (by omega)))⟩
    case measure => simp [intOf]; omega
   | false =>
    rw [if_neg (by simp)] at HST
    have HPT := hid (Put_any la ne lc es a k v w3 (HLE.out.below HB3.out) HLN.out HTS.out.1 HTS.out.2)
    rw [HPC.out] at HPT
    go_wp2_with fail
    refine HPT.out.mono ?_
    rintro e w4 ⟨vo, rfl, ho4, hb4⟩
    obtain ⟨oa, oc, rfl⟩ := ownsRow_slice ho4
    have l0 := (hb4.cell (p := ⟨wr.heap.size, 0, none⟩) hnl).trans n0
    have HB4 : Hid (Below wr.heap.size wr w4) := hid (HB3.out.trans (hb4.mono HB3.out.size))
    have hz4 := hb4.size
    have hnl4 : wr.heap.size < w4.heap.size := by omega
    have HO4 := hid (Own.mono ho4 (show B + 1 ≤ w3.heap.size by omega))
    obtain ⟨no, HNO⟩ : ∃ c, Hid ((Pl.putO es a k v).length = c) := ⟨_, hid rfl⟩
    rw [HNO.out] at HO4 ⊢
    clear ho4 hb4 n0 n1 HPT HSTD
    by_cases hpc : pc = 0
    ·rw [if_neg (by simpa using hpc)] at HST
     have HGO : Hid (Pl.Good (Pl.putO es a k v)) := hid (Pl.putO_good (by rw [HPC.out, hpc]))
     subst hpc
     have HOK4 := hid (HOK.out.below HB4.out)
     go_wp2_with (at_builtin; refine append_key rfl (.tmp 45) (.tmp 48) rfl (w.heap.size + 1) (.slice ya nk yc) kk k rfl HOK4.out (by omega) rfl (by have := HKL.out; have := HNK.out; omega) ?_; intro v5 w5 ho5 hg5 hb5; have HO5 := hid ho5; have HG5 := hid hg5; have HB5 := hid hb5; clear ho5 hg5 hb5)
     go_roundw
     case rel =>
      refine ⟨j + 1, _, _, Pl.putO es a k v, kk ++ [k], rfl, rfl, by omega, by go_num, HST, HGO, hid ?_, HO5, hid (by simp; have := HKL.out; have := HNK.out; omega), hid ((HBJ.out.trans (HB4.out.mono (by omega))).trans HB5.out)⟩
      exact World.ownsRow.kept (World.ownsRow.alloc HO4.out _) HG5.out (apartTy (by decide) HO4.out HOK4.out)
     case measure => simp [intOf]; omega
    ·have hpcb : (pc != 0) = true := by simpa using hpc
     rw [if_pos hpc] at HST
     have HCP : Hid (cd = pc) := hid (by
      have h1 := Pl.putsS_stuck (es := s.K a) (of := a) (its := its) (j := j + 1) (by rw [HST.out]; exact hpc) m (by omega)
      rw [← HCM.out, h1, HST.out])
     obtain ⟨e1, e2⟩ := HK2.out (by rw [HCP.out]; exact hpc)
     have HKE := hid e1
     have HSE := hid e2
     have HX4 := hid ((HB4.out.block _ (blockLt HXJ.out)).trans HXJ.out)
     have HBW4 : Hid (Below w.heap.size w w4) := hid (HBW.out.trans (HB4.out.mono HBW.out.size))
     clear e1 e2 hpc l0
     go_wp2_with fail
     refine (HRF.out pc _).mono ?_
     rintro e w6 ⟨rfl, hb6⟩
     have hbx := (hb6.block _ (blockLt HX4.out)).trans HX4.out
     have HB6 := hid (HBW4.out.trans (hb6.mono HBW4.out.size))
     obtain ⟨⟨y0, y1, y2, y3⟩, yf, yl⟩ := box4c hbx
     clear hb6 hbx
     go_wp2_with fail
     have hfin := (((HB6.out.setCell (p := ⟨w.heap.size, 0, none⟩) hle (.int .i64 pc)).setCell (p := ⟨w.heap.size, 1, none⟩) hle (.slice none 0 0)).setCell (p := ⟨w.heap.size, 2, none⟩) hle (.int .i64 0)).setCell (p := ⟨w.heap.size, 3, none⟩) hle (.slice none 0 0)
     refine bodyPost_ret (v := .agg #[.int .i64 pc, .slice none 0 0, .int .i64 0, .slice none 0 0]) (by simp [results, Tryz.results164, go_sem, y0, y1, y2, y3]) rfl ⟨_, by rw [HCP.out], ?_, ?_, NKept.of (But.of hfin)⟩
     ·rw [HKE.out]; exact OwnS.nil _ _
     ·rw [HSE.out]; exact HN.out.below hfin
  ·obtain rfl : j = m := by omega
   have HC0 : Hid (cd = 0) := hid (by rw [← HCM.out, HPS.out])
   obtain ⟨e1, e2⟩ := HK1.out HC0.out
   rw [HPS.out] at e1 e2
   have HKE := hid e1
   have HSE := hid e2
   obtain ⟨⟨y0, y1, y2, y3⟩, yf, yl⟩ := box4c HXJ.out
   clear e1 e2 HK1 HK2 HCM
   go_wp2_with fail
   obtain ⟨WS, HWS⟩ : ∃ x, Hid (x = wr.setCell ⟨B, a * 4 + 2, none⟩ (.slice la ne lc)) := ⟨_, hid rfl⟩
   have HBS : Hid (But B wr WS) := hid (by rw [HWS.out]; exact (But.refl B wr).setCell _ _)
   have HXS := hid ((HBS.out.block _ yl hne2).trans HXJ.out)
   rw [← HWS.out]
   obtain ⟨Wf, HWF⟩ : ∃ x, Hid (x = set4 WS w.heap.size (.int .i64 0) (.slice none 0 0) (.int .i64 0) (.slice ya nk yc)) := ⟨_, hid rfl⟩
   have hbut : But w.heap.size WS Wf := by rw [HWF.out]; exact set4_but (But.refl w.heap.size WS) _ _ _ _
   have hfx : Wf.heap[w.heap.size]? = some (.cells #[.int .i64 0, .slice none 0 0, .int .i64 0, .slice ya nk yc] 40) := by
    rw [HWF.out]; exact set4_at HXS.out _ _ _ _
   have hks : OwnS Wf w.heap.size (.slice ya nk yc) kk := ownS_reply (ownS_nw (World.ownsRow_mono HOK.out (by omega)) HBS.out (HNJ.out.blk)) hbut HXS.out
   obtain ⟨⟨z0, z1, z2, z3⟩, _, _⟩ := box4c hfx
   rw [show (((WS.setCell ⟨w.heap.size, 0, none⟩ (.int .i64 0)).setCell ⟨w.heap.size, 1, none⟩ (.slice none 0 0)).setCell ⟨w.heap.size, 2, none⟩ (.int .i64 0)).setCell ⟨w.heap.size, 3, none⟩ (.slice ya nk yc) = Wf from HWF.out.symm]
   refine bodyPost_ret (v := .agg #[.int .i64 0, .slice none 0 0, .int .i64 0, .slice ya nk yc]) (by simp [results, Tryz.results164, go_sem, z0, z1, z2, z3]) rfl ⟨_, by rw [HC0.out], ?_, ?_, ?_⟩
   ·rw [HKE.out]; exact hks
   ·rw [HSE.out]
    refine NetAt.reply ?_ hbut HXS.out hne2
    rw [HWS.out]
    exact HNJ.out.setKnows a ha (.slice la ne lc) _ HOL.out
   ·exact NKept.of (But.over ((But.of HBW.out : But B w wr).trans HBS.out) hbut hle)
def Pl.rpC (l : List UInt8) : Int := match Pl.pairsL 47 l with
 | none => 4
 | some ps => Pl.pfxF ps
def Pl.rpS (l : List UInt8) : List (Int × Int) := if Pl.rpC l = 0 then (Pl.pairsL 47 l).getD [] else []
theorem infoPfx : (Tryz.prog.info? 49).map (fun i => (i.zero, i.size, i.bytes)) = some (some (.agg #[.int .i64 0, .int .i64 0]), 2, 16) := by kernel_rfl
theorem Pl.rpS_ok (l : List UInt8) : ∀ p ∈ Pl.rpS l, Pl.pairOk p := by
 intro p hp
 unfold Pl.rpS at hp
 split at hp
 ·cases h : Pl.pairsL 47 l with
  | none => rw [h] at hp; simp at hp
  | some a =>
   rw [h] at hp
   exact (Pl.pairsL_facts (m := 47) (l := l) h).2 p hp
 ·simp at hp
set_option maxHeartbeats 2000000 in
theorem ReadPrefixes_any (s : ByteArray) (w : World) (hs : s.size ≤ 4398046511103) :
  Calls Tryz.prog 32 #[.string s] w fun e w' => ∃ vl : Value, e = .returned (.tuple #[vl, .int .i64 (Pl.rpC s.data.toList)]) ∧
   OwnP 49 w' w.heap.size vl (Pl.rpS s.data.toList) ∧ Below w.heap.size w w' := by
 obtain ⟨np, HP⟩ : ∃ x, Hid (Pl.pairsL 47 s.data.toList = x) := ⟨_, rfl⟩
 cases np with
 | none =>
  have HC : Hid (Pl.rpC s.data.toList = 4 ∧ Pl.rpS s.data.toList = []) := by
   have h : Pl.rpC s.data.toList = 4 := by unfold Pl.rpC; rw [HP.out]
   refine hid ⟨h, ?_⟩
   unfold Pl.rpS; rw [h]; rfl
  rw [HC.out.1, HC.out.2]
  go_enter Tryz.func32, Tryz.ntmps32
  go_wp2_with fail
  refine (readPairs_any s 47 _ (by omega)).mono ?_
  rw [HP.out]
  rintro e w2 ⟨v2, rfl, _, hb2⟩
  go_wp2_with fail
  go_ret2
  exact ⟨_, rfl, OwnP.nil _ _ _, hb2⟩
 | some ps =>
  obtain ⟨cc, HCC⟩ : ∃ x, Hid (Pl.pfxF ps = x) := ⟨_, rfl⟩
  have HC : Hid (Pl.rpC s.data.toList = cc ∧ (cc = 0 → Pl.rpS s.data.toList = ps) ∧ (cc ≠ 0 → Pl.rpS s.data.toList = [])) := by
   have h : Pl.rpC s.data.toList = cc := by unfold Pl.rpC; rw [HP.out]; exact HCC.out
   refine hid ⟨h, fun h0 => ?_, fun h0 => ?_⟩
   ·unfold Pl.rpS; rw [h, h0, HP.out]; rfl
   ·unfold Pl.rpS; rw [h, if_neg h0]
  have HFA := hid (Pl.pairsL_facts (m := 47) (l := s.data.toList) HP.out)
  rw [HC.out.1]
  go_enter Tryz.func32, Tryz.ntmps32
  go_wp2_with fail
  refine (readPairs_any s 47 _ (by omega)).mono ?_
  rw [HP.out]
  rintro e w2 ⟨v2, rfl, ho2, hb2⟩
  obtain ⟨a2, cap2, rfl, hp2, _, _⟩ := OwnP.shape (ps := ps) ho2 HFA.out.2
  have HP2 := hid hp2
  have hlen : ps.length ≤ s.size + 1 := by
   have h1 := HFA.out.1
   rw [sz_list] at h1
   omega
  have hcap := hp2.2.1
  have hmax := hp2.2.2.1
  unfold maxLen at hmax
  clear ho2 hp2
  go_wp2_with fail
  go_loopw [6, 19] (fun vl i wr => ∃ (k : Nat) (vv : Value), vv = vl ∧ k ≤ ps.length ∧ i = .int .i64 k ∧ Hid (OwnP 49 wr w2.heap.size vv (ps.take k)) ∧ Below w2.heap.size w2 wr) (fun _ i _ => ps.length - (intOf i).toNat)
  case atStart => exact ⟨0, _, rfl, Nat.zero_le _, rfl, hid (OwnP.nil _ _ _), Below.refl _ _⟩
  case round =>
   obtain ⟨k, vl, rfl, hk, rfl, HO, hb⟩ := hrel
   by_cases hlt : k < ps.length
   ·obtain ⟨b, off, rfl, hbw, hr⟩ : ∃ b off, a2 = some ⟨b, off, none⟩ ∧ b < w2.heap.size ∧ PairsAt w2 b off ps := by
     rcases HP2.out.2.2.2.2 with rfl | h
     ·simp at hlt
     ·exact h
    obtain ⟨c0, c1⟩ := (hr.below hbw hb) k hlt
    have hz := hb.size
    have hbr : b < wr.heap.size := by omega
    clear hr
    obtain ⟨pp, hpp⟩ : ∃ pp, Hid (Pl.pr ps k = pp) := ⟨_, rfl⟩
    rw [hpp.out] at c0 c1
    have HO4 := hid (HO.out.below ((Below.refl wr.heap.size wr).alloc (Nat.le_refl _) (.cells #[.int .i64 pp.1, .int .i64 pp.2] 118)))
    have htk : (ps.take k).length = k := by simp; omega
    go_wp2_with (at_builtin; refine append_pairT Tryz.underlying29 infoPfx rfl (.tmp 23) (.tmp 29) rfl w2.heap.size vl (ps.take k) pp rfl HO4.out (by simp; omega) (by show Value.slice (some ⟨wr.heap.size + 1, 0, none⟩) 1 1 = _; simp) (by rw [htk]; omega) ?_; intro v5 w5 ho5 hb5 _; have HO5 := hid ho5; clear ho5)
    go_roundw
    case rel => exact ⟨k + 1, _, rfl, by omega, by go_num, hid (by show OwnP _ _ _ _ _; rw [Pl.take_pr ps k hlt, hpp.out]; exact HO5.out), (hb.alloc hz _).trans hb5⟩
    case measure => simp [intOf]; omega
   ·obtain rfl : k = ps.length := by omega
    have HO' : Hid (OwnP 49 wr w2.heap.size vl ps) := by have h := HO.out; rw [List.take_length] at h; exact hid h
    obtain ⟨a3, cap3, rfl, hp3, _, _⟩ := OwnP.shape HO'.out HFA.out.2
    have HP3 := hid hp3
    clear hp3 HO
    have hbx : Below w.heap.size w wr := hb2.trans (hb.mono hb2.size)
    by_cases hc0 : cc = 0
    ·subst hc0
     have HC' := hid (HC.out.2.1 rfl)
     clear HC
     go_wp2_with fail
     refine (CheckPrefixes_any _ _ _ ps _ HP3.out).mono ?_
     rw [HCC.out]
     rintro e w4 ⟨rfl, hb4⟩
     go_wp2_with fail
     go_ret2
     exact ⟨_, rfl, by rw [HC'.out]; exact OwnP.mono (HO'.out.below hb4) hb2.size, hbx.trans (hb4.mono hbx.size)⟩
    ·have HC' := hid (HC.out.2.2 hc0)
     clear HC
     have hd0 : (cc == 0) = false := by simpa using hc0
     clear hc0
     go_wp2_with fail
     refine (CheckPrefixes_any _ _ _ ps _ HP3.out).mono ?_
     rw [HCC.out]
     rintro e w4 ⟨rfl, hb4⟩
     go_wp2_with fail
     go_ret2
     exact ⟨_, rfl, by rw [HC'.out]; exact OwnP.nil _ _ _, hbx.trans (hb4.mono hbx.size)⟩
def Pl.tP (es : List Pl.Ent) (n : Nat) : List (Int × Int) := Pl.rpS (Pl.gotE es (Pl.pfxKey n)).val.data.toList
set_option maxHeartbeats 1000000 in
theorem PrefixesKey_any (n : Int) (w : World) (h0 : 0 ≤ n) (h1 : n ≤ 1000) (hT : Tab w) :
  Calls Tryz.prog 105 #[.int .i64 n] w fun e w' => e = .returned (.string (Pl.pfxKey n)) ∧ Below w.heap.size w w' := by
 have HT := hid hT
 have hz := Pl.dec_le n h0 h1
 clear hT
 have HIT := hid (Itoa_any n w h0 (by omega) HT.out)
 have HK : Hid (Pl.pfxKey n = ⟨#[112, 58]⟩ ++ Pl.dec n) := hid rfl
 generalize Pl.dec n = s at *
 go_enter Tryz.func105, Tryz.ntmps105
 go_wp2_with fail
 refine HIT.out.mono ?_
 rintro e w1 ⟨rfl, hb1⟩
 go_wp2_with fail
 go_ret
 exact ⟨by rw [HK.out]; rfl, hb1⟩
set_option maxHeartbeats 1000000 in
theorem ToldPrefixes_any (a : Option Addr) (len cap : Nat) (es : List Pl.Ent) (n : Nat) (w : World) (h : IsEnts w a len cap es) (h1 : n < 12) (hT : Tab w) :
  Calls Tryz.prog 64 #[.slice a len cap, .int .i64 (n : Int)] w fun e w' => ∃ vl : Value, e = .returned vl ∧
   OwnP 49 w' w.heap.size vl (Pl.tP es n) ∧ Below w.heap.size w w' := by
 have HH := hid h
 have HT := hid hT
 clear h hT
 have hvz : (Pl.gotE es (Pl.pfxKey n)).val.size ≤ 120 := Pl.gotE_val _ _
 obtain ⟨g, HG⟩ : ∃ g, Hid (Pl.gotE es (Pl.pfxKey n) = g) := ⟨_, hid rfl⟩
 have HV : Hid (Pl.tP es n = Pl.rpS g.val.data.toList) := hid (by unfold Pl.tP; rw [HG.out])
 rw [HG.out] at hvz
 rw [HV.out]
 obtain ⟨gk, gv, go, gx⟩ := g
 simp only at hvz ⊢
 have hdec : decide (0 ≤ (n : Int) ∧ (n : Int) ≤ 11) = true := by simp; omega
 obtain ⟨rc, HRC⟩ : ∃ x, Hid (Pl.rpC gx.data.toList = x) := ⟨_, hid rfl⟩
 obtain ⟨rs, HRS⟩ : ∃ x, Hid (Pl.rpS gx.data.toList = x) := ⟨_, hid rfl⟩
 rw [HRS.out]
 go_enter Tryz.func64, Tryz.ntmps64
 go_wp2_with (go_at_call 72; refine (isNode_any _ _).mono ?_; rw [hdec]; rintro e w' ⟨rfl, hw'⟩; rw [hw']; clear hw' w')
 refine (PrefixesKey_any n _ (by omega) (by omega) HT.out).mono ?_
 rintro e w1 ⟨rfl, hb1⟩
 go_wp2_with fail
 refine (Get_any _ _ _ es (Pl.pfxKey n) _ (HH.out.below hb1)).mono ?_
 rw [HG.out]
 rintro e w2 ⟨rfl, hb2⟩
 have HB2 : Hid (Below w.heap.size w w2) := hid (hb1.trans (hb2.mono hb1.size))
 have HBA : Hid (Below w.heap.size w (w2.alloc (.cells #[.string gk, .int .i64 gv, .int .i64 go, .string gx] 55))) := hid (HB2.out.alloc HB2.out.size _)
 clear hb1 hb2
 go_wp2_with fail
 refine (ReadPrefixes_any gx _ (by omega)).mono ?_
 rw [HRC.out, HRS.out]
 rintro e w3 ⟨v3, rfl, ho3, hb3⟩
 go_wp2_with fail
 go_ret
 exact ⟨v3, rfl, ho3.mono HBA.out.size, HBA.out.trans (hb3.mono HBA.out.size)⟩
theorem tolds2 (w : World) (k1 v1 k2 v2 : ByteArray) : ToldsAt (w.alloc (.cells #[.string k1, .string v1, .string k2, .string v2] 223)) w.heap.size [(k1, v1), (k2, v2)] := by
 refine ⟨by simp, fun j hj => ?_⟩
 have hn := heapNew w (.cells #[.string k1, .string v1, .string k2, .string v2] 223)
 have hj : j = 0 ∨ j = 1 := by simp at hj; omega
 rcases hj with rfl | rfl
 ·obtain ⟨⟨c0, c1, c2, c3⟩, _, _⟩ := box4c hn
  exact ⟨c0, c1⟩
 ·obtain ⟨⟨c0, c1, c2, c3⟩, _, _⟩ := box4c hn
  exact ⟨c2, c3⟩
def SV.tolds (its : List (ByteArray × ByteArray)) : SV := ⟨fun u W => ∃ tb, u = .slice (some ⟨tb, 0, none⟩) 2 2 ∧ ToldsAt W tb its, fun _ _ _ hb ⟨tb, e, h1, h2⟩ => ⟨tb, e, Nat.lt_of_lt_of_le h1 hb.size, fun j hj => ⟨(hb.cell (p := ⟨tb, j * 2, none⟩) h1).trans (h2 j hj).1, (hb.cell (p := ⟨tb, j * 2 + 1, none⟩) h1).trans (h2 j hj).2⟩⟩⟩
def TellP (w0 : World) (B a : Nat) (s : Pl.Nt) (its : List (ByteArray × ByteArray)) (v : Value) (W' : World) : Prop := ∃ W vk, v = .agg #[.int .i64 (Pl.putsS (s.K a) a its 2).1, .slice none 0 0, .int .i64 0, vk] ∧ Below w0.heap.size w0 W ∧ OwnS W' W.heap.size vk (Pl.putsK s a its) ∧ NetAt W' B (Pl.putsN s a its) ∧ NKept B W W'
def TellF (w0 : World) (B a : Nat) (s : Pl.Nt) (its : List (ByteArray × ByteArray)) (a0 : Act) (xb : Nat) (listed : Array Bool) (a' : Act) (W : World) : Prop :=
 (listed.getD 14 false = true ∧ listed.getD 15 false = false ∧ listed.size = 16 ∧ ∃ xs, xs.length = 15 ∧ a' = { a0 with tmps := setFrom a0.tmps 36 xs } ∧ TellP w0 B a s its (xs.getD 14 undef) W) ∨
 (listed.getD 15 false = true ∧ ∃ xs c k W', xs.length = 15 ∧ a' = { a0 with tmps := setFrom a0.tmps 36 xs } ∧ TellP w0 B a s its (.agg #[c, .slice none 0 0, .int .i64 0, k]) W' ∧ W'.heap[xb + 1]? = some (.cells #[.int .i64 0, .slice none 0 0, .int .i64 0, .slice none 0 0] 40) ∧ W = set4 W' (xb + 1) c (.slice none 0 0) (.int .i64 0) k)
def TellInv (w0 : World) (B xb a : Nat) (s : Pl.Nt) (t1 t2 : ByteArray) (a0 : Act) (listed : Array Bool) (a' : Act) (W : World) : Prop :=
 (listed.getD 14 false = false ∧ RInv a0 36 15 16 (fun k => if k < 15 then some k else none) (SV.V [SV.eq (.pointer (some ⟨B, 0, none⟩)), SV.eq (.pointer (some ⟨xb, 1, none⟩)), SV.eq (.int .i64 a), SV.eq (.pointer (some ⟨xb, 1, none⟩)), SV.eq (.int .i64 a), SV.eq (.string (Pl.adjKey a)), SV.eq (.string t1), SV.eq (.agg #[.string (Pl.adjKey a), .string t1]), SV.eq (.pointer (some ⟨xb, 1, none⟩)), SV.eq (.int .i64 a), SV.eq (.string (Pl.pfxKey a)), SV.eq (.string t2), SV.eq (.agg #[.string (Pl.pfxKey a), .string t2]), SV.tolds [(Pl.adjKey a, t1), (Pl.pfxKey a, t2)], SV.any]) (fun W => Below w0.heap.size w0 W) listed a' W) ∨ TellF w0 B a s [(Pl.adjKey a, t1), (Pl.pfxKey a, t2)] a0 xb listed a' W
set_option maxHeartbeats 8000000 in
theorem netTell7 {Q : Exit → Act → World → Prop} {a0 : Act} {w0 : World} {B xb a : Nat} {s : Pl.Nt} {t1 t2 : ByteArray}
  (hsize : a0.tmps.size = 51) (q0 : a0.tmps[0]?.getD undef = .pointer (some ⟨B, 0, none⟩)) (q3 : a0.tmps[3]?.getD undef = .pointer (some ⟨xb, 0, none⟩)) (q4 : a0.tmps[4]?.getD undef = .pointer (some ⟨xb + 1, 0, none⟩)) (q5 : a0.tmps[5]?.getD undef = .string t1) (q7 : a0.tmps[7]?.getD undef = .string t2)
  (hx : xb < w0.heap.size) (X1 : w0.cell? ⟨xb, 1, none⟩ = some (.int .i64 a)) (HX : w0.heap[xb + 1]? = some (.cells #[.int .i64 0, .slice none 0 0, .int .i64 0, .slice none 0 0] 40)) (hne : xb + 1 ≠ B) (ha : a < 12) (hN : NetAt w0 B s) (hf : Pl.fault (s.K a) = 0) (hT : Tab w0) (hsiz : ∀ t ∈ [(Pl.adjKey a, t1), (Pl.pfxKey a, t2)], t.1.size ≤ maxLen ∧ t.2.size ≤ maxLen)
  (hQ : ∀ xs W' c k, xs.length = 15 → TellP w0 B a s [(Pl.adjKey a, t1), (Pl.pfxKey a, t2)] (.agg #[c, .slice none 0 0, .int .i64 0, k]) W' → W'.heap[xb + 1]? = some (.cells #[.int .i64 0, .slice none 0 0, .int .i64 0, .slice none 0 0] 40) → Q .normal { a0 with tmps := setFrom a0.tmps 36 xs } (set4 W' (xb + 1) c (.slice none 0 0) (.int .i64 0) k)) :
  ∀ ops, regIn Tryz.f115 7 = some ops → (Code.region 7 ops true).wp Tryz.prog Q a0 w0 := by
 intro ops hops
 have eo := Option.some.inj (hops.symm.trans (rfl : regIn Tryz.f115 7 = some _))
 subst eo
 clear hops
 have hsz : 36 + 15 ≤ a0.tmps.size := by omega
 refine wp_region_any (by kernel_rfl) ?_
 refine wpAny_inv2 (TellInv w0 B xb a s t1 t2 a0) ?_ ?_ _ _ _ _ (by decide +kernel) ?_ (closed_start _ _ _)
 ·rintro i listed a' W hi hCl hinv
  rw [mem_ready] at hi
  obtain ⟨hl0, o, ho, hall⟩ := hi
  have hlti : i < 16 := (Array.getElem?_eq_some_iff.1 ho).1
  have hcs : i = 0 ∨ i = 1 ∨ i = 2 ∨ i = 3 ∨ i = 4 ∨ i = 5 ∨ i = 6 ∨ i = 7 ∨ i = 8 ∨ i = 9 ∨ i = 10 ∨ i = 11 ∨ i = 12 ∨ i = 13 ∨ i = 14 ∨ i = 15 := by omega
  rcases hinv with ⟨h14, hI⟩ | hF
  ·have h15 : listed.getD 15 false = false := by
    cases h : listed.getD 15 false with
    | false => rfl
    | true =>
     have e := hCl 15 _ rfl h ⟨14, .data⟩ (by simp) rfl
     rw [h14] at e
     cases e
   have h14s : ∀ k, k ≠ 14 → (listed.setIfInBounds k true).getD 14 false = false := fun k hk => by rw [getD_set_ne false hk]; exact h14
   have o0 := (hI.out (k := 0) (by omega)).trans q0
   have o3 := (hI.out (k := 3) (by omega)).trans q3
   have o5 := (hI.out (k := 5) (by omega)).trans q5
   have o7 := (hI.out (k := 7) (by omega)).trans q7
   have x1 := (hI.cw.cell (p := ⟨xb, 1, none⟩) hx).trans X1
   rcases hcs with rfl | rfl | rfl | rfl | rfl | rfl | rfl | rfl | rfl | rfl | rfl | rfl | rfl | rfl | rfl | rfl
   all_goals
    simp at ho
    subst ho
    refine wpOp_of rfl rfl ?_
   ·simp [Oper.wp, go_sem, o0]
    exact Or.inl ⟨h14s 0 (by decide), hI.put (i := 0) (j := 0) rfl (by omega) (fun _ _ h => h) rfl hI.cw⟩
   ·simp [Oper.wp, go_sem, o3]
    exact Or.inl ⟨h14s 1 (by decide), hI.put (i := 1) (j := 1) rfl (by omega) (fun _ _ h => h) rfl hI.cw⟩
   ·have e1 : a'.tmps[37]?.getD undef = .pointer (some ⟨xb, 1, none⟩) := hI.at (k := 1) (j := 1) hsz rfl (by omega) (hall ⟨1, .data⟩ (by simp) rfl)
    simp [Oper.wp, go_sem, e1, x1]
    exact Or.inl ⟨h14s 2 (by decide), hI.put (i := 2) (j := 2) rfl (by omega) (fun _ _ h => h) rfl hI.cw⟩
   ·simp [Oper.wp, go_sem, o3]
    exact Or.inl ⟨h14s 3 (by decide), hI.put (i := 3) (j := 3) rfl (by omega) (fun _ _ h => h) rfl hI.cw⟩
   ·have e3 : a'.tmps[39]?.getD undef = .pointer (some ⟨xb, 1, none⟩) := hI.at (k := 3) (j := 3) hsz rfl (by omega) (hall ⟨3, .data⟩ (by simp) rfl)
    simp [Oper.wp, go_sem, e3, x1]
    exact Or.inl ⟨h14s 4 (by decide), hI.put (i := 4) (j := 4) rfl (by omega) (fun _ _ h => h) rfl hI.cw⟩
   ·have e4 : a'.tmps[40]?.getD undef = .int .i64 a := hI.at (k := 4) (j := 4) hsz rfl (by omega) (hall ⟨4, .data⟩ (by simp) rfl)
    simp [Oper.wp, go_sem, e4]
    refine (AdjKey_any (a : Int) W (by omega) (by omega) (hT.below hI.cw)).mono ?_
    rintro e W' ⟨rfl, hb'⟩
    exact Or.inl ⟨h14s 5 (by decide), hI.put (i := 5) (j := 5) rfl (by omega) (SV.grow hb') rfl (hI.cw.trans (hb'.mono hI.cw.size))⟩
   ·simp [Oper.wp, go_sem, o5]
    exact Or.inl ⟨h14s 6 (by decide), hI.put (i := 6) (j := 6) rfl (by omega) (fun _ _ h => h) rfl hI.cw⟩
   ·have e5 : a'.tmps[41]?.getD undef = .string (Pl.adjKey a) := hI.at (k := 5) (j := 5) hsz rfl (by omega) (hall ⟨5, .data⟩ (by simp) rfl)
    have e6 : a'.tmps[42]?.getD undef = .string t1 := hI.at (k := 6) (j := 6) hsz rfl (by omega) (hall ⟨6, .data⟩ (by simp) rfl)
    simp [Oper.wp, go_sem, e5, e6]
    exact Or.inl ⟨h14s 7 (by decide), hI.put (i := 7) (j := 7) rfl (by omega) (fun _ _ h => h) rfl hI.cw⟩
   ·simp [Oper.wp, go_sem, o3]
    exact Or.inl ⟨h14s 8 (by decide), hI.put (i := 8) (j := 8) rfl (by omega) (fun _ _ h => h) rfl hI.cw⟩
   ·have e8 : a'.tmps[44]?.getD undef = .pointer (some ⟨xb, 1, none⟩) := hI.at (k := 8) (j := 8) hsz rfl (by omega) (hall ⟨8, .data⟩ (by simp) rfl)
    simp [Oper.wp, go_sem, e8, x1]
    exact Or.inl ⟨h14s 9 (by decide), hI.put (i := 9) (j := 9) rfl (by omega) (fun _ _ h => h) rfl hI.cw⟩
   ·have e9 : a'.tmps[45]?.getD undef = .int .i64 a := hI.at (k := 9) (j := 9) hsz rfl (by omega) (hall ⟨9, .data⟩ (by simp) rfl)
    simp [Oper.wp, go_sem, e9]
    refine (PrefixesKey_any (a : Int) W (by omega) (by omega) (hT.below hI.cw)).mono ?_
    rintro e W' ⟨rfl, hb'⟩
    exact Or.inl ⟨h14s 10 (by decide), hI.put (i := 10) (j := 10) rfl (by omega) (SV.grow hb') rfl (hI.cw.trans (hb'.mono hI.cw.size))⟩
   ·simp [Oper.wp, go_sem, o7]
    exact Or.inl ⟨h14s 11 (by decide), hI.put (i := 11) (j := 11) rfl (by omega) (fun _ _ h => h) rfl hI.cw⟩
   ·have e10 : a'.tmps[46]?.getD undef = .string (Pl.pfxKey a) := hI.at (k := 10) (j := 10) hsz rfl (by omega) (hall ⟨10, .data⟩ (by simp) rfl)
    have e11 : a'.tmps[47]?.getD undef = .string t2 := hI.at (k := 11) (j := 11) hsz rfl (by omega) (hall ⟨11, .data⟩ (by simp) rfl)
    simp [Oper.wp, go_sem, e10, e11]
    exact Or.inl ⟨h14s 12 (by decide), hI.put (i := 12) (j := 12) rfl (by omega) (fun _ _ h => h) rfl hI.cw⟩
   ·have e7 : a'.tmps[43]?.getD undef = .agg #[.string (Pl.adjKey a), .string t1] := hI.at (k := 7) (j := 7) hsz rfl (by omega) (hall ⟨7, .data⟩ (by simp) rfl)
    have e12 : a'.tmps[48]?.getD undef = .agg #[.string (Pl.pfxKey a), .string t2] := hI.at (k := 12) (j := 12) hsz rfl (by omega) (hall ⟨12, .data⟩ (by simp) rfl)
    simp [Oper.wp, go_sem, e7, e12]
    have hb' : Below W.heap.size W (W.alloc (.cells #[.string (Pl.adjKey a), .string t1, .string (Pl.pfxKey a), .string t2] 223)) := (Below.refl _ _).alloc (Nat.le_refl _) _
    exact Or.inl ⟨h14s 13 (by decide), hI.put (i := 13) (j := 13) rfl (by omega) (SV.grow hb') ⟨W.heap.size, rfl, tolds2 _ _ _ _ _⟩ (hI.cw.trans (hb'.mono hI.cw.size))⟩
   ·have e0 : a'.tmps[36]?.getD undef = .pointer (some ⟨B, 0, none⟩) := hI.at (k := 0) (j := 0) hsz rfl (by omega) (hall ⟨0, .data⟩ (by simp) rfl)
    have e2 : a'.tmps[38]?.getD undef = .int .i64 a := hI.at (k := 2) (j := 2) hsz rfl (by omega) (hall ⟨2, .data⟩ (by simp) rfl)
    obtain ⟨tb, ev, hit⟩ := hI.at (k := 13) (j := 13) hsz rfl (by omega) (hall ⟨13, .data⟩ (by simp) rfl)
    have ev : a'.tmps[49]?.getD undef = .slice (some ⟨tb, 0, none⟩) 2 2 := ev
    simp [Oper.wp, go_sem, e0, e2, ev]
    refine (netPut_any B s a tb 2 2 [(Pl.adjKey a, t1), (Pl.pfxKey a, t2)] W (hN.below hI.cw) ha hf rfl (by omega) (by omega) hit hsiz).mono ?_
    rintro e W' ⟨vk, rfl, hk', hn', hp'⟩
    obtain ⟨xs, hxl, hae, _⟩ := hI.fr
    refine Or.inr (Or.inl ⟨?_, ?_, by simp [hI.ls], xs.set 14 (.agg #[.int .i64 (Pl.putsS (s.K a) a [(Pl.adjKey a, t1), (Pl.pfxKey a, t2)] 2).1, .slice none 0 0, .int .i64 0, vk]), by simp [hxl], ?_, ⟨W, vk, by simp [List.getD, hxl], hI.cw, hk', hn', hp'⟩⟩)
    ·have : 14 < listed.size := by rw [hI.ls]; omega
     simp [this]
    ·rw [getD_set_ne false (by omega)]; exact h15
    ·rw [hae]
     show ({ a0 with tmps := (setFrom a0.tmps 36 xs).setIfInBounds (36 + 14) (.agg #[.int .i64 (Pl.putsS (s.K a) a [(Pl.adjKey a, t1), (Pl.pfxKey a, t2)] 2).1, .slice none 0 0, .int .i64 0, vk]) } : Act) = _
     rw [setFrom_set xs a0.tmps 36 14 _ (by omega)]
   ·have e := hall ⟨14, .data⟩ (by simp) rfl
    rw [h14] at e
    cases e
  ·have hall14 : listed.getD 14 false = true := by
    rcases hF with ⟨h, _⟩ | ⟨h, _⟩
    ·exact h
    ·exact hCl 15 _ rfl h ⟨14, .data⟩ (by simp) rfl
   have e0 := hCl 14 _ rfl hall14 ⟨0, .data⟩ (by simp) rfl
   have e2 := hCl 14 _ rfl hall14 ⟨2, .data⟩ (by simp) rfl
   have e13 := hCl 14 _ rfl hall14 ⟨13, .data⟩ (by simp) rfl
   have e1 := hCl 2 _ rfl e2 ⟨1, .data⟩ (by simp) rfl
   have e7 := hCl 13 _ rfl e13 ⟨7, .data⟩ (by simp) rfl
   have e12 := hCl 13 _ rfl e13 ⟨12, .data⟩ (by simp) rfl
   have e5 := hCl 7 _ rfl e7 ⟨5, .data⟩ (by simp) rfl
   have e6 := hCl 7 _ rfl e7 ⟨6, .data⟩ (by simp) rfl
   have e4 := hCl 5 _ rfl e5 ⟨4, .data⟩ (by simp) rfl
   have e3 := hCl 4 _ rfl e4 ⟨3, .data⟩ (by simp) rfl
   have e10 := hCl 12 _ rfl e12 ⟨10, .data⟩ (by simp) rfl
   have e11 := hCl 12 _ rfl e12 ⟨11, .data⟩ (by simp) rfl
   have e9 := hCl 10 _ rfl e10 ⟨9, .data⟩ (by simp) rfl
   have e8 := hCl 9 _ rfl e9 ⟨8, .data⟩ (by simp) rfl
   have hnl : ∀ (h : listed.getD i false = true), False := fun h => by
    rcases Nat.lt_or_ge i listed.size with g | g
    ·simp [g] at hl0 h
     rw [hl0] at h
     cases h
    ·simp [Array.getElem?_eq_none g] at h
   rcases hcs with rfl | rfl | rfl | rfl | rfl | rfl | rfl | rfl | rfl | rfl | rfl | rfl | rfl | rfl | rfl | rfl
   ·exact (hnl e0).elim
   ·exact (hnl e1).elim
   ·exact (hnl e2).elim
   ·exact (hnl e3).elim
   ·exact (hnl e4).elim
   ·exact (hnl e5).elim
   ·exact (hnl e6).elim
   ·exact (hnl e7).elim
   ·exact (hnl e8).elim
   ·exact (hnl e9).elim
   ·exact (hnl e10).elim
   ·exact (hnl e11).elim
   ·exact (hnl e12).elim
   ·exact (hnl e13).elim
   ·exact (hnl hall14).elim
   ·rcases hF with ⟨_, _, hls, xs, hxl, rfl, W1, vk, hv, hb, hk, hn, hp⟩ | ⟨h, _⟩
    ·simp at ho
     subst ho
     refine wpOp_of rfl rfl ?_
     have o4 : (setFrom a0.tmps 36 xs)[4]?.getD undef = .pointer (some ⟨xb + 1, 0, none⟩) := by rw [setFrom_out xs a0.tmps 36 4 (by omega)]; exact q4
     have o50 : (setFrom a0.tmps 36 xs)[50]?.getD undef = .agg #[.int .i64 (Pl.putsS (s.K a) a [(Pl.adjKey a, t1), (Pl.pfxKey a, t2)] 2).1, .slice none 0 0, .int .i64 0, vk] := by
      rw [show (50 : Nat) = 36 + 14 from rfl, setFrom_at xs a0.tmps 36 14 (by omega) (by omega)]
      simpa [List.getD] using hv
     have hx1 := (hb.block _ (blockLt HX)).trans HX
     have hxw : W.heap[xb + 1]? = some (.cells #[.int .i64 0, .slice none 0 0, .int .i64 0, .slice none 0 0] 40) := (hp.block _ (blockLt hx1) hne (.inr (by intro cur m e; rw [hx1] at e; simp at e))).trans hx1
     obtain ⟨⟨y0, y1, y2, y3⟩, yf, yl⟩ := box4c hxw
     obtain ⟨ka, kc, rfl⟩ := ownsRow_slice hk
     simp [Oper.wp, go_sem, o4, o50, y0, y1, y2, y3, yf]
     refine Or.inr (Or.inr ⟨?_, xs, _, _, W, hxl, rfl, ⟨W1, _, rfl, hb, hk, hn, hp⟩, hxw, rfl⟩)
     have : 15 < listed.size := by rw [hls]; omega
     simp [this]
    ·exact (hnl h).elim
 ·rintro listed a' W hr hinv
  rcases hinv with ⟨h14, hI⟩ | hF
  ·have hal := all_listed2 (by decide +kernel) hI.ls hr 14 (by decide)
   rw [h14] at hal
   cases hal
  ·rcases hF with ⟨_, h15, hls, _⟩ | ⟨_, xs, c, k, W', hxl, rfl, hP, hxw, rfl⟩
   ·have hal := all_listed2 (by decide +kernel) hls hr 15 (by decide)
    rw [h15] at hal
    cases hal
   ·exact hQ xs W' c k hxl hP hxw
 ·exact Or.inl ⟨by simp, RInv.start hsz (Below.refl _ _).drew⟩
def SF (p : Int × Int) (m : ByteArray) (R : Nat) (v0 : Value) (w : World) : Nat → Value → Prop
 | 0, v => v = v0
 | 1, v => v = .pointer (some ⟨R, 0, none⟩)
 | 2, v => v = .int .i64 p.1
 | 3, v => v = .string (Pl.dec p.1)
 | 4, v => v = .string m
 | 5, v => v = .string (Pl.dec p.1 ++ m)
 | 6, v => v = .pointer (some ⟨R, 1, none⟩)
 | 7, v => v = .int .i64 p.2
 | 8, v => v = .string (Pl.dec p.2)
 | 9, v => v = .string (Pl.sideT m p)
 | 10, v => ∃ b, v = .slice (some ⟨b, 0, none⟩) 1 1 ∧ b < w.heap.size ∧ w.cell? ⟨b, 0, none⟩ = some (.string (Pl.sideT m p))
 | _, _ => True
theorem SF.mono {p : Int × Int} {m : ByteArray} {R : Nat} {v0 : Value} {w w' : World} {k : Nat} {v : Value} (h : SF p m R v0 w k v) (hb : Below w.heap.size w w') : SF p m R v0 w' k v := by
 have hz := hb.size
 match k, h with
 | 10, ⟨b, h1, h2, h3⟩ => exact ⟨b, h1, by omega, ((bcell hb).1 b 0 h2).trans h3⟩
 | 0, h => exact h
 | 1, h => exact h
 | 2, h => exact h
 | 3, h => exact h
 | 4, h => exact h
 | 5, h => exact h
 | 6, h => exact h
 | 7, h => exact h
 | 8, h => exact h
 | 9, h => exact h
 | n + 11, h => exact h
structure SInv (p : Int × Int) (m : ByteArray) (R base : Nat) (v0 : Value) (ks : List ByteArray) (W0 : World) (L : List (Nat × Value)) (listed : Array Bool) (a : Act) (w : World) : Prop where
 ls : listed.size = 13
 sz : a.tmps.size = 29
 df : a.defers = []
 keep : ∀ x ∈ L, a.tmps[x.1]?.getD undef = x.2
 s5 : listed.getD 12 false = false → a.tmps[5]?.getD undef = v0
 f : listed.getD 11 false = false → ∀ k, k < 11 → listed.getD k false = true → SF p m R v0 w k (a.tmps[k + 14]?.getD undef)
 nb : listed.getD 11 false = false → Below W0.heap.size W0 w
 al : listed.getD 12 false = true → listed.getD 11 false = true
 ap : listed.getD 11 false = true → listed.getD 12 false = false → ∃ v1, a.tmps[25]?.getD undef = v1 ∧ OwnT w base v1 (ks ++ [Pl.sideT m p]) ∧ Below base W0 w
 dn : listed.getD 12 false = true → ∃ v1, a.tmps[5]?.getD undef = v1 ∧ OwnT w base v1 (ks ++ [Pl.sideT m p]) ∧ Below base W0 w
theorem SInv.put {p : Int × Int} {m : ByteArray} {R base : Nat} {v0 : Value} {ks : List ByteArray} {W0 : World} {L : List (Nat × Value)} (hL : ∀ x ∈ L, x.1 ≠ 5 ∧ (x.1 < 14 ∨ 25 < x.1)) {listed : Array Bool} {a : Act} {w w' : World} {i : Nat} {v : Value}
  (h : SInv p m R base v0 ks W0 L listed a w) (hi : i < 11) (hn : listed.getD 11 false = false) (hn2 : listed.getD 12 false = false) (hb : Below w.heap.size w w') (hv : SF p m R v0 w' i v) :
  SInv p m R base v0 ks W0 L (listed.setIfInBounds i true) (a.put (some (i + 14)) v) w' := by
 have h11 : (listed.setIfInBounds i true).getD 11 false = false := by rw [getD_set_ne false (by omega)]; exact hn
 have h12 : (listed.setIfInBounds i true).getD 12 false = false := by rw [getD_set_ne false (by omega)]; exact hn2
 refine ⟨by simp [h.ls], by simp [Act.put, h.sz], h.df, ?_, ?_, ?_, fun _ => ?_, (fun h' => by rw [h12] at h'; cases h'), (fun h' => by rw [h11] at h'; cases h'), (fun h' => by rw [h12] at h'; cases h')⟩
 ·intro x hx
  have := hL x hx
  rw [eval_ne (by omega)]; exact h.keep x hx
 ·intro _
  rw [eval_ne (by omega)]; exact h.s5 hn2
 ·intro _ k hk hl
  by_cases hki : i = k
  ·subst hki
   rw [eval_eq (by rw [h.sz]; omega)]
   exact hv
  ·rw [getD_set_ne false hki] at hl
   rw [eval_ne (by omega)]
   exact (h.f hn k hk hl).mono hb
 ·have := h.nb hn
  exact this.trans (hb.mono this.size)
theorem arr29 (xs : Array Value) (h : xs.size = 29) : ∃ t0 t1 t2 t3 t4 t5 t6 t7 t8 t9 t10 t11 t12 t13 t14 t15 t16 t17 t18 t19 t20 t21 t22 t23 t24 t25 t26 t27 t28, xs = #[t0, t1, t2, t3, t4, t5, t6, t7, t8, t9, t10, t11, t12, t13, t14, t15, t16, t17, t18, t19, t20, t21, t22, t23, t24, t25, t26, t27, t28] := by
 obtain ⟨l⟩ := xs
 simp at h
 match l, h with
 | [t0, t1, t2, t3, t4, t5, t6, t7, t8, t9, t10, t11, t12, t13, t14, t15, t16, t17, t18, t19, t20, t21, t22, t23, t24, t25, t26, t27, t28], _ => exact ⟨t0, t1, t2, t3, t4, t5, t6, t7, t8, t9, t10, t11, t12, t13, t14, t15, t16, t17, t18, t19, t20, t21, t22, t23, t24, t25, t26, t27, t28, rfl⟩
theorem Pl.take_prS (ps : List (Int × Int)) (k : Nat) (h : k < ps.length) : ps.take (k + 1) = ps.take k ++ [Pl.pr ps k] := by
 rw [List.take_succ_eq_append_getElem h, Pl.pr_eq ps k h]
theorem Pl.lens_le (B : Nat) : ∀ (xs : List (List UInt8)), (∀ x ∈ xs, x.length ≤ B) → Lib.lens xs ≤ xs.length * B
 | [], _ => by simp [Lib.lens]
 | x :: r, h => by
  have h1 := Pl.lens_le B r (fun y hy => h y (by simp [hy]))
  have h2 := h x (by simp)
  simp only [Lib.lens, List.map_cons, List.sum_cons, List.length_cons] at h1 ⊢
  rw [Nat.add_mul]; omega
theorem Pl.join_le (B : Nat) (xs : List (List UInt8)) (sep : List UInt8) (h : ∀ x ∈ xs, x.length ≤ B) : (Lib.join xs sep).length ≤ xs.length * (B + sep.length) := by
 cases xs with
 | nil => simp [Lib.join_nil]
 | cons x r =>
  rw [Lib.join_cons, List.length_append, Lib.joinTail_length]
  have h1 := Pl.lens_le B r (fun y hy => h y (by simp [hy]))
  have h2 := h x (by simp)
  rw [List.length_cons, Nat.add_mul, Nat.mul_add, Nat.mul_comm sep.length]; omega
theorem Pl.show_len (m : ByteArray) (ps : List (Int × Int)) (hs : ∀ p ∈ ps, Pl.small p) (hm : m.size ≤ 100) (hl : ps.length ≤ 100) : (Lib.join ((ps.map (Pl.sideT m)).map (·.data.toList)) (⟨#[44]⟩ : ByteArray).data.toList).length ≤ 140737488355328 := by
 refine Nat.le_trans (Pl.join_le 142 _ _ ?_) ?_
 ·intro x hx
  simp only [List.mem_map] at hx
  obtain ⟨y, ⟨p, hp, rfl⟩, rfl⟩ := hx
  have := Pl.sideT_size m p (hs p hp)
  have e : (Pl.sideT m p).data.toList.length = (Pl.sideT m p).size := by simp
  omega
 ·simp only [List.length_map]
  show ps.length * (142 + 1) ≤ _
  omega
set_option maxHeartbeats 4000000 in
theorem showPairs_any (a : Option Addr) (len cap : Nat) (ps : List (Int × Int)) (m : ByteArray) (w : World) (h : IsPairs w a len cap ps) (hs : ∀ p ∈ ps, Pl.small p) (hl : len ≤ 100) (hm : m.size ≤ 100) (hT : Tab w) :
  Calls Tryz.prog 189 #[.slice a len cap, .string m] w fun e w' => e = .returned (.string (Pl.showT m ps)) ∧ Below w.heap.size w w' := by
 have HH := hid h
 have HS := hid hs
 have HT := hid hT
 have hlen := h.1
 have hcap := h.2.1
 have hmax := h.2.2.1
 unfold maxLen at hmax
 clear h hs hT
 go_enter Tryz.func189, Tryz.ntmps189
 go_wp2_with fail
 go_loopw [5, 10] (fun vl i wr => ∃ (k : Nat) (vv : Value), vv = vl ∧ k ≤ len ∧ i = .int .i64 k ∧ Hid (OwnT wr w.heap.size vv ((ps.take k).map (Pl.sideT m))) ∧ Below w.heap.size w wr) (fun _ i _ => len - (intOf i).toNat)
 case atStart => exact ⟨0, _, rfl, Nat.zero_le _, rfl, hid (OwnT.nil _ _), Below.refl _ _⟩
 case round =>
  obtain ⟨k, vl, rfl, hk, rfl, HO, hb⟩ := hrel
  have hz := hb.size
  by_cases hlt : k < len
  ·obtain ⟨b, off, rfl, hbw, hr⟩ : ∃ b off, a = some ⟨b, off, none⟩ ∧ b < w.heap.size ∧ PairsAt w b off ps := by
    rcases HH.out.2.2.2.2 with rfl | h
    ·simp at hlen; omega
    ·exact h
   obtain ⟨c0, c1⟩ := (hr.below hbw hb) k (by omega)
   have hbr : b < wr.heap.size := by omega
   clear hr
   obtain ⟨pp, hpp⟩ : ∃ pp, Hid (Pl.pr ps k = pp) := ⟨_, rfl⟩
   rw [hpp.out] at c0 c1
   have hsm : Pl.small pp := by rw [← hpp.out]; exact HS.out _ (Pl.pr_mem ps k (by omega))
   go_wp2_with fail
   refine wp_region_any (by kernel_rfl) ?_
   obtain ⟨W0, hW0⟩ : ∃ W0 : World, W0 = wr.alloc (.cells #[.int .i64 pp.1, .int .i64 pp.2] 118) := ⟨_, rfl⟩
   have hR : wr.heap.size < W0.heap.size := by rw [hW0]; simp
   have d0 : W0.cell? ⟨wr.heap.size, 0, none⟩ = some (.int .i64 pp.1) := by rw [hW0]; simp
   have d1 : W0.cell? ⟨wr.heap.size, 1, none⟩ = some (.int .i64 pp.2) := by rw [hW0]; simp
   have hBW : Below wr.heap.size wr W0 := by rw [hW0]; exact (Below.refl _ _).alloc (Nat.le_refl _) _
   have HOW : Hid (OwnT W0 w.heap.size vl ((ps.take k).map (Pl.sideT m))) := hid (HO.out.below hBW)
   have hBw : Below w.heap.size w W0 := hb.trans (hBW.mono hz)
   have HTW : Hid (Tab W0) := hid (HT.out.below hBw)
   obtain ⟨ks, HKS⟩ : ∃ ks, Hid ((ps.take k).map (Pl.sideT m) = ks) := ⟨_, hid rfl⟩
   rw [HKS.out] at HOW
   have hkl : ks.length = k := by rw [← HKS.out]; simp; omega
   obtain ⟨hs1, hs2, hs3, hs4⟩ := hsm
   have hz1 := Pl.dec_le pp.1 hs1 hs2
   have hz2 := Pl.dec_le pp.2 hs3 hs4
   obtain ⟨L, hLd⟩ : ∃ L, L = [(0, Value.slice (some ⟨b, off, none⟩) len cap), (1, Value.string m), (7, Value.pointer (some ⟨wr.heap.size, 0, none⟩)), (8, Value.slice (some ⟨b, off, none⟩) len cap), (9, Value.int .i64 (len : Int)), (10, Value.int .i64 (k : Int)), (2, undef), (3, undef), (4, Value.string ⟨#[]⟩), (6, undef), (27, undef), (28, undef)] := ⟨_, rfl⟩
   have hL : ∀ x ∈ L, x.1 ≠ 5 ∧ (x.1 < 14 ∨ 25 < x.1) := by
    intro x hx
    rw [hLd] at hx
    simp at hx
    rcases hx with rfl | rfl | rfl | rfl | rfl | rfl | rfl | rfl | rfl | rfl | rfl | rfl <;> simp
   refine wpAny_inv2 (SInv pp m wr.heap.size w.heap.size vl ks W0 L) ?_ ?_ _ _ _ _ (by decide +kernel) ?_ (closed_start _ _ _)
   ·intro i listed a W hi hC hI
    rw [mem_ready] at hi
    obtain ⟨hl, o, ho, hall⟩ := hi
    have hlt : i < 13 := (Array.getElem?_eq_some_iff.1 ho).1
    have hnl : listed.getD i false = false := by
     have hls := hI.ls
     have hil : i < listed.size := by omega
     simp [hil] at hl ⊢
     exact hl
    have hn11 : i < 11 → listed.getD 11 false = false := by
     intro hi11
     cases h11 : listed.getD 11 false with
     | false => rfl
     | true =>
      exfalso
      have q10 := hC 11 _ rfl h11 ⟨10, .data⟩ (by simp) rfl
      have q0 := hC 11 _ rfl h11 ⟨0, .data⟩ (by simp) rfl
      have q9 := hC 10 _ rfl q10 ⟨9, .data⟩ (by simp) rfl
      have q8 := hC 9 _ rfl q9 ⟨8, .data⟩ (by simp) rfl
      have q5 := hC 9 _ rfl q9 ⟨5, .data⟩ (by simp) rfl
      have q7 := hC 8 _ rfl q8 ⟨7, .data⟩ (by simp) rfl
      have q6 := hC 7 _ rfl q7 ⟨6, .data⟩ (by simp) rfl
      have q3 := hC 5 _ rfl q5 ⟨3, .data⟩ (by simp) rfl
      have q4 := hC 5 _ rfl q5 ⟨4, .data⟩ (by simp) rfl
      have q2 := hC 3 _ rfl q3 ⟨2, .data⟩ (by simp) rfl
      have q1 := hC 2 _ rfl q2 ⟨1, .data⟩ (by simp) rfl
      simp only at q10 q0 q9 q8 q5 q7 q6 q3 q4 q2 q1
      have hcs : i = 0 ∨ i = 1 ∨ i = 2 ∨ i = 3 ∨ i = 4 ∨ i = 5 ∨ i = 6 ∨ i = 7 ∨ i = 8 ∨ i = 9 ∨ i = 10 := by omega
      rcases hcs with rfl | rfl | rfl | rfl | rfl | rfl | rfl | rfl | rfl | rfl | rfl <;> simp_all
    have hn12 : i < 12 → listed.getD 12 false = false := by
     intro hi12
     cases h12 : listed.getD 12 false with
     | false => rfl
     | true =>
      exfalso
      have q11 := hI.al h12
      rcases Nat.lt_or_ge i 11 with h | h
      ·rw [hn11 h] at q11; cases q11
      ·obtain rfl : i = 11 := by omega
       rw [q11] at hnl; cases hnl
    have hcs : i = 0 ∨ i = 1 ∨ i = 2 ∨ i = 3 ∨ i = 4 ∨ i = 5 ∨ i = 6 ∨ i = 7 ∨ i = 8 ∨ i = 9 ∨ i = 10 ∨ i = 11 ∨ i = 12 := by omega
    rcases hcs with rfl | rfl | rfl | rfl | rfl | rfl | rfl | rfl | rfl | rfl | rfl | rfl | rfl
    all_goals
     simp at ho
     subst ho
     refine wpOp_of rfl rfl ?_
    ·have e1 := hI.s5 (hn12 (by omega))
     simp [Oper.wp, go_sem, e1]
     exact hI.put hL (i := 0) (by omega) (hn11 (by omega)) (hn12 (by omega)) (Below.refl _ _) rfl
    ·have e1 : a.tmps[7]?.getD undef = .pointer (some ⟨wr.heap.size, 0, none⟩) := hI.keep (7, _) (by rw [hLd]; simp)
     simp [Oper.wp, go_sem, e1]
     exact hI.put hL (i := 1) (by omega) (hn11 (by omega)) (hn12 (by omega)) (Below.refl _ _) rfl
    ·have e1 : a.tmps[15]?.getD undef = .pointer (some ⟨wr.heap.size, 0, none⟩) := hI.f (hn11 (by omega)) 1 (by omega) (hall ⟨1, .data⟩ (by simp) rfl)
     have e2 := ((bcell (hI.nb (hn11 (by omega)))).1 wr.heap.size 0 hR).trans d0
     simp [Oper.wp, go_sem, e1, e2]
     exact hI.put hL (i := 2) (by omega) (hn11 (by omega)) (hn12 (by omega)) (Below.refl _ _) rfl
    ·have e1 : a.tmps[16]?.getD undef = .int .i64 pp.1 := hI.f (hn11 (by omega)) 2 (by omega) (hall ⟨2, .data⟩ (by simp) rfl)
     simp [Oper.wp, go_sem, e1]
     refine (Itoa_any pp.1 W hs1 (by omega) (HTW.out.below (hI.nb (hn11 (by omega))))).mono ?_
     rintro e w1 ⟨rfl, hb1⟩
     exact hI.put hL (i := 3) (by omega) (hn11 (by omega)) (hn12 (by omega)) hb1 rfl
    ·have e1 : a.tmps[1]?.getD undef = .string m := hI.keep (1, _) (by rw [hLd]; simp)
     simp [Oper.wp, go_sem, e1]
     exact hI.put hL (i := 4) (by omega) (hn11 (by omega)) (hn12 (by omega)) (Below.refl _ _) rfl
    ·have e1 : a.tmps[17]?.getD undef = .string (Pl.dec pp.1) := hI.f (hn11 (by omega)) 3 (by omega) (hall ⟨3, .data⟩ (by simp) rfl)
     have e2 : a.tmps[18]?.getD undef = .string m := hI.f (hn11 (by omega)) 4 (by omega) (hall ⟨4, .data⟩ (by simp) rfl)
     simp [Oper.wp, go_sem, e1, e2]
     rw [if_neg (by omega), Oper.upon_value]
     exact hI.put hL (i := 5) (by omega) (hn11 (by omega)) (hn12 (by omega)) (Below.refl _ _) rfl
    ·have e1 : a.tmps[7]?.getD undef = .pointer (some ⟨wr.heap.size, 0, none⟩) := hI.keep (7, _) (by rw [hLd]; simp)
     simp [Oper.wp, go_sem, e1]
     exact hI.put hL (i := 6) (by omega) (hn11 (by omega)) (hn12 (by omega)) (Below.refl _ _) rfl
    ·have e1 : a.tmps[20]?.getD undef = .pointer (some ⟨wr.heap.size, 1, none⟩) := hI.f (hn11 (by omega)) 6 (by omega) (hall ⟨6, .data⟩ (by simp) rfl)
     have e2 := ((bcell (hI.nb (hn11 (by omega)))).1 wr.heap.size 1 hR).trans d1
     simp [Oper.wp, go_sem, e1, e2]
     exact hI.put hL (i := 7) (by omega) (hn11 (by omega)) (hn12 (by omega)) (Below.refl _ _) rfl
    ·have e1 : a.tmps[21]?.getD undef = .int .i64 pp.2 := hI.f (hn11 (by omega)) 7 (by omega) (hall ⟨7, .data⟩ (by simp) rfl)
     simp [Oper.wp, go_sem, e1]
     refine (Itoa_any pp.2 W hs3 (by omega) (HTW.out.below (hI.nb (hn11 (by omega))))).mono ?_
     rintro e w1 ⟨rfl, hb1⟩
     exact hI.put hL (i := 8) (by omega) (hn11 (by omega)) (hn12 (by omega)) hb1 rfl
    ·have e1 : a.tmps[19]?.getD undef = .string (Pl.dec pp.1 ++ m) := hI.f (hn11 (by omega)) 5 (by omega) (hall ⟨5, .data⟩ (by simp) rfl)
     have e2 : a.tmps[22]?.getD undef = .string (Pl.dec pp.2) := hI.f (hn11 (by omega)) 8 (by omega) (hall ⟨8, .data⟩ (by simp) rfl)
     simp [Oper.wp, go_sem, e1, e2]
     rw [if_neg (by omega), Oper.upon_value]
     exact hI.put hL (i := 9) (by omega) (hn11 (by omega)) (hn12 (by omega)) (Below.refl _ _) rfl
    ·have e1 : a.tmps[23]?.getD undef = .string (Pl.sideT m pp) := hI.f (hn11 (by omega)) 9 (by omega) (hall ⟨9, .data⟩ (by simp) rfl)
     simp [Oper.wp, go_sem, e1]
     exact hI.put hL (i := 10) (by omega) (hn11 (by omega)) (hn12 (by omega)) ((Below.refl _ _).alloc (Nat.le_refl _) _) ⟨W.heap.size, rfl, by simp, by simp⟩
    ·have hn : listed.getD 11 false = false := hnl
     have e1 : a.tmps[14]?.getD undef = vl := hI.f hn 0 (by omega) (hall ⟨0, .data⟩ (by simp) rfl)
     obtain ⟨bb, e2, hbb, hcc⟩ := hI.f hn 10 (by omega) (hall ⟨10, .data⟩ (by simp) rfl)
     simp only [Nat.reduceAdd] at e2
     have hnb := hI.nb hn
     have hoW : OwnT W w.heap.size vl ks := HOW.out.below hnb
     have hlt2 := World.ownsRow.lt hoW
     have hbase : w.heap.size ≤ W.heap.size := Nat.le_trans hBw.size hnb.size
     obtain ⟨i0, hi0, hz0, hz1', hz2'⟩ := partsOf infoText
     refine wp_append_own W (.tmp 14) (.tmp 24) 38 rfl w.heap.size 9 i0 _ 1 16 Tryz.underlying38 hi0 hz0 hz1' hz2' rfl (by decide) vl ks.length (ks.map Value.string) (by simpa [go_sem] using e1) hoW ⟨bb, 0, none⟩ 1 1 [.string (Pl.sideT m pp)] (by simpa [go_sem] using e2) rfl ?_ ?_ (by unfold maxLen; omega) (by omega) hbase ?_
     ·intro j u hj
      match j, hj with
      | 0, hj => simp at hj; subst hj; rw [add_none]; exact hcc
     ·intro u hu; simp at hu; subst hu; rfl
     ·intro v' w' hown' hg _
      have hbel : Below w.heap.size W0 w' := (hnb.mono hBw.size).grown hg hbase (fun k hk => (hlt2 k hk).1)
      have h11 : (listed.setIfInBounds 11 true).getD 11 false = true := by
       have hls := hI.ls
       simp [hls]
      have h12 : (listed.setIfInBounds 11 true).getD 12 false = false := by rw [getD_set_ne false (by omega)]; exact hn12 (by omega)
      show SInv pp m wr.heap.size w.heap.size vl ks W0 L (listed.setIfInBounds 11 true) (a.put (some 25) v') w'
      refine ⟨by simp [hI.ls], by simp [Act.put, hI.sz], hI.df, ?_, ?_, (fun h' => by rw [h11] at h'; cases h'), (fun h' => by rw [h11] at h'; cases h'), (fun h' => by rw [h12] at h'; cases h'), ?_, (fun h' => by rw [h12] at h'; cases h')⟩
      ·intro x hx
       have := hL x hx
       rw [eval_ne (by omega)]; exact hI.keep x hx
      ·intro _
       rw [eval_ne (by omega)]; exact hI.s5 (hn12 (by omega))
      ·intro _ _
       refine ⟨v', eval_eq (by rw [hI.sz]; omega), ?_, hbel⟩
       unfold OwnT
       simpa using hown'
    ·have hn : listed.getD 12 false = false := hnl
     have q11 := hall ⟨11, .data⟩ (by simp) rfl
     simp only at q11
     obtain ⟨v1, e1, ho1, hbel⟩ := hI.ap q11 hn
     simp [Oper.wp, go_sem, e1]
     have h12 : (listed.setIfInBounds 12 true).getD 12 false = true := by
      have hls := hI.ls
      simp [hls]
     have h11 : (listed.setIfInBounds 12 true).getD 11 false = true := by rw [getD_set_ne false (by omega)]; exact q11
     refine ⟨by simp [hI.ls], by simp [hI.sz], hI.df, ?_, (fun h' => by rw [h12] at h'; cases h'), (fun h' => by rw [h11] at h'; cases h'), (fun h' => by rw [h11] at h'; cases h'), (fun _ => h11), (fun _ h' => by rw [h12] at h'; cases h'), ?_⟩
     ·intro x hx
      have := hL x hx
      have h := eval_ne (a := a) (m := 5) (n := x.1) (v := v1) (by omega)
      exact h.trans (hI.keep x hx)
     ·intro _
      exact ⟨v1, eval_eq (a := a) (m := 5) (v := v1) (by rw [hI.sz]; omega), ho1, hbel⟩
   ·intro listed a W hr hI
    rename_i K hK
    have hal := all_listed (by decide +kernel) hI.ls hr 12 (by decide)
    obtain ⟨v1, e5, ho1, hbel⟩ := hI.dn hal
    have k0 := hI.keep (0, Value.slice (some ⟨b, off, none⟩) len cap) (by rw [hLd]; simp)
    have k1 := hI.keep (1, Value.string m) (by rw [hLd]; simp)
    have k8 := hI.keep (8, Value.slice (some ⟨b, off, none⟩) len cap) (by rw [hLd]; simp)
    have k9 := hI.keep (9, Value.int .i64 (len : Int)) (by rw [hLd]; simp)
    have k10 := hI.keep (10, Value.int .i64 (k : Int)) (by rw [hLd]; simp)
    have k2 := hI.keep (2, undef) (by rw [hLd]; simp)
    have k3 := hI.keep (3, undef) (by rw [hLd]; simp)
    have k4 := hI.keep (4, Value.string ⟨#[]⟩) (by rw [hLd]; simp)
    have k6 := hI.keep (6, undef) (by rw [hLd]; simp)
    have k27 := hI.keep (27, undef) (by rw [hLd]; simp)
    have k28 := hI.keep (28, undef) (by rw [hLd]; simp)
    have hdf := hI.df
    obtain ⟨t0, t1, t2, t3, t4, t5, t6, t7, t8, t9, t10, t11, t12, t13, t14, t15, t16, t17, t18, t19, t20, t21, t22, t23, t24, t25, t26, t27, t28, htm⟩ := arr29 a.tmps hI.sz
    obtain ⟨tm, df⟩ := a
    simp only at htm hdf
    subst htm hdf
    simp at k0 k1 k8 k9 k10 e5 k2 k3 k4 k6 k27 k28
    subst k0 k1 k8 k9 k10 e5 k2 k3 k4 k6 k27 k28
    have HO1 : Hid (OwnT W w.heap.size t5 ((ps.take (k + 1)).map (Pl.sideT m))) := by
     refine hid ?_
     rw [Pl.take_prS ps k (by omega), List.map_append, HKS.out, hpp.out]
     exact ho1
    have hbF : Below w.heap.size w W := hBw.trans hbel
    refine hK _ W ?_
    clear hI hr
    go_wp2_with fail
    go_roundw
    case rel => exact ⟨k + 1, t5, rfl, by omega, by go_num, HO1, hbF⟩
    case measure => simp [intOf]; omega
   ·rw [← hW0]
    refine ⟨by rfl, by rfl, rfl, ?_, (fun _ => rfl), ?_, (fun _ => Below.drew (Below.refl _ _)), ?_, ?_, ?_⟩
    ·intro x hx
     rw [hLd] at hx
     simp at hx
     rcases hx with rfl | rfl | rfl | rfl | rfl | rfl | rfl | rfl | rfl | rfl | rfl | rfl <;> rfl
    ·intro _ k hk h
     have : (Array.replicate 13 false).getD k false = true := h
     rw [show (Array.replicate 13 false).getD k false = false from by by_cases hk' : k < 13 <;> simp [hk']] at this
     cases this
    ·intro h
     have : (Array.replicate 13 false).getD 12 false = true := h
     simp at this
    ·intro h
     have : (Array.replicate 13 false).getD 11 false = true := h
     simp at this
    ·intro h
     have : (Array.replicate 13 false).getD 12 false = true := h
     simp at this
  ·obtain rfl : k = len := by omega
   obtain ⟨xs, HXS⟩ : ∃ xs, Hid (ps.map (Pl.sideT m) = xs) := ⟨_, hid rfl⟩
   have hxl : xs.length = k := by rw [← HXS.out]; simpa using hlen
   have HO' : Hid (OwnT wr w.heap.size vl xs) := by
    have h := HO.out
    rw [List.take_of_length_le (by omega), HXS.out] at h
    exact hid h
   have HSH : Hid (Pl.showT m ps = ⟨(Lib.join (xs.map (·.data.toList)) (⟨#[44]⟩ : ByteArray).data.toList).toArray⟩) := hid (by unfold Pl.showT; rw [HXS.out])
   obtain ⟨a2, cap2, rfl, hc2, hm2, hr2⟩ := OwnT.shape HO'.out
   have HLE := hid (Pl.show_len m ps HS.out hm (by omega))
   rw [HXS.out] at HLE
   rcases hr2 with hnil | ⟨b2, rfl, hb2, hlt2, hcell⟩
   ·subst hnil
    have hk0 : k = 0 := by simpa using hxl.symm
    clear hlen hxl hc2
    subst hk0
    go_wp2_with fail
    refine (Tryz.strings_Join_none a2 cap2 _ _).mono ?_
    rintro e w3 ⟨rfl, rfl⟩
    go_wp2_with fail
    go_ret
    exact ⟨by rw [HSH.out]; rfl, hb⟩
   ·have HJ : Hid (Calls Tryz.prog 215 #[.slice (some ⟨b2, 0, none⟩) k cap2, .string ⟨#[44]⟩] wr fun e w' => e = .returned (.string (Pl.showT m ps)) ∧ Below wr.heap.size wr w') := by
     refine hid ?_
     have h := Tryz.strings_Join b2 0 cap2 xs ⟨#[44]⟩ wr (by
      intro j x hj
      obtain ⟨hj1, hj2⟩ := List.getElem?_eq_some_iff.1 hj
      rw [← hj2]
      exact hcell j hj1) hlt2 (by omega) hc2 HLE.out
     rw [hxl, ← HSH.out] at h
     exact h
    rw [hxl]
    clear hcell hlen hxl hc2 HLE HSH HXS
    go_wp2_with fail
    refine HJ.out.mono ?_
    rintro e w3 ⟨rfl, hb3⟩
    go_wp2_with fail
    go_ret
    exact ⟨rfl, hb.trans (hb3.mono hz)⟩
end Go.Proofs.YtjjelkdajdeikaaGreatDoor
