/-
  Contracts and facts that the proof rests on, put together out of several texts.
-/
import Derived.Test.YtjjelkdajdeikaaGreatDoorTopQuietC13
import Derived.Test.YtjjelkdajdeikaaGreatDoorTopQuietC1
import Derived.Shelf.Abstract
import Derived.Laws.EntriesVeiled
import Derived.Test.YtjjelkdajdeikaaGreatDoorTopQuietC4
import Derived.Test.YtjjelkdajdeikaaGreatDoorTopQuietC6
import Derived.Test.YtjjelkdajdeikaaGreatDoorTopQuietC3
import Derived.Test.YtjjelkdajdeikaaGreatDoorProg
import Derived.ProofKit
import Derived.OpenShut
import Derived.ShutString
import Derived.ChangeOld
import Derived.Lib.SmallJoins
import Derived.Deep.Slices
import Derived.SizedLaws
import Derived.Test.YtjjelkdajdeikaaGreatDoorTopQuietC12
/-
  Acts laid as a literal.
-/
namespace Go.Proofs.YtjjelkdajdeikaaGreatDoor
open Go.RowKit
set_option maxRecDepth 20000

theorem OwnAc.acts2 {w : World} {base : Nat} {v : Value} {xs : List Pl.Ac} (h : OwnAc w base v xs) (hok : ∀ x ∈ xs, Pl.AcOk x) : ∃ a cap, v = .slice a xs.length cap ∧ IsActs w a xs.length cap xs ∧ (a = none → xs.length = 0 ∧ cap = 0) := by
  obtain ⟨a, cap, e, h1, h2, _⟩ := h.acts hok
  refine ⟨a, cap, e, h1, fun hn => ⟨h2 hn, ?_⟩⟩
  subst hn e
  obtain ⟨_, ⟨h, _⟩ | ⟨g, cap', cur, h, _⟩⟩ := h
  · simp only [Value.slice.injEq] at h
    exact h.2.2
  · simp only [Value.slice.injEq] at h
    exact absurd h.1 (by simp)
end Go.Proofs.YtjjelkdajdeikaaGreatDoor
/-
  Contracts: slices.Equal over lists of entries that are the same; slices.Index, slices.Contains of what is not there.
-/
namespace Go.Proofs.YtjjelkdajdeikaaGreatDoor
open Go.RowKit
set_option maxRecDepth 20000

set_option maxHeartbeats 400000 in
theorem Equal_eq (a b : Option Addr) (len cap capb : Nat) (es : List Pl.Ent) (w : World) (ha : IsEnts w a len cap es) (hB : IsEnts w b len capb es) :
    Calls Tryz.prog 21 #[.slice a len cap, .slice b len capb] w fun e w' => e = .returned (.bool true) ∧ Below w.heap.size w w' := by
  obtain ⟨hl, hc, hm, _, hrow⟩ := ha
  obtain ⟨_, hcb, hmb, _, hrowb⟩ := hB
  unfold maxLen at hm hmb
  have HR : Hid (es = [] ∨ ∃ b off, a = some ⟨b, off, none⟩ ∧ b < w.heap.size ∧ RowAt w b off es) := hrow
  have HRB : Hid (es = [] ∨ ∃ b' off, b = some ⟨b', off, none⟩ ∧ b' < w.heap.size ∧ RowAt w b' off es) := hrowb
  clear hrow hrowb
  go_enter Tryz.func21, Tryz.ntmps21
  go_wp2
  go_loopw [13] (fun i wr => ∃ k : Nat, k ≤ len ∧ i = .int .i64 k ∧ Below w.heap.size w wr) (fun i _ => len - (intOf i).toNat)
  case atStart => exact ⟨0, Nat.zero_le _, rfl, Below.refl _ _⟩
  case round =>
    obtain ⟨k, hk, rfl, hb⟩ := hrel
    by_cases hlt : k < len
    · obtain ⟨b1, o1, rfl, hb1, hr1⟩ : ∃ b off, a = some ⟨b, off, none⟩ ∧ b < w.heap.size ∧ RowAt w b off es := by
        rcases HR.out with h | h
        · rw [h] at hl; simp at hl; omega
        · exact h
      obtain ⟨b2, o2, rfl, hb2, hr2⟩ : ∃ b' off, b = some ⟨b', off, none⟩ ∧ b' < w.heap.size ∧ RowAt w b' off es := by
        rcases HRB.out with h | h
        · rw [h] at hl; simp at hl; omega
        · exact h
      obtain ⟨q0, q1, q2, q3⟩ := hr1.below hb1 hb k (by omega)
      obtain ⟨r0, r1, r2, r3⟩ := hr2.below hb2 hb k (by omega)
      clear hr1 hr2
      generalize Pl.ent es k = y at *
      obtain ⟨yk, yv, yo, yx⟩ := y
      simp only at q0 q1 q2 q3 r0 r1 r2 r3
      have hlt' : (k : Int) < (len : Int) := by omega
      go_wp2_with fail
      go_quiet (fail)
      go_wp2
      go_roundw
      case rel => exact ⟨k + 1, by omega, by go_num, below_drewN hb _⟩
      case measure => simp [intOf]; omega
    · obtain rfl : k = len := by omega
      go_wp2
      go_ret
      exact ⟨rfl, hb⟩


end Go.Proofs.YtjjelkdajdeikaaGreatDoor
/-
  Contract: slices.EqualFunc over stores that are the same.
-/
namespace Go.Proofs.YtjjelkdajdeikaaGreatDoor
open Go.RowKit
set_option maxRecDepth 20000

def PredS (g : Nat) : Prop := ∀ (W : World) (a b : Option Addr) (len ca cb : Nat) (es : List Pl.Ent), IsEnts W a len ca es → IsEnts W b len cb es →
  Calls Tryz.prog g #[.slice a len ca, .slice b len cb] W fun e w' => e = .returned (.bool true) ∧ Below W.heap.size W w'
set_option maxHeartbeats 1000000 in
theorem pred_quiet : PredS 40 := by
  intro W a b len ca cb es h1 h2
  have HE := hid (Equal_eq a b len ca cb es W h1 h2)
  clear h1 h2
  go_enter Tryz.func40, Tryz.ntmps40
  go_wp2_with fail
  refine HE.out.mono ?_
  rintro e w1 ⟨rfl, hb⟩
  go_wp2_with fail
  go_ret
  exact ⟨rfl, hb⟩
set_option maxHeartbeats 4000000 in
theorem EqualFuncS_any (g : Nat) (eg : ∀ args w, (callFunc g args).run Tryz.prog w = .ok (.enter g args) w) (hp : PredS g) (gs gt cs ct : Nat) (A A2 : Nat → Option Addr) (C C2 : Nat → Nat) (K : Nat → List Pl.Ent) (w : World) (h1 : StoresAt w gs A C K) (h2 : StoresAt w gt A2 C2 K) (l1 : gs < w.heap.size) (l2 : gt < w.heap.size) :
    Calls Tryz.prog 39 #[.slice (some ⟨gs, 0, none⟩) 12 cs, .slice (some ⟨gt, 0, none⟩) 12 ct, .func (.func g) #[] #[]] w fun e w' => e = .returned (.bool true) ∧ Below w.heap.size w w' := by
  have H1 := hid h1
  have H2 := hid h2
  have HP := hid hp
  clear h1 h2 hp
  go_enter Tryz.func39, Tryz.ntmps39
  go_wp2_with fail
  go_loopw [17] (fun i wr => ∃ k : Nat, k ≤ 12 ∧ i = .int .i64 k ∧ Hid (Below w.heap.size w wr)) (fun i _ => 12 - (intOf i).toNat)
  case atStart => exact ⟨0, by omega, rfl, hid (Below.refl _ _)⟩
  case round =>
    obtain ⟨k, hk, rfl, HB⟩ := hrel
    by_cases hlt : k < 12
    · obtain ⟨s0, s1, _⟩ := (H1.out.below l1 HB.out) k hlt
      obtain ⟨t0, t1, _⟩ := (H2.out.below l2 HB.out) k hlt
      have HC := hid (HP.out wr _ _ _ _ _ _ s1 t1)
      clear s1 t1
      obtain ⟨ne, HNE⟩ : ∃ c, Hid ((K k).length = c) := ⟨_, hid rfl⟩
      rw [HNE.out] at s0 t0 HC
      have hlt' : (k : Int) < 12 := by omega
      have l1' : gs < wr.heap.size := Nat.lt_of_lt_of_le l1 HB.out.size
      have l2' : gt < wr.heap.size := Nat.lt_of_lt_of_le l2 HB.out.size
      go_wp2_with fail
      refine HC.out.mono ?_
      rintro e w1 ⟨rfl, hb1⟩
      go_wp2_with fail
      go_roundw
      case rel => exact ⟨k + 1, by omega, by go_num, hid (HB.out.trans (hb1.mono HB.out.size))⟩
      case measure => simp [intOf]; omega
    · obtain rfl : k = 12 := by omega
      go_wp2_with fail
      go_ret
      exact ⟨rfl, HB.out⟩
end Go.Proofs.YtjjelkdajdeikaaGreatDoor
/-
  Contract of keep: the acts by which five nodes tell, send and decide (Settle).
-/
namespace Go.Proofs.YtjjelkdajdeikaaGreatDoor
open Go.RowKit
set_option maxRecDepth 20000

def Pl.colsP (a b : Nat) : List (Nat × Nat) := ((List.range b).filter fun b => decide (a ≠ b)).map fun b => (a, b)
def Pl.rowsP (a : Nat) : List (Nat × Nat) := (List.range a).flatMap fun a => Pl.colsP a 5
theorem Pl.colsP_succ (a b : Nat) : Pl.colsP a (b + 1) = if a = b then Pl.colsP a b else Pl.colsP a b ++ [(a, b)] := by
  unfold Pl.colsP
  rw [List.range_succ, List.filter_append, List.map_append]
  by_cases h : a = b
  · subst h; simp
  · rw [if_neg h]; simp [h]
theorem Pl.rowsP_succ (a : Nat) : Pl.rowsP (a + 1) = Pl.rowsP a ++ Pl.colsP a 5 := by
  unfold Pl.rowsP
  rw [List.range_succ, List.flatMap_append]; simp
theorem Pl.rowsP_five : Pl.rowsP 5 = Pl.pairs5 := rfl
theorem Pl.tells_succ (k : Nat) : Pl.tells (List.range (k + 1)) = Pl.tells (List.range k) ++ [Pl.Ac.tell k] := by
  unfold Pl.tells; rw [List.range_succ, List.map_append]; rfl
theorem Pl.decides_succ (k : Nat) : Pl.decides (List.range (k + 1)) = Pl.decides (List.range k) ++ [Pl.Ac.decide k] := by
  unfold Pl.decides; rw [List.range_succ, List.map_append]; rfl
theorem Pl.sends_len (ps : List (Nat × Nat)) : (Pl.sends ps).length = ps.length := by simp [Pl.sends]
theorem Pl.colsP_len (a b : Nat) : (Pl.colsP a b).length ≤ b := by
  unfold Pl.colsP
  rw [List.length_map]
  exact Nat.le_trans (List.length_filter_le _ _) (by simp)
theorem Pl.rowsP_len : ∀ a, (Pl.rowsP a).length ≤ a * 5
  | 0 => by simp [Pl.rowsP]
  | a + 1 => by
    rw [Pl.rowsP_succ, List.length_append]
    have h1 := Pl.rowsP_len a
    have h2 := Pl.colsP_len a 5
    omega
theorem Pl.rounds_len : ∀ r, (Pl.rounds r).length ≤ r * 25
  | 0 => by simp [Pl.rounds]
  | r + 1 => by
    show (Pl.rounds r ++ Pl.pairs5).length ≤ _
    rw [List.length_append]
    have h1 := Pl.rounds_len r
    have h2 : Pl.pairs5.length ≤ 25 := by decide
    omega
def Pl.setS (r a b : Nat) : List Pl.Ac := Pl.tells (List.range 5) ++ Pl.sends (Pl.rounds r ++ (Pl.rowsP a ++ Pl.colsP a b))
theorem Pl.setS_len (r a b : Nat) (hr : r ≤ 4) (ha : a ≤ 5) (hb : b ≤ 5) : (Pl.setS r a b).length ≤ 1000 := by
  unfold Pl.setS
  rw [List.length_append, Pl.sends_len, List.length_append, List.length_append]
  have h1 := Pl.rounds_len r
  have h2 := Pl.rowsP_len a
  have h3 := Pl.colsP_len a b
  have h4 : (Pl.tells (List.range 5)).length = 5 := rfl
  omega
theorem Pl.setS_on {r a b : Nat} (h : a ≠ b) : Pl.setS r a (b + 1) = Pl.setS r a b ++ [Pl.Ac.send a b] := by
  unfold Pl.setS
  rw [Pl.colsP_succ, if_neg h, ← List.append_assoc (Pl.rowsP a), ← List.append_assoc (Pl.rounds r), Pl.sends_app, ← List.append_assoc]
  rfl
theorem Pl.setS_same {r a b : Nat} (h : a = b) : Pl.setS r a (b + 1) = Pl.setS r a b := by
  unfold Pl.setS
  rw [Pl.colsP_succ, if_pos h]
theorem Pl.setS_row (r a : Nat) : Pl.setS r a 5 = Pl.setS r (a + 1) 0 := by
  unfold Pl.setS
  rw [Pl.rowsP_succ, show Pl.colsP (a + 1) 0 = [] from rfl, List.append_nil]
theorem Pl.setS_round (r : Nat) : Pl.setS r 5 0 = Pl.setS (r + 1) 0 0 := by
  unfold Pl.setS
  rw [show Pl.colsP 5 0 = [] from rfl, show Pl.colsP 0 0 = [] from rfl, show Pl.rowsP 0 = [] from rfl, Pl.rowsP_five, List.append_nil, List.append_nil, List.append_nil]
  rfl
theorem Pl.setS_end : Pl.setS 4 0 0 ++ Pl.decides (List.range 5) = Pl.settle5 := by
  unfold Pl.setS Pl.settle5
  rw [show Pl.rowsP 0 ++ Pl.colsP 0 0 = [] from rfl, List.append_nil, List.append_assoc]

set_option maxHeartbeats 8000000 in
theorem Settle_any (w : World) : Calls Tryz.prog 25 #[.int .i64 5] w fun e w' => ∃ v, e = .returned v ∧ OwnAc w' w.heap.size v Pl.settle5 ∧ Below w.heap.size w w' := by
  go_enter Tryz.func25, Tryz.ntmps25
  go_wp2_with fail
  go_loopw [3, 9] (fun vo vi wr => ∃ (k : Nat) (v : Value), v = vo ∧ vi = .int .i64 k ∧ k ≤ 5 ∧ Hid (OwnAc wr w.heap.size v (Pl.tells (List.range k))) ∧ Hid (Below w.heap.size w wr)) (fun _ vi _ => 5 - (intOf vi).toNat)
  case atStart => exact ⟨0, _, rfl, rfl, by omega, hid (OwnAc.nil _ _), hid (Below.refl _ _)⟩
  case round =>
    obtain ⟨k, v, hv, rfl, hk, HO, HB⟩ := hrel
    subst hv
    have hzr := HB.out.size
    obtain ⟨oa, oc, rfl⟩ := ownsRow_slice HO.out
    obtain ⟨no, HNO⟩ : ∃ c, Hid ((Pl.tells (List.range k)).length = c) := ⟨_, hid rfl⟩
    have hno : no ≤ 1000000 := by rw [← HNO.out]; simp [Pl.tells]; omega
    rw [HNO.out] at HO ⊢
    by_cases hk5 : k < 5
    · have hk5' : (k : Int) < 5 := by omega
      go_wp2_with (at_builtin; refine append_ac rfl (.tmp 12) (.tmp 15) rfl w.heap.size (.slice oa no oc) (Pl.tells (List.range k)) (Pl.Ac.tell k) rfl HO.out hzr rfl (by rw [HNO.out]; exact hno) ?_; intro v5 w5 ho5 hb5; have HO5 := hid ho5; have HB5 := hid hb5; clear ho5 hb5)
      go_roundw
      case rel => exact ⟨k + 1, _, rfl, by go_num, by omega, hid (by rw [Pl.tells_succ]; exact HO5.out), hid (HB.out.trans HB5.out)⟩
      case measure => simp [intOf]; omega
    · obtain rfl : k = 5 := by omega
      have HS0 : Hid (OwnAc wr w.heap.size (.slice oa no oc) (Pl.setS 0 0 0)) := hid (by
        have e : Pl.setS 0 0 0 = Pl.tells (List.range 5) := by unfold Pl.setS; rw [show Pl.rounds 0 ++ (Pl.rowsP 0 ++ Pl.colsP 0 0) = [] from rfl]; simp [Pl.sends]
        rw [e]; exact HO.out)
      clear HO HNO hno hk hk5
      go_wp2_with fail
      go_loopw [3, 20] (fun vo vi wq => ∃ (r : Nat) (v : Value), v = vo ∧ vi = .int .i64 r ∧ r ≤ 4 ∧ Hid (OwnAc wq w.heap.size v (Pl.setS r 0 0)) ∧ Hid (Below w.heap.size w wq)) (fun _ vi _ => 4 - (intOf vi).toNat)
      case atStart => exact ⟨0, _, rfl, rfl, by omega, HS0, HB⟩
      case round =>
        clear HS0 HB hzr
        obtain ⟨r, v, hv, rfl, hr, HO, HB⟩ := hrel
        subst hv
        rename World => wq
        by_cases hr4 : r < 4
        · have hr4' : (r : Int) < 4 := by omega
          go_wp2_with fail
          go_loopw [3, 23] (fun vo vi w3 => ∃ (a : Nat) (v : Value), v = vo ∧ vi = .int .i64 a ∧ a ≤ 5 ∧ Hid (OwnAc w3 w.heap.size v (Pl.setS r a 0)) ∧ Hid (Below w.heap.size w w3)) (fun _ vi _ => 5 - (intOf vi).toNat)
          case atStart => exact ⟨0, _, rfl, rfl, by omega, HO, HB⟩
          case round =>
            clear HO HB
            obtain ⟨a, v, hv, rfl, ha, HO, HB⟩ := hrel
            subst hv
            rename World => w3
            have hr4t : decide ((r : Int) < 4) = true := by simpa using hr4'
            by_cases ha5 : a < 5
            · have ha5' : (a : Int) < 5 := by omega
              go_wp2_with fail
              go_loopw [3, 27] (fun vo vi w4 => ∃ (b : Nat) (v : Value), v = vo ∧ vi = .int .i64 b ∧ b ≤ 5 ∧ Hid (OwnAc w4 w.heap.size v (Pl.setS r a b)) ∧ Hid (Below w.heap.size w w4)) (fun _ vi _ => 5 - (intOf vi).toNat)
              case atStart => exact ⟨0, _, rfl, rfl, by omega, HO, HB⟩
              case round =>
                clear HO HB
                obtain ⟨b, v, hv, rfl, hb, HO, HB⟩ := hrel
                subst hv
                rename World => w4
                have hzr := HB.out.size
                have ha5t : decide ((a : Int) < 5) = true := by simpa using ha5'
                obtain ⟨oa, oc, rfl⟩ := ownsRow_slice HO.out
                obtain ⟨no, HNO⟩ : ∃ c, Hid ((Pl.setS r a b).length = c) := ⟨_, hid rfl⟩
                have hno : no ≤ 1000000 := by rw [← HNO.out]; have := Pl.setS_len r a b hr (by omega) hb; omega
                rw [HNO.out] at HO ⊢
                by_cases hb5 : b < 5
                · have hb5' : (b : Int) < 5 := by omega
                  by_cases hab : a = b
                  · have HSE : Hid (Pl.setS r a (b + 1) = Pl.setS r a b) := hid (Pl.setS_same hab)
                    have habb : ((a : Int) != (b : Int)) = false := by simp [hab]
                    clear hab
                    go_wp2_with fail
                    go_roundw
                    case rel => exact ⟨b + 1, _, rfl, by go_num, by omega, hid (by rw [HSE.out]; exact HO.out), HB⟩
                    case measure => simp [intOf]; omega
                  · have HSE : Hid (Pl.setS r a (b + 1) = Pl.setS r a b ++ [Pl.Ac.send a b]) := hid (Pl.setS_on hab)
                    have habb : ((a : Int) != (b : Int)) = true := by simp; omega
                    clear hab
                    go_wp2_with (at_builtin; refine append_ac rfl (.tmp 33) (.tmp 37) rfl w.heap.size (.slice oa no oc) (Pl.setS r a b) (Pl.Ac.send a b) rfl HO.out hzr rfl (by rw [HNO.out]; exact hno) ?_; intro v5 w5 ho5 hb5; have HO5 := hid ho5; have HB5 := hid hb5; clear ho5 hb5)
                    go_roundw
                    case rel =>
                      repeat apply Exists.intro
                      exact ⟨⟨b + 1, _, rfl, by go_num, by omega, hid (by rw [HSE.out]; exact HO5.out), hid (HB.out.trans HB5.out)⟩, rfl⟩
                    case measure => simp [intOf]; omega
                · obtain rfl : b = 5 := by omega
                  have HSE : Hid (Pl.setS r a 5 = Pl.setS r (a + 1) 0) := hid (Pl.setS_row r a)
                  go_wp2_with fail
                  go_roundw
                  case rel => exact ⟨a + 1, _, rfl, by go_num, by omega, hid (by rw [← HSE.out]; exact HO.out), HB⟩
                  case measure => simp [intOf]; omega
            · obtain rfl : a = 5 := by omega
              have HSE : Hid (Pl.setS r 5 0 = Pl.setS (r + 1) 0 0) := hid (Pl.setS_round r)
              go_wp2_with fail
              go_roundw
              case rel => exact ⟨r + 1, _, rfl, by go_num, by omega, hid (by rw [← HSE.out]; exact HO.out), HB⟩
              case measure => simp [intOf]; omega
        · obtain rfl : r = 4 := by omega
          go_wp2_with fail
          go_loopw [3, 43] (fun vo vi w3 => ∃ (k : Nat) (v : Value), v = vo ∧ vi = .int .i64 k ∧ k ≤ 5 ∧ Hid (OwnAc w3 w.heap.size v (Pl.setS 4 0 0 ++ Pl.decides (List.range k))) ∧ Hid (Below w.heap.size w w3)) (fun _ vi _ => 5 - (intOf vi).toNat)
          case atStart => exact ⟨0, _, rfl, rfl, by omega, hid (by rw [show Pl.decides (List.range 0) = [] from rfl, List.append_nil]; exact HO.out), HB⟩
          case round =>
            clear HO HB
            obtain ⟨k, v, hv, rfl, hk, HO, HB⟩ := hrel
            subst hv
            rename World => w3
            have hzr := HB.out.size
            obtain ⟨oa, oc, rfl⟩ := ownsRow_slice HO.out
            obtain ⟨no, HNO⟩ : ∃ c, Hid ((Pl.setS 4 0 0 ++ Pl.decides (List.range k)).length = c) := ⟨_, hid rfl⟩
            have hno : no ≤ 1000000 := by
              rw [← HNO.out, List.length_append]
              have h1 := Pl.setS_len 4 0 0 (by omega) (by omega) (by omega)
              have h2 : (Pl.decides (List.range k)).length = k := by simp [Pl.decides]
              omega
            rw [HNO.out] at HO ⊢
            by_cases hk5 : k < 5
            · have hk5' : (k : Int) < 5 := by omega
              go_wp2_with (at_builtin; refine append_ac rfl (.tmp 46) (.tmp 49) rfl w.heap.size (.slice oa no oc) (Pl.setS 4 0 0 ++ Pl.decides (List.range k)) (Pl.Ac.decide k) rfl HO.out hzr rfl (by rw [HNO.out]; exact hno) ?_; intro v5 w5 ho5 hb5; have HO5 := hid ho5; have HB5 := hid hb5; clear ho5 hb5)
              go_roundw
              case rel =>
                repeat apply Exists.intro
                exact ⟨⟨k + 1, _, rfl, by go_num, by omega, hid (by rw [Pl.decides_succ, ← List.append_assoc]; exact HO5.out), hid (HB.out.trans HB5.out)⟩, rfl⟩
              case measure => simp [intOf]; omega
            · obtain rfl : k = 5 := by omega
              have h1 := HO.out
              rw [Pl.setS_end] at h1
              have HO1 := hid h1
              clear h1
              go_wp2_with fail
              go_ret
              exact ⟨_, rfl, HO1.out, HB.out⟩
end Go.Proofs.YtjjelkdajdeikaaGreatDoor
/-
  Small facts that the opening of parameters needs.
-/
namespace Go.Proofs.YtjjelkdajdeikaaGreatDoor
open Go.ChangeShapes Go.WideShapes Go.ChangeAt Go.RowKit
set_option maxRecDepth 20000

theorem cell_lt {W : World} {x : Addr} {v : Value} (h : W.cell? x = some v) : x.block < W.heap.size := by
  rcases Nat.lt_or_ge x.block W.heap.size with h' | h'
  · exact h'
  · simp [World.cell?, Array.getElem?_eq_none h'] at h

theorem own : ownKnob Tryz.prog.godebug = none := by kernel_rfl
theorem laidOut : laidOutB Tryz.prog = true := by kernel_rfl
end Go.Proofs.YtjjelkdajdeikaaGreatDoor
/-
  What a parameter holds when it is read as data: a slice of raw things.
-/
namespace Go.Proofs.YtjjelkdajdeikaaGreatDoor
open Go.ChangeShapes Go.WideShapes Go.ChangeAt Go.RowKit
set_option maxRecDepth 20000

theorem cellsRaw : Tryz.prog.cellsOf 98 = 4 := by kernel_rfl
theorem raw_of_trod {H : Type} {enc : TypeId × Value → H} {w : World} {base : Nat} {spare : Nat → Bool} {held : Bool} {n : Nat} {cs : List Value} {x : DataW H × List MemPlace}
    (h : DataW.trod enc Tryz.prog w base spare held n 98 cs = some x) : ∃ k0 k1 k2 k3 : Int, cs = [.int .i64 k0, .int .i64 k1, .int .i64 k2, .int .i64 k3] ∧
      (Lit.int .i64 k0).wf = true ∧ (Lit.int .i64 k1).wf = true ∧ (Lit.int .i64 k2).wf = true ∧ (Lit.int .i64 k3).wf = true := by
  obtain ⟨y0, y1, y2, y3, m, _, hl, h0, h1, h2, h3⟩ := Go.Joins.trod_struct4 Tryz.underlying98 h
  rw [cellsRaw] at hl
  match cs, hl with
  | [c0, c1, c2, c3], _ =>
    have e3 : Tryz.prog.cellsOf 3 = 1 := by kernel_rfl
    simp only [e3] at h0 h1 h2 h3
    obtain ⟨s0, a0, _, b0⟩ := DataW.trod_int Tryz.underlying3 h0
    obtain ⟨s1, a1, _, b1⟩ := DataW.trod_int Tryz.underlying3 h1
    obtain ⟨s2, a2, _, b2⟩ := DataW.trod_int Tryz.underlying3 h2
    obtain ⟨s3, a3, _, b3⟩ := DataW.trod_int Tryz.underlying3 h3
    simp at a0 a1 a2 a3
    subst a0 a1 a2 a3
    exact ⟨s0, s1, s2, s3, rfl, b0, b1, b2, b3⟩

theorem open_raws {H : Type} {enc : TypeId × Value → H} {w : World} {r : Reach} {b0 : Nat} {held : Bool} {v : Value} {d : DataW H} {p : List MemPlace}
    (hv : Value.okWide Tryz.prog w r b0 45 v) (h : DataW.Trod enc Tryz.prog w 0 (fun _ => true) held 45 v d p) :
    ∃ a len cap, v = .slice a len cap ∧ IsRaws w a len cap := by
  obtain ⟨a, len, cap, rfl⟩ := okWide_slice Tryz.underlying45 hv
  obtain ⟨fuel, hf⟩ := h
  rcases Go.Deep.open_slice Tryz.underlying45 hf with ⟨hcs, _⟩ | ⟨x, l, c, m, n, D, Q, hcs, _, hl, hm, hmm, _, hx⟩
  · simp [Value.cells] at hcs
    obtain ⟨rfl, rfl, rfl⟩ := hcs
    exact ⟨_, _, _, rfl, Nat.le_refl _, by simp, .inl rfl⟩
  · simp [Value.cells] at hcs
    obtain ⟨rfl, rfl, rfl⟩ := hcs
    simp only [if_true] at hmm
    subst hmm
    rw [cellsRaw] at hx
    refine ⟨_, _, _, rfl, hl, hm, ?_⟩
    rcases Nat.eq_zero_or_pos len with h0 | hpos
    · exact .inl h0
    · right
      obtain ⟨b, off, spot⟩ := x
      obtain ⟨cs0, g1, g2⟩ := hx 0 (by omega)
      obtain ⟨k0, k1, k2, k3, rfl, _⟩ := raw_of_trod g2
      have hc0 := (World.cells?_some g1).2.2 0 (by omega)
      simp only [List.getElem?_cons_zero] at hc0
      have hsp : spot = none := by simpa [Addr.add] using World.cell?_spot hc0
      subst hsp
      refine ⟨b, off, rfl, ?_, ?_⟩
      · have := cell_lt hc0; simpa [Addr.add] using this
      · intro i hi
        obtain ⟨cs1, f1, f2⟩ := hx i (by omega)
        obtain ⟨k0, k1, k2, k3, rfl, hw⟩ := raw_of_trod f2
        have hc := (World.cells?_some f1).2.2
        have c0 := hc 0 (by omega)
        have c1 := hc 1 (by omega)
        have c2 := hc 2 (by omega)
        have c3 := hc 3 (by omega)
        simp only [add_none, List.getElem?_cons_zero, List.getElem?_cons_succ, Nat.add_zero] at c0 c1 c2 c3
        exact ⟨k0, k1, k2, k3, ⟨c0, c1, c2, c3⟩, hw⟩
end Go.Proofs.YtjjelkdajdeikaaGreatDoor
