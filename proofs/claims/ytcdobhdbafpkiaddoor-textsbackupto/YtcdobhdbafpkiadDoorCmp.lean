/-
  Contracts: what Compare, ComparedOf and Above answer at every two entries.
-/
import Derived.Test.YtcdobhdbafpkiadDoorProg
import Derived.Test.YtcdobhdbafpkiadDoorKey
import Derived.Test.YtcdobhdbafpkiadDoorEnts
import Derived.WalkLawsBesides
import Derived.WalkSpells
import Derived.Deep.RegionWith
namespace Go.Proofs.YtcdobhdbafpkiadDoor
open Go.RowKit
set_option maxRecDepth 20000

theorem isNaNi_any (n : Int) (w : World) :
    Calls Tryd.prog 70 #[.int .i64 n] w fun e w' => e = .returned (.bool false) ∧ w' = w := by
  go_enter Tryd.func70, Tryd.ntmps70
  go_wp2
  go_ret
  exact ⟨ret_bool (by simp), rfl⟩

theorem isNaNs_any (x : ByteArray) (w : World) :
    Calls Tryd.prog 88 #[.string x] w fun e w' => e = .returned (.bool false) ∧ w' = w := by
  go_enter Tryd.func88, Tryd.ntmps88
  go_wp2
  go_ret
  exact ⟨ret_bool (by simp), rfl⟩

set_option maxHeartbeats 400000 in
theorem cmpi_any (a b : Int) (w : World) :
    Calls Tryd.prog 61 #[.int .i64 a, .int .i64 b] w fun e w' => e = .returned (.int .i64 (Pl.cmpI a b)) ∧ w' = w := by
  rcases Int.lt_trichotomy a b with h | rfl | h
  · go_enter Tryd.func61, Tryd.ntmps61
    go_wp2_with (go_at_call 70; refine (isNaNi_any _ _).mono ?_; rintro e w' ⟨rfl, rfl⟩)
    go_ret
    exact ⟨ret_int (Pl.cmpI_lt h).symm, rfl⟩
  · go_enter Tryd.func61, Tryd.ntmps61
    go_wp2_with (go_at_call 70; refine (isNaNi_any _ _).mono ?_; rintro e w' ⟨rfl, rfl⟩)
    go_ret
    exact ⟨ret_int (Pl.cmpI_eq _).symm, rfl⟩
  · have h' : ¬ a < b := by omega
    go_enter Tryd.func61, Tryd.ntmps61
    go_wp2_with (go_at_call 70; refine (isNaNi_any _ _).mono ?_; rintro e w' ⟨rfl, rfl⟩)
    go_ret
    exact ⟨ret_int (Pl.cmpI_gt h).symm, rfl⟩

set_option maxHeartbeats 400000 in
theorem cmps_any (a b : ByteArray) (w : World) :
    Calls Tryd.prog 75 #[.string a, .string b] w fun e w' => e = .returned (.int .i64 (Pl.cmpS a b)) ∧ w' = w := by
  rcases Pl.tri a b with ⟨h, h', hn⟩ | rfl | ⟨h, h', hn⟩
  · go_enter Tryd.func75, Tryd.ntmps75
    go_wp2_with (go_at_call 88; refine (isNaNs_any _ _).mono ?_; rintro e w' ⟨rfl, rfl⟩)
    go_ret
    exact ⟨ret_int (Pl.cmpS_lt h).symm, rfl⟩
  · have h := Pl.ltB_irrefl a
    have h' : Op.bytesLess a.toList a.toList = false := h
    clear h
    go_enter Tryd.func75, Tryd.ntmps75
    go_wp2_with (go_at_call 88; refine (isNaNs_any _ _).mono ?_; rintro e w' ⟨rfl, rfl⟩)
    go_ret
    exact ⟨ret_int (Pl.cmpS_eq _).symm, rfl⟩
  · have he := Pl.beqL_false hn
    go_enter Tryd.func75, Tryd.ntmps75
    go_wp2_with (go_at_call 88; refine (isNaNs_any _ _).mono ?_; rintro e w' ⟨rfl, rfl⟩)
    go_ret
    exact ⟨ret_int (Pl.cmpS_gt h').symm, rfl⟩

set_option maxHeartbeats 400000 in
theorem Compare_any (k1 k2 : ByteArray) (v1 o1 v2 o2 : Int) (x1 x2 : ByteArray) (w : World) :
    Calls Tryd.prog 65 #[.agg #[.string k1, .int .i64 v1, .int .i64 o1, .string x1], .agg #[.string k2, .int .i64 v2, .int .i64 o2, .string x2]] w
      fun e w' => e = .returned (.int .i64 (Pl.cmpE v1 o1 x1 v2 o2 x2)) ∧ Below w.heap.size w w' := by
  obtain ⟨c1, H1⟩ : ∃ c, Hid (Pl.cmpI v1 v2 = c) := ⟨_, rfl⟩
  obtain ⟨c2, H2⟩ : ∃ c, Hid (Pl.cmpI o1 o2 = c) := ⟨_, rfl⟩
  obtain ⟨c3, H3⟩ : ∃ c, Hid (Pl.cmpS x1 x2 = c) := ⟨_, rfl⟩
  have HE : Hid (Pl.cmpE v1 o1 x1 v2 o2 x2 = if c1 ≠ 0 then c1 else if c2 ≠ 0 then c2 else c3) := by
    show _ = _
    unfold Pl.cmpE; rw [H1.out, H2.out, H3.out]
  by_cases e1 : c1 = 0
  all_goals by_cases e2 : c2 = 0
  all_goals
    first | (have b1 : (c1 != 0) = false := by simp [e1]) | (have b1 : (c1 != 0) = true := by simp [e1])
  all_goals
    first | (have b2 : (c2 != 0) = false := by simp [e2]) | (have b2 : (c2 != 0) = true := by simp [e2])
  all_goals
    have HF : Hid (Pl.cmpE v1 o1 x1 v2 o2 x2 = if c1 ≠ 0 then c1 else if c2 ≠ 0 then c2 else c3) := HE
    clear HE
    have E1 : Hid (c1 = 0 ∨ True) := Or.inr trivial
    simp only [e1, e2, ne_eq, not_true_eq_false, not_false_eq_true, if_true, if_false] at HF
    clear e1 e2 E1
    go_enter Tryd.func65, Tryd.ntmps65
    go_wp2_with (first | (go_at_call_of 61 (Value.int IntKind.i64 v1); refine (cmpi_any _ _ _).mono ?_; rw [H1.out]; rintro e w' ⟨rfl, rfl⟩) | (go_at_call_of 61 (Value.int IntKind.i64 o1); refine (cmpi_any _ _ _).mono ?_; rw [H2.out]; rintro e w' ⟨rfl, rfl⟩) | (go_at_call 75; refine (cmps_any _ _ _).mono ?_; rw [H3.out]; rintro e w' ⟨rfl, rfl⟩))
    go_ret
    exact ⟨ret_int HF.out.symm, ((Below.refl _ _).alloc (Nat.le_refl _) _).alloc (by simp) _⟩

end Go.Proofs.YtcdobhdbafpkiadDoor
