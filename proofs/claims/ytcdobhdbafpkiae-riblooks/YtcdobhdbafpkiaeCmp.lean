/-
  Contracts: what Compare, ComparedOf and Above answer at every two entries.
-/
import Derived.Test.YtcdobhdbafpkiaeProg
import Derived.Test.YtcdobhdbafpkiaeKey
import Derived.Test.YtcdobhdbafpkiaeEnts
import Derived.WalkLawsBesides
import Derived.WalkSpells
import Derived.Deep.RegionWith
namespace Go.Proofs.Ytcdobhdbafpkiae
open Go.RowKit

theorem isNaNi_any (n : Int) (w : World) :
    Calls Try.prog 45 #[.int .i64 n] w fun e w' => e = .returned (.bool false) ∧ w' = w := by
  go_enter Try.func45, Try.ntmps45
  go_wp2
  go_ret
  exact ⟨ret_bool (by simp), rfl⟩

set_option maxHeartbeats 400000 in
theorem cmpi_any (a b : Int) (w : World) :
    Calls Try.prog 37 #[.int .i64 a, .int .i64 b] w fun e w' => e = .returned (.int .i64 (Pl.cmpI a b)) ∧ w' = w := by
  rcases Int.lt_trichotomy a b with h | rfl | h
  · go_enter Try.func37, Try.ntmps37
    go_wp2_with (go_at_call 45; refine (isNaNi_any _ _).mono ?_; rintro e w' ⟨rfl, rfl⟩)
    go_ret
    exact ⟨ret_int (Pl.cmpI_lt h).symm, rfl⟩
  · go_enter Try.func37, Try.ntmps37
    go_wp2_with (go_at_call 45; refine (isNaNi_any _ _).mono ?_; rintro e w' ⟨rfl, rfl⟩)
    go_ret
    exact ⟨ret_int (Pl.cmpI_eq _).symm, rfl⟩
  · have h' : ¬ a < b := by omega
    go_enter Try.func37, Try.ntmps37
    go_wp2_with (go_at_call 45; refine (isNaNi_any _ _).mono ?_; rintro e w' ⟨rfl, rfl⟩)
    go_ret
    exact ⟨ret_int (Pl.cmpI_gt h).symm, rfl⟩

end Go.Proofs.Ytcdobhdbafpkiae
