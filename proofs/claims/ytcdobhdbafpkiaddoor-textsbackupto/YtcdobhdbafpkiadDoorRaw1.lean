/-
  Contract: a number picked of so many.
-/
import Derived.Test.YtcdobhdbafpkiadDoorInv
namespace Go.Proofs.YtcdobhdbafpkiadDoor
open Go.RowKit
set_option maxRecDepth 20000

namespace Pl
def pk (n m : Int) : Int := (if n < 0 then -(n + 1) else n) % m
theorem pk_range (n m : Int) (h : 0 < m) : 0 ≤ pk n m ∧ pk n m < m := ⟨Int.emod_nonneg _ (by omega), Int.emod_lt_of_pos _ h⟩
end Pl

set_option maxHeartbeats 400000 in
theorem picked_any (n m : Int) (w : World) (h0 : -9223372036854775808 ≤ n) (h1 : n ≤ 9223372036854775807) (hm : 0 < m) (hm2 : m ≤ 9223372036854775807) :
    Calls Tryd.prog 6 #[.int .i64 n, .int .i64 m] w fun e w' => e = .returned (.int .i64 (Pl.pk n m)) ∧ w' = w := by
  have hmz : ¬ m = 0 := by omega
  have hmb : (m == 0) = false := by simp [hmz]
  by_cases hn : n < 0
  · have HP : Hid (Pl.pk n m = -(n + 1) % m) := by show _ = _; unfold Pl.pk; rw [if_pos hn]
    have HR := hid (Pl.pk_range n m hm)
    go_enter Tryd.func6, Tryd.ntmps6
    go_wp2
    go_ret
    refine ⟨ret_int ?_, rfl⟩
    rw [HP.out, ← Int.neg_tmod, Int.tmod_eq_emod_of_nonneg (by omega)]
  · have HP : Hid (Pl.pk n m = n % m) := by show _ = _; unfold Pl.pk; rw [if_neg hn]
    go_enter Tryd.func6, Tryd.ntmps6
    go_wp2
    go_ret
    refine ⟨ret_int ?_, rfl⟩
    rw [HP.out]
end Go.Proofs.YtcdobhdbafpkiadDoor
