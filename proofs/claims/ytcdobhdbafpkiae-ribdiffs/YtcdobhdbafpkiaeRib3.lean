/-
  Contracts: what the document's behind and TableFault answer at every list of routes.
-/
import Derived.Test.YtcdobhdbafpkiaeRib2
import Derived.Test.YtcdobhdbafpkiaePfx5
namespace Go.Proofs.Ytcdobhdbafpkiae
open Go.RowKit

set_option maxHeartbeats 1000000 in
theorem behind_any (p1 p2 q1 q2 : Int) (w : World) :
    Calls Try.prog 22 #[.agg #[.int .i64 p1, .int .i64 p2], .agg #[.int .i64 q1, .int .i64 q2]] w fun e w' => e = .returned (.bool (Pl.pltB (q1, q2) (p1, p2))) ∧ Below w.heap.size w w' := by
  obtain ⟨R, HR⟩ : ∃ R, Hid (Pl.pltB (q1, q2) (p1, p2) = R) := ⟨_, rfl⟩
  rw [HR.out]
  have HP : Hid (R = decide (q1 < p1 ∨ q1 = p1 ∧ q2 < p2)) := hid (by rw [← HR.out]; rfl)
  by_cases h1 : q1 < p1
  · go_enter Try.func22, Try.ntmps22
    go_wp2
    go_ret
    exact ⟨ret_bool (by rw [HP.out]; simp [h1]), ((Below.refl _ _).alloc (Nat.le_refl _) _).alloc (by simp) _⟩
  · obtain ⟨e, he⟩ : ∃ c, (p1 == q1) = c := ⟨_, rfl⟩
    cases e
    · have HE : Hid (R = false) := hid (by rw [HP.out]; simp at he; simp; omega)
      go_enter Try.func22, Try.ntmps22
      go_wp2
      go_ret
      exact ⟨ret_bool HE.out.symm, ((Below.refl _ _).alloc (Nat.le_refl _) _).alloc (by simp) _⟩
    · have HE : Hid (R = decide (q2 < p2)) := hid (by rw [HP.out, Bool.eq_iff_iff]; simp only [decide_eq_true_eq]; have := eq_of_beq he; omega)
      go_enter Try.func22, Try.ntmps22
      go_wp2
      go_ret
      exact ⟨ret_bool HE.out.symm, ((Below.refl _ _).alloc (Nat.le_refl _) _).alloc (by simp) _⟩

/-- a route but for its hops -/
def Pl.headR (r : Pl.Rt) : Bool := decide (Pl.pfx1 r.p = 0) && decide (0 ≤ r.cost ∧ r.cost ≤ 1048576) && !(r.here && decide (0 < r.cost)) && !(r.here == decide (0 < r.hops.length))
theorem Pl.routeB_head (r : Pl.Rt) : Pl.routeB r = (Pl.headR r && Pl.hopsB r.hops) := by
  unfold Pl.routeB Pl.headR
  rw [Bool.eq_iff_iff]
  cases hh : r.here
  · simp [List.length_pos_iff]
  · simp only [Bool.and_eq_true, decide_eq_true_eq, if_true, Bool.true_and, Bool.not_eq_true', decide_eq_false_iff_not]
    constructor
    · rintro ⟨⟨⟨h1, h2⟩, h3, h4⟩, h5⟩
      refine ⟨⟨⟨⟨h1, h2⟩, by omega⟩, ?_⟩, h5⟩
      rw [h4]; simp
    · rintro ⟨⟨⟨⟨h1, h2⟩, h3⟩, h4⟩, h5⟩
      refine ⟨⟨⟨h1, h2⟩, by omega, ?_⟩, h5⟩
      cases hz : r.hops with
      | nil => rfl
      | cons z l => rw [hz] at h4; simp at h4
end Go.Proofs.Ytcdobhdbafpkiae
