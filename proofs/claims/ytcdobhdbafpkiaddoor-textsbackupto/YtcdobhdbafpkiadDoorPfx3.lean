/-
  Contracts: what is wrong with one prefix: checkPrefix; how many addresses have bits in common: the document's spanOf.
-/
import Derived.Test.YtcdobhdbafpkiadDoorPfx2
namespace Go.Proofs.YtcdobhdbafpkiadDoor
open Go.RowKit
set_option maxRecDepth 20000

theorem Pl.pfx1_out {p : Int × Int} (h : p.2 < 0 ∨ 8 < p.2 ∨ p.1 < 0 ∨ 255 < p.1) : Pl.pfx1 p = 2 := by
  unfold Pl.pfx1
  rw [if_neg]
  unfold Pl.inP
  simp; omega
theorem Pl.pfx1_in {p : Int × Int} (h1 : 0 ≤ p.2 ∧ p.2 ≤ 8) (h2 : 0 ≤ p.1 ∧ p.1 ≤ 255) : Pl.pfx1 p = if p.1 % Pl.span p.2 = 0 then 0 else 4 := by
  unfold Pl.pfx1
  rw [if_pos]
  unfold Pl.inP
  simp; omega

set_option maxHeartbeats 1000000 in
theorem checkPrefix_any (p : Int × Int) (w : World) :
    Calls Tryd.prog 39 #[.agg #[.int .i64 p.1, .int .i64 p.2]] w fun e w' => e = .returned (.int .i64 (Pl.pfx1 p)) ∧ Below w.heap.size w w' := by
  obtain ⟨a, b⟩ := p
  have hB1 : Below w.heap.size w (w.alloc (.cells #[.int .i64 a, .int .i64 b] 33)) := (Below.refl _ _).alloc (Nat.le_refl _) _
  rcases Int.lt_or_le b 0 with h1 | h1
  · have HR := hid (Pl.pfx1_out (p := (a, b)) (.inl h1))
    go_enter Tryd.func39, Tryd.ntmps39
    go_wp2
    go_ret
    exact ⟨ret_int HR.out.symm, hB1⟩
  rcases Int.lt_or_le 8 b with h2 | h2
  · have HR := hid (Pl.pfx1_out (p := (a, b)) (.inr (.inl h2)))
    go_enter Tryd.func39, Tryd.ntmps39
    go_wp2
    go_ret
    exact ⟨ret_int HR.out.symm, hB1⟩
  rcases Int.lt_or_le a 0 with h3 | h3
  · have HR := hid (Pl.pfx1_out (p := (a, b)) (.inr (.inr (.inl h3))))
    go_enter Tryd.func39, Tryd.ntmps39
    go_wp2
    go_ret
    exact ⟨ret_int HR.out.symm, hB1⟩
  rcases Int.lt_or_le 255 a with h4 | h4
  · have HR := hid (Pl.pfx1_out (p := (a, b)) (.inr (.inr (.inr h4))))
    go_enter Tryd.func39, Tryd.ntmps39
    go_wp2
    go_ret
    exact ⟨ret_int HR.out.symm, hB1⟩
  have HR := hid (Pl.pfx1_in (p := (a, b)) ⟨h1, h2⟩ ⟨h3, h4⟩)
  obtain ⟨t0, t1, t2, t3, t4, t5, t6, t7, t8⟩ := Pl.span_table
  have hbs := Pl.bits_cases ⟨h1, h2⟩
  rcases hbs with rfl | rfl | rfl | rfl | rfl | rfl | rfl | rfl | rfl
  all_goals
    clear h1 h2
    have htm : ∀ k, a.tmod k = a % k := fun k => Int.tmod_eq_emod_of_nonneg h3
    simp only [t0, t1, t2, t3, t4, t5, t6, t7, t8] at HR
    go_enter Tryd.func39, Tryd.ntmps39
    go_wp2_with fail
    go_quiet (fail)
    go_wp2_with fail
  all_goals go_ret
  all_goals exact ⟨ret_int (by rw [HR.out]; split <;> simp_all), below_drew hB1 _⟩

theorem Pl.span_half {m : Int} (h : 0 ≤ m ∧ m ≤ 7) : (Pl.span m).tdiv 2 = Pl.span (m + 1) ∧ 0 ≤ Pl.span m ∧ Pl.span m ≤ 256 := by
  have : m = 0 ∨ m = 1 ∨ m = 2 ∨ m = 3 ∨ m = 4 ∨ m = 5 ∨ m = 6 ∨ m = 7 := by omega
  rcases this with rfl | rfl | rfl | rfl | rfl | rfl | rfl | rfl <;> decide

end Go.Proofs.YtcdobhdbafpkiadDoor
