/-
  Contract: comes tells whether an entry is to be laid.
-/
import Derived.Test.YtcdobhdbafpkiadDoorFind
import Derived.Test.YtcdobhdbafpkiadDoorCmp
import Derived.Test.YtcdobhdbafpkiadDoorUpd
namespace Go.Proofs.YtcdobhdbafpkiadDoor
open Go.RowKit
set_option maxRecDepth 20000

set_option maxHeartbeats 1000000 in
theorem comes_any (a : Option Addr) (len cap : Nat) (es : List Pl.Ent) (x : Pl.Ent) (w : World) (h : IsEnts w a len cap es) :
    Calls Tryd.prog 43 #[.slice a len cap, .int .i64 (Pl.pos es x.key), .bool (Pl.there es x.key), .agg #[.string x.key, .int .i64 x.ver, .int .i64 x.org, .string x.val]] w
      fun e w' => e = .returned (.bool (Pl.comesB es x)) ∧ Below w.heap.size w w' := by
  obtain ⟨hl, hc, hm, _, hrow⟩ := h
  unfold maxLen at hm
  obtain ⟨t, HT⟩ : ∃ t, Hid (Pl.there es x.key = t) := ⟨_, rfl⟩
  cases t
  · have HC : Hid (Pl.comesB es x = decide ((len : Int) < 60)) := by
      show _ = _
      unfold Pl.comesB; rw [HT.out, Bool.eq_iff_iff]; simp; omega
    rw [HT.out]
    generalize Pl.comesB es x = cb at *
    generalize Pl.pos es x.key = p at *
    obtain ⟨xk, xv, xo, xx⟩ := x
    go_enter Tryd.func43, Tryd.ntmps43
    go_wp2
    go_ret
    exact ⟨ret_bool HC.out.symm, (Below.refl _ _).alloc (Nat.le_refl _) _⟩
  · have hlt : Pl.pos es x.key < len := by
      have := HT.out
      unfold Pl.there at this
      simp only [Bool.and_eq_true, decide_eq_true_eq] at this
      omega
    have HC : Hid (Pl.comesB es x = decide (0 < Pl.cmpE x.ver x.org x.val (Pl.ent es (Pl.pos es x.key)).ver (Pl.ent es (Pl.pos es x.key)).org (Pl.ent es (Pl.pos es x.key)).val)) := by
      show _ = _
      unfold Pl.comesB; rw [HT.out]; rfl
    rw [HT.out]
    generalize Pl.comesB es x = cb at *
    obtain ⟨b, off, rfl, hb, hr⟩ : ∃ b off, a = some ⟨b, off, none⟩ ∧ b < w.heap.size ∧ RowAt w b off es := by
      rcases hrow with h | h
      · rw [h] at hl; simp at hl; omega
      · exact h
    clear hrow
    obtain ⟨q0, q1, q2, q3⟩ := hr (Pl.pos es x.key) (by omega)
    generalize Pl.pos es x.key = p at *
    generalize Pl.ent es p = y at *
    obtain ⟨xk, xv, xo, xx⟩ := x
    obtain ⟨yk, yv, yo, yx⟩ := y
    simp only at q0 q1 q2 q3
    have hlt' : (p : Int) < (len : Int) := by omega
    go_enter Tryd.func43, Tryd.ntmps43
    go_wp2_with fail
    go_region_with (go_at_call 65; refine (Compare_any _ _ _ _ _ _ _ _ _).mono ?_; rintro e w' ⟨rfl, hbc⟩)
    all_goals
      go_wp2_with fail
      go_ret
      exact ⟨ret_bool HC.out.symm, (((Below.refl _ _).alloc (Nat.le_refl _) _).drew).trans (hbc.mono (by simp))⟩
end Go.Proofs.YtcdobhdbafpkiadDoor
