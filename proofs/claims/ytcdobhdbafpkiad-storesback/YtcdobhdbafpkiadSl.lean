/-
  Contracts: slices.Equal over lists of entries that are the same; slices.Index, slices.Contains of what is not there.
-/
import Derived.Test.YtcdobhdbafpkiadOwn
namespace Go.Proofs.Ytcdobhdbafpkiad
open Go.RowKit
set_option maxRecDepth 20000

set_option maxHeartbeats 400000 in
theorem Equal_eq (a b : Option Addr) (len cap capb : Nat) (es : List Pl.Ent) (w : World) (ha : IsEnts w a len cap es) (hB : IsEnts w b len capb es) :
    Calls Try.prog 12 #[.slice a len cap, .slice b len capb] w fun e w' => e = .returned (.bool true) ∧ Below w.heap.size w w' := by
  obtain ⟨hl, hc, hm, _, hrow⟩ := ha
  obtain ⟨_, hcb, hmb, _, hrowb⟩ := hB
  unfold maxLen at hm hmb
  have HR : Hid (es = [] ∨ ∃ b off, a = some ⟨b, off, none⟩ ∧ b < w.heap.size ∧ RowAt w b off es) := hrow
  have HRB : Hid (es = [] ∨ ∃ b' off, b = some ⟨b', off, none⟩ ∧ b' < w.heap.size ∧ RowAt w b' off es) := hrowb
  clear hrow hrowb
  go_enter Try.func12, Try.ntmps12
  go_wp2
  go_loopw [13] (fun i wr => ∃ k : Nat, k ≤ len ∧ i = .int .i64 k ∧ Below w.heap.size w wr) (fun i _ => len - (intOf i).toNat)
  case atStart => exact ⟨0, Nat.zero_le _, rfl, Below.refl _ _⟩
  case round =>
    obtain ⟨k, hk, rfl, hb⟩ := hrel
    by_cases hlt : k < len
    · obtain ⟨b1, o1, rfl, hb1, hr1⟩ : ∃ b off, a = some ⟨b, off, none⟩ ∧ b < w.heap.size ∧ RowAt w b off es := by
        rcases HR.out with h | h
        · rw [h] at hl; simp at hl; omega
        · exact h
      obtain ⟨b2, o2, rfl, hb2, hr2⟩ : ∃ b' off, b = some ⟨b', off, none⟩ ∧ b' < w.heap.size ∧ RowAt w b' off es := by
        rcases HRB.out with h | h
        · rw [h] at hl; simp at hl; omega
        · exact h
      obtain ⟨q0, q1, q2, q3⟩ := hr1.below hb1 hb k (by omega)
      obtain ⟨r0, r1, r2, r3⟩ := hr2.below hb2 hb k (by omega)
      clear hr1 hr2
      generalize Pl.ent es k = y at *
      obtain ⟨yk, yv, yo, yx⟩ := y
      simp only at q0 q1 q2 q3 r0 r1 r2 r3
      have hlt' : (k : Int) < (len : Int) := by omega
      go_wp2_with fail
      go_quiet (fail)
      go_wp2
      go_roundw
      case rel => exact ⟨k + 1, by omega, by go_num, below_drewN hb _⟩
      case measure => simp [intOf]; omega
    · obtain rfl : k = len := by omega
      go_wp2
      go_ret
      exact ⟨rfl, hb⟩


theorem ent_ne {a b : Pl.Ent} (h : ¬ a = b) : ¬ (a.key = b.key ∧ a.ver = b.ver ∧ a.org = b.org ∧ a.val = b.val) := by
  rintro ⟨h1, h2, h3, h4⟩
  cases a; cases b; simp only at h1 h2 h3 h4; subst h1 h2 h3 h4; exact h rfl

end Go.Proofs.Ytcdobhdbafpkiad
