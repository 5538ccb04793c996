/-
  Contract: two lists of texts that are the same are told so.
-/
import Derived.Test.YtcdobhdbafpkiaaMerged
import Derived.Test.YtcdobhdbafpkiaaSameE
namespace Go.Proofs.Ytcdobhdbafpkiaa
open Go.RowKit

theorem OwnS.shape {w : World} {base : Nat} {v : Value} {ks : List ByteArray} (h : OwnS w base v ks) :
    ∃ a cap, v = .slice a ks.length cap ∧ IsTexts w a ks.length cap ks ∧ (a = none → cap = 0) ∧ (∀ x, a = some x → base ≤ x.block) := by
  obtain ⟨_, h | ⟨g, cap, cur, rfl, hb, hh, hn, hm, hs, hx⟩⟩ := h
  · obtain ⟨rfl, hn⟩ := h
    have hes : ks = [] := List.length_eq_zero_iff.1 hn
    subst hes
    exact ⟨none, 0, rfl, ⟨rfl, Nat.le_refl _, by simp, .inl rfl⟩, fun _ => rfl, by simp⟩
  · refine ⟨some ⟨g, 0, none⟩, cap, rfl, ⟨rfl, hn, hm, ?_⟩, by simp, by rintro x ⟨⟩; exact hb⟩
    right
    refine ⟨g, 0, rfl, lt_of_block hh, fun i hi => ?_⟩
    have hj : (ks.map Value.string)[i]? = some (.string (ks.getD i ⟨#[]⟩)) := by
      simp [List.getD, hi]
    rw [← hx] at hj
    have hj' : cur[i]? = some (.string (ks.getD i ⟨#[]⟩)) := by
      rw [List.getElem?_take] at hj
      split at hj
      · rw [← Array.getElem?_toList]; exact hj
      · cases hj
    simp only [World.cell?, hh, Nat.zero_add]
    simpa using hj'
theorem IsTexts.below {w w' : World} {a : Option Addr} {len cap : Nat} {ks : List ByteArray} (h : IsTexts w a len cap ks) (k : Below w.heap.size w w') : IsTexts w' a len cap ks := by
  obtain ⟨h1, h2, h3, h5⟩ := h
  refine ⟨h1, h2, h3, ?_⟩
  rcases h5 with h5 | ⟨b, off, rfl, hb, hr⟩
  · exact .inl h5
  · exact .inr ⟨b, off, rfl, Nat.lt_of_lt_of_le hb k.size, fun i hi => (k.cell (p := ⟨b, off + i, none⟩) hb).trans (hr i hi)⟩

set_option maxHeartbeats 400000 in
theorem sameTexts_eq (a b : Option Addr) (len cap capb : Nat) (ks : List ByteArray) (w : World) (ha : IsTexts w a len cap ks) (hB : IsTexts w b len capb ks) :
    Calls Try.prog 20 #[.slice a len cap, .slice b len capb] w fun e w' => e = .returned (.bool true) ∧ Below w.heap.size w w' := by
  obtain ⟨hl, hc, hm, hrow⟩ := ha
  obtain ⟨_, hcb, hmb, hrowb⟩ := hB
  unfold maxLen at hm hmb
  have HR : Hid (ks = [] ∨ ∃ b off, a = some ⟨b, off, none⟩ ∧ b < w.heap.size ∧ ∀ i, i < ks.length → w.cell? ⟨b, off + i, none⟩ = some (.string (ks.getD i ⟨#[]⟩))) := hrow
  have HRB : Hid (ks = [] ∨ ∃ b' off, b = some ⟨b', off, none⟩ ∧ b' < w.heap.size ∧ ∀ i, i < ks.length → w.cell? ⟨b', off + i, none⟩ = some (.string (ks.getD i ⟨#[]⟩))) := hrowb
  clear hrow hrowb
  go_enter Try.func20, Try.ntmps20
  go_wp2
  go_loopw [5] (fun i wr => ∃ k : Nat, k ≤ len ∧ i = .int .i64 k ∧ Below w.heap.size w wr) (fun i _ => len - (intOf i).toNat)
  case atStart => exact ⟨0, Nat.zero_le _, rfl, Below.refl _ _⟩
  case round =>
    obtain ⟨k, hk, rfl, hb⟩ := hrel
    by_cases hlt : k < len
    · obtain ⟨b1, o1, rfl, hb1, hr1⟩ : ∃ b off, a = some ⟨b, off, none⟩ ∧ b < w.heap.size ∧ ∀ i, i < ks.length → w.cell? ⟨b, off + i, none⟩ = some (.string (ks.getD i ⟨#[]⟩)) := by
        rcases HR.out with h | h
        · rw [h] at hl; simp at hl; omega
        · exact h
      obtain ⟨b2, o2, rfl, hb2, hr2⟩ : ∃ b' off, b = some ⟨b', off, none⟩ ∧ b' < w.heap.size ∧ ∀ i, i < ks.length → w.cell? ⟨b', off + i, none⟩ = some (.string (ks.getD i ⟨#[]⟩)) := by
        rcases HRB.out with h | h
        · rw [h] at hl; simp at hl; omega
        · exact h
      have q0 := (hb.cell (p := ⟨b1, o1 + k, none⟩) hb1).trans (hr1 k (by omega))
      have r0 := (hb.cell (p := ⟨b2, o2 + k, none⟩) hb2).trans (hr2 k (by omega))
      clear hr1 hr2
      generalize ks.getD k ⟨#[]⟩ = y at *
      have hlt' : (k : Int) < (len : Int) := by omega
      go_wp2_with fail
      go_quiet (fail)
      go_wp2
      go_roundw
      case rel => exact ⟨k + 1, by omega, by go_num, below_drewN hb _⟩
      case measure => simp [intOf]; omega
    · obtain rfl : k = len := by omega
      go_wp2
      go_ret
      exact ⟨rfl, hb⟩
end Go.Proofs.Ytcdobhdbafpkiaa
