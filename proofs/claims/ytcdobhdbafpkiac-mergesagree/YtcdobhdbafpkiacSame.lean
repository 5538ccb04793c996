/-
  Contract: two lists of texts that are the same are told so.
-/
import Derived.Test.YtcdobhdbafpkiacMerged
import Derived.Test.YtcdobhdbafpkiacSameE
namespace Go.Proofs.Ytcdobhdbafpkiac
open Go.RowKit

theorem OwnS.shape {w : World} {base : Nat} {v : Value} {ks : List ByteArray} (h : OwnS w base v ks) :
    ∃ a cap, v = .slice a ks.length cap ∧ IsTexts w a ks.length cap ks ∧ (a = none → cap = 0) ∧ (∀ x, a = some x → base ≤ x.block) := by
  obtain ⟨_, h | ⟨g, cap, cur, rfl, hb, hh, hn, hm, hs, hx⟩⟩ := h
  · obtain ⟨rfl, hn⟩ := h
    have hes : ks = [] := List.length_eq_zero_iff.1 hn
    subst hes
    exact ⟨none, 0, rfl, ⟨rfl, Nat.le_refl _, by simp, .inl rfl⟩, fun _ => rfl, by simp⟩
  · refine ⟨some ⟨g, 0, none⟩, cap, rfl, ⟨rfl, hn, hm, ?_⟩, by simp, by rintro x ⟨⟩; exact hb⟩
    right
    refine ⟨g, 0, rfl, lt_of_block hh, fun i hi => ?_⟩
    have hj : (ks.map Value.string)[i]? = some (.string (ks.getD i ⟨#[]⟩)) := by
      simp [List.getD, hi]
    rw [← hx] at hj
    have hj' : cur[i]? = some (.string (ks.getD i ⟨#[]⟩)) := by
      rw [List.getElem?_take] at hj
      split at hj
      · rw [← Array.getElem?_toList]; exact hj
      · cases hj
    simp only [World.cell?, hh, Nat.zero_add]
    simpa using hj'
theorem IsTexts.below {w w' : World} {a : Option Addr} {len cap : Nat} {ks : List ByteArray} (h : IsTexts w a len cap ks) (k : Below w.heap.size w w') : IsTexts w' a len cap ks := by
  obtain ⟨h1, h2, h3, h5⟩ := h
  refine ⟨h1, h2, h3, ?_⟩
  rcases h5 with h5 | ⟨b, off, rfl, hb, hr⟩
  · exact .inl h5
  · exact .inr ⟨b, off, rfl, Nat.lt_of_lt_of_le hb k.size, fun i hi => (k.cell (p := ⟨b, off + i, none⟩) hb).trans (hr i hi)⟩

end Go.Proofs.Ytcdobhdbafpkiac
