/-
  Bytes as a text: what a conversion of a slice of bytes gives.
-/
import Derived.Test.YtcdobhdbafpkiadBytes
import Derived.Laws.IdiomStrings
import Derived.Lib.BufferRead
namespace Go.Proofs.Ytcdobhdbafpkiad
open Go.RowKit
set_option maxRecDepth 20000

theorem conv_any {w : World} {a : Option Addr} {len cap : Nat} {bs : List UInt8} (h : IsBytes w a len cap bs) :
    (convert 43 9 (.slice a len cap)).run Try.prog w = .ok (.string ⟨bs.toArray⟩) w := by
  obtain ⟨hl, _, _, hr⟩ := h
  subst hl
  rcases a with _ | ad
  · have hbs : bs = [] := by
      rcases hr with h | ⟨b, off, h, _⟩
      · exact h
      · cases h
    subst hbs
    exact Go.Lib.run_convert_nil_bytes w _ _ 5 cap Try.underlying43 Try.underlying5 Try.underlying9
  · refine run_convert_bytes_back w _ _ 5 ad cap bs Try.underlying43 Try.underlying5 Try.underlying9 ?_
    intro j hj
    rcases hr with rfl | ⟨b, off, hba, _, hr⟩
    · simp at hj
    · cases hba
      rw [add_none]
      exact hr j _ (by simp [bcells, hj])
end Go.Proofs.Ytcdobhdbafpkiad
