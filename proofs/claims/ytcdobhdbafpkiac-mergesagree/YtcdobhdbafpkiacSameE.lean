/-
  Contract: two lists of entries that are the same are told so.
-/
import Derived.Test.YtcdobhdbafpkiacOwn
namespace Go.Proofs.Ytcdobhdbafpkiac
open Go.RowKit

/-- a slice of texts -/
def IsTexts (w : World) (a : Option Addr) (len cap : Nat) (ks : List ByteArray) : Prop :=
  ks.length = len ∧ len ≤ cap ∧ cap ≤ maxLen ∧ (ks = [] ∨ ∃ b off, a = some ⟨b, off, none⟩ ∧ b < w.heap.size ∧ ∀ i, i < ks.length → w.cell? ⟨b, off + i, none⟩ = some (.string (ks.getD i ⟨#[]⟩)))
end Go.Proofs.Ytcdobhdbafpkiac
