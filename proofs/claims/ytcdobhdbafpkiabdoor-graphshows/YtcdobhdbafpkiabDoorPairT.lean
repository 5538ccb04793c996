/-
  Contracts: a pair of numbers that a text tells: readPair and the document's pairOf.
-/
import Derived.Test.YtcdobhdbafpkiabDoorNum
import Derived.Test.YtcdobhdbafpkiabDoorPair
namespace Go.Proofs.YtcdobhdbafpkiabDoor
open Go.RowKit

theorem Pl.cut_size {m : UInt8} {s a b : ByteArray} (ha : a.data.toList = (Pl.cutL m s.data.toList).1) (hb : b.data.toList = Pl.behind (Pl.cutL m s.data.toList).2) : a.size ≤ s.size ∧ b.size ≤ s.size := by
  rw [← sz_list a, ← sz_list b, ← sz_list s, ha, hb]
  obtain ⟨h1, h2⟩ := Pl.cutL_len m s.data.toList
  refine ⟨h1, ?_⟩
  cases h : (Pl.cutL m s.data.toList).2
  · simp [Pl.behind]
  · have := h2 _ h; simp only [Pl.behind, Option.getD_some]; omega

end Go.Proofs.YtcdobhdbafpkiabDoor
