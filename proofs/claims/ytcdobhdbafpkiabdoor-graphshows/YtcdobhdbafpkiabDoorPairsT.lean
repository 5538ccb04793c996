/-
  Contracts: the pairs that a text tells: readPairs and, cut at each comma, the document's cuts.
-/
import Derived.Test.YtcdobhdbafpkiabDoorPairT
import Derived.Test.YtcdobhdbafpkiabDoorPairOwn
namespace Go.Proofs.YtcdobhdbafpkiabDoor
open Go.RowKit

def mz : Value → Value → Nat
  | .string t, .bool true => t.size + 1
  | _, _ => 0
theorem infoPair : (Tryd.prog.info? 34).map (fun i => (i.zero, i.size, i.bytes)) = some (some (.agg #[.int .i64 0, .int .i64 0]), 2, 16) := by kernel_rfl
theorem toList_ne (s : ByteArray) (h : 0 < s.size) : (s.toList == []) = false := by
  rw [Lib.toList_data]
  cases hl : s.data.toList
  · have := sz_list s; rw [hl] at this; simp at this; omega
  · rfl

end Go.Proofs.YtcdobhdbafpkiabDoor
