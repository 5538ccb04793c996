/-
  Contract: what the document's PrefixesFault answers at every list of prefixes.
-/
import Derived.Test.YtcdobhdbafpkiadDoorPfx4
namespace Go.Proofs.YtcdobhdbafpkiadDoor
open Go.RowKit
set_option maxRecDepth 20000

theorem Pl.span_pos {b : Int} (h : 0 ≤ b ∧ b ≤ 8) : 1 ≤ Pl.span b ∧ Pl.span b ≤ 256 := by
  rcases Pl.bits_cases h with rfl | rfl | rfl | rfl | rfl | rfl | rfl | rfl | rfl <;> decide

end Go.Proofs.YtcdobhdbafpkiadDoor
