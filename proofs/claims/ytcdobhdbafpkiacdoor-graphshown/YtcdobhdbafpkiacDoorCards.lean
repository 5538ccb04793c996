/-
  DERIVED. GIVEN WITH THE SEED: THE CARDS: each row of YtcdobhdbafpkiacDoorRows.lean that lists a variable, with what it lists TIED to the program's text (the seventh form; the later family's looks); each row that meets fmt, with fmt's text TOLD by the authors' own Lean function (tested against real Go, not proved from fmt's source: count such statements apart). THE CARD IS WHAT COUNTS. Prove the row's statement (the work); the ties are given (YtcdobhdbafpkiacDoorTie.lean); close each card by the builder's one call (the guide's Derived/Test/ToyasCard.lean, 'card_holds'). Laid BY PROGRAM, IN A SANDBOX (cutbox-door.mjs). By AI agents, Wed Nov 11 2026. No macro, syntax, notation, axiom, sorry.
-/
import Derived.Test.YtcdobhdbafpkiacDoorRows
import GoSem.ClaimSeven
namespace Go.Proofs.YtcdobhdbafpkiacDoor
namespace Rows

/-- THE TIED CARD OF 'tollbarlaw.GraphShown'. -/
def graphShownCard : Claim7 := { stood := { row := graphShownRow, standIns := [], harness := (true, "216ad2fc901e048daa2f44fe0dd852360086806d20fb48dcba6f0b6d6299fc0b"), looks := false }, kinds := [], alts := [], laidByText := true, laidKinds := [.data, .data, .data], laidTests := true, laidLooks := .later }
def GraphShownCardSaid : Prop := Claim7.holds Tryd.pinned (.plain (OpenSpec.ofChange graphShownSpec)) graphShownCard

/-- THE TIED CARD OF 'tollbarlaw.GraphWays'. -/
def graphWaysCard : Claim7 := { stood := { row := graphWaysRow, standIns := [], harness := (true, "216ad2fc901e048daa2f44fe0dd852360086806d20fb48dcba6f0b6d6299fc0b"), looks := false }, kinds := [], alts := [], laidByText := true, laidKinds := [.data, .data, .data], laidTests := true, laidLooks := .later }
def GraphWaysCardSaid : Prop := Claim7.holds Tryd.pinned (.plain (OpenSpec.ofChange graphWaysSpec)) graphWaysCard

/-- THE SECOND FORM's CARD OF 'tollbarlaw.GraphShown'. -/
def graphShownUptoCard : Claim7 := { stood := { row := graphShownUptoRow, standIns := [], harness := (true, "216ad2fc901e048daa2f44fe0dd852360086806d20fb48dcba6f0b6d6299fc0b"), looks := false }, kinds := [], alts := [], laidByText := true, laidKinds := [.data, .data, .data], laidTests := true, laidLooks := .later }
def GraphShownUptoCardSaid : Prop := Claim7.holds Tryd.pinned (.plain (OpenSpec.upto graphShownSpec)) graphShownUptoCard

/-- THE SECOND FORM's CARD OF 'tollbarlaw.GraphWays'. -/
def graphWaysUptoCard : Claim7 := { stood := { row := graphWaysUptoRow, standIns := [], harness := (true, "216ad2fc901e048daa2f44fe0dd852360086806d20fb48dcba6f0b6d6299fc0b"), looks := false }, kinds := [], alts := [], laidByText := true, laidKinds := [.data, .data, .data], laidTests := true, laidLooks := .later }
def GraphWaysUptoCardSaid : Prop := Claim7.holds Tryd.pinned (.plain (OpenSpec.upto graphWaysSpec)) graphWaysUptoCard
end Rows
end Go.Proofs.YtcdobhdbafpkiacDoor
