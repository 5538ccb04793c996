/-
  DERIVED. GIVEN WITH THE SEED: THE CARDS: each row of YtcdobhdbafpkiadDoorRows.lean that lists a variable, with what it lists TIED to the program's text (the seventh form; the later family's looks); each row that meets fmt, with fmt's text TOLD by the authors' own Lean function (tested against real Go, not proved from fmt's source: count such statements apart). THE CARD IS WHAT COUNTS. Prove the row's statement (the work); the ties are given (YtcdobhdbafpkiadDoorTie.lean); close each card by the builder's one call (the guide's Derived/Test/ToyasCard.lean, 'card_holds'). Laid BY PROGRAM, IN A SANDBOX (cutbox-door.mjs). By AI agents, Wed Nov 11 2026. No macro, syntax, notation, axiom, sorry.
-/
import Derived.Test.YtcdobhdbafpkiadDoorRows
import GoSem.ClaimSeven
namespace Go.Proofs.YtcdobhdbafpkiadDoor
namespace Rows

/-- THE TIED CARD OF 'tollbarkeep.TextsBack'. -/
def textsBackCard : Claim7 := { stood := { row := textsBackRow, standIns := [], harness := (true, "3bf0a53283567eb57f54e5d7e783fcd28859420658ef3dd396395d1ce606a49c"), looks := false }, kinds := [], alts := [], laidByText := true, laidKinds := [.data, .data, .data], laidTests := true, laidLooks := .later }
def TextsBackCardSaid : Prop := Claim7.holds Tryd.pinned (.plain (OpenSpec.ofChange textsBackSpec)) textsBackCard

/-- THE TIED CARD OF 'tollbarkeep.WaysStep'. -/
def waysStepCard : Claim7 := { stood := { row := waysStepRow, standIns := [], harness := (true, "3bf0a53283567eb57f54e5d7e783fcd28859420658ef3dd396395d1ce606a49c"), looks := false }, kinds := [], alts := [], laidByText := true, laidKinds := [.data, .data, .data], laidTests := true, laidLooks := .later }
def WaysStepCardSaid : Prop := Claim7.holds Tryd.pinned (.plain (OpenSpec.ofChange waysStepSpec)) waysStepCard

/-- THE TIED CARD OF 'tollbarkeep.WaysBoth'. -/
def waysBothCard : Claim7 := { stood := { row := waysBothRow, standIns := [], harness := (true, "3bf0a53283567eb57f54e5d7e783fcd28859420658ef3dd396395d1ce606a49c"), looks := false }, kinds := [], alts := [], laidByText := true, laidKinds := [.data, .data, .data], laidTests := true, laidLooks := .later }
def WaysBothCardSaid : Prop := Claim7.holds Tryd.pinned (.plain (OpenSpec.ofChange waysBothSpec)) waysBothCard

/-- THE SECOND FORM's CARD OF 'tollbarkeep.TextsBack'. -/
def textsBackUptoCard : Claim7 := { stood := { row := textsBackUptoRow, standIns := [], harness := (true, "3bf0a53283567eb57f54e5d7e783fcd28859420658ef3dd396395d1ce606a49c"), looks := false }, kinds := [], alts := [], laidByText := true, laidKinds := [.data, .data, .data], laidTests := true, laidLooks := .later }
def TextsBackUptoCardSaid : Prop := Claim7.holds Tryd.pinned (.plain (OpenSpec.upto textsBackSpec)) textsBackUptoCard

/-- THE SECOND FORM's CARD OF 'tollbarkeep.WaysStep'. -/
def waysStepUptoCard : Claim7 := { stood := { row := waysStepUptoRow, standIns := [], harness := (true, "3bf0a53283567eb57f54e5d7e783fcd28859420658ef3dd396395d1ce606a49c"), looks := false }, kinds := [], alts := [], laidByText := true, laidKinds := [.data, .data, .data], laidTests := true, laidLooks := .later }
def WaysStepUptoCardSaid : Prop := Claim7.holds Tryd.pinned (.plain (OpenSpec.upto waysStepSpec)) waysStepUptoCard

/-- THE SECOND FORM's CARD OF 'tollbarkeep.WaysBoth'. -/
def waysBothUptoCard : Claim7 := { stood := { row := waysBothUptoRow, standIns := [], harness := (true, "3bf0a53283567eb57f54e5d7e783fcd28859420658ef3dd396395d1ce606a49c"), looks := false }, kinds := [], alts := [], laidByText := true, laidKinds := [.data, .data, .data], laidTests := true, laidLooks := .later }
def WaysBothUptoCardSaid : Prop := Claim7.holds Tryd.pinned (.plain (OpenSpec.upto waysBothSpec)) waysBothUptoCard
end Rows
end Go.Proofs.YtcdobhdbafpkiadDoor
