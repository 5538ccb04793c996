/-
  DERIVED. GIVEN WITH THE SEED: THE CARDS: each row of YtcdobhdbafpkiaeGreatDoorRows.lean that lists a variable, with what it lists TIED to the program's text (the seventh form; the later family's looks); each row that meets fmt, with fmt's text TOLD by the authors' own Lean function (tested against real Go, not proved from fmt's source: count such statements apart). THE CARD IS WHAT COUNTS. Prove the row's statement (the work); the ties are given (YtcdobhdbafpkiaeGreatDoorTie.lean); close each card by the builder's one call (the guide's Derived/Test/ToyasCard.lean, 'card_holds'). Laid BY PROGRAM, IN A SANDBOX (cutbox-door.mjs). By AI agents, Wed Nov 11 2026. No macro, syntax, notation, axiom, sorry.
-/
import Derived.Test.YtcdobhdbafpkiaeGreatDoorRows
import GoSem.ClaimSeven
namespace Go.Proofs.YtcdobhdbafpkiaeGreatDoor
namespace Rows

/-- THE TIED CARD OF 'tollbarlaw.RibTables'. -/
def ribTablesCard : Claim7 := { stood := { row := ribTablesRow, standIns := [], harness := (true, "0683fe32a00585ebea1009265713c0cc4f66bb82310c608b4a0d85bd8ae10954"), looks := false }, kinds := [], alts := [], laidByText := true, laidKinds := [.data, .data, .data], laidTests := true, laidLooks := .later }
def RibTablesCardSaid : Prop := Claim7.holds Tryz.pinned (.plain (OpenSpec.ofChange ribTablesSpec)) ribTablesCard

/-- THE TIED CARD OF 'tollbarkeep.TablesFind'. -/
def tablesFindCard : Claim7 := { stood := { row := tablesFindRow, standIns := [], harness := (true, "0683fe32a00585ebea1009265713c0cc4f66bb82310c608b4a0d85bd8ae10954"), looks := false }, kinds := [], alts := [], laidByText := true, laidKinds := [.data, .data, .data], laidTests := true, laidLooks := .later }
def TablesFindCardSaid : Prop := Claim7.holds Tryz.pinned (.plain (OpenSpec.ofChange tablesFindSpec)) tablesFindCard

/-- THE SECOND FORM's CARD OF 'tollbarlaw.RibTables'. -/
def ribTablesUptoCard : Claim7 := { stood := { row := ribTablesUptoRow, standIns := [], harness := (true, "0683fe32a00585ebea1009265713c0cc4f66bb82310c608b4a0d85bd8ae10954"), looks := false }, kinds := [], alts := [], laidByText := true, laidKinds := [.data, .data, .data], laidTests := true, laidLooks := .later }
def RibTablesUptoCardSaid : Prop := Claim7.holds Tryz.pinned (.plain (OpenSpec.upto ribTablesSpec)) ribTablesUptoCard

/-- THE SECOND FORM's CARD OF 'tollbarkeep.TablesFind'. -/
def tablesFindUptoCard : Claim7 := { stood := { row := tablesFindUptoRow, standIns := [], harness := (true, "0683fe32a00585ebea1009265713c0cc4f66bb82310c608b4a0d85bd8ae10954"), looks := false }, kinds := [], alts := [], laidByText := true, laidKinds := [.data, .data, .data], laidTests := true, laidLooks := .later }
def TablesFindUptoCardSaid : Prop := Claim7.holds Tryz.pinned (.plain (OpenSpec.upto tablesFindSpec)) tablesFindUptoCard
end Rows
end Go.Proofs.YtcdobhdbafpkiaeGreatDoor
