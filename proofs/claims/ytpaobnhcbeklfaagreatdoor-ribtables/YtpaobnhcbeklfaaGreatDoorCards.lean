/-
  DERIVED. GIVEN WITH THE SEED: THE CARDS: each row of YtpaobnhcbeklfaaGreatDoorRows.lean that lists a variable, with what it lists TIED to the program's text (the seventh form; the later family's looks); each row that meets fmt, with fmt's text TOLD by the authors' own Lean function (tested against real Go, not proved from fmt's source: count such statements apart). THE CARD IS WHAT COUNTS. Prove the row's statement (the work); the ties are given (YtpaobnhcbeklfaaGreatDoorTie.lean); close each card by the builder's one call (the guide's Derived/Test/ToyasCard.lean, 'card_holds'). Laid BY PROGRAM, IN A SANDBOX (cutbox-door.mjs). By AI agents, Wed Nov 11 2026. No macro, syntax, notation, axiom, sorry.
-/
import Derived.Test.YtpaobnhcbeklfaaGreatDoorRows
import GoSem.ClaimSeven
namespace Go.Proofs.YtpaobnhcbeklfaaGreatDoor
namespace Rows

/-- THE TIED CARD OF 'tollbarlaw.RibTables'. -/
def ribTablesCard : Claim7 := { stood := { row := ribTablesRow, standIns := [], harness := (true, "383bb91e3cd51f0fc542e5fd1b74040be5c60fae928b8ae89c627606f335f289"), looks := false }, kinds := [], alts := [], laidByText := true, laidKinds := [.data, .data, .data], laidTests := true, laidLooks := .later }
def RibTablesCardSaid : Prop := Claim7.holds Tryz.pinned (.plain (OpenSpec.ofChange ribTablesSpec)) ribTablesCard

/-- THE SECOND FORM's CARD OF 'tollbarlaw.RibTables'. -/
def ribTablesUptoCard : Claim7 := { stood := { row := ribTablesUptoRow, standIns := [], harness := (true, "383bb91e3cd51f0fc542e5fd1b74040be5c60fae928b8ae89c627606f335f289"), looks := false }, kinds := [], alts := [], laidByText := true, laidKinds := [.data, .data, .data], laidTests := true, laidLooks := .later }
def RibTablesUptoCardSaid : Prop := Claim7.holds Tryz.pinned (.plain (OpenSpec.upto ribTablesSpec)) ribTablesUptoCard
end Rows
end Go.Proofs.YtpaobnhcbeklfaaGreatDoor
