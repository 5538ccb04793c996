/-
  DERIVED. GIVEN WITH THE SEED: THE CARDS: each row of YtcdobhdbafpkiafGreatDoorRows.lean that lists a variable, with what it lists TIED to the program's text (the seventh form; the later family's looks); each row that meets fmt, with fmt's text TOLD by the authors' own Lean function (tested against real Go, not proved from fmt's source: count such statements apart). THE CARD IS WHAT COUNTS. Prove the row's statement (the work); the ties are given (YtcdobhdbafpkiafGreatDoorTie.lean); close each card by the builder's one call (the guide's Derived/Test/ToyasCard.lean, 'card_holds'). Laid BY PROGRAM, IN A SANDBOX (cutbox-door.mjs). By AI agents, Wed Nov 11 2026. No macro, syntax, notation, axiom, sorry.
-/
import Derived.Test.YtcdobhdbafpkiafGreatDoorRows
import GoSem.ClaimSeven
namespace Go.Proofs.YtcdobhdbafpkiafGreatDoor
namespace Rows

/-- THE TIED CARD OF 'tollbarkeep.PatchesLead'. -/
def patchesLeadCard : Claim7 := { stood := { row := patchesLeadRow, standIns := [], harness := (true, "c56fbfd0f819de4afc83459af40eef875b9bfeef904b8d388a63eb6b4ba37c28"), looks := false }, kinds := [], alts := [], laidByText := true, laidKinds := [.data, .data, .data], laidTests := true, laidLooks := .later }
def PatchesLeadCardSaid : Prop := Claim7.holds Tryz.pinned (.plain (OpenSpec.ofChange patchesLeadSpec)) patchesLeadCard

/-- THE TIED CARD OF 'tollbarlaw.NetRuns'. -/
def netRunsCard : Claim7 := { stood := { row := netRunsRow, standIns := [], harness := (true, "c56fbfd0f819de4afc83459af40eef875b9bfeef904b8d388a63eb6b4ba37c28"), looks := false }, kinds := [], alts := [], laidByText := true, laidKinds := [.data, .data, .data], laidTests := true, laidLooks := .later }
def NetRunsCardSaid : Prop := Claim7.holds Tryz.pinned (.plain (OpenSpec.ofChange netRunsSpec)) netRunsCard

/-- THE TIED CARD OF 'tollbarkeep.ScriptsGood'. -/
def scriptsGoodCard : Claim7 := { stood := { row := scriptsGoodRow, standIns := [], harness := (true, "c56fbfd0f819de4afc83459af40eef875b9bfeef904b8d388a63eb6b4ba37c28"), looks := false }, kinds := [], alts := [], laidByText := true, laidKinds := [.data, .data, .data], laidTests := true, laidLooks := .later }
def ScriptsGoodCardSaid : Prop := Claim7.holds Tryz.pinned (.plain (OpenSpec.ofChange scriptsGoodSpec)) scriptsGoodCard

/-- THE TIED CARD OF 'tollbarkeep.SendsSpoilt'. -/
def sendsSpoiltCard : Claim7 := { stood := { row := sendsSpoiltRow, standIns := [], harness := (true, "c56fbfd0f819de4afc83459af40eef875b9bfeef904b8d388a63eb6b4ba37c28"), looks := false }, kinds := [], alts := [], laidByText := true, laidKinds := [.data, .data, .data], laidTests := true, laidLooks := .later }
def SendsSpoiltCardSaid : Prop := Claim7.holds Tryz.pinned (.plain (OpenSpec.ofChange sendsSpoiltSpec)) sendsSpoiltCard

/-- THE TIED CARD OF 'tollbartop.TopSame'. -/
def topSameCard : Claim7 := { stood := { row := topSameRow, standIns := [], harness := (true, "c56fbfd0f819de4afc83459af40eef875b9bfeef904b8d388a63eb6b4ba37c28"), looks := false }, kinds := [], alts := [], laidByText := true, laidKinds := [.data, .data, .data], laidTests := true, laidLooks := .later }
def TopSameCardSaid : Prop := Claim7.holds Tryz.pinned (.plain (OpenSpec.ofChange topSameSpec)) topSameCard

/-- THE SECOND FORM's CARD OF 'tollbarkeep.PatchesLead'. -/
def patchesLeadUptoCard : Claim7 := { stood := { row := patchesLeadUptoRow, standIns := [], harness := (true, "c56fbfd0f819de4afc83459af40eef875b9bfeef904b8d388a63eb6b4ba37c28"), looks := false }, kinds := [], alts := [], laidByText := true, laidKinds := [.data, .data, .data], laidTests := true, laidLooks := .later }
def PatchesLeadUptoCardSaid : Prop := Claim7.holds Tryz.pinned (.plain (OpenSpec.upto patchesLeadSpec)) patchesLeadUptoCard

/-- THE SECOND FORM's CARD OF 'tollbarlaw.NetRuns'. -/
def netRunsUptoCard : Claim7 := { stood := { row := netRunsUptoRow, standIns := [], harness := (true, "c56fbfd0f819de4afc83459af40eef875b9bfeef904b8d388a63eb6b4ba37c28"), looks := false }, kinds := [], alts := [], laidByText := true, laidKinds := [.data, .data, .data], laidTests := true, laidLooks := .later }
def NetRunsUptoCardSaid : Prop := Claim7.holds Tryz.pinned (.plain (OpenSpec.upto netRunsSpec)) netRunsUptoCard

/-- THE SECOND FORM's CARD OF 'tollbarkeep.ScriptsGood'. -/
def scriptsGoodUptoCard : Claim7 := { stood := { row := scriptsGoodUptoRow, standIns := [], harness := (true, "c56fbfd0f819de4afc83459af40eef875b9bfeef904b8d388a63eb6b4ba37c28"), looks := false }, kinds := [], alts := [], laidByText := true, laidKinds := [.data, .data, .data], laidTests := true, laidLooks := .later }
def ScriptsGoodUptoCardSaid : Prop := Claim7.holds Tryz.pinned (.plain (OpenSpec.upto scriptsGoodSpec)) scriptsGoodUptoCard

/-- THE SECOND FORM's CARD OF 'tollbarkeep.SendsSpoilt'. -/
def sendsSpoiltUptoCard : Claim7 := { stood := { row := sendsSpoiltUptoRow, standIns := [], harness := (true, "c56fbfd0f819de4afc83459af40eef875b9bfeef904b8d388a63eb6b4ba37c28"), looks := false }, kinds := [], alts := [], laidByText := true, laidKinds := [.data, .data, .data], laidTests := true, laidLooks := .later }
def SendsSpoiltUptoCardSaid : Prop := Claim7.holds Tryz.pinned (.plain (OpenSpec.upto sendsSpoiltSpec)) sendsSpoiltUptoCard

/-- THE SECOND FORM's CARD OF 'tollbartop.TopSame'. -/
def topSameUptoCard : Claim7 := { stood := { row := topSameUptoRow, standIns := [], harness := (true, "c56fbfd0f819de4afc83459af40eef875b9bfeef904b8d388a63eb6b4ba37c28"), looks := false }, kinds := [], alts := [], laidByText := true, laidKinds := [.data, .data, .data], laidTests := true, laidLooks := .later }
def TopSameUptoCardSaid : Prop := Claim7.holds Tryz.pinned (.plain (OpenSpec.upto topSameSpec)) topSameUptoCard
end Rows
end Go.Proofs.YtcdobhdbafpkiafGreatDoor
