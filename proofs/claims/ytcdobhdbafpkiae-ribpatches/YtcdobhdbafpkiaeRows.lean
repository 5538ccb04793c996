/-
  No cell of these rows narrows 'for every input' (looked for: loops, veiled, ifaces, maps, wideKeys, modest, calm, conditions, laid).
  DERIVED. THE GIVEN ROWS OF THIS SEAT. 4 by the template 'for every input the law returns true; each argument reads behind the call as it read before'; 0 by the template 'total and deterministic' (their statements: YtcdobhdbafpkiaeTotals.lean).
  GIVEN WITH THE SEED: the statements are not yours to turn. If you find one false, say at which input.
  Laid BY PROGRAM, IN A SANDBOX (cutbox-rows.mjs): the forced cells as the released guide's own fill.sh prints them over the translation a433ffd9c96d94f3… (all of the seat's roots in one cut). By AI agents, Wed Nov 11 2026. No macro, syntax, notation, axiom, sorry.
-/
import Derived.Test.YtcdobhdbafpkiaeChecked
import GoSem.Claim
import GoSem.ClaimJoined
import GoSem.ClaimMapViews
import Derived.JoinedTies
import Derived.KernelRfl
namespace Go.Proofs.Ytcdobhdbafpkiae
/- THE CELL 'sum', in the pinned program and in every row, IS THE sha256 OF THE DUMP (.gsa) THAT YtcdobhdbafpkiaeProg.lean LOADS. Nothing in Lean hashes anything: it is a label: what it is worth is what the hold of that sum in a sandbox is worth. -/
noncomputable def Try.pinned : Pinned := { name := "ytcdobhdbafpkiae", sum := "a433ffd9c96d94f3a097775e01e2700f6a4f29dc12fb1438787b3b30408c9224", checked := Try.checked }
namespace Rows
def none {H : Type} : Left H := { results := [], args := [] }

/-- 'tollbarlaw.RibChecks': WHATEVER THE INPUT: true; the input reads as it did. -/
def ribChecksSpec : ChangeSpec := { name := "ribChecks", fn := fun _ => fun
  | [d] => { results := [.lit (.bool true)], args := [d] }
  | _ => none }
def ribChecksRow : OpenClaim := { program := "ytcdobhdbafpkiae", sum := "a433ffd9c96d94f3a097775e01e2700f6a4f29dc12fb1438787b3b30408c9224", func := "tollbar/tollbarlaw.RibChecks", spec := "ribChecks", apart := false }
def RibChecksSaid : Prop := ribChecksRow.holds Try.pinned (OpenSpec.ofChange ribChecksSpec)

/-- ITS FALSE NEIGHBOUR: 'it returns false'. Refute it at one input. -/
def ribChecksWrong : ChangeSpec := { name := "ribChecks", fn := fun _ => fun
  | [d] => { results := [.lit (.bool false)], args := [d] }
  | _ => none }
def RibChecksWrongFalsely : Prop := ribChecksRow.holds Try.pinned (OpenSpec.ofChange ribChecksWrong)

/-- 'tollbarlaw.RibLooks': WHATEVER THE INPUT: true; the input reads as it did. -/
def ribLooksSpec : ChangeSpec := { name := "ribLooks", fn := fun _ => fun
  | [d1, d2] => { results := [.lit (.bool true)], args := [d1, d2] }
  | _ => none }
def ribLooksRow : OpenClaim := { program := "ytcdobhdbafpkiae", sum := "a433ffd9c96d94f3a097775e01e2700f6a4f29dc12fb1438787b3b30408c9224", func := "tollbar/tollbarlaw.RibLooks", spec := "ribLooks", unfollowed := true, recurses := true, apart := false }
def RibLooksSaid : Prop := ribLooksRow.holds Try.pinned (OpenSpec.ofChange ribLooksSpec)

/-- ITS FALSE NEIGHBOUR: 'it returns false'. Refute it at one input. -/
def ribLooksWrong : ChangeSpec := { name := "ribLooks", fn := fun _ => fun
  | [d1, d2] => { results := [.lit (.bool false)], args := [d1, d2] }
  | _ => none }
def RibLooksWrongFalsely : Prop := ribLooksRow.holds Try.pinned (OpenSpec.ofChange ribLooksWrong)

/-- 'tollbarlaw.RibDiffs': WHATEVER THE INPUT: true; the input reads as it did. -/
def ribDiffsSpec : ChangeSpec := { name := "ribDiffs", fn := fun _ => fun
  | [d1, d2] => { results := [.lit (.bool true)], args := [d1, d2] }
  | _ => none }
def ribDiffsRow : OpenClaim := { program := "ytcdobhdbafpkiae", sum := "a433ffd9c96d94f3a097775e01e2700f6a4f29dc12fb1438787b3b30408c9224", func := "tollbar/tollbarlaw.RibDiffs", spec := "ribDiffs", unfollowed := true, recurses := true, apart := false }
def RibDiffsSaid : Prop := ribDiffsRow.holds Try.pinned (OpenSpec.ofChange ribDiffsSpec)

/-- ITS FALSE NEIGHBOUR: 'it returns false'. Refute it at one input. -/
def ribDiffsWrong : ChangeSpec := { name := "ribDiffs", fn := fun _ => fun
  | [d1, d2] => { results := [.lit (.bool false)], args := [d1, d2] }
  | _ => none }
def RibDiffsWrongFalsely : Prop := ribDiffsRow.holds Try.pinned (OpenSpec.ofChange ribDiffsWrong)

/-- 'tollbarlaw.RibPatches': WHATEVER THE INPUT: true; the input reads as it did. -/
def ribPatchesSpec : ChangeSpec := { name := "ribPatches", fn := fun _ => fun
  | [d1, d2, d3] => { results := [.lit (.bool true)], args := [d1, d2, d3] }
  | _ => none }
def ribPatchesRow : OpenClaim := { program := "ytcdobhdbafpkiae", sum := "a433ffd9c96d94f3a097775e01e2700f6a4f29dc12fb1438787b3b30408c9224", func := "tollbar/tollbarlaw.RibPatches", spec := "ribPatches", inPlace := ["slices.overlaps[tollbar/api.Route]"], unfollowed := true, recurses := true, apart := false }
def RibPatchesSaid : Prop := ribPatchesRow.holds Try.pinned (OpenSpec.ofChange ribPatchesSpec)

/-- ITS FALSE NEIGHBOUR: 'it returns false'. Refute it at one input. -/
def ribPatchesWrong : ChangeSpec := { name := "ribPatches", fn := fun _ => fun
  | [d1, d2, d3] => { results := [.lit (.bool false)], args := [d1, d2, d3] }
  | _ => none }
def RibPatchesWrongFalsely : Prop := ribPatchesRow.holds Try.pinned (OpenSpec.ofChange ribPatchesWrong)

/- THE SECOND FORM. 'bulk': how many values and letters a reading holds, each counted each time it is reached (what is shared counts as often as it is met; a slice's spare places count too). A statement '..UptoSaid' is the law's where the arguments, and the package variables that the reading takes, are together of bulk at most 1048576: NARROWER than '..Said'. Prove '..Said' where nothing that the law and all that it calls make is longer than what came in: it says more and counts as full. Else prove '..UptoSaid'. A law counts once. -/
mutual
def uptoBulk {H : Type} : DataW H → Nat
  | .lit (.string bytes) => bytes.length + 1
  | .lit _ => 1
  | .nil => 1
  | .ptr d => uptoBulk d + 1
  | .slice elems spare => uptoBulkAll elems + uptoBulkAll spare + 1
  | .agg parts => uptoBulkAll parts + 1
  | .iface _ d => uptoBulk d + 1
  | .map entries => uptoBulkEntries entries + 1
  | .held _ => 1
def uptoBulkAll {H : Type} : List (DataW H) → Nat
  | [] => 0
  | d :: r => uptoBulk d + uptoBulkAll r
def uptoBulkEntries {H : Type} : List (Lit × DataW H) → Nat
  | [] => 0
  | x :: r => uptoBulkEntry x + uptoBulkEntries r
def uptoBulkEntry {H : Type} : Lit × DataW H → Nat
  | (.string bytes, d) => bytes.length + uptoBulk d + 1
  | (_, d) => uptoBulk d + 1
 end
def uptoSmall : (H : Type) → List (DataW H) → Bool := fun _ ds => decide (uptoBulkAll ds ≤ 1048576)
def OpenSpec.upto (s : _root_.Go.ChangeSpec) : _root_.Go.OpenSpec := { _root_.Go.OpenSpec.ofChange s with cond := some uptoSmall }

/-- 'tollbarlaw.RibChecks', WHERE WHAT IT READS IS OF BULK AT MOST 1048576: true; the input reads as it did. -/
def ribChecksUptoRow : OpenClaim := { program := "ytcdobhdbafpkiae", sum := "a433ffd9c96d94f3a097775e01e2700f6a4f29dc12fb1438787b3b30408c9224", func := "tollbar/tollbarlaw.RibChecks", spec := "ribChecks", apart := false, narrowed := true }
def RibChecksUptoSaid : Prop := ribChecksUptoRow.holds Try.pinned (OpenSpec.upto ribChecksSpec)

/-- 'tollbarlaw.RibLooks', WHERE WHAT IT READS IS OF BULK AT MOST 1048576: true; the input reads as it did. -/
def ribLooksUptoRow : OpenClaim := { program := "ytcdobhdbafpkiae", sum := "a433ffd9c96d94f3a097775e01e2700f6a4f29dc12fb1438787b3b30408c9224", func := "tollbar/tollbarlaw.RibLooks", spec := "ribLooks", unfollowed := true, recurses := true, apart := false, narrowed := true }
def RibLooksUptoSaid : Prop := ribLooksUptoRow.holds Try.pinned (OpenSpec.upto ribLooksSpec)

/-- 'tollbarlaw.RibDiffs', WHERE WHAT IT READS IS OF BULK AT MOST 1048576: true; the input reads as it did. -/
def ribDiffsUptoRow : OpenClaim := { program := "ytcdobhdbafpkiae", sum := "a433ffd9c96d94f3a097775e01e2700f6a4f29dc12fb1438787b3b30408c9224", func := "tollbar/tollbarlaw.RibDiffs", spec := "ribDiffs", unfollowed := true, recurses := true, apart := false, narrowed := true }
def RibDiffsUptoSaid : Prop := ribDiffsUptoRow.holds Try.pinned (OpenSpec.upto ribDiffsSpec)

/-- 'tollbarlaw.RibPatches', WHERE WHAT IT READS IS OF BULK AT MOST 1048576: true; the input reads as it did. -/
def ribPatchesUptoRow : OpenClaim := { program := "ytcdobhdbafpkiae", sum := "a433ffd9c96d94f3a097775e01e2700f6a4f29dc12fb1438787b3b30408c9224", func := "tollbar/tollbarlaw.RibPatches", spec := "ribPatches", inPlace := ["slices.overlaps[tollbar/api.Route]"], unfollowed := true, recurses := true, apart := false, narrowed := true }
def RibPatchesUptoSaid : Prop := ribPatchesUptoRow.holds Try.pinned (OpenSpec.upto ribPatchesSpec)

end Rows
end Go.Proofs.Ytcdobhdbafpkiae
