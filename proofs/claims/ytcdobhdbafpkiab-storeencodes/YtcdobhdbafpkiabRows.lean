/-
  No cell of these rows narrows 'for every input' (looked for: loops, veiled, ifaces, maps, wideKeys, modest, calm, conditions, laid).
  DERIVED. THE GIVEN ROWS OF THIS SEAT. 5 by the template 'for every input the law returns true; each argument reads behind the call as it read before'; 0 by the template 'total and deterministic' (their statements: YtcdobhdbafpkiabTotals.lean).
  GIVEN WITH THE SEED: the statements are not yours to turn. If you find one false, say at which input.
  Laid BY PROGRAM, IN A SANDBOX (cutbox-rows.mjs): the forced cells as the released guide's own fill.sh prints them over the translation f764c13edcfb2079… (all of the seat's roots in one cut). By AI agents, Wed Nov 11 2026. No macro, syntax, notation, axiom, sorry.
-/
import Derived.Test.YtcdobhdbafpkiabChecked
import GoSem.Claim
import GoSem.ClaimJoined
import GoSem.ClaimMapViews
import Derived.JoinedTies
import Derived.KernelRfl
namespace Go.Proofs.Ytcdobhdbafpkiab
/- THE CELL 'sum', in the pinned program and in every row, IS THE sha256 OF THE DUMP (.gsa) THAT YtcdobhdbafpkiabProg.lean LOADS. Nothing in Lean hashes anything: it is a label: what it is worth is what the hold of that sum in a sandbox is worth. -/
noncomputable def Try.pinned : Pinned := { name := "ytcdobhdbafpkiab", sum := "f764c13edcfb20790267eb324a7a790e953468c84e9425f13b6cdf661469bde5", checked := Try.checked }
namespace Rows
def none {H : Type} : Left H := { results := [], args := [] }

/-- 'tollbarlaw.StoreEncodes': WHATEVER THE INPUT: true; the input reads as it did. -/
def storeEncodesSpec : ChangeSpec := { name := "storeEncodes", fn := fun _ => fun
  | [d] => { results := [.lit (.bool true)], args := [d] }
  | _ => none }
def storeEncodesRow : OpenClaim := { program := "ytcdobhdbafpkiab", sum := "f764c13edcfb20790267eb324a7a790e953468c84e9425f13b6cdf661469bde5", func := "tollbar/tollbarlaw.StoreEncodes", spec := "storeEncodes", recurses := true, apart := false }
def StoreEncodesSaid : Prop := storeEncodesRow.holds Try.pinned (OpenSpec.ofChange storeEncodesSpec)

/-- ITS FALSE NEIGHBOUR: 'it returns false'. Refute it at one input. -/
def storeEncodesWrong : ChangeSpec := { name := "storeEncodes", fn := fun _ => fun
  | [d] => { results := [.lit (.bool false)], args := [d] }
  | _ => none }
def StoreEncodesWrongFalsely : Prop := storeEncodesRow.holds Try.pinned (OpenSpec.ofChange storeEncodesWrong)

/-- 'tollbarlaw.StoreDecodes': WHATEVER THE INPUT: true; the input reads as it did. -/
def storeDecodesSpec : ChangeSpec := { name := "storeDecodes", fn := fun _ => fun
  | [d] => { results := [.lit (.bool true)], args := [d] }
  | _ => none }
def storeDecodesRow : OpenClaim := { program := "ytcdobhdbafpkiab", sum := "f764c13edcfb20790267eb324a7a790e953468c84e9425f13b6cdf661469bde5", func := "tollbar/tollbarlaw.StoreDecodes", spec := "storeDecodes", apart := false }
def StoreDecodesSaid : Prop := storeDecodesRow.holds Try.pinned (OpenSpec.ofChange storeDecodesSpec)

/-- ITS FALSE NEIGHBOUR: 'it returns false'. Refute it at one input. -/
def storeDecodesWrong : ChangeSpec := { name := "storeDecodes", fn := fun _ => fun
  | [d] => { results := [.lit (.bool false)], args := [d] }
  | _ => none }
def StoreDecodesWrongFalsely : Prop := storeDecodesRow.holds Try.pinned (OpenSpec.ofChange storeDecodesWrong)

/-- 'tollbarkeep.StoresOnce': WHATEVER THE INPUT: true; the input reads as it did. -/
def storesOnceSpec : ChangeSpec := { name := "storesOnce", fn := fun _ => fun
  | [d] => { results := [.lit (.bool true)], args := [d] }
  | _ => none }
def storesOnceRow : OpenClaim := { program := "ytcdobhdbafpkiab", sum := "f764c13edcfb20790267eb324a7a790e953468c84e9425f13b6cdf661469bde5", func := "tollbar/tollbarkeep.StoresOnce", spec := "storesOnce", apart := false }
def StoresOnceSaid : Prop := storesOnceRow.holds Try.pinned (OpenSpec.ofChange storesOnceSpec)

/-- ITS FALSE NEIGHBOUR: 'it returns false'. Refute it at one input. -/
def storesOnceWrong : ChangeSpec := { name := "storesOnce", fn := fun _ => fun
  | [d] => { results := [.lit (.bool false)], args := [d] }
  | _ => none }
def StoresOnceWrongFalsely : Prop := storesOnceRow.holds Try.pinned (OpenSpec.ofChange storesOnceWrong)

/-- 'tollbarlaw.GraphAdjs': WHATEVER THE INPUT: true; the input reads as it did. -/
def graphAdjsSpec : ChangeSpec := { name := "graphAdjs", fn := fun _ => fun
  | [d] => { results := [.lit (.bool true)], args := [d] }
  | _ => none }
def graphAdjsRow : OpenClaim := { program := "ytcdobhdbafpkiab", sum := "f764c13edcfb20790267eb324a7a790e953468c84e9425f13b6cdf661469bde5", func := "tollbar/tollbarlaw.GraphAdjs", spec := "graphAdjs", apart := false }
def GraphAdjsSaid : Prop := graphAdjsRow.holds Try.pinned (OpenSpec.ofChange graphAdjsSpec)

/-- ITS FALSE NEIGHBOUR: 'it returns false'. Refute it at one input. -/
def graphAdjsWrong : ChangeSpec := { name := "graphAdjs", fn := fun _ => fun
  | [d] => { results := [.lit (.bool false)], args := [d] }
  | _ => none }
def GraphAdjsWrongFalsely : Prop := graphAdjsRow.holds Try.pinned (OpenSpec.ofChange graphAdjsWrong)

/-- 'tollbarlaw.GraphReads': WHATEVER THE INPUT: true; the input reads as it did. -/
def graphReadsSpec : ChangeSpec := { name := "graphReads", fn := fun _ => fun
  | [d] => { results := [.lit (.bool true)], args := [d] }
  | _ => none }
def graphReadsRow : OpenClaim := { program := "ytcdobhdbafpkiab", sum := "f764c13edcfb20790267eb324a7a790e953468c84e9425f13b6cdf661469bde5", func := "tollbar/tollbarlaw.GraphReads", spec := "graphReads", inPlace := ["internal/bytealg.IndexByteString", "internal/bytealg.IndexString"], named := ["internal/bytealg.MaxLen"], apart := false }
def GraphReadsSaid : Prop := graphReadsRow.holds Try.pinned (OpenSpec.ofChange graphReadsSpec)

/-- ITS FALSE NEIGHBOUR: 'it returns false'. Refute it at one input. -/
def graphReadsWrong : ChangeSpec := { name := "graphReads", fn := fun _ => fun
  | [d] => { results := [.lit (.bool false)], args := [d] }
  | _ => none }
def GraphReadsWrongFalsely : Prop := graphReadsRow.holds Try.pinned (OpenSpec.ofChange graphReadsWrong)

/- THE SECOND FORM. 'bulk': how many values and letters a reading holds, each counted each time it is reached (what is shared counts as often as it is met; a slice's spare places count too). A statement '..UptoSaid' is the law's where the arguments, and the package variables that the reading takes, are together of bulk at most 1048576: NARROWER than '..Said'. Prove '..Said' where nothing that the law and all that it calls make is longer than what came in: it says more and counts as full. Else prove '..UptoSaid'. A law counts once. -/
mutual
def uptoBulk {H : Type} : DataW H → Nat
  | .lit (.string bytes) => bytes.length + 1
  | .lit _ => 1
  | .nil => 1
  | .ptr d => uptoBulk d + 1
  | .slice elems spare => uptoBulkAll elems + uptoBulkAll spare + 1
  | .agg parts => uptoBulkAll parts + 1
  | .iface _ d => uptoBulk d + 1
  | .map entries => uptoBulkEntries entries + 1
  | .held _ => 1
def uptoBulkAll {H : Type} : List (DataW H) → Nat
  | [] => 0
  | d :: r => uptoBulk d + uptoBulkAll r
def uptoBulkEntries {H : Type} : List (Lit × DataW H) → Nat
  | [] => 0
  | x :: r => uptoBulkEntry x + uptoBulkEntries r
def uptoBulkEntry {H : Type} : Lit × DataW H → Nat
  | (.string bytes, d) => bytes.length + uptoBulk d + 1
  | (_, d) => uptoBulk d + 1
 end
def uptoSmall : (H : Type) → List (DataW H) → Bool := fun _ ds => decide (uptoBulkAll ds ≤ 1048576)
def OpenSpec.upto (s : _root_.Go.ChangeSpec) : _root_.Go.OpenSpec := { _root_.Go.OpenSpec.ofChange s with cond := some uptoSmall }

/-- 'tollbarlaw.StoreEncodes', WHERE WHAT IT READS IS OF BULK AT MOST 1048576: true; the input reads as it did. -/
def storeEncodesUptoRow : OpenClaim := { program := "ytcdobhdbafpkiab", sum := "f764c13edcfb20790267eb324a7a790e953468c84e9425f13b6cdf661469bde5", func := "tollbar/tollbarlaw.StoreEncodes", spec := "storeEncodes", recurses := true, apart := false, narrowed := true }
def StoreEncodesUptoSaid : Prop := storeEncodesUptoRow.holds Try.pinned (OpenSpec.upto storeEncodesSpec)

/-- 'tollbarlaw.StoreDecodes', WHERE WHAT IT READS IS OF BULK AT MOST 1048576: true; the input reads as it did. -/
def storeDecodesUptoRow : OpenClaim := { program := "ytcdobhdbafpkiab", sum := "f764c13edcfb20790267eb324a7a790e953468c84e9425f13b6cdf661469bde5", func := "tollbar/tollbarlaw.StoreDecodes", spec := "storeDecodes", apart := false, narrowed := true }
def StoreDecodesUptoSaid : Prop := storeDecodesUptoRow.holds Try.pinned (OpenSpec.upto storeDecodesSpec)

/-- 'tollbarkeep.StoresOnce', WHERE WHAT IT READS IS OF BULK AT MOST 1048576: true; the input reads as it did. -/
def storesOnceUptoRow : OpenClaim := { program := "ytcdobhdbafpkiab", sum := "f764c13edcfb20790267eb324a7a790e953468c84e9425f13b6cdf661469bde5", func := "tollbar/tollbarkeep.StoresOnce", spec := "storesOnce", apart := false, narrowed := true }
def StoresOnceUptoSaid : Prop := storesOnceUptoRow.holds Try.pinned (OpenSpec.upto storesOnceSpec)

/-- 'tollbarlaw.GraphAdjs', WHERE WHAT IT READS IS OF BULK AT MOST 1048576: true; the input reads as it did. -/
def graphAdjsUptoRow : OpenClaim := { program := "ytcdobhdbafpkiab", sum := "f764c13edcfb20790267eb324a7a790e953468c84e9425f13b6cdf661469bde5", func := "tollbar/tollbarlaw.GraphAdjs", spec := "graphAdjs", apart := false, narrowed := true }
def GraphAdjsUptoSaid : Prop := graphAdjsUptoRow.holds Try.pinned (OpenSpec.upto graphAdjsSpec)

/-- 'tollbarlaw.GraphReads', WHERE WHAT IT READS IS OF BULK AT MOST 1048576: true; the input reads as it did. -/
def graphReadsUptoRow : OpenClaim := { program := "ytcdobhdbafpkiab", sum := "f764c13edcfb20790267eb324a7a790e953468c84e9425f13b6cdf661469bde5", func := "tollbar/tollbarlaw.GraphReads", spec := "graphReads", inPlace := ["internal/bytealg.IndexByteString", "internal/bytealg.IndexString"], named := ["internal/bytealg.MaxLen"], apart := false, narrowed := true }
def GraphReadsUptoSaid : Prop := graphReadsUptoRow.holds Try.pinned (OpenSpec.upto graphReadsSpec)

end Rows
end Go.Proofs.Ytcdobhdbafpkiab
