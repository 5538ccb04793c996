/-
  No cell of these rows narrows 'for every input' (looked for: loops, veiled, ifaces, maps, wideKeys, modest, calm, conditions, laid).
  DERIVED. THE GIVEN ROWS OF THIS SEAT. 4 by the template 'for every input the law returns true; each argument reads behind the call as it read before'; 0 by the template 'total and deterministic' (their statements: YtcdobhdbafpkiacTotals.lean).
  GIVEN WITH THE SEED: the statements are not yours to turn. If you find one false, say at which input.
  Laid BY PROGRAM, IN A SANDBOX (cutbox-rows.mjs): the forced cells as the released guide's own fill.sh prints them over the translation 0785b0bcdd019f0d… (all of the seat's roots in one cut). By AI agents, Wed Nov 11 2026. No macro, syntax, notation, axiom, sorry.
-/
import Derived.Test.YtcdobhdbafpkiacChecked
import GoSem.Claim
import GoSem.ClaimJoined
import GoSem.ClaimMapViews
import Derived.JoinedTies
import Derived.KernelRfl
namespace Go.Proofs.Ytcdobhdbafpkiac
/- THE CELL 'sum', in the pinned program and in every row, IS THE sha256 OF THE DUMP (.gsa) THAT YtcdobhdbafpkiacProg.lean LOADS. Nothing in Lean hashes anything: it is a label: what it is worth is what the hold of that sum in a sandbox is worth. -/
noncomputable def Try.pinned : Pinned := { name := "ytcdobhdbafpkiac", sum := "0785b0bcdd019f0dd79b54ef0362e2fcdd365830a1b7fdb6398dd43180d6b54e", checked := Try.checked }
namespace Rows
def none {H : Type} : Left H := { results := [], args := [] }

/-- 'tollbarlaw.GraphPrefixes': WHATEVER THE INPUT: true; the input reads as it did. -/
def graphPrefixesSpec : ChangeSpec := { name := "graphPrefixes", fn := fun _ => fun
  | [d] => { results := [.lit (.bool true)], args := [d] }
  | _ => none }
def graphPrefixesRow : OpenClaim := { program := "ytcdobhdbafpkiac", sum := "0785b0bcdd019f0dd79b54ef0362e2fcdd365830a1b7fdb6398dd43180d6b54e", func := "tollbar/tollbarlaw.GraphPrefixes", spec := "graphPrefixes", apart := false }
def GraphPrefixesSaid : Prop := graphPrefixesRow.holds Try.pinned (OpenSpec.ofChange graphPrefixesSpec)

/-- ITS FALSE NEIGHBOUR: 'it returns false'. Refute it at one input. -/
def graphPrefixesWrong : ChangeSpec := { name := "graphPrefixes", fn := fun _ => fun
  | [d] => { results := [.lit (.bool false)], args := [d] }
  | _ => none }
def GraphPrefixesWrongFalsely : Prop := graphPrefixesRow.holds Try.pinned (OpenSpec.ofChange graphPrefixesWrong)

/-- 'tollbarlaw.GraphRead': WHATEVER THE INPUT: true; the input reads as it did. -/
def graphReadSpec : ChangeSpec := { name := "graphRead", fn := fun _ => fun
  | [d] => { results := [.lit (.bool true)], args := [d] }
  | _ => none }
def graphReadRow : OpenClaim := { program := "ytcdobhdbafpkiac", sum := "0785b0bcdd019f0dd79b54ef0362e2fcdd365830a1b7fdb6398dd43180d6b54e", func := "tollbar/tollbarlaw.GraphRead", spec := "graphRead", inPlace := ["internal/bytealg.IndexByteString", "internal/bytealg.IndexString"], named := ["internal/bytealg.MaxLen"], apart := false }
def GraphReadSaid : Prop := graphReadRow.holds Try.pinned (OpenSpec.ofChange graphReadSpec)

/-- ITS FALSE NEIGHBOUR: 'it returns false'. Refute it at one input. -/
def graphReadWrong : ChangeSpec := { name := "graphRead", fn := fun _ => fun
  | [d] => { results := [.lit (.bool false)], args := [d] }
  | _ => none }
def GraphReadWrongFalsely : Prop := graphReadRow.holds Try.pinned (OpenSpec.ofChange graphReadWrong)

/-- 'tollbarkeep.MergesAgree': WHATEVER THE INPUT: true; the input reads as it did. -/
def mergesAgreeSpec : ChangeSpec := { name := "mergesAgree", fn := fun _ => fun
  | [d1, d2, d3] => { results := [.lit (.bool true)], args := [d1, d2, d3] }
  | _ => none }
def mergesAgreeRow : OpenClaim := { program := "ytcdobhdbafpkiac", sum := "0785b0bcdd019f0dd79b54ef0362e2fcdd365830a1b7fdb6398dd43180d6b54e", func := "tollbar/tollbarkeep.MergesAgree", spec := "mergesAgree", unfollowed := true, recurses := true, apart := false }
def MergesAgreeSaid : Prop := mergesAgreeRow.holds Try.pinned (OpenSpec.ofChange mergesAgreeSpec)

/-- ITS FALSE NEIGHBOUR: 'it returns false'. Refute it at one input. -/
def mergesAgreeWrong : ChangeSpec := { name := "mergesAgree", fn := fun _ => fun
  | [d1, d2, d3] => { results := [.lit (.bool false)], args := [d1, d2, d3] }
  | _ => none }
def MergesAgreeWrongFalsely : Prop := mergesAgreeRow.holds Try.pinned (OpenSpec.ofChange mergesAgreeWrong)

/-- 'tollbarkeep.MergesGrow': WHATEVER THE INPUT: true; the input reads as it did. -/
def mergesGrowSpec : ChangeSpec := { name := "mergesGrow", fn := fun _ => fun
  | [d1, d2] => { results := [.lit (.bool true)], args := [d1, d2] }
  | _ => none }
def mergesGrowRow : OpenClaim := { program := "ytcdobhdbafpkiac", sum := "0785b0bcdd019f0dd79b54ef0362e2fcdd365830a1b7fdb6398dd43180d6b54e", func := "tollbar/tollbarkeep.MergesGrow", spec := "mergesGrow", unfollowed := true, recurses := true, apart := false }
def MergesGrowSaid : Prop := mergesGrowRow.holds Try.pinned (OpenSpec.ofChange mergesGrowSpec)

/-- ITS FALSE NEIGHBOUR: 'it returns false'. Refute it at one input. -/
def mergesGrowWrong : ChangeSpec := { name := "mergesGrow", fn := fun _ => fun
  | [d1, d2] => { results := [.lit (.bool false)], args := [d1, d2] }
  | _ => none }
def MergesGrowWrongFalsely : Prop := mergesGrowRow.holds Try.pinned (OpenSpec.ofChange mergesGrowWrong)

/- THE SECOND FORM. 'bulk': how many values and letters a reading holds, each counted each time it is reached (what is shared counts as often as it is met; a slice's spare places count too). A statement '..UptoSaid' is the law's where the arguments, and the package variables that the reading takes, are together of bulk at most 1048576: NARROWER than '..Said'. Prove '..Said' where nothing that the law and all that it calls make is longer than what came in: it says more and counts as full. Else prove '..UptoSaid'. A law counts once. -/
mutual
def uptoBulk {H : Type} : DataW H → Nat
  | .lit (.string bytes) => bytes.length + 1
  | .lit _ => 1
  | .nil => 1
  | .ptr d => uptoBulk d + 1
  | .slice elems spare => uptoBulkAll elems + uptoBulkAll spare + 1
  | .agg parts => uptoBulkAll parts + 1
  | .iface _ d => uptoBulk d + 1
  | .map entries => uptoBulkEntries entries + 1
  | .held _ => 1
def uptoBulkAll {H : Type} : List (DataW H) → Nat
  | [] => 0
  | d :: r => uptoBulk d + uptoBulkAll r
def uptoBulkEntries {H : Type} : List (Lit × DataW H) → Nat
  | [] => 0
  | x :: r => uptoBulkEntry x + uptoBulkEntries r
def uptoBulkEntry {H : Type} : Lit × DataW H → Nat
  | (.string bytes, d) => bytes.length + uptoBulk d + 1
  | (_, d) => uptoBulk d + 1
 end
def uptoSmall : (H : Type) → List (DataW H) → Bool := fun _ ds => decide (uptoBulkAll ds ≤ 1048576)
def OpenSpec.upto (s : _root_.Go.ChangeSpec) : _root_.Go.OpenSpec := { _root_.Go.OpenSpec.ofChange s with cond := some uptoSmall }

/-- 'tollbarlaw.GraphPrefixes', WHERE WHAT IT READS IS OF BULK AT MOST 1048576: true; the input reads as it did. -/
def graphPrefixesUptoRow : OpenClaim := { program := "ytcdobhdbafpkiac", sum := "0785b0bcdd019f0dd79b54ef0362e2fcdd365830a1b7fdb6398dd43180d6b54e", func := "tollbar/tollbarlaw.GraphPrefixes", spec := "graphPrefixes", apart := false, narrowed := true }
def GraphPrefixesUptoSaid : Prop := graphPrefixesUptoRow.holds Try.pinned (OpenSpec.upto graphPrefixesSpec)

/-- 'tollbarlaw.GraphRead', WHERE WHAT IT READS IS OF BULK AT MOST 1048576: true; the input reads as it did. -/
def graphReadUptoRow : OpenClaim := { program := "ytcdobhdbafpkiac", sum := "0785b0bcdd019f0dd79b54ef0362e2fcdd365830a1b7fdb6398dd43180d6b54e", func := "tollbar/tollbarlaw.GraphRead", spec := "graphRead", inPlace := ["internal/bytealg.IndexByteString", "internal/bytealg.IndexString"], named := ["internal/bytealg.MaxLen"], apart := false, narrowed := true }
def GraphReadUptoSaid : Prop := graphReadUptoRow.holds Try.pinned (OpenSpec.upto graphReadSpec)

/-- 'tollbarkeep.MergesAgree', WHERE WHAT IT READS IS OF BULK AT MOST 1048576: true; the input reads as it did. -/
def mergesAgreeUptoRow : OpenClaim := { program := "ytcdobhdbafpkiac", sum := "0785b0bcdd019f0dd79b54ef0362e2fcdd365830a1b7fdb6398dd43180d6b54e", func := "tollbar/tollbarkeep.MergesAgree", spec := "mergesAgree", unfollowed := true, recurses := true, apart := false, narrowed := true }
def MergesAgreeUptoSaid : Prop := mergesAgreeUptoRow.holds Try.pinned (OpenSpec.upto mergesAgreeSpec)

/-- 'tollbarkeep.MergesGrow', WHERE WHAT IT READS IS OF BULK AT MOST 1048576: true; the input reads as it did. -/
def mergesGrowUptoRow : OpenClaim := { program := "ytcdobhdbafpkiac", sum := "0785b0bcdd019f0dd79b54ef0362e2fcdd365830a1b7fdb6398dd43180d6b54e", func := "tollbar/tollbarkeep.MergesGrow", spec := "mergesGrow", unfollowed := true, recurses := true, apart := false, narrowed := true }
def MergesGrowUptoSaid : Prop := mergesGrowUptoRow.holds Try.pinned (OpenSpec.upto mergesGrowSpec)

end Rows
end Go.Proofs.Ytcdobhdbafpkiac
