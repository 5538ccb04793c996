/-
  Contracts: what a text tells of links: ReadAdj and the document's AdjOf.
-/
import Derived.Test.YtcdobhdbafpkiacCuts
import Derived.Test.YtcdobhdbafpkiacAdj
namespace Go.Proofs.Ytcdobhdbafpkiac
open Go.RowKit

/-- the sides that a text tells, if it tells any that may be -/
def Pl.sidesL (l : List UInt8) : Option (List (Int × Int)) := Pl.pairsL 61 (Pl.tailB 33 l)
/-- what ReadAdj answers: drained, the sides, the code -/
def Pl.adjC (l : List UInt8) : Int := match Pl.sidesL l with
  | none => 4
  | some ps => Pl.adjF ps
def Pl.adjD (l : List UInt8) : Bool := Pl.adjC l == 0 && Pl.headB 33 l
def Pl.adjS (l : List UInt8) : List (Int × Int) := if Pl.adjC l = 0 then (Pl.sidesL l).getD [] else []
theorem Pl.tail_size {c : UInt8} {s a : ByteArray} (h : a.data.toList = Pl.tailB c s.data.toList) : a.size ≤ s.size := by
  rw [← sz_list a, ← sz_list s, h]
  unfold Pl.tailB
  split <;> simp
theorem Pl.parts_len : ∀ (n : Nat) (l : List UInt8), (Pl.partsN n l).length ≤ l.length + 1
  | 0, _ => by simp [Pl.partsN]
  | n + 1, l => by
    rw [Pl.partsN]
    split
    · simp
    · rename_i r hr
      have h1 := (Pl.cutL_len 44 l).2 r hr
      have h2 := Pl.parts_len n r
      simp only [List.length_cons]; omega
theorem Pl.pairsP_len {m : UInt8} : ∀ {ps : List (List UInt8)} {a : List (Int × Int)}, Pl.pairsP m ps = some a → a.length = ps.length
  | [], a, h => by cases h; rfl
  | p :: r, a, h => by
    rw [Pl.pairsP] at h
    split at h
    · rename_i x y hx hy
      cases h
      simp [Pl.pairsP_len hy]
    · cases h
theorem Pl.pairsL_facts {m : UInt8} {l : List UInt8} {a : List (Int × Int)} (h : Pl.pairsL m l = some a) : a.length ≤ l.length + 1 ∧ (∀ p ∈ a, Pl.pairOk p) := by
  unfold Pl.pairsL at h
  split at h
  · cases h; simp
  · refine ⟨?_, fun p hp => Pl.pairOk_of (Pl.pairsP_ok h p hp)⟩
    rw [Pl.pairsP_len h]; exact Pl.parts_len _ _

theorem box2f {w w3 : World} {c0 c1 : Value} {T : TypeId} (hb : Below (w.heap.size + 1) (w.alloc (.cells #[c0, c1] T)) w3) :
    w3.frozen? ⟨w.heap.size, 0, none⟩ = false ∧ w3.frozen? ⟨w.heap.size, 1, none⟩ = false := by
  constructor
  all_goals
    rw [hb.frozen (by simp)]
    simp
theorem adjAt_cells {w : World} {B : Nat} {c0 c1 : Value} {T : TypeId} (h : w.heap[B]? = some (.cells #[c0, c1] T)) :
    w.cell? ⟨B, 0, none⟩ = some c0 ∧ w.cell? ⟨B, 1, none⟩ = some c1 ∧ w.frozen? ⟨B, 0, none⟩ = false ∧ w.frozen? ⟨B, 1, none⟩ = false ∧ B < w.heap.size := by
  refine ⟨?_, ?_, ?_, ?_, blockLt h⟩
  all_goals simp [World.cell?, World.frozen?, h]
theorem adjAt_set {w : World} {B : Nat} {c0 c1 : Value} {T : TypeId} (h : w.heap[B]? = some (.cells #[c0, c1] T)) (v : Value) : (w.setCell ⟨B, 1, none⟩ v).heap[B]? = some (.cells #[c0, v] T) := by
  have := blockLt h
  simp [World.setCell, Array.getElem?_modify, h]
theorem heapNew (w : World) (o : Obj) : (w.alloc o).heap[w.heap.size]? = some o := by
  show (w.heap.push o)[w.heap.size]? = _
  simp
theorem heapOld {w : World} {B : Nat} {x : Obj} (h : w.heap[B]? = some x) (o : Obj) : (w.alloc o).heap[B]? = some x := by
  have := blockLt h
  show (w.heap.push o)[B]? = _
  rw [Array.getElem?_push]; split
  · omega
  · exact h
theorem Pl.take_pr (ps : List (Int × Int)) (k : Nat) (h : k < ps.length) : ps.take (k + 1) = ps.take k ++ [Pl.pr ps k] := by
  rw [List.take_succ_eq_append_getElem h, Pl.pr_eq ps k h]
end Go.Proofs.Ytcdobhdbafpkiac
