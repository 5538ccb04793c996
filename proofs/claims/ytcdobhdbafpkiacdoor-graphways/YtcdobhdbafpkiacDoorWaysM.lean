/-
  Blocks of many cells, by what lies at each place; a world that differs in one block alone.
-/
import Derived.Test.YtcdobhdbafpkiacDoorWaysP
import Derived.Test.YtcdobhdbafpkiacDoorReadA
import Derived.Deep.MidRow
import Derived.Test.YtcdobhdbafpkiacDoorButB
namespace Go.Proofs.YtcdobhdbafpkiacDoor
open Go.RowKit
set_option maxRecDepth 20000

/-- the block B is a row of n cells, g i at the place i -/
def CellsAt (w : World) (B : Nat) (T : TypeId) (n : Nat) (g : Nat → Value) : Prop := w.heap[B]? = some (.cells (Array.ofFn (n := n) fun i => g i.1) T)

theorem CellsAt.lt {w B T n g} (h : CellsAt w B T n g) : B < w.heap.size := blockLt h
theorem CellsAt.cell {w B T n g} (h : CellsAt w B T n g) (o : Nat) (ho : o < n) : w.cell? ⟨B, o, none⟩ = some (g o) := by
  unfold CellsAt at h
  simp [World.cell?, h, ho]
theorem CellsAt.soft {w B T n g} (h : CellsAt w B T n g) (o : Nat) : w.frozen? ⟨B, o, none⟩ = false := by
  unfold CellsAt at h
  simp [World.frozen?, h]
theorem CellsAt.ext {w B T n g g'} (h : CellsAt w B T n g) (e : ∀ o, o < n → g o = g' o) : CellsAt w B T n g' := by
  unfold CellsAt at h ⊢
  rw [h]
  congr 2
  apply Array.ext
  · simp
  · intro i h1 h2
    simp only [Array.size_ofFn] at h1
    simpa using e i h1
theorem CellsAt.set {w B T n g} (h : CellsAt w B T n g) (o : Nat) (v : Value) : CellsAt (w.setCell ⟨B, o, none⟩ v) B T n (Pl.upd g o v) := by
  have hl := h.lt
  unfold CellsAt at h ⊢
  simp only [World.setCell, Array.getElem?_modify, h]
  simp only [↓reduceIte, Option.map_some, Option.isSome_none, Bool.false_eq_true]
  congr 2
  apply Array.ext
  · simp
  · intro i h1 h2
    simp only [Array.size_setIfInBounds, Array.size_ofFn] at h1
    rw [Array.getElem_setIfInBounds (by simpa using h1)]
    simp only [Array.getElem_ofFn, Pl.upd]
    by_cases hx : o = i
    · subst hx; simp
    · rw [if_neg hx, if_neg (Ne.symm hx)]
theorem CellsAt.sets {B : Nat} {T : TypeId} {n : Nat} : ∀ (vs : List Value) (o : Nat) (w : World) (g : Nat → Value), CellsAt w B T n g →
    CellsAt (w.setCells B o vs) B T n (fun i => if o ≤ i ∧ i < o + vs.length then vs.getD (i - o) undef else g i)
  | [], o, w, g, h => by
    refine CellsAt.ext h fun i _ => ?_
    rw [if_neg (by simp only [List.length_nil]; omega)]
  | v :: r, o, w, g, h => by
    have := CellsAt.sets r (o + 1) _ _ (h.set o v)
    refine CellsAt.ext this fun i _ => ?_
    by_cases h1 : o + 1 ≤ i ∧ i < o + 1 + r.length
    · rw [if_pos h1, if_pos (by simp; omega)]
      obtain ⟨j, hj⟩ : ∃ j, i - o = j + 1 := ⟨i - o - 1, by omega⟩
      rw [hj, List.getD_cons_succ]; congr 1; omega
    · rw [if_neg h1]
      by_cases h2 : i = o
      · subst h2; rw [Pl.upd_same, if_pos (by simp)]; simp
      · rw [Pl.upd_ne _ _ h2, if_neg (by simp; omega)]
theorem CellsAt.there {w B T n g} (h : CellsAt w B T n g) (o k : Nat) (hk : o + k ≤ n) : w.there B o k := fun j hj => ⟨by rw [h.cell _ (by omega)]; rfl, h.soft _⟩
theorem CellsAt.range {w B T n g} (h : CellsAt w B T n g) (o : Nat) (cs : List Value) (hk : o + cs.length ≤ n) (e : ∀ j (hj : j < cs.length), cs[j] = g (o + j)) : w.rangeAt B o cs := fun j v hv => by
  obtain ⟨hj, rfl⟩ := List.getElem?_eq_some_iff.1 hv
  rw [h.cell _ (by omega), e j hj]
theorem CellsAt.new (w : World) (T : TypeId) (cs : Array Value) (n : Nat) (g : Nat → Value) (hn : cs.size = n) (e : ∀ i (hi : i < cs.size), cs[i] = g i) : CellsAt (w.alloc (.cells cs T)) w.heap.size T n g := by
  unfold CellsAt
  rw [heapNew]
  congr 2
  apply Array.ext
  · simpa using hn
  · intro i h1 h2
    rw [e i h1]; simp

theorem CellsAt.but {w w' B C T n g} (h : CellsAt w B T n g) (k : But C w w') (hB : B ≠ C) : CellsAt w' B T n g := (k.block B h.lt hB).trans h
theorem CellsAt.below {w w' B T n g} (h : CellsAt w B T n g) (k : Below w.heap.size w w') : CellsAt w' B T n g := (k.block B h.lt).trans h
theorem CellsAt.below' {w w' B C T n g} (h : CellsAt w B T n g) (k : Below C w w') (hC : B < C) : CellsAt w' B T n g := (k.block B hC).trans h

/-- what lies in a search's block -/
def srch (f : Nat) (s : Pl.DS) (o : Nat) : Value :=
  if o = 0 then .int .i64 f else if o < 13 then .int .i64 (s.cost (o - 1)) else if o < 157 then .bool (s.hops ((o - 13) / 12) ((o - 13) % 12)) else .bool (s.done (o - 157))
theorem srch_from (f s) : srch f s 0 = .int .i64 f := rfl
theorem srch_cost (f s) (i : Nat) (h : i < 12) : srch f s (1 + i) = .int .i64 (s.cost i) := by
  unfold srch; rw [if_neg (by omega), if_pos (by omega)]; congr 2; omega
theorem srch_hops (f s) (i k : Nat) (h : i < 12) (hk : k < 12) : srch f s (13 + i * 12 + k) = .bool (s.hops i k) := by
  unfold srch; rw [if_neg (by omega), if_neg (by omega), if_pos (by omega)]
  rw [show (13 + i * 12 + k - 13) / 12 = i by omega, show (13 + i * 12 + k - 13) % 12 = k by omega]
theorem srch_done (f s) (i : Nat) (h : i < 12) : srch f s (157 + i) = .bool (s.done i) := by
  unfold srch; rw [if_neg (by omega), if_neg (by omega), if_neg (by omega)]; congr 2; omega
theorem srch_setCost (f s) (i : Nat) (hi : i < 12) (c : Int) (o : Nat) : Pl.upd (srch f s) (1 + i) (.int .i64 c) o = srch f ⟨Pl.upd s.cost i c, s.hops, s.done⟩ o := by
  unfold Pl.upd srch
  by_cases h : o = 1 + i
  · subst h; rw [if_pos rfl, if_neg (by omega), if_pos (by omega)]; simp
  · rw [if_neg h]
    by_cases h0 : o = 0
    · simp [h0]
    · rw [if_neg h0, if_neg h0]
      by_cases h1 : o < 13
      · rw [if_pos h1, if_pos h1]; simp only; rw [if_neg (by omega)]
      · rw [if_neg h1, if_neg h1]
theorem srch_setHop (f s) (i k : Nat) (hi : i < 12) (hk : k < 12) (b : Bool) (o : Nat) (ho : o < 169) :
    Pl.upd (srch f s) (13 + i * 12 + k) (.bool b) o = srch f ⟨s.cost, Pl.upd s.hops i (Pl.upd (s.hops i) k b), s.done⟩ o := by
  unfold Pl.upd srch
  by_cases h : o = 13 + i * 12 + k
  · subst h
    rw [if_pos rfl, if_neg (by omega), if_neg (by omega), if_pos (by omega)]
    simp only
    rw [if_pos (by omega), if_pos (by omega)]
  · rw [if_neg h]
    by_cases h0 : o = 0
    · simp [h0]
    · rw [if_neg h0, if_neg h0]
      by_cases h1 : o < 13
      · rw [if_pos h1, if_pos h1]
      · rw [if_neg h1, if_neg h1]
        by_cases h2 : o < 157
        · rw [if_pos h2, if_pos h2]
          simp only
          by_cases h3 : (o - 13) / 12 = i
          · rw [if_pos h3, if_neg (by omega), h3]
          · rw [if_neg h3]
        · rw [if_neg h2, if_neg h2]
theorem srch_setDone (f s) (i : Nat) (hi : i < 12) (b : Bool) (o : Nat) : Pl.upd (srch f s) (157 + i) (.bool b) o = srch f ⟨s.cost, s.hops, Pl.upd s.done i b⟩ o := by
  unfold Pl.upd srch
  by_cases h : o = 157 + i
  · subst h; rw [if_pos rfl, if_neg (by omega), if_neg (by omega), if_neg (by omega)]; simp
  · rw [if_neg h]
    by_cases h0 : o = 0
    · simp [h0]
    · rw [if_neg h0, if_neg h0]
      by_cases h1 : o < 13
      · rw [if_pos h1, if_pos h1]
      · rw [if_neg h1, if_neg h1]
        by_cases h2 : o < 157
        · rw [if_pos h2, if_pos h2]
        · rw [if_neg h2, if_neg h2]; simp only; rw [if_neg (by omega)]

/-- a search lies in block B -/
def SAt (w : World) (B f : Nat) (s : Pl.DS) : Prop := CellsAt w B 77 169 (srch f s)
theorem SAt.from {w B f s} (h : SAt w B f s) : w.cell? ⟨B, 0, none⟩ = some (.int .i64 f) := CellsAt.cell h 0 (by omega)
theorem SAt.cost {w B f s} (h : SAt w B f s) (i : Nat) (hi : i < 12) : w.cell? ⟨B, 1 + i, none⟩ = some (.int .i64 (s.cost i)) := by rw [CellsAt.cell h _ (by omega), srch_cost _ _ _ hi]
theorem SAt.hops {w B f s} (h : SAt w B f s) (i k : Nat) (hi : i < 12) (hk : k < 12) : w.cell? ⟨B, 13 + i * 12 + k, none⟩ = some (.bool (s.hops i k)) := by rw [CellsAt.cell h _ (by omega), srch_hops _ _ _ _ hi hk]
theorem SAt.done {w B f s} (h : SAt w B f s) (i : Nat) (hi : i < 12) : w.cell? ⟨B, 157 + i, none⟩ = some (.bool (s.done i)) := by rw [CellsAt.cell h _ (by omega), srch_done _ _ _ hi]
theorem SAt.setCost {w B f s} (h : SAt w B f s) (i : Nat) (hi : i < 12) (c : Int) : SAt (w.setCell ⟨B, 1 + i, none⟩ (.int .i64 c)) B f ⟨Pl.upd s.cost i c, s.hops, s.done⟩ :=
  (CellsAt.set h (1 + i) _).ext fun o _ => srch_setCost f s i hi c o
theorem SAt.setHop {w B f s} (h : SAt w B f s) (i k : Nat) (hi : i < 12) (hk : k < 12) (b : Bool) : SAt (w.setCell ⟨B, 13 + i * 12 + k, none⟩ (.bool b)) B f ⟨s.cost, Pl.upd s.hops i (Pl.upd (s.hops i) k b), s.done⟩ :=
  (CellsAt.set h _ _).ext fun o ho => srch_setHop f s i k hi hk b o ho
theorem SAt.setDone {w B f s} (h : SAt w B f s) (i : Nat) (hi : i < 12) (b : Bool) : SAt (w.setCell ⟨B, 157 + i, none⟩ (.bool b)) B f ⟨s.cost, s.hops, Pl.upd s.done i b⟩ :=
  (CellsAt.set h _ _).ext fun o _ => srch_setDone f s i hi b o
/-- the hops of one node are cleared -/
theorem SAt.clearHops {w B f s} (h : SAt w B f s) (i : Nat) (hi : i < 12) : SAt (w.setCells B (13 + i * 12) (List.replicate 12 (.bool false))) B f ⟨s.cost, Pl.upd s.hops i (fun _ => false), s.done⟩ := by
  refine (CellsAt.sets _ (13 + i * 12) _ _ h).ext fun o ho => ?_
  simp only [List.length_replicate]
  by_cases h1 : 13 + i * 12 ≤ o ∧ o < 13 + i * 12 + 12
  · rw [if_pos h1]
    unfold srch
    rw [if_neg (by omega), if_neg (by omega), if_pos (by omega)]
    have e : (List.replicate 12 (Value.bool false)).getD (o - (13 + i * 12)) undef = .bool false := by
      rw [List.getD_eq_getElem?_getD, List.getElem?_replicate, if_pos (by omega)]; rfl
    rw [e]
    simp only [Pl.upd]
    rw [if_pos (by omega)]
  · rw [if_neg h1]
    unfold srch
    by_cases h0 : o = 0
    · simp [h0]
    · rw [if_neg h0, if_neg h0]
      by_cases h1 : o < 13
      · rw [if_pos h1, if_pos h1]
      · rw [if_neg h1, if_neg h1]
        by_cases h2 : o < 157
        · rw [if_pos h2, if_pos h2]
          simp only [Pl.upd]
          rw [if_neg (by omega)]
        · rw [if_neg h2, if_neg h2]
end Go.Proofs.YtcdobhdbafpkiacDoor
