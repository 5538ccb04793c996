/-
  Rows of routes: one laid over a part of another (copy), and slices.Insert of one route.
-/
import Derived.Test.YtcdobhdbafpkiaeRib10
import Derived.Laws.CopyRow
import Derived.Laws.Externs
import Derived.Lib.Overlaps
import Derived.Lib.AppendZerosOnto
import Derived.Deep.RegionLaw
namespace Go.Proofs.Ytcdobhdbafpkiae
open Go.RowKit

/-- what a row holds where some cells are laid over it from a place on -/
def laid (L : List Value) (o : Nat) (cs : List Value) : List Value := L.take o ++ cs ++ L.drop (o + cs.length)
theorem laid_len (L : List Value) (o : Nat) (cs : List Value) (h : o + cs.length ≤ L.length) : (laid L o cs).length = L.length := by simp [laid]; omega

theorem run_copyR (w : World) (ty : TypeId) (g o dLen dCap : Nat) (ad : Addr) (sLen sCap : Nat) (L cs : List Value) (hg : w.heap[g]? = some (.cells L.toArray 30 (0, 0))) (hn : cs.length = Nat.min sLen dLen * 5)
    (hsrc : ∀ j v, cs[j]? = some v → w.cell? (ad.add j) = some v) (hfit : o + cs.length ≤ L.length) (h1 : ∀ v ∈ cs, v.oneCell' = true) :
    (Builtin.copy_ #[22, 22] ty #[.slice (some ⟨g, o, none⟩) dLen dCap, .slice (some ad) sLen sCap]).run Try.prog w = .ok (goInt (Nat.min sLen dLen)) (w.setRow g (laid L o cs).toArray) := by
  obtain ⟨i0, hi0, hz0, hz1, hz2⟩ := partsOf infoRoute
  have hl := run_loadCells_list (P := Try.prog) w ad cs hsrc
  have hst := run_storeCells_at Try.prog g o 30 cs 0 L.toArray w hg (by simpa using hfit) h1
  simp only [Nat.add_zero] at hst
  simp [Builtin.copy_, run_underlying Try.underlying22, Builtin.lenOf, Builtin.firstCells, sizeOf, typeInfo, hi0, hz1, ← hn, hl, hst, laid]
theorem But.row (w : World) (g : Nat) (cs : Array Value) : But g w (w.setRow g cs) := ⟨rfl, rfl, rfl, by simp [World.setRow], fun k _ hk => setRow_other w g k cs hk⟩

theorem wpList_copyR {w : World} {ops : Array Oper} {rest : List Oper} {o : Oper} {a : Act} {Q : Exit → Act → World → Prop} (hgd : o.guard = none) (d s : Operand)
    (ho : o.op = .call { callee := .builtin .copy, args := #[d, s], argTypes := #[22, 22] })
    (g off dLen dCap : Nat) (ad : Addr) (sLen sCap : Nat) (hd : a.eval d = .slice (some ⟨g, off, none⟩) dLen dCap) (hs : a.eval s = .slice (some ad) sLen sCap) (L cs : List Value) (hg : w.heap[g]? = some (.cells L.toArray 30 (0, 0))) (hn : cs.length = Nat.min sLen dLen * 5)
    (hsrc : ∀ j v, cs[j]? = some v → w.cell? (ad.add j) = some v) (hfit : off + cs.length ≤ L.length) (h1 : ∀ v ∈ cs, v.oneCell' = true)
    (h : ∀ w' v', w'.heap[g]? = some (.cells (laid L off cs).toArray 30 (0, 0)) → But g w w' → wpList Try.prog ops Q rest (a.put o.dst v') w') : wpList Try.prog ops Q (o :: rest) a w := by
  refine wpList_plain hgd fun K hK => ?_
  have hrun := run_copyR w o.type g off dLen dCap ad sLen sCap L cs hg hn hsrc hfit h1
  unfold Oper.wp
  simp [execOp, ho, resolve, invoke, builtin, hd, hs, hrun, Result.andThen]
  exact hK _ _ (h _ _ (setRow_heap w g _ _ _ _ hg) (But.row w g _))
theorem step_copyR {w : World} {ops : Array Oper} {o : Oper} {a : Act} {K : Act → World → Prop} {Q : Exit → Act → World → Prop} {E : Prop} (hgd : o.guard = none) (d s : Operand)
    (ho : o.op = .call { callee := .builtin .copy, args := #[d, s], argTypes := #[22, 22] })
    (g off dLen dCap : Nat) (ad : Addr) (sLen sCap : Nat) (hd : a.eval d = .slice (some ⟨g, off, none⟩) dLen dCap) (hs : a.eval s = .slice (some ad) sLen sCap) (L cs : List Value) (hg : w.heap[g]? = some (.cells L.toArray 30 (0, 0))) (hn : cs.length = Nat.min sLen dLen * 5)
    (hsrc : ∀ j v, cs[j]? = some v → w.cell? (ad.add j) = some v) (hfit : off + cs.length ≤ L.length) (h1 : ∀ v ∈ cs, v.oneCell' = true)
    (h : ∀ w' v', w'.heap[g]? = some (.cells (laid L off cs).toArray 30 (0, 0)) → But g w w' → K (a.put o.dst v') w') : if Region.wanted o (yielded ops a.tmps) = true then Oper.wp Try.prog o a w K Q else E := by
  have hw : Region.wanted o (yielded ops a.tmps) = true := by simp [Region.wanted, hgd]
  rw [if_pos hw]
  have hrun := run_copyR w o.type g off dLen dCap ad sLen sCap L cs hg hn hsrc hfit h1
  unfold Oper.wp
  simp [execOp, ho, resolve, invoke, builtin, hd, hs, hrun, Result.andThen]
  exact h _ _ (setRow_heap w g _ _ _ _ hg) (But.row w g _)

theorem But.grown {g : Nat} {w w' : World} (h : But g w w') : w.grownBy w' (some g) := ⟨h.os, h.tape, h.output, h.size, fun k hk hne => h.block k hk (by intro e; exact hne (by rw [e]))⟩
theorem grown_below {row : Option Nat} {w w' : World} (h : Below w.heap.size w w') : w.grownBy w' row := ⟨h.os, h.tape, h.output, h.size, fun k hk _ => h.block k hk⟩
theorem grown_trans {row : Option Nat} {a b c : World} (h : a.grownBy b row) (k : b.grownBy c row) : a.grownBy c row :=
  ⟨k.os.trans h.os, k.tape.trans h.tape, k.output.trans h.output, Nat.le_trans h.size k.size, fun i hi hne => (k.block i (Nat.lt_of_lt_of_le hi h.size) hne).trans (h.block i hi hne)⟩
theorem below_of_grown {B : Nat} {row : Option Nat} {w w' : World} (h : w.grownBy w' row) (hB : B ≤ w.heap.size) (hr : ∀ k, row = some k → B ≤ k) : Below B w w' := (Below.refl _ _).grown h hB hr

/-- a row that is known whole is a row of one's own -/
theorem ownR_row {w : World} {base g n cap : Nat} {L : List Value} {hs : List Pl.RH} (hb : base ≤ g) (hg : w.heap[g]? = some (.cells L.toArray 30 (0, 0))) (hn : hs.length = n) (hc : n ≤ cap) (hm : cap ≤ maxLen) (hs' : L.length = cap * 5) (hx : L.take (n * 5) = cellsR hs) : OwnR w base (.slice (some ⟨g, 0, none⟩) n cap) hs := by
  subst hn
  exact ⟨cellsR_len hs, .inr ⟨g, cap, L.toArray, rfl, hb, hg, hc, hm, by simpa using hs', by simpa using hx⟩⟩
theorem OwnR.row {w : World} {base : Nat} {v : Value} {hs : List Pl.RH} (h : OwnR w base v hs) (hne : 0 < hs.length) :
    ∃ g cap L, v = .slice (some ⟨g, 0, none⟩) hs.length cap ∧ base ≤ g ∧ w.heap[g]? = some (.cells (List.toArray L) 30 (0, 0)) ∧ hs.length ≤ cap ∧ cap ≤ maxLen ∧ L.length = cap * 5 ∧ L.take (hs.length * 5) = cellsR hs := by
  obtain ⟨_, h | ⟨g, cap, cur, rfl, hb, hh, hn, hm, hs', hx⟩⟩ := h
  · omega
  · exact ⟨g, cap, cur.toList, rfl, hb, by simpa using hh, hn, hm, by simpa using hs', hx⟩
theorem row_cell {w : World} {g : Nat} {L : List Value} {T : TypeId} (hg : w.heap[g]? = some (.cells L.toArray T (0, 0))) {j : Nat} {u : Value} (h : L[j]? = some u) : w.cell? ⟨g, j, none⟩ = some u := by
  simp [World.cell?, hg, h]
theorem laid_twice (L A B X : List Value) (n i : Nat) (hA : A.length = i * 5) (hB : B.length = (n - i) * 5) (hX : X.length = 5) (hi : i < n) (hL : (n + 1) * 5 ≤ L.length) (h : L.take (n * 5) = A ++ B) :
    (laid (laid L ((i + 1) * 5) B) (i * 5) X).take ((n + 1) * 5) = A ++ (X ++ B) := by
  have hAL : L.take (i * 5) = A := by
    have : L.take (i * 5) = (L.take (n * 5)).take (i * 5) := by rw [List.take_take]; congr 1; omega
    rw [this, h, List.take_append_of_le_length (by omega), List.take_of_length_le (by omega)]
  have h1 : (laid L ((i + 1) * 5) B).take (i * 5) = A := by
    unfold laid
    rw [List.append_assoc, List.take_append_of_le_length (by simp; omega), List.take_take, show min (i * 5) ((i + 1) * 5) = i * 5 by omega, hAL]
  have h2 : (laid L ((i + 1) * 5) B).drop (i * 5 + X.length) = B ++ L.drop ((i + 1) * 5 + B.length) := by
    unfold laid
    rw [List.append_assoc, show i * 5 + X.length = (L.take ((i + 1) * 5)).length by simp; omega, List.drop_left]
  rw [show laid (laid L ((i + 1) * 5) B) (i * 5) X = (laid L ((i + 1) * 5) B).take (i * 5) ++ X ++ (laid L ((i + 1) * 5) B).drop (i * 5 + X.length) from rfl, h1, h2]
  rw [show A ++ X ++ (B ++ L.drop ((i + 1) * 5 + B.length)) = (A ++ (X ++ B)) ++ L.drop ((i + 1) * 5 + B.length) by simp, List.take_append_of_le_length (by simp; omega), List.take_of_length_le (by simp; omega)]
theorem laid_new (Z A B X : List Value) (n i : Nat) (hA : A.length = i * 5) (hB : B.length = (n - i) * 5) (hX : X.length = 5) (hi : i < n) :
    (laid (laid (A ++ Z) (i * 5) X) ((i + 1) * 5) B).take ((n + 1) * 5) = A ++ (X ++ B) := by
  have h1 : laid (A ++ Z) (i * 5) X = A ++ X ++ Z.drop 5 := by
    unfold laid
    rw [List.take_append_of_le_length (by omega), List.take_of_length_le (by omega), show i * 5 + X.length = A.length + 5 by omega, List.drop_append]
    simp
  rw [h1]
  unfold laid
  rw [show (i + 1) * 5 = (A ++ X).length by simp; omega, List.take_left, show A ++ X ++ B ++ (A ++ X ++ Z.drop 5).drop ((A ++ X).length + B.length) = (A ++ (X ++ B)) ++ (A ++ X ++ Z.drop 5).drop ((A ++ X).length + B.length) by simp, List.take_append_of_le_length (by simp; omega), List.take_of_length_le (by simp; omega)]
end Go.Proofs.Ytcdobhdbafpkiae
