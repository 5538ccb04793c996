/-
  Rows of pairs, and of texts, that a call itself has made: what they hold, and how one more is appended.
-/
import Derived.Test.YtcdobhdbafpkiadDoorPair
import Derived.Laws.AppendOwnNone
import Derived.OwnWalk
namespace Go.Proofs.YtcdobhdbafpkiadDoor
open Go.RowKit
set_option maxRecDepth 20000

def cellsP : List (Int × Int) → List Value
  | [] => []
  | p :: r => .int .i64 p.1 :: .int .i64 p.2 :: cellsP r
theorem cellsP_len : ∀ ps : List (Int × Int), (cellsP ps).length = ps.length * 2
  | [] => rfl
  | p :: r => by simp [cellsP, cellsP_len r]; omega
theorem cellsP_append : ∀ (a b : List (Int × Int)), cellsP (a ++ b) = cellsP a ++ cellsP b
  | [], _ => rfl
  | p :: r, b => by simp [cellsP, cellsP_append r b]
theorem cellsP_one : ∀ ps : List (Int × Int), ∀ u ∈ cellsP ps, u.oneCell' = true
  | [], u, h => by simp [cellsP] at h
  | p :: r, u, h => by
    simp only [cellsP, List.mem_cons] at h
    rcases h with rfl | rfl | h
    · rfl
    · rfl
    · exact cellsP_one r u h
theorem cellsP_get : ∀ (ps : List (Int × Int)) (i : Nat), i < ps.length → (cellsP ps)[i * 2]? = some (.int .i64 (Pl.pr ps i).1) ∧ (cellsP ps)[i * 2 + 1]? = some (.int .i64 (Pl.pr ps i).2)
  | [], i, h => by simp at h
  | p :: r, 0, _ => by simp [cellsP, Pl.pr]
  | p :: r, i + 1, h => by
    have := cellsP_get r i (by simpa using h)
    rw [show (i + 1) * 2 = i * 2 + 2 by omega]
    simpa [cellsP, Pl.pr] using this

theorem blockLt {w : World} {g : Nat} {o : Obj} (h : w.heap[g]? = some o) : g < w.heap.size := by
  rcases Nat.lt_or_ge g w.heap.size with h' | h'
  · exact h'
  · rw [Array.getElem?_eq_none h'] at h; cases h

/-- a slice value over a row of pairs of the call's own; T: the pairs' type -/
def OwnP (T : TypeId) (w : World) (base : Nat) (v : Value) (ps : List (Int × Int)) : Prop := w.ownsRow base T 2 v ps.length (cellsP ps)
theorem ownsRow_under {w w' : World} {base : Nat} {e : TypeId} {sz : Nat} {v : Value} {n : Nat} {xs : List Value} (h : w.ownsRow base e sz v n xs) (k : Below w.heap.size w w') : w'.ownsRow base e sz v n xs := by
  obtain ⟨h0, h1⟩ := h
  refine ⟨h0, ?_⟩
  rcases h1 with h1 | ⟨g, cap, cur, rfl, hb, hh, hr⟩
  · exact .inl h1
  · exact .inr ⟨g, cap, cur, rfl, hb, (k.block g (blockLt hh)).trans hh, hr⟩
theorem OwnP.below {T : TypeId} {w w' : World} {base : Nat} {v : Value} {ps : List (Int × Int)} (h : OwnP T w base v ps) (k : Below w.heap.size w w') : OwnP T w' base v ps := ownsRow_under h k
theorem OwnP.nil (T : TypeId) (w : World) (base : Nat) : OwnP T w base (.slice none 0 0) [] := World.ownsRow_nil _ _ _ _
theorem OwnP.mono {T : TypeId} {w : World} {base base' : Nat} {v : Value} {ps : List (Int × Int)} (h : OwnP T w base v ps) (k : base' ≤ base) : OwnP T w base' v ps := by
  obtain ⟨h0, h1⟩ := h
  refine ⟨h0, ?_⟩
  rcases h1 with h1 | ⟨g, cap, cur, rfl, hb, hr⟩
  · exact .inl h1
  · exact .inr ⟨g, cap, cur, rfl, by omega, hr⟩
theorem OwnP.shape {T : TypeId} {w : World} {base : Nat} {v : Value} {ps : List (Int × Int)} (h : OwnP T w base v ps) (hok : ∀ p ∈ ps, Pl.pairOk p) :
    ∃ a cap, v = .slice a ps.length cap ∧ IsPairs w a ps.length cap ps ∧ (a = none → cap = 0) ∧ (∀ x, a = some x → base ≤ x.block) := by
  obtain ⟨_, h | ⟨g, cap, cur, rfl, hb, hh, hn, hm, hs, hx⟩⟩ := h
  · obtain ⟨rfl, hn⟩ := h
    have hes : ps = [] := List.length_eq_zero_iff.1 hn
    subst hes
    exact ⟨none, 0, rfl, ⟨rfl, Nat.le_refl _, by simp, hok, .inl rfl⟩, fun _ => rfl, by simp⟩
  · refine ⟨some ⟨g, 0, none⟩, cap, rfl, ⟨rfl, hn, hm, hok, ?_⟩, by simp, by rintro x ⟨⟩; exact hb⟩
    rcases ps with _ | ⟨e, r⟩
    · exact .inl rfl
    · right
      refine ⟨g, 0, rfl, blockLt hh, ?_⟩
      have hcell : ∀ j u, (cellsP (e :: r))[j]? = some u → w.cell? ⟨g, 0 + j, none⟩ = some u := by
        intro j u hj
        rw [← hx] at hj
        have hj' : cur[j]? = some u := by
          rw [List.getElem?_take] at hj
          split at hj
          · rw [← Array.getElem?_toList]; exact hj
          · cases hj
        simp [World.cell?, hh, hj']
      intro i hi
      obtain ⟨h0, h1⟩ := cellsP_get _ i hi
      have c0 := hcell _ _ h0
      have c1 := hcell _ _ h1
      exact ⟨c0, by rw [Nat.add_assoc]; exact c1⟩
theorem OwnP.slice {T : TypeId} {w : World} {base : Nat} {v : Value} {ps : List (Int × Int)} (h : OwnP T w base v ps) : ∃ a n cap, v = .slice a n cap := by
  obtain ⟨_, h | ⟨g, cap, cur, rfl, _⟩⟩ := h
  · exact ⟨_, _, _, h.1⟩
  · exact ⟨_, _, _, rfl⟩
theorem partsOf {t : TypeId} {z : Value} {n m : Nat} (h : (Tryd.prog.info? t).map (fun i => (i.zero, i.size, i.bytes)) = some (some z, n, m)) : ∃ i, Tryd.prog.info? t = some i ∧ i.zero = some z ∧ i.size = n ∧ i.bytes = m := by
  cases hi : Tryd.prog.info? t with
  | none => rw [hi] at h; cases h
  | some i => rw [hi] at h; simp at h; exact ⟨i, rfl, h.1, h.2.1, h.2.2⟩

theorem append_pairT {tS tE : TypeId} (hS : Tryd.prog.underlying tS = some (.slice tE)) (hI : (Tryd.prog.info? tE).map (fun i => (i.zero, i.size, i.bytes)) = some (some (.agg #[.int .i64 0, .int .i64 0]), 2, 16))
    {w : World} {ops : Array Oper} {rest : List Oper} {o : Oper} {a : Act} {Q : Exit → Act → World → Prop} (hgd : o.guard = none) (s x : Operand)
    (ho : o.op = .call { callee := .builtin .append, args := #[s, x], argTypes := #[tS, tS] })
    (base : Nat) (v : Value) (ps : List (Int × Int)) (p : Int × Int) (hs : a.eval s = v) (hown : OwnP tE w base v ps) (hbase : base ≤ w.heap.size) (hx : a.eval x = .slice (some ⟨w.heap.size, 0, none⟩) 1 1) (hb : (ps.length + 1) * 16 ≤ 140737488355328)
    (h : ∀ v' w', OwnP tE w' base v' (ps ++ [p]) → Below base w w' → (w.alloc (.cells #[.int .i64 p.1, .int .i64 p.2] tE)).grownBy w' v.ownBlock → wpList Tryd.prog ops Q rest (a.put o.dst v') w') :
    wpList Tryd.prog ops Q (o :: rest) a (w.alloc (.cells #[.int .i64 p.1, .int .i64 p.2] tE)) := by
  obtain ⟨i0, hi0, hz0, hz1, hz2⟩ := partsOf hI
  refine wpList_append_own (w := _) hgd s x tS ho base tE i0 _ 2 16 hS hi0 hz0 hz1 hz2 rfl (by decide) _ ps.length (cellsP ps) hs (World.ownsRow.alloc hown _) ⟨w.heap.size, 0, none⟩ 1 1 [.int .i64 p.1, .int .i64 p.2] hx rfl ?_ ?_ (by unfold maxLen; omega) hb (by simp; omega) ?_
  · intro j u hj
    rw [add_none]
    match j, hj with
    | 0, hj => simp at hj; subst hj; simp
    | 1, hj => simp at hj; subst hj; simp
  · intro u hu; simp at hu; rcases hu with rfl | rfl <;> rfl
  · intro v' w' hown' hg _
    have hlt := World.ownsRow.lt hown
    refine h v' w' ?_ (((Below.refl _ _).alloc hbase _).grown hg (by simp; omega) (fun k hk => (hlt k hk).1)) hg
    unfold OwnP
    rw [cellsP_append]
    simpa [cellsP] using hown'
end Go.Proofs.YtcdobhdbafpkiadDoor
