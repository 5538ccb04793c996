/-
  Laws of appending entries: a copy of a list; one entry more.
-/
import Derived.Test.YtcdobhdbafpkiadDoorOwn
import Derived.Laws.AppendOwnNone
namespace Go.Proofs.YtcdobhdbafpkiadDoor
open Go.RowKit
set_option maxRecDepth 20000

theorem append_copy {w : World} {ops : Array Oper} {rest : List Oper} {o : Oper} {a : Act} {Q : Exit → Act → World → Prop} (hgd : o.guard = none) (s x : Operand)
    (ho : o.op = .call { callee := .builtin .append, args := #[s, x], argTypes := #[45, 45] })
    (ao : Option Addr) (len cap : Nat) (es : List Pl.Ent) (hs : a.eval s = .slice none 0 0) (hx : a.eval x = .slice ao len cap) (hE : IsEnts w ao len cap es) (hnil : ao = none → cap = 0) (hb : len * 48 ≤ 140737488351232)
    (h : ∀ v' w', Own w' w.heap.size v' es → Below w.heap.size w w' → wpList Tryd.prog ops Q rest (a.put o.dst v') w') : wpList Tryd.prog ops Q (o :: rest) a w := by
  obtain ⟨i0, hi0, hz0, hz1, hz2⟩ := info_parts infoEntry
  obtain ⟨hl, hc, hm, hok, hrow⟩ := hE
  rcases ao with _ | ad
  · obtain rfl := hnil rfl
    obtain rfl : len = 0 := by omega
    obtain rfl : es = [] := List.length_eq_zero_iff.1 hl
    exact wpList_append_own_none hgd s x 45 ho w.heap.size 64 i0 4 Tryd.underlying45 hi0 _ 0 [] hs (World.ownsRow_nil _ _ _ _) hx (h _ _ (Own.nil _ _) (Below.refl _ _))
  · refine wpList_append_own (w := w) hgd s x 45 ho w.heap.size 64 i0 _ 4 48 Tryd.underlying45 hi0 hz0 hz1 hz2 rfl (by decide) _ 0 [] hs (World.ownsRow_nil _ _ _ _) ad len cap (cellsL es) hx (by rw [cellsL_len, hl]) ?_ (cellsL_one _) (by unfold maxLen; omega) (by omega) (Nat.le_refl _) ?_
    · intro j u hj
      rcases hrow with rfl | ⟨b, off, hba, _, hr⟩
      · simp [cellsL] at hj
      · cases hba
        rw [add_none]
        exact (rowAt_cells _ _).1 hr j u hj
    · intro v' w' hown hg _
      rw [List.nil_append] at hown
      exact h v' w' (own_of hown rfl) ((Below.refl _ _).grown hg (Nat.le_refl _) (by intro k hk; cases hk))

theorem append_ent {w : World} {ops : Array Oper} {rest : List Oper} {o : Oper} {a : Act} {Q : Exit → Act → World → Prop} (hgd : o.guard = none) (s x : Operand)
    (ho : o.op = .call { callee := .builtin .append, args := #[s, x], argTypes := #[45, 45] })
    (base : Nat) (v : Value) (es : List Pl.Ent) (e : Pl.Ent) (hs : a.eval s = v) (hown : Own w base v es) (hbase : base ≤ w.heap.size) (hx : a.eval x = .slice (some ⟨w.heap.size, 0, none⟩) 1 1) (hb : (es.length + 1) * 48 ≤ 140737488355328)
    (h : ∀ v' w', Own w' base v' (es ++ [e]) → Below base w w' → wpList Tryd.prog ops Q rest (a.put o.dst v') w') :
    wpList Tryd.prog ops Q (o :: rest) a (w.alloc (.cells #[.string e.key, .int .i64 e.ver, .int .i64 e.org, .string e.val] 64)) := by
  obtain ⟨i0, hi0, hz0, hz1, hz2⟩ := info_parts infoEntry
  refine wpList_append_own (w := _) hgd s x 45 ho base 64 i0 _ 4 48 Tryd.underlying45 hi0 hz0 hz1 hz2 rfl (by decide) _ es.length (cellsL es) hs (World.ownsRow.alloc hown _) ⟨w.heap.size, 0, none⟩ 1 1 (cellsE e) hx rfl ?_ ?_ (by unfold maxLen; omega) hb (by simp; omega) ?_
  · intro j u hj
    rw [add_none]; exact new4 w hj
  · show ∀ u ∈ cellsE e, _
    have := cellsL_one [e]
    simpa [cellsL] using this
  · intro v' w' hown' hg _
    have hlt := World.ownsRow.lt hown
    exact h v' w' (own_of hown' (by rw [cellsL_append]; simp [cellsL])) (((Below.refl _ _).alloc hbase _).grown hg (by simp; omega) (fun k hk => (hlt k hk).1))

theorem append_ent_d {w : World} {q : Nat} {ops : Array Oper} {rest : List Oper} {o : Oper} {a : Act} {Q : Exit → Act → World → Prop} (hgd : o.guard = none) (s x : Operand)
    (ho : o.op = .call { callee := .builtin .append, args := #[s, x], argTypes := #[45, 45] })
    (base : Nat) (v : Value) (es : List Pl.Ent) (e : Pl.Ent) (hs : a.eval s = v) (hown : Own w base v es) (hbase : base ≤ w.heap.size) (hx : a.eval x = .slice (some ⟨w.heap.size, 0, none⟩) 1 1) (hb : (es.length + 1) * 48 ≤ 140737488355328)
    (h : ∀ v' w', Own w' base v' (es ++ [e]) → Below base w w' → wpList Tryd.prog ops Q rest (a.put o.dst v') w') :
    wpList Tryd.prog ops Q (o :: rest) a ((w.alloc (.cells #[.string e.key, .int .i64 e.ver, .int .i64 e.org, .string e.val] 64)).drewN q) :=
  append_ent (w := w.drewN q) hgd s x ho base v es e hs hown hbase hx hb (fun v' w' h1 h2 => h v' w' h1 ((below_drewN (Below.refl base w) q).trans h2))
theorem Own.kept {w w' : World} {base : Nat} {v : Value} {es : List Pl.Ent} {row : Option Nat} (h : Own w base v es) (hg : w.grownBy w' row) (hne : v.ownBlock = none ∨ v.ownBlock ≠ row) : Own w' base v es := World.ownsRow.kept h hg hne
end Go.Proofs.YtcdobhdbafpkiadDoor
