/-
  Laws of appending, in the words of this program: a copy of a list of entries; one entry more; one key more.
-/
import Derived.Test.YtceliogdnpfbjaaLay
import Derived.Laws.AppendOwnNone
namespace Go.Proofs.Ytceliogdnpfbjaa
open Go.RowKit

/-- a slice value over a row of texts of the call's own -/
def OwnS (w : World) (base : Nat) (v : Value) (ks : List ByteArray) : Prop := w.ownsRow base 9 1 v ks.length (ks.map Value.string)
theorem infoStr : (Try.prog.info? 9).map (fun i => (i.zero, i.size, i.bytes)) = some (some (.string ⟨#[]⟩), 1, 16) := by kernel_rfl
theorem ownsRow_below {w w' : World} {base : Nat} {e : TypeId} {sz : Nat} {v : Value} {n : Nat} {xs : List Value} (h : w.ownsRow base e sz v n xs) (k : Below w.heap.size w w') : w'.ownsRow base e sz v n xs := by
  obtain ⟨h0, h1⟩ := h
  refine ⟨h0, ?_⟩
  rcases h1 with h1 | ⟨g, cap, cur, rfl, hb, hh, hr⟩
  · exact .inl h1
  · exact .inr ⟨g, cap, cur, rfl, hb, (k.block g (lt_of_block hh)).trans hh, hr⟩
theorem OwnS.below {w w' : World} {base : Nat} {v : Value} {ks : List ByteArray} (h : OwnS w base v ks) (k : Below w.heap.size w w') : OwnS w' base v ks := ownsRow_below h k
theorem OwnS.nil (w : World) (base : Nat) : OwnS w base (.slice none 0 0) [] := World.ownsRow_nil _ _ _ _

theorem append_copy {w : World} {ops : Array Oper} {rest : List Oper} {o : Oper} {a : Act} {Q : Exit → Act → World → Prop} (hgd : o.guard = none) (s x : Operand)
    (ho : o.op = .call { callee := .builtin .append, args := #[s, x], argTypes := #[23, 23] })
    (ao : Option Addr) (len cap : Nat) (es : List Pl.Ent) (hs : a.eval s = .slice none 0 0) (hx : a.eval x = .slice ao len cap) (hE : IsEnts w ao len cap es) (hnil : ao = none → cap = 0) (hb : len * 48 ≤ 140737488351232)
    (h : ∀ v' w', Own w' w.heap.size v' es → Below w.heap.size w w' → wpList Try.prog ops Q rest (a.put o.dst v') w') : wpList Try.prog ops Q (o :: rest) a w := by
  obtain ⟨i0, hi0, hz0, hz1, hz2⟩ := info_parts infoEntry
  obtain ⟨hl, hc, hm, hok, hrow⟩ := hE
  rcases ao with _ | ad
  · obtain rfl := hnil rfl
    obtain rfl : len = 0 := by omega
    obtain rfl : es = [] := List.length_eq_zero_iff.1 hl
    exact wpList_append_own_none hgd s x 23 ho w.heap.size 28 i0 4 Try.underlying23 hi0 _ 0 [] hs (World.ownsRow_nil _ _ _ _) hx (h _ _ (Own.nil _ _) (Below.refl _ _))
  · refine wpList_append_own (w := w) hgd s x 23 ho w.heap.size 28 i0 _ 4 48 Try.underlying23 hi0 hz0 hz1 hz2 rfl (by decide) _ 0 [] hs (World.ownsRow_nil _ _ _ _) ad len cap (cellsL es) hx (by rw [cellsL_len, hl]) ?_ (cellsL_one _) (by unfold maxLen; omega) (by omega) (Nat.le_refl _) ?_
    · intro j u hj
      rcases hrow with rfl | ⟨b, off, hba, _, hr⟩
      · simp [cellsL] at hj
      · cases hba
        rw [add_none]
        exact (rowAt_cells _ _).1 hr j u hj
    · intro v' w' hown hg _
      rw [List.nil_append] at hown
      exact h v' w' (own_of hown rfl) ((Below.refl _ _).grown hg (Nat.le_refl _) (by intro k hk; cases hk))

theorem append_ent {w : World} {ops : Array Oper} {rest : List Oper} {o : Oper} {a : Act} {Q : Exit → Act → World → Prop} (hgd : o.guard = none) (s x : Operand)
    (ho : o.op = .call { callee := .builtin .append, args := #[s, x], argTypes := #[23, 23] })
    (base : Nat) (v : Value) (es : List Pl.Ent) (e : Pl.Ent) (hs : a.eval s = v) (hown : Own w base v es) (hbase : base ≤ w.heap.size) (hx : a.eval x = .slice (some ⟨w.heap.size, 0, none⟩) 1 1) (hb : (es.length + 1) * 48 ≤ 140737488355328)
    (h : ∀ v' w', Own w' base v' (es ++ [e]) → Below base w w' → wpList Try.prog ops Q rest (a.put o.dst v') w') :
    wpList Try.prog ops Q (o :: rest) a (w.alloc (.cells #[.string e.key, .int .i64 e.ver, .int .i64 e.org, .string e.val] 28)) := by
  obtain ⟨i0, hi0, hz0, hz1, hz2⟩ := info_parts infoEntry
  refine wpList_append_own (w := _) hgd s x 23 ho base 28 i0 _ 4 48 Try.underlying23 hi0 hz0 hz1 hz2 rfl (by decide) _ es.length (cellsL es) hs (World.ownsRow.alloc hown _) ⟨w.heap.size, 0, none⟩ 1 1 (cellsE e) hx rfl ?_ ?_ (by unfold maxLen; omega) hb (by simp; omega) ?_
  · intro j u hj
    rw [add_none]; exact new4 w hj
  · show ∀ u ∈ cellsE e, _
    have := cellsL_one [e]
    simpa [cellsL] using this
  · intro v' w' hown' hg _
    have hlt := World.ownsRow.lt hown
    exact h v' w' (own_of hown' (by rw [cellsL_append]; simp [cellsL])) (((Below.refl _ _).alloc hbase _).grown hg (by simp; omega) (fun k hk => (hlt k hk).1))

theorem append_ent_d {w : World} {q : Nat} {ops : Array Oper} {rest : List Oper} {o : Oper} {a : Act} {Q : Exit → Act → World → Prop} (hgd : o.guard = none) (s x : Operand)
    (ho : o.op = .call { callee := .builtin .append, args := #[s, x], argTypes := #[23, 23] })
    (base : Nat) (v : Value) (es : List Pl.Ent) (e : Pl.Ent) (hs : a.eval s = v) (hown : Own w base v es) (hbase : base ≤ w.heap.size) (hx : a.eval x = .slice (some ⟨w.heap.size, 0, none⟩) 1 1) (hb : (es.length + 1) * 48 ≤ 140737488355328)
    (h : ∀ v' w', Own w' base v' (es ++ [e]) → Below base w w' → wpList Try.prog ops Q rest (a.put o.dst v') w') :
    wpList Try.prog ops Q (o :: rest) a ((w.alloc (.cells #[.string e.key, .int .i64 e.ver, .int .i64 e.org, .string e.val] 28)).drewN q) :=
  append_ent (w := w.drewN q) hgd s x ho base v es e hs hown hbase hx hb (fun v' w' h1 h2 => h v' w' h1 ((below_drewN (Below.refl base w) q).trans h2))
theorem append_key {w : World} {ops : Array Oper} {rest : List Oper} {o : Oper} {a : Act} {Q : Exit → Act → World → Prop} (hgd : o.guard = none) (s x : Operand)
    (ho : o.op = .call { callee := .builtin .append, args := #[s, x], argTypes := #[34, 34] })
    (base : Nat) (v : Value) (ks : List ByteArray) (key : ByteArray) (hs : a.eval s = v) (hown : OwnS w base v ks) (hbase : base ≤ w.heap.size) (hx : a.eval x = .slice (some ⟨w.heap.size, 0, none⟩) 1 1) (hb : (ks.length + 1) * 16 ≤ 140737488355328)
    (h : ∀ v' w', OwnS w' base v' (ks ++ [key]) → (w.alloc (.cells #[.string key] 9)).grownBy w' v.ownBlock → Below base w w' → wpList Try.prog ops Q rest (a.put o.dst v') w') :
    wpList Try.prog ops Q (o :: rest) a (w.alloc (.cells #[.string key] 9)) := by
  obtain ⟨i0, hi0, hz0, hz1, hz2⟩ := info_parts infoStr
  refine wpList_append_own (w := _) hgd s x 34 ho base 9 i0 _ 1 16 Try.underlying34 hi0 hz0 hz1 hz2 rfl (by decide) _ ks.length (ks.map Value.string) hs (World.ownsRow.alloc hown _) ⟨w.heap.size, 0, none⟩ 1 1 [.string key] hx rfl ?_ ?_ (by unfold maxLen; omega) hb (by simp; omega) ?_
  · intro j u hj
    match j, hj with
    | 0, hj => simp at hj; subst hj; rw [add_none]; simp
  · intro u hu; simp at hu; subst hu; rfl
  · intro v' w' hown' hg _
    have hlt := World.ownsRow.lt hown
    refine h v' w' ?_ hg (((Below.refl _ _).alloc hbase _).grown hg (by simp; omega) (fun k hk => (hlt k hk).1))
    unfold OwnS
    simpa using hown'
theorem append_key_d {w : World} {q : Nat} {ops : Array Oper} {rest : List Oper} {o : Oper} {a : Act} {Q : Exit → Act → World → Prop} (hgd : o.guard = none) (s x : Operand)
    (ho : o.op = .call { callee := .builtin .append, args := #[s, x], argTypes := #[34, 34] })
    (base : Nat) (v : Value) (ks : List ByteArray) (key : ByteArray) (hs : a.eval s = v) (hown : OwnS w base v ks) (hbase : base ≤ w.heap.size) (hx : a.eval x = .slice (some ⟨w.heap.size, 0, none⟩) 1 1) (hb : (ks.length + 1) * 16 ≤ 140737488355328)
    (h : ∀ v' w', OwnS w' base v' (ks ++ [key]) → (w.alloc (.cells #[.string key] 9)).grownBy w' v.ownBlock → Below base w w' → wpList Try.prog ops Q rest (a.put o.dst v') w') :
    wpList Try.prog ops Q (o :: rest) a ((w.alloc (.cells #[.string key] 9)).drewN q) :=
  append_key (w := w.drewN q) hgd s x ho base v ks key hs hown hbase hx hb (fun v' w' h1 h2 h3 => h v' w' h1 ⟨h2.os, h2.tape, h2.output, h2.size, h2.block⟩ ((below_drewN (Below.refl base w) q).trans h3))

theorem Own.kept {w w' : World} {base : Nat} {v : Value} {es : List Pl.Ent} {row : Option Nat} (h : Own w base v es) (hg : w.grownBy w' row) (hne : v.ownBlock = none ∨ v.ownBlock ≠ row) : Own w' base v es := World.ownsRow.kept h hg hne
end Go.Proofs.Ytceliogdnpfbjaa
