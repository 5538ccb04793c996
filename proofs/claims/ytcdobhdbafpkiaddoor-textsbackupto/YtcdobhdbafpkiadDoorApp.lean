/-
  Laws of appending keys to a row of texts.
-/
import Derived.Test.YtcdobhdbafpkiadDoorLay
import Derived.Test.YtcdobhdbafpkiadDoorAppE
namespace Go.Proofs.YtcdobhdbafpkiadDoor
open Go.RowKit
set_option maxRecDepth 20000

/-- a slice value over a row of texts of the call's own -/
def OwnS (w : World) (base : Nat) (v : Value) (ks : List ByteArray) : Prop := w.ownsRow base 9 1 v ks.length (ks.map Value.string)
theorem infoStr : (Tryd.prog.info? 9).map (fun i => (i.zero, i.size, i.bytes)) = some (some (.string ⟨#[]⟩), 1, 16) := by kernel_rfl
theorem ownsRow_below {w w' : World} {base : Nat} {e : TypeId} {sz : Nat} {v : Value} {n : Nat} {xs : List Value} (h : w.ownsRow base e sz v n xs) (k : Below w.heap.size w w') : w'.ownsRow base e sz v n xs := by
  obtain ⟨h0, h1⟩ := h
  refine ⟨h0, ?_⟩
  rcases h1 with h1 | ⟨g, cap, cur, rfl, hb, hh, hr⟩
  · exact .inl h1
  · exact .inr ⟨g, cap, cur, rfl, hb, (k.block g (lt_of_block hh)).trans hh, hr⟩
theorem OwnS.below {w w' : World} {base : Nat} {v : Value} {ks : List ByteArray} (h : OwnS w base v ks) (k : Below w.heap.size w w') : OwnS w' base v ks := ownsRow_below h k
theorem OwnS.nil (w : World) (base : Nat) : OwnS w base (.slice none 0 0) [] := World.ownsRow_nil _ _ _ _

theorem append_key {w : World} {ops : Array Oper} {rest : List Oper} {o : Oper} {a : Act} {Q : Exit → Act → World → Prop} (hgd : o.guard = none) (s x : Operand)
    (ho : o.op = .call { callee := .builtin .append, args := #[s, x], argTypes := #[79, 79] })
    (base : Nat) (v : Value) (ks : List ByteArray) (key : ByteArray) (hs : a.eval s = v) (hown : OwnS w base v ks) (hbase : base ≤ w.heap.size) (hx : a.eval x = .slice (some ⟨w.heap.size, 0, none⟩) 1 1) (hb : (ks.length + 1) * 16 ≤ 140737488355328)
    (h : ∀ v' w', OwnS w' base v' (ks ++ [key]) → (w.alloc (.cells #[.string key] 9)).grownBy w' v.ownBlock → Below base w w' → wpList Tryd.prog ops Q rest (a.put o.dst v') w') :
    wpList Tryd.prog ops Q (o :: rest) a (w.alloc (.cells #[.string key] 9)) := by
  obtain ⟨i0, hi0, hz0, hz1, hz2⟩ := info_parts infoStr
  refine wpList_append_own (w := _) hgd s x 79 ho base 9 i0 _ 1 16 Tryd.underlying79 hi0 hz0 hz1 hz2 rfl (by decide) _ ks.length (ks.map Value.string) hs (World.ownsRow.alloc hown _) ⟨w.heap.size, 0, none⟩ 1 1 [.string key] hx rfl ?_ ?_ (by unfold maxLen; omega) hb (by simp; omega) ?_
  · intro j u hj
    match j, hj with
    | 0, hj => simp at hj; subst hj; rw [add_none]; simp
  · intro u hu; simp at hu; subst hu; rfl
  · intro v' w' hown' hg _
    have hlt := World.ownsRow.lt hown
    refine h v' w' ?_ hg (((Below.refl _ _).alloc hbase _).grown hg (by simp; omega) (fun k hk => (hlt k hk).1))
    unfold OwnS
    simpa using hown'
theorem append_key_d {w : World} {q : Nat} {ops : Array Oper} {rest : List Oper} {o : Oper} {a : Act} {Q : Exit → Act → World → Prop} (hgd : o.guard = none) (s x : Operand)
    (ho : o.op = .call { callee := .builtin .append, args := #[s, x], argTypes := #[79, 79] })
    (base : Nat) (v : Value) (ks : List ByteArray) (key : ByteArray) (hs : a.eval s = v) (hown : OwnS w base v ks) (hbase : base ≤ w.heap.size) (hx : a.eval x = .slice (some ⟨w.heap.size, 0, none⟩) 1 1) (hb : (ks.length + 1) * 16 ≤ 140737488355328)
    (h : ∀ v' w', OwnS w' base v' (ks ++ [key]) → (w.alloc (.cells #[.string key] 9)).grownBy w' v.ownBlock → Below base w w' → wpList Tryd.prog ops Q rest (a.put o.dst v') w') :
    wpList Tryd.prog ops Q (o :: rest) a ((w.alloc (.cells #[.string key] 9)).drewN q) :=
  append_key (w := w.drewN q) hgd s x ho base v ks key hs hown hbase hx hb (fun v' w' h1 h2 h3 => h v' w' h1 ⟨h2.os, h2.tape, h2.output, h2.size, h2.block⟩ ((below_drewN (Below.refl base w) q).trans h3))

end Go.Proofs.YtcdobhdbafpkiadDoor
