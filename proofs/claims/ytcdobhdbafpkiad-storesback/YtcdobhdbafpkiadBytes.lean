/-
  Rows of bytes: those that came in, those that a call itself has made; the laws of appending to them.
-/
import Derived.Test.YtcdobhdbafpkiadOwn
import Derived.Test.YtcdobhdbafpkiadBPlain
import Derived.Lib.AppendStr
import Derived.Laws.AppendOwnNone
namespace Go.Proofs.Ytcdobhdbafpkiad
open Go.RowKit
set_option maxRecDepth 20000

def bcells (bs : List UInt8) : List Value := bs.map fun c => Value.int .u8 (c.toNat : Int)
theorem bcells_len (bs : List UInt8) : (bcells bs).length = bs.length := by simp [bcells]
theorem bcells_append (a b : List UInt8) : bcells (a ++ b) = bcells a ++ bcells b := by simp [bcells]
theorem bcells_one (bs : List UInt8) : ∀ u ∈ bcells bs, u.oneCell' = true := by
  intro u hu
  obtain ⟨_, _, rfl⟩ := List.mem_map.1 hu
  rfl
theorem bcells_str (s : ByteArray) : Lib.strCells s = bcells s.data.toList := rfl

/-- a slice of bytes -/
def IsBytes (w : World) (a : Option Addr) (len cap : Nat) (bs : List UInt8) : Prop :=
  bs.length = len ∧ len ≤ cap ∧ cap ≤ maxLen ∧ (bs = [] ∨ ∃ b off, a = some ⟨b, off, none⟩ ∧ b < w.heap.size ∧ ∀ j u, (bcells bs)[j]? = some u → w.cell? ⟨b, off + j, none⟩ = some u)
theorem IsBytes.below {w w' : World} {a : Option Addr} {len cap : Nat} {bs : List UInt8} (h : IsBytes w a len cap bs) (k : Below w.heap.size w w') : IsBytes w' a len cap bs := by
  obtain ⟨h1, h2, h3, h5⟩ := h
  refine ⟨h1, h2, h3, ?_⟩
  rcases h5 with h5 | ⟨b, off, rfl, hb, hr⟩
  · exact .inl h5
  · exact .inr ⟨b, off, rfl, Nat.lt_of_lt_of_le hb k.size, fun j u hj => (k.cell (p := ⟨b, off + j, none⟩) hb).trans (hr j u hj)⟩
theorem bcell_at {bs : List UInt8} {k : Nat} (h : k < bs.length) : (bcells bs)[k]? = some (.int .u8 ((bs.getD k 0).toNat : Int)) := by
  simp [bcells, List.getD, h]

/-- a slice value over a row of bytes of the call's own -/
def OwnB (w : World) (base : Nat) (v : Value) (bs : List UInt8) : Prop := w.ownsRow base 5 1 v bs.length (bcells bs)
theorem infoByte : (Try.prog.info? 5).map (fun i => (i.zero, i.size, i.bytes)) = some (some (.int .u8 0), 1, 1) := by kernel_rfl
theorem ownb_of {w : World} {base n : Nat} {v : Value} {xs : List Value} {bs : List UInt8} (h : w.ownsRow base 5 1 v n xs) (e : xs = bcells bs) : OwnB w base v bs := by
  subst e
  have hn : n = bs.length := by
    have := h.1
    rw [bcells_len] at this
    omega
  subst hn
  exact h
theorem OwnB.below {w w' : World} {base : Nat} {v : Value} {bs : List UInt8} (h : OwnB w base v bs) (k : Below w.heap.size w w') : OwnB w' base v bs := by
  obtain ⟨h0, h1⟩ := h
  refine ⟨h0, ?_⟩
  rcases h1 with h1 | ⟨g, cap, cur, rfl, hb, hh, hr⟩
  · exact .inl h1
  · exact .inr ⟨g, cap, cur, rfl, hb, (k.block g (lt_of_block hh)).trans hh, hr⟩
theorem OwnB.mono {w : World} {base base' : Nat} {v : Value} {bs : List UInt8} (h : OwnB w base v bs) (k : base' ≤ base) : OwnB w base' v bs := by
  obtain ⟨h0, h1⟩ := h
  refine ⟨h0, ?_⟩
  rcases h1 with h1 | ⟨g, cap, cur, rfl, hb, hr⟩
  · exact .inl h1
  · exact .inr ⟨g, cap, cur, rfl, by omega, hr⟩
theorem OwnB.nil (w : World) (base : Nat) : OwnB w base (.slice none 0 0) [] := World.ownsRow_nil _ _ _ _
theorem OwnB.shape {w : World} {base : Nat} {v : Value} {bs : List UInt8} (h : OwnB w base v bs) :
    ∃ a cap, v = .slice a bs.length cap ∧ IsBytes w a bs.length cap bs ∧ (a = none → cap = 0) ∧ (∀ x, a = some x → base ≤ x.block) := by
  obtain ⟨_, h | ⟨g, cap, cur, rfl, hb, hh, hn, hm, hs, hx⟩⟩ := h
  · obtain ⟨rfl, hn⟩ := h
    have hes : bs = [] := List.length_eq_zero_iff.1 hn
    subst hes
    exact ⟨none, 0, rfl, ⟨rfl, Nat.le_refl _, by simp, .inl rfl⟩, fun _ => rfl, by simp⟩
  · refine ⟨some ⟨g, 0, none⟩, cap, rfl, ⟨rfl, hn, hm, .inr ⟨g, 0, rfl, lt_of_block hh, ?_⟩⟩, by simp, by rintro x ⟨⟩; exact hb⟩
    intro j u hj
    rw [← hx] at hj
    have hj' : cur[j]? = some u := by
      rw [List.getElem?_take] at hj
      split at hj
      · rw [← Array.getElem?_toList]; exact hj
      · cases hj
    simp [World.cell?, hh, hj']

/-- what an append to a row of bytes leaves alone: all below 'base', and every row of another kind -/
def Keep (base : Nat) (w w' : World) : Prop := Below base w w' ∧ ∀ (k : Nat) (cs : Array Value) (T : TypeId) (z : Nat × Nat), w.heap[k]? = some (Obj.cells cs T z) → ¬ T = 5 → w'.heap[k]? = some (Obj.cells cs T z)
theorem Keep.refl (base : Nat) (w : World) : Keep base w w := ⟨Below.refl _ _, fun _ _ _ _ h _ => h⟩
theorem Keep.trans {base : Nat} {a b c : World} (h : Keep base a b) (k : Keep base b c) : Keep base a c :=
  ⟨h.1.trans k.1, fun i cs T z hi hT => k.2 i cs T z (h.2 i cs T z hi hT) hT⟩
theorem Keep.of_below {base : Nat} {w w' : World} (h : Below w.heap.size w w') (hb : base ≤ w.heap.size) : Keep base w w' :=
  ⟨h.mono hb, fun k _ _ _ hk _ => (h.block k (lt_of_block hk)).trans hk⟩
theorem Keep.of_grown {base n : Nat} {w w' : World} {v : Value} {xs : List Value} (ho : w.ownsRow base 5 1 v n xs) (hg : w.grownBy w' v.ownBlock) (hb : base ≤ w.heap.size) : Keep base w w' := by
  refine ⟨(Below.refl _ _).grown hg hb (fun k hk => (World.ownsRow.lt ho k hk).1), fun k cs T z hk hT => ?_⟩
  refine (hg.block k (lt_of_block hk) (fun e => ?_)).trans hk
  obtain ⟨_, h | ⟨g, cap, cur, rfl, _, hh, _⟩⟩ := ho
  · obtain ⟨rfl, _⟩ := h
    cases e
  · simp only [Value.ownBlock, Option.some.injEq] at e
    subst e
    rw [hh] at hk
    simp only [Option.some.injEq, Obj.cells.injEq] at hk
    exact hT hk.2.1.symm
theorem Keep.alloc {base : Nat} {a w : World} (h : Keep base a w) (hb : base ≤ w.heap.size) (o : Obj) : Keep base a (w.alloc o) :=
  h.trans (Keep.of_below ((Below.refl _ _).alloc (Nat.le_refl _) o) hb)

/-- one byte more, laid in a block of its own first -/
theorem append_b1 {w : World} {ops : Array Oper} {rest : List Oper} {o : Oper} {a : Act} {Q : Exit → Act → World → Prop} (hgd : o.guard = none) (s x : Operand)
    (ho : o.op = .call { callee := .builtin .append, args := #[s, x], argTypes := #[43, 43] })
    (base : Nat) (v : Value) (bs : List UInt8) (n : Int) (hs : a.eval s = v) (hown : OwnB w base v bs) (hbase : base ≤ w.heap.size) (hx : a.eval x = .slice (some ⟨w.heap.size, 0, none⟩) 1 1) (h0 : 0 ≤ n) (h1 : n ≤ 255) (hb : bs.length + 1 ≤ 140737488355328)
    (h : ∀ v' w', OwnB w' base v' (bs ++ [Pl.u8 n]) → Keep base w w' → wpList Try.prog ops Q rest (a.put o.dst v') w') :
    wpList Try.prog ops Q (o :: rest) a (w.alloc (.cells #[.int .u8 n] 5)) := by
  obtain ⟨i0, hi0, hz0, hz1, hz2⟩ := info_parts infoByte
  refine wpList_append_own (w := _) hgd s x 43 ho base 5 i0 _ 1 1 Try.underlying43 hi0 hz0 hz1 hz2 rfl (by decide) _ bs.length (bcells bs) hs (World.ownsRow.alloc hown _) ⟨w.heap.size, 0, none⟩ 1 1 [.int .u8 n] hx rfl ?_ ?_ (by unfold maxLen; omega) (by omega) (by simp; omega) ?_
  · intro j u hj
    match j, hj with
    | 0, hj => simp at hj; subst hj; simp [Addr.add]
  · intro u hu; simp at hu; subst hu; rfl
  · intro v' w' hown' hg _
    refine h v' w' (ownb_of hown' ?_) ((Keep.of_below ((Below.refl _ _).alloc (Nat.le_refl _) _) hbase).trans (Keep.of_grown (World.ownsRow.alloc hown _) hg (by simp; omega)))
    rw [bcells_append]
    simp [bcells, Pl.u8_val h0 h1]

/-- a text more -/
theorem append_str {w : World} {ops : Array Oper} {rest : List Oper} {o : Oper} {a : Act} {Q : Exit → Act → World → Prop} (hgd : o.guard = none) (s x : Operand)
    (ho : o.op = .call { callee := .builtin .append, args := #[s, x], argTypes := #[43, 9] })
    (base : Nat) (v : Value) (bs : List UInt8) (t : ByteArray) (hs : a.eval s = v) (hown : OwnB w base v bs) (hbase : base ≤ w.heap.size) (hx : a.eval x = .string t) (hb : bs.length + t.size ≤ 140737488355328)
    (h : ∀ v' w', OwnB w' base v' (bs ++ t.data.toList) → Keep base w w' → wpList Try.prog ops Q rest (a.put o.dst v') w') : wpList Try.prog ops Q (o :: rest) a w := by
  obtain ⟨i0, hi0, hz0, hz1, hz2⟩ := info_parts infoByte
  refine Lib.wpList_append_own_string w hgd s x 43 9 ho base 5 i0 Try.underlying43 Try.underlying9 hi0 hz0 hz1 hz2 v bs.length (bcells bs) hs hown t hx (by unfold maxLen; omega) hb hbase ?_
  intro v' w' hown' hg _
  exact h v' w' (ownb_of hown' (by rw [bcells_append, bcells_str])) (Keep.of_grown hown hg hbase)

/-- a list of bytes more -/
theorem append_bs {w : World} {ops : Array Oper} {rest : List Oper} {o : Oper} {a : Act} {Q : Exit → Act → World → Prop} (hgd : o.guard = none) (s x : Operand)
    (ho : o.op = .call { callee := .builtin .append, args := #[s, x], argTypes := #[43, 43] })
    (base : Nat) (v : Value) (bs : List UInt8) (ad : Option Addr) (m c : Nat) (ns : List UInt8) (hs : a.eval s = v) (hown : OwnB w base v bs) (hbase : base ≤ w.heap.size) (hx : a.eval x = .slice ad m c) (hI : IsBytes w ad m c ns) (hnil : ad = none → c = 0) (hb : bs.length + m ≤ 140737488355328)
    (h : ∀ v' w', OwnB w' base v' (bs ++ ns) → Keep base w w' → wpList Try.prog ops Q rest (a.put o.dst v') w') : wpList Try.prog ops Q (o :: rest) a w := by
  obtain ⟨i0, hi0, hz0, hz1, hz2⟩ := info_parts infoByte
  obtain ⟨hl, hc, hm, hr⟩ := hI
  rcases ad with _ | ad
  · obtain rfl := hnil rfl
    obtain rfl : m = 0 := by omega
    obtain rfl : ns = [] := List.length_eq_zero_iff.1 hl
    refine wpList_append_own_none hgd s x 43 ho base 5 i0 1 Try.underlying43 hi0 v bs.length (bcells bs) hs hown hx (h _ _ ?_ (Keep.refl _ _))
    rw [List.append_nil]; exact hown
  · refine wpList_append_own (w := w) hgd s x 43 ho base 5 i0 _ 1 1 Try.underlying43 hi0 hz0 hz1 hz2 rfl (by decide) v bs.length (bcells bs) hs hown ad m c (bcells ns) hx (by rw [bcells_len, hl]; omega) ?_ (bcells_one _) (by unfold maxLen; omega) (by omega) hbase ?_
    · intro j u hj
      rcases hr with rfl | ⟨b, off, hba, _, hr⟩
      · simp [bcells] at hj
      · cases hba
        have := hr j u hj
        unfold Addr.add; split
        · rename_i h0; subst h0; simpa using this
        · simpa using this
    · intro v' w' hown' hg _
      exact h v' w' (ownb_of hown' (by rw [bcells_append])) (Keep.of_grown hown hg hbase)
end Go.Proofs.Ytcdobhdbafpkiad
