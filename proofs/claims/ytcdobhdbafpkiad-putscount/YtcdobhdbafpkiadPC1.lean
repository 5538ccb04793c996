/-
  Contracts: slices.Clone over entries; the closures of PutsCount.
-/
import Derived.Test.YtcdobhdbafpkiadRaw4
import Derived.Laws.Cover3
namespace Go.Proofs.Ytcdobhdbafpkiad
open Go.RowKit
set_option maxRecDepth 20000

set_option maxHeartbeats 1000000 in
theorem CloneE_nil (cap : Nat) (w : World) :
    Calls Try.prog 14 #[.slice none 0 cap] w fun e w' => e = .returned (.slice none 0 0) ∧ Below w.heap.size w w' := by
  have hnil : ∀ W, (binOp .eql 25 (.slice none 0 cap) (.slice none 0 0)).run Try.prog W = .ok (.bool true) W := fun W => by
    simp only [binOp]
    simp [run_equal_slice_nil W 25 28 none 0 cap Try.underlying25]
  go_enter Try.func14, Try.ntmps14
  go_wp2
  go_ret
  exact ⟨rfl, Below.refl _ _⟩

theorem append_ents {w : World} {ops : Array Oper} {rest : List Oper} {o : Oper} {a : Act} {Q : Exit → Act → World → Prop} (hgd : o.guard = none) (s x : Operand)
    (ho : o.op = .call { callee := .builtin .append, args := #[s, x], argTypes := #[25, 25] })
    (base : Nat) (v : Value) (ad : Addr) (len cap : Nat) (es : List Pl.Ent) (hs : a.eval s = v) (hown : Own w base v []) (hbase : base ≤ w.heap.size) (hx : a.eval x = .slice (some ad) len cap) (hE : IsEnts w (some ad) len cap es) (hb : len * 48 ≤ 140737488351232)
    (h : ∀ v' w', Own w' base v' es → Below base w w' → wpList Try.prog ops Q rest (a.put o.dst v') w') : wpList Try.prog ops Q (o :: rest) a w := by
  obtain ⟨i0, hi0, hz0, hz1, hz2⟩ := info_parts infoEntry
  obtain ⟨hl, hc, hm, hok, hrow⟩ := hE
  refine wpList_append_own (w := w) hgd s x 25 ho base 28 i0 _ 4 48 Try.underlying25 hi0 hz0 hz1 hz2 rfl (by decide) v 0 [] hs hown ad len cap (cellsL es) hx (by rw [cellsL_len, hl]) ?_ (cellsL_one _) (by unfold maxLen; omega) (by omega) hbase ?_
  · intro j u hj
    rcases hrow with rfl | ⟨b, off, hba, _, hr⟩
    · simp [cellsL] at hj
    · cases hba
      rw [add_none]
      exact (rowAt_cells _ _).1 hr j u hj
  · intro v' w' hown' hg _
    rw [List.nil_append] at hown'
    have hlt := World.ownsRow.lt hown
    exact h v' w' (own_of hown' rfl) ((Below.refl _ _).grown hg hbase (fun k hk => (hlt k hk).1))

set_option maxHeartbeats 1000000 in
theorem CloneE_any (ad : Addr) (len cap : Nat) (es : List Pl.Ent) (w : World) (h : IsEnts w (some ad) len cap es) (hb : len ≤ 60) :
    Calls Try.prog 14 #[.slice (some ad) len cap] w fun e w' => ∃ v, e = .returned v ∧ Own w' w.heap.size v es ∧ Below w.heap.size w w' := by
  have HH := hid h
  have hbA : Below w.heap.size w (w.alloc (.cells #[] 28)) := (Below.refl _ _).alloc (Nat.le_refl _) _
  have HB := hid hbA
  have HO : Hid (Own (w.alloc (.cells #[] 28)) w.heap.size (.slice (some ⟨w.heap.size, 0, none⟩) 0 0) []) := by
    refine hid ⟨rfl, .inr ⟨w.heap.size, 0, #[], rfl, Nat.le_refl _, heap_new _ _, Nat.le_refl _, by decide, rfl, rfl⟩⟩
  have HI := hid (HH.out.below hbA)
  have hnil : ∀ W, (binOp .eql 25 (.slice (some ad) len cap) (.slice none 0 0)).run Try.prog W = .ok (.bool false) W := fun W => by
    simp only [binOp]
    simp [run_equal_slice_nil W 25 28 (some ad) len cap Try.underlying25]
  clear h hbA
  go_enter Try.func14, Try.ntmps14
  go_wp2_with (at_builtin; (refine append_ents rfl (.tmp 5) (.tmp 6) rfl w.heap.size (.slice (some ⟨w.heap.size, 0, none⟩) 0 0) ad len cap es rfl HO.out (by simp) rfl HI.out (by omega) ?_); intro v5 w5 ho5 hk5)
  go_ret
  exact ⟨_, rfl, ho5, HB.out.trans hk5⟩

set_option maxHeartbeats 400000 in
theorem clo1_any (x : Pl.Ent) (key : ByteArray) (be : Nat) (w : World) (h : w.cell? ⟨be, 0, none⟩ = some (.string key)) (hlt : be < w.heap.size) :
    Calls Try.prog 11 #[.agg #[.string x.key, .int .i64 x.ver, .int .i64 x.org, .string x.val], .pointer (some ⟨be, 0, none⟩)] w fun e w' => e = .returned (.bool (!decide (x.key = key))) ∧ Below w.heap.size w w' := by
  go_enter Try.func11, Try.ntmps11
  go_wp2_with fail
  rw [Pl.beqL]
  go_ret
  exact ⟨rfl, (Below.refl _ _).alloc (Nat.le_refl _) _⟩

set_option maxHeartbeats 400000 in
theorem clo2_any (x : Pl.Ent) (key : ByteArray) (be bo : Nat) (w : World) (h : w.cell? ⟨be, 0, none⟩ = some (.string key)) (hlt : be < w.heap.size) (ho : w.cell? ⟨bo, 0, none⟩ = some (.func (.func 11) #[] #[.pointer (some ⟨be, 0, none⟩)])) (hbo : bo < w.heap.size) :
    Calls Try.prog 15 #[.agg #[.string x.key, .int .i64 x.ver, .int .i64 x.org, .string x.val], .pointer (some ⟨bo, 0, none⟩)] w fun e w' => e = .returned (.bool (decide (x.key = key))) ∧ Below w.heap.size w w' := by
  have HC := hid (fun W (hb : Below w.heap.size w W) => clo1_any x key be W ((hb.cell (p := ⟨be, 0, none⟩) hlt).trans h) (Nat.lt_of_lt_of_le hlt hb.size))
  clear h
  go_enter Try.func15, Try.ntmps15
  go_wp2_with fail
  have hbA : Below w.heap.size w (w.alloc (.cells #[.string x.key, .int .i64 x.ver, .int .i64 x.org, .string x.val] 28)) := (Below.refl _ _).alloc (Nat.le_refl _) _
  refine (HC.out _ hbA).mono ?_
  rintro e w1 ⟨rfl, hb1⟩
  have hbB := hbA.trans (hb1.mono hbA.size)
  go_wp2_with fail
  go_ret
  exact ⟨by simp, hbB⟩

set_option maxHeartbeats 400000 in
theorem clo3_any (x : Pl.Ent) (key : ByteArray) (be bo : Nat) (w : World) (h : w.cell? ⟨be, 0, none⟩ = some (.string key)) (hlt : be < w.heap.size) (ho : w.cell? ⟨bo, 0, none⟩ = some (.func (.func 11) #[] #[.pointer (some ⟨be, 0, none⟩)])) (hbo : bo < w.heap.size) :
    Calls Try.prog 16 #[.agg #[.string x.key, .int .i64 x.ver, .int .i64 x.org, .string x.val], .pointer (some ⟨bo, 0, none⟩)] w fun e w' => e = .returned (.bool (decide (x.key = key))) ∧ Below w.heap.size w w' := by
  have HC := hid (fun W (hb : Below w.heap.size w W) => clo1_any x key be W ((hb.cell (p := ⟨be, 0, none⟩) hlt).trans h) (Nat.lt_of_lt_of_le hlt hb.size))
  clear h
  go_enter Try.func16, Try.ntmps16
  go_wp2_with fail
  have hbA : Below w.heap.size w (w.alloc (.cells #[.string x.key, .int .i64 x.ver, .int .i64 x.org, .string x.val] 28)) := (Below.refl _ _).alloc (Nat.le_refl _) _
  refine (HC.out _ hbA).mono ?_
  rintro e w1 ⟨rfl, hb1⟩
  have hbB := hbA.trans (hb1.mono hbA.size)
  go_wp2_with fail
  go_ret
  exact ⟨by simp, hbB⟩
end Go.Proofs.Ytcdobhdbafpkiad
