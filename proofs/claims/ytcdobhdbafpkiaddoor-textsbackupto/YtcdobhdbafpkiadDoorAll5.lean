/-
  Contracts and facts that the proof rests on, put together out of several texts.
-/
import Derived.Test.YtcdobhdbafpkiadDoorAll4
import Derived.Laws.AppendOwnNone
/-
  Contract: what lay makes: a new row with an entry at its place.
-/
namespace Go.Proofs.YtcdobhdbafpkiadDoor
open Go.RowKit
set_option maxRecDepth 20000

theorem src_drop {w : World} {b off i cap : Nat} {es : List Pl.Ent} {ad : Addr} (hr : RowAt w b off es) (hl : es.length ≤ cap) (h : (if cap = i then some (⟨b, off, none⟩ : Addr) else some ⟨b, off + i * 4, none⟩) = some ad) :
    ∀ j u, (cellsL (es.drop i))[j]? = some u → w.cell? (ad.add j) = some u := by
  intro j u hj
  split at h
  · rw [List.drop_eq_nil_of_le (by omega)] at hj
    simp [cellsL] at hj
  · cases h
    rw [add_none]
    exact (rowAt_cells _ _).1 (hr.drop i) j u hj

theorem own_lit (w : World) (A C : Obj) (e : Pl.Ent) : Own (((w.alloc A).alloc (.cells #[.string e.key, .int .i64 e.ver, .int .i64 e.org, .string e.val] 64)).alloc C) w.heap.size (.slice (some ⟨w.heap.size + 1, 0, none⟩) 1 1) [e] := by
  refine ⟨rfl, .inr ⟨w.heap.size + 1, 1, #[.string e.key, .int .i64 e.ver, .int .i64 e.org, .string e.val], rfl, by omega, ?_, Nat.le_refl _, by unfold maxLen; omega, rfl, rfl⟩⟩
  rw [Below.heap_alloc _ _ _ (by simp)]
  have := heap_new (w.alloc A) (.cells #[.string e.key, .int .i64 e.ver, .int .i64 e.org, .string e.val] 64)
  simpa using this

/-- the world behind a law that grew a row of the call's own -/
theorem below_grown {B : Nat} {a w w' : World} {row : Option Nat} (h : Below B a w) (hg : w.grownBy w' row) (hB : B ≤ w.heap.size) (hr : ∀ k, row = some k → B ≤ k) : Below B a w' := h.grown hg hB hr

set_option maxHeartbeats 400000 in
theorem lay_full (b off len cap : Nat) (es : List Pl.Ent) (i : Nat) (ins : Bool) (x : Pl.Ent) (w : World) (h : IsEnts w (some ⟨b, off, none⟩) len cap es) (hbw : b < w.heap.size) (hr : RowAt w b off es) (h60 : len ≤ 60) (hi : i ≤ len) (hins : ins = true → i < len) :
    Calls Tryd.prog 44 #[.slice (some ⟨b, off, none⟩) len cap, .int .i64 i, .bool ins, .agg #[.string x.key, .int .i64 x.ver, .int .i64 x.org, .string x.val]] w
      fun e w' => ∃ v, e = .returned v ∧ Own w' w.heap.size v (Pl.layL es i ins x) ∧ Below w.heap.size w w' := by
  obtain ⟨hl, hc, hm, hok, _⟩ := h
  unfold maxLen at hm
  have HL : Hid (Pl.layL es i ins x = es.take i ++ ([x] ++ es.drop (if ins then i + 1 else i))) := rfl
  have HX : Hid (cellsE x = cellsL [x]) := rfl
  generalize Pl.layL es i ins x = ll at *
  obtain ⟨xk, xv, xo, xx⟩ := x
  simp only
  obtain ⟨i0, hi0, hz0, hz1, hz2⟩ := info_parts infoEntry
  have hi' : (i : Int) ≤ (len : Int) := by omega
  have htk : (es.take i).length = i := by simp; omega
  have hbx : Below w.heap.size w (w.alloc (.cells #[.string xk, .int .i64 xv, .int .i64 xo, .string xx] 64)) := (Below.refl _ _).alloc (Nat.le_refl _) _
  have HBX : Hid _ := hbx
  clear hbx
  cases ins
  · go_enter Tryd.func44, Tryd.ntmps44
    go_wp2_with (first
      | (at_make; refine wpList_make_own _ rfl _ (.tmp 12) 45 rfl w.heap.size 64 i0 _ 4 Tryd.underlying45 hi0 hz0 hz1 .i64 .i64 _ (len + 1) rfl rfl (by simp) (by rw [hz2]; omega) (by unfold maxLen; omega) (by simp) ?_; intro w2 hown2 hg2; have hb2 := below_grown ((Below.refl (w.heap.size + 1) _)) hg2 (by simp) (by intro k hk; cases hk); simp only [World.size_alloc] at hown2; clear hg2; have hr2 := hr.below hbw (HBX.out.trans (hb2.mono (by omega))))
      | (at_builtin; (refine wpList_append_fits_any _ rfl (.tmp 14) (.tmp 17) 45 rfl w.heap.size 64 i0 4 Tryd.underlying45 hi0 hz1 (w.heap.size + 1) 0 (len + 1) [] rfl hown2 _ i cap (cellsL (es.take i)) rfl (by rw [cellsL_len, htk]) (by intro hh; cases hh) (by intro ad hh j u hj; cases hh; rw [add_none]; exact (rowAt_cells _ _).1 (hr2.take i) j u hj) (cellsL_one _) (by omega) ?_); intro w3 hown3 hg3; have hb3 := below_grown hb2 hg3 (by have := hb2.size; simp at this; omega) (by intro k hk; cases hk; omega); clear hg3; simp only [Nat.zero_add, List.nil_append] at hown3; obtain ⟨x0, x1, x2, x3⟩ := box4 hb3)
      | (at_builtin; (refine wpList_append_fits _ rfl (.tmp 19) (.tmp 21) 45 rfl w.heap.size 64 i0 4 Tryd.underlying45 hi0 hz1 (w.heap.size + 1) i (len + 1) (cellsL (es.take i)) rfl (hown3.alloc _) ⟨w3.heap.size, 0, none⟩ 1 1 (cellsE ⟨xk, xv, xo, xx⟩) rfl rfl (by intro j u hj; rw [add_none]; exact new4 w3 hj) (by rw [HX.out]; exact cellsL_one _) (by omega) ?_); intro w4 hown4 hg4; have hb4 := below_grown (hb3.alloc (by have := hb3.size; simpa using this) _) hg4 (by have := hb3.size; simp at this ⊢; omega) (by intro k hk; cases hk; omega); clear hg4; rw [HX.out, ← cellsL_append] at hown4; have hr4 := hr.below hbw (HBX.out.trans (hb4.mono (by omega))))
      | (at_builtin; (refine wpList_append_fits_any _ rfl (.tmp 26) (.tmp 29) 45 rfl w.heap.size 64 i0 4 Tryd.underlying45 hi0 hz1 (w.heap.size + 1) (i + 1) (len + 1) _ rfl hown4 _ _ _ (cellsL (es.drop i)) rfl (by rw [cellsL_len, List.length_drop, hl]) (by intro hh; split at hh <;> cases hh) (by intro ad hh; exact src_drop hr4 (by omega) hh) (cellsL_one _) (by omega) ?_); intro w5 hown5 hg5; have hb5 := below_grown hb4 hg5 (by have := hb4.size; simp at this ⊢; omega) (by intro k hk; cases hk; omega); clear hg5))
    all_goals (go_ret; exact ⟨_, rfl, own_of hown5 (by rw [HL.out]; simp [cellsL_append, cellsL]), HBX.out.trans (hb5.mono (by omega))⟩)
  · have hlt := hins rfl
    have hlt' : (i : Int) + 1 ≤ (len : Int) := by omega
    go_enter Tryd.func44, Tryd.ntmps44
    go_wp2_with (first
      | (at_make; refine wpList_make_own _ rfl _ (.tmp 12) 45 rfl w.heap.size 64 i0 _ 4 Tryd.underlying45 hi0 hz0 hz1 .i64 .i64 _ (len + 1) rfl rfl (by simp) (by rw [hz2]; omega) (by unfold maxLen; omega) (by simp) ?_; intro w2 hown2 hg2; have hb2 := below_grown ((Below.refl (w.heap.size + 1) _)) hg2 (by simp) (by intro k hk; cases hk); simp only [World.size_alloc] at hown2; clear hg2; have hr2 := hr.below hbw (HBX.out.trans (hb2.mono (by omega))))
      | (at_builtin; (refine wpList_append_fits_any _ rfl (.tmp 14) (.tmp 17) 45 rfl w.heap.size 64 i0 4 Tryd.underlying45 hi0 hz1 (w.heap.size + 1) 0 (len + 1) [] rfl hown2 _ i cap (cellsL (es.take i)) rfl (by rw [cellsL_len, htk]) (by intro hh; cases hh) (by intro ad hh j u hj; cases hh; rw [add_none]; exact (rowAt_cells _ _).1 (hr2.take i) j u hj) (cellsL_one _) (by omega) ?_); intro w3 hown3 hg3; have hb3 := below_grown hb2 hg3 (by have := hb2.size; simp at this; omega) (by intro k hk; cases hk; omega); clear hg3; simp only [Nat.zero_add, List.nil_append] at hown3; obtain ⟨x0, x1, x2, x3⟩ := box4 hb3)
      | (at_builtin; (refine wpList_append_fits _ rfl (.tmp 19) (.tmp 21) 45 rfl w.heap.size 64 i0 4 Tryd.underlying45 hi0 hz1 (w.heap.size + 1) i (len + 1) (cellsL (es.take i)) rfl (hown3.alloc _) ⟨w3.heap.size, 0, none⟩ 1 1 (cellsE ⟨xk, xv, xo, xx⟩) rfl rfl (by intro j u hj; rw [add_none]; exact new4 w3 hj) (by rw [HX.out]; exact cellsL_one _) (by omega) ?_); intro w4 hown4 hg4; have hb4 := below_grown (hb3.alloc (by have := hb3.size; simpa using this) _) hg4 (by have := hb3.size; simp at this ⊢; omega) (by intro k hk; cases hk; omega); clear hg4; rw [HX.out, ← cellsL_append] at hown4; have hr4 := hr.below hbw (HBX.out.trans (hb4.mono (by omega))))
      | (at_builtin; (refine wpList_append_fits_any _ rfl (.tmp 26) (.tmp 29) 45 rfl w.heap.size 64 i0 4 Tryd.underlying45 hi0 hz1 (w.heap.size + 1) (i + 1) (len + 1) _ rfl hown4 _ _ _ (cellsL (es.drop (i + 1))) rfl (by rw [cellsL_len, List.length_drop, hl]) (by intro hh; split at hh <;> cases hh) (by intro ad hh; exact src_drop hr4 (by omega) hh) (cellsL_one _) (by omega) ?_); intro w5 hown5 hg5; have hb5 := below_grown hb4 hg5 (by have := hb4.size; simp at this ⊢; omega) (by intro k hk; cases hk; omega); clear hg5))
    all_goals (go_ret; exact ⟨_, rfl, own_of hown5 (by rw [HL.out]; simp [cellsL_append, cellsL]), HBX.out.trans (hb5.mono (by omega))⟩)

set_option maxHeartbeats 400000 in
theorem lay_empty (a : Option Addr) (cap : Nat) (x : Pl.Ent) (w : World) (hm : cap ≤ maxLen) (hnil : a = none → cap = 0) :
    Calls Tryd.prog 44 #[.slice a 0 cap, .int .i64 0, .bool false, .agg #[.string x.key, .int .i64 x.ver, .int .i64 x.org, .string x.val]] w
      fun e w' => ∃ v, e = .returned v ∧ Own w' w.heap.size v [x] ∧ Below w.heap.size w w' := by
  unfold maxLen at hm
  obtain ⟨xk, xv, xo, xx⟩ := x
  simp only
  have hbx : Below w.heap.size w (w.alloc (.cells #[.string xk, .int .i64 xv, .int .i64 xo, .string xx] 64)) := (Below.refl _ _).alloc (Nat.le_refl _) _
  have HBX : Hid _ := hbx
  clear hbx
  have HN : Hid (a = none → cap = 0) := hnil
  clear hnil
  have hmk : ∀ w, (Instr.makeSlice 45 (.int .i64 0) (.int .i64 1)).run Tryd.prog w = .ok (.slice (some ⟨w.heap.size, 0, none⟩) 0 1) (w.alloc (.cells #[.string ⟨#[]⟩, .int .i64 0, .int .i64 0, .string ⟨#[]⟩] 64)) := fun _ => by kernel_rfl
  rcases a with _ | ad
  · obtain rfl := HN.out rfl
    go_enter Tryd.func44, Tryd.ntmps44
    go_wp2_with fail
    go_ret
    exact ⟨_, rfl, own_lit w _ _ ⟨xk, xv, xo, xx⟩, (HBX.out.alloc (by simp) _).alloc (by simp; omega) _⟩
  · clear HN
    go_enter Tryd.func44, Tryd.ntmps44
    go_wp2_with fail
    go_ret
    exact ⟨_, rfl, own_lit w _ _ ⟨xk, xv, xo, xx⟩, (HBX.out.alloc (by simp) _).alloc (by simp; omega) _⟩

theorem lay_any (a : Option Addr) (len cap : Nat) (es : List Pl.Ent) (i : Nat) (ins : Bool) (x : Pl.Ent) (w : World) (h : IsEnts w a len cap es) (hnil : a = none → cap = 0) (h60 : len ≤ 60) (hi : i ≤ len) (hins : ins = true → i < len) :
    Calls Tryd.prog 44 #[.slice a len cap, .int .i64 i, .bool ins, .agg #[.string x.key, .int .i64 x.ver, .int .i64 x.org, .string x.val]] w
      fun e w' => ∃ v, e = .returned v ∧ Own w' w.heap.size v (Pl.layL es i ins x) ∧ Below w.heap.size w w' := by
  have h0 := h
  obtain ⟨hl, hc, hm, hok, hrow⟩ := h
  rcases hrow with rfl | ⟨b, off, rfl, hb, hr⟩
  · simp at hl
    subst hl
    obtain rfl : i = 0 := by omega
    cases ins
    · exact lay_empty a cap x w hm hnil
    · have := hins rfl; omega
  · exact lay_full b off len cap es i ins x w h0 hb hr h60 hi hins
end Go.Proofs.YtcdobhdbafpkiadDoor
/-
  Laws of appending entries: a copy of a list; one entry more.
-/
namespace Go.Proofs.YtcdobhdbafpkiadDoor
open Go.RowKit
set_option maxRecDepth 20000

theorem append_copy {w : World} {ops : Array Oper} {rest : List Oper} {o : Oper} {a : Act} {Q : Exit → Act → World → Prop} (hgd : o.guard = none) (s x : Operand)
    (ho : o.op = .call { callee := .builtin .append, args := #[s, x], argTypes := #[45, 45] })
    (ao : Option Addr) (len cap : Nat) (es : List Pl.Ent) (hs : a.eval s = .slice none 0 0) (hx : a.eval x = .slice ao len cap) (hE : IsEnts w ao len cap es) (hnil : ao = none → cap = 0) (hb : len * 48 ≤ 140737488351232)
    (h : ∀ v' w', Own w' w.heap.size v' es → Below w.heap.size w w' → wpList Tryd.prog ops Q rest (a.put o.dst v') w') : wpList Tryd.prog ops Q (o :: rest) a w := by
  obtain ⟨i0, hi0, hz0, hz1, hz2⟩ := info_parts infoEntry
  obtain ⟨hl, hc, hm, hok, hrow⟩ := hE
  rcases ao with _ | ad
  · obtain rfl := hnil rfl
    obtain rfl : len = 0 := by omega
    obtain rfl : es = [] := List.length_eq_zero_iff.1 hl
    exact wpList_append_own_none hgd s x 45 ho w.heap.size 64 i0 4 Tryd.underlying45 hi0 _ 0 [] hs (World.ownsRow_nil _ _ _ _) hx (h _ _ (Own.nil _ _) (Below.refl _ _))
  · refine wpList_append_own (w := w) hgd s x 45 ho w.heap.size 64 i0 _ 4 48 Tryd.underlying45 hi0 hz0 hz1 hz2 rfl (by decide) _ 0 [] hs (World.ownsRow_nil _ _ _ _) ad len cap (cellsL es) hx (by rw [cellsL_len, hl]) ?_ (cellsL_one _) (by unfold maxLen; omega) (by omega) (Nat.le_refl _) ?_
    · intro j u hj
      rcases hrow with rfl | ⟨b, off, hba, _, hr⟩
      · simp [cellsL] at hj
      · cases hba
        rw [add_none]
        exact (rowAt_cells _ _).1 hr j u hj
    · intro v' w' hown hg _
      rw [List.nil_append] at hown
      exact h v' w' (own_of hown rfl) ((Below.refl _ _).grown hg (Nat.le_refl _) (by intro k hk; cases hk))

theorem append_ent {w : World} {ops : Array Oper} {rest : List Oper} {o : Oper} {a : Act} {Q : Exit → Act → World → Prop} (hgd : o.guard = none) (s x : Operand)
    (ho : o.op = .call { callee := .builtin .append, args := #[s, x], argTypes := #[45, 45] })
    (base : Nat) (v : Value) (es : List Pl.Ent) (e : Pl.Ent) (hs : a.eval s = v) (hown : Own w base v es) (hbase : base ≤ w.heap.size) (hx : a.eval x = .slice (some ⟨w.heap.size, 0, none⟩) 1 1) (hb : (es.length + 1) * 48 ≤ 140737488355328)
    (h : ∀ v' w', Own w' base v' (es ++ [e]) → Below base w w' → wpList Tryd.prog ops Q rest (a.put o.dst v') w') :
    wpList Tryd.prog ops Q (o :: rest) a (w.alloc (.cells #[.string e.key, .int .i64 e.ver, .int .i64 e.org, .string e.val] 64)) := by
  obtain ⟨i0, hi0, hz0, hz1, hz2⟩ := info_parts infoEntry
  refine wpList_append_own (w := _) hgd s x 45 ho base 64 i0 _ 4 48 Tryd.underlying45 hi0 hz0 hz1 hz2 rfl (by decide) _ es.length (cellsL es) hs (World.ownsRow.alloc hown _) ⟨w.heap.size, 0, none⟩ 1 1 (cellsE e) hx rfl ?_ ?_ (by unfold maxLen; omega) hb (by simp; omega) ?_
  · intro j u hj
    rw [add_none]; exact new4 w hj
  · show ∀ u ∈ cellsE e, _
    have := cellsL_one [e]
    simpa [cellsL] using this
  · intro v' w' hown' hg _
    have hlt := World.ownsRow.lt hown
    exact h v' w' (own_of hown' (by rw [cellsL_append]; simp [cellsL])) (((Below.refl _ _).alloc hbase _).grown hg (by simp; omega) (fun k hk => (hlt k hk).1))

theorem append_ent_d {w : World} {q : Nat} {ops : Array Oper} {rest : List Oper} {o : Oper} {a : Act} {Q : Exit → Act → World → Prop} (hgd : o.guard = none) (s x : Operand)
    (ho : o.op = .call { callee := .builtin .append, args := #[s, x], argTypes := #[45, 45] })
    (base : Nat) (v : Value) (es : List Pl.Ent) (e : Pl.Ent) (hs : a.eval s = v) (hown : Own w base v es) (hbase : base ≤ w.heap.size) (hx : a.eval x = .slice (some ⟨w.heap.size, 0, none⟩) 1 1) (hb : (es.length + 1) * 48 ≤ 140737488355328)
    (h : ∀ v' w', Own w' base v' (es ++ [e]) → Below base w w' → wpList Tryd.prog ops Q rest (a.put o.dst v') w') :
    wpList Tryd.prog ops Q (o :: rest) a ((w.alloc (.cells #[.string e.key, .int .i64 e.ver, .int .i64 e.org, .string e.val] 64)).drewN q) :=
  append_ent (w := w.drewN q) hgd s x ho base v es e hs hown hbase hx hb (fun v' w' h1 h2 => h v' w' h1 ((below_drewN (Below.refl base w) q).trans h2))
theorem Own.kept {w w' : World} {base : Nat} {v : Value} {es : List Pl.Ent} {row : Option Nat} (h : Own w base v es) (hg : w.grownBy w' row) (hne : v.ownBlock = none ∨ v.ownBlock ≠ row) : Own w' base v es := World.ownsRow.kept h hg hne
end Go.Proofs.YtcdobhdbafpkiadDoor
/-
  Laws of appending keys to a row of texts.
-/
namespace Go.Proofs.YtcdobhdbafpkiadDoor
open Go.RowKit
set_option maxRecDepth 20000

/-- a slice value over a row of texts of the call's own -/
def OwnS (w : World) (base : Nat) (v : Value) (ks : List ByteArray) : Prop := w.ownsRow base 9 1 v ks.length (ks.map Value.string)
theorem infoStr : (Tryd.prog.info? 9).map (fun i => (i.zero, i.size, i.bytes)) = some (some (.string ⟨#[]⟩), 1, 16) := by kernel_rfl
theorem ownsRow_below {w w' : World} {base : Nat} {e : TypeId} {sz : Nat} {v : Value} {n : Nat} {xs : List Value} (h : w.ownsRow base e sz v n xs) (k : Below w.heap.size w w') : w'.ownsRow base e sz v n xs := by
  obtain ⟨h0, h1⟩ := h
  refine ⟨h0, ?_⟩
  rcases h1 with h1 | ⟨g, cap, cur, rfl, hb, hh, hr⟩
  · exact .inl h1
  · exact .inr ⟨g, cap, cur, rfl, hb, (k.block g (lt_of_block hh)).trans hh, hr⟩
theorem OwnS.below {w w' : World} {base : Nat} {v : Value} {ks : List ByteArray} (h : OwnS w base v ks) (k : Below w.heap.size w w') : OwnS w' base v ks := ownsRow_below h k
theorem OwnS.nil (w : World) (base : Nat) : OwnS w base (.slice none 0 0) [] := World.ownsRow_nil _ _ _ _

theorem append_key {w : World} {ops : Array Oper} {rest : List Oper} {o : Oper} {a : Act} {Q : Exit → Act → World → Prop} (hgd : o.guard = none) (s x : Operand)
    (ho : o.op = .call { callee := .builtin .append, args := #[s, x], argTypes := #[79, 79] })
    (base : Nat) (v : Value) (ks : List ByteArray) (key : ByteArray) (hs : a.eval s = v) (hown : OwnS w base v ks) (hbase : base ≤ w.heap.size) (hx : a.eval x = .slice (some ⟨w.heap.size, 0, none⟩) 1 1) (hb : (ks.length + 1) * 16 ≤ 140737488355328)
    (h : ∀ v' w', OwnS w' base v' (ks ++ [key]) → (w.alloc (.cells #[.string key] 9)).grownBy w' v.ownBlock → Below base w w' → wpList Tryd.prog ops Q rest (a.put o.dst v') w') :
    wpList Tryd.prog ops Q (o :: rest) a (w.alloc (.cells #[.string key] 9)) := by
  obtain ⟨i0, hi0, hz0, hz1, hz2⟩ := info_parts infoStr
  refine wpList_append_own (w := _) hgd s x 79 ho base 9 i0 _ 1 16 Tryd.underlying79 hi0 hz0 hz1 hz2 rfl (by decide) _ ks.length (ks.map Value.string) hs (World.ownsRow.alloc hown _) ⟨w.heap.size, 0, none⟩ 1 1 [.string key] hx rfl ?_ ?_ (by unfold maxLen; omega) hb (by simp; omega) ?_
  · intro j u hj
    match j, hj with
    | 0, hj => simp at hj; subst hj; rw [add_none]; simp
  · intro u hu; simp at hu; subst hu; rfl
  · intro v' w' hown' hg _
    have hlt := World.ownsRow.lt hown
    refine h v' w' ?_ hg (((Below.refl _ _).alloc hbase _).grown hg (by simp; omega) (fun k hk => (hlt k hk).1))
    unfold OwnS
    simpa using hown'
theorem append_key_d {w : World} {q : Nat} {ops : Array Oper} {rest : List Oper} {o : Oper} {a : Act} {Q : Exit → Act → World → Prop} (hgd : o.guard = none) (s x : Operand)
    (ho : o.op = .call { callee := .builtin .append, args := #[s, x], argTypes := #[79, 79] })
    (base : Nat) (v : Value) (ks : List ByteArray) (key : ByteArray) (hs : a.eval s = v) (hown : OwnS w base v ks) (hbase : base ≤ w.heap.size) (hx : a.eval x = .slice (some ⟨w.heap.size, 0, none⟩) 1 1) (hb : (ks.length + 1) * 16 ≤ 140737488355328)
    (h : ∀ v' w', OwnS w' base v' (ks ++ [key]) → (w.alloc (.cells #[.string key] 9)).grownBy w' v.ownBlock → Below base w w' → wpList Tryd.prog ops Q rest (a.put o.dst v') w') :
    wpList Tryd.prog ops Q (o :: rest) a ((w.alloc (.cells #[.string key] 9)).drewN q) :=
  append_key (w := w.drewN q) hgd s x ho base v ks key hs hown hbase hx hb (fun v' w' h1 h2 h3 => h v' w' h1 ⟨h2.os, h2.tape, h2.output, h2.size, h2.block⟩ ((below_drewN (Below.refl base w) q).trans h3))

end Go.Proofs.YtcdobhdbafpkiadDoor
/-
  Contract: what Merge answers at every two lists of entries.
-/
namespace Go.Proofs.YtcdobhdbafpkiadDoor
open Go.RowKit
set_option maxRecDepth 20000

def Pl.mergeC (a b : List Pl.Ent) : Int := if Pl.fault a = 0 then Pl.fault b else Pl.fault a
def Pl.mergeO (a b : List Pl.Ent) : List Pl.Ent := if Pl.mergeC a b = 0 then (Pl.mrg a [] b).1 else []
def Pl.mergeK (a b : List Pl.Ent) : List ByteArray := if Pl.mergeC a b = 0 then (Pl.mrg a [] b).2 else []

theorem Pl.Good.ok {es : List Pl.Ent} (h : Pl.Good es) : ∀ e ∈ es, e.ok := fun e he => Pl.may_ok (h.2.1 e he)

set_option maxHeartbeats 2000000 in
theorem Merge_any (a : Option Addr) (len cap : Nat) (ea : List Pl.Ent) (b : Option Addr) (lenb capb : Nat) (eb : List Pl.Ent) (w : World) (h : IsEnts w a len cap ea) (hnil : a = none → cap = 0) (hB : IsEnts w b lenb capb eb) :
    Calls Tryd.prog 25 #[.slice a len cap, .slice b lenb capb] w fun e w' => ∃ vo vk, e = .returned (.tuple #[vo, vk, .int .i64 (Pl.mergeC ea eb)]) ∧
      Own w' w.heap.size vo (Pl.mergeO ea eb) ∧ OwnS w' w.heap.size vk (Pl.mergeK ea eb) ∧ Below w.heap.size w w' := by
  have HH : Hid (IsEnts w a len cap ea) := h
  have HN : Hid (a = none → cap = 0) := hnil
  have HB : Hid (IsEnts w b lenb capb eb) := hB
  clear h hnil hB
  obtain ⟨ca, HCA⟩ : ∃ c, Hid (Pl.fault ea = c) := ⟨_, rfl⟩
  obtain ⟨cb, HCB⟩ : ∃ c, Hid (Pl.fault eb = c) := ⟨_, rfl⟩
  by_cases hca : ca = 0
  · by_cases hcb : cb = 0
    · subst hca hcb
      have HGA : Hid (Pl.Good ea) := (Pl.good_iff ea).1 HCA.out
      have HGB : Hid (Pl.Good eb) := (Pl.good_iff eb).1 HCB.out
      have HM : Hid (Pl.mergeC ea eb = 0 ∧ Pl.mergeO ea eb = (Pl.mrg ea [] eb).1 ∧ Pl.mergeK ea eb = (Pl.mrg ea [] eb).2) := by
        have : Pl.mergeC ea eb = 0 := by unfold Pl.mergeC; rw [HCA.out, HCB.out]; rfl
        refine ⟨this, ?_, ?_⟩
        · unfold Pl.mergeO; rw [if_pos this]
        · unfold Pl.mergeK; rw [if_pos this]
      have hlen : len ≤ 60 := by have := HH.out.1; have := HGA.out.1; omega
      have hlenb : lenb ≤ 60 := by have := HB.out.1; have := HGB.out.1; omega
      have hlb : eb.length = lenb := HB.out.1
      have hcapb := HB.out.2.1
      have hmb := HB.out.2.2.1
      unfold maxLen at hmb
      go_enter Tryd.func25, Tryd.ntmps25
      go_wp2_with fail
      refine (Check_any _ _ _ ea _ HH.out).mono ?_
      rw [HCA.out]
      rintro e w1 ⟨rfl, hb1⟩
      go_wp2_with fail
      refine (Check_any _ _ _ eb _ (HB.out.below hb1)).mono ?_
      rw [HCB.out]
      rintro e w2 ⟨rfl, hb2⟩
      have hbl2 : Below w.heap.size w w2 := hb1.trans (hb2.mono hb1.size)
      clear hb1 hb2
      go_wp2_with (at_builtin; refine append_copy rfl (.const (.slice none 0 0)) (.tmp 25) rfl _ _ _ ea rfl rfl (HH.out.below hbl2) HN.out (by omega) ?_; intro vo w3 hown hb3)
      have hbl3 : Below w.heap.size w w3 := hbl2.trans (hb3.mono hbl2.size)
      have HO : Hid (Own w3 w.heap.size vo ea) := hown.mono hbl2.size
      clear hown hb3
      go_loopw [9, 10, 29] (fun vo vk i wr => ∃ (k : Nat) (ol : List Pl.Ent) (ks : List ByteArray) (vkk : Value), vkk = vk ∧ k ≤ lenb ∧ i = .int .i64 k ∧ Hid (Own wr w.heap.size vo ol) ∧ Hid (OwnS wr w.heap.size vkk ks) ∧ ks.length ≤ k ∧ Hid (Pl.mrg ea [] eb = Pl.mrg ol ks (eb.drop k)) ∧ Hid (Pl.Good ol) ∧ Below w.heap.size w wr) (fun _ _ i _ => lenb - (intOf i).toNat)
      case atStart => exact ⟨0, ea, [], _, rfl, Nat.zero_le _, rfl, HO, OwnS.nil _ _, Nat.le_refl _, rfl, HGA, hbl3⟩
      case round =>
        obtain ⟨k, ol, ks, vk, rfl, hk, rfl, HOR, HKR, hks, HMR, HGR, hbr⟩ := hrel
        by_cases hlt : k < lenb
        · obtain ⟨bb, boff, rfl, hbw, hrw⟩ : ∃ b0 off, b = some ⟨b0, off, none⟩ ∧ b0 < w.heap.size ∧ RowAt w b0 off eb := by
            rcases HB.out.2.2.2.2 with h | h
            · rw [h] at hlb; simp at hlb; omega
            · exact h
          obtain ⟨q0, q1, q2, q3⟩ := hrw.below hbw hbr k (by omega)
          have HX : Hid ((Pl.ent eb k).may = true) := HGB.out.2.1 _ (Pl.ent_mem eb k (by omega))
          have HD : Hid (eb.drop k = Pl.ent eb k :: eb.drop (k + 1)) := Pl.drop_ent eb k (by omega)
          have HA : Hid (Pl.Asc ol) := (Pl.asc_iff ol).2 HGR.out.2.2
          obtain ⟨ao, cp, rfl, hE, hn, hpl⟩ := HOR.out.shape HGR.out.ok
          have HE : Hid (IsEnts wr ao ol.length cp ol) := hE
          have HN2 : Hid (ao = none → cp = 0) := hn
          have HL : Hid (ol.length ≤ 60) := HGR.out.1
          clear hE hn hrw hpl
          have hz := hbr.size
          generalize Pl.ent eb k = x at *
          obtain ⟨xk, xv, xo, xx⟩ := x
          simp only at q0 q1 q2 q3
          go_wp2_with fail
          refine (find_any _ _ _ ol _ _ (HE.out.below ((Below.refl _ _).alloc (Nat.le_refl _) _)) HA.out HL.out).mono ?_
          rintro e w4 ⟨rfl, hb4⟩
          have hq4 : Below (wr.heap.size + 1) _ w4 := hb4.mono (by simp)
          obtain ⟨x0, x1, x2, x3⟩ := box4 hq4
          have hz4 := hb4.size
          simp at hz4
          go_wp2_with fail
          refine (comes_any _ _ _ ol ⟨xk, xv, xo, xx⟩ _ (HE.out.below (((Below.refl _ _).alloc (Nat.le_refl _) _).trans (hb4.mono (by simp))))).mono ?_
          rintro e w5 ⟨rfl, hb5⟩
          have hq5 : Below (wr.heap.size + 1) _ w5 := hq4.trans (hb5.mono (by omega))
          have hz5 := hb5.size
          clear x0 x1 x2 x3
          obtain ⟨x0, x1, x2, x3⟩ := box4 hq5
          have hbr5 : Below w.heap.size w w5 := (hbr.alloc hz _).trans (hq5.mono (by omega))
          have hwr5 : Below wr.heap.size wr w5 := ((Below.refl _ _).alloc (Nat.le_refl _) _).trans (hq5.mono (by omega))
          obtain ⟨cc, HCC⟩ : ∃ cc, Hid (Pl.comesB ol ⟨xk, xv, xo, xx⟩ = cc) := ⟨_, rfl⟩
          rw [HCC.out]
          cases cc
          · go_wp2_with fail
            go_roundw
            case rel => exact ⟨k + 1, ol, ks, _, rfl, by omega, by go_num, HOR.out.below hwr5, HKR.out.below hwr5, by omega, by show _ = _; rw [HMR.out, HD.out]; simp [Pl.mrg, HCC.out], HGR, hbr5⟩
            case measure => simp [intOf]; omega
          · have HT : Hid (Pl.there ol xk = true → Pl.pos ol xk < ol.length) := by
              intro ht
              unfold Pl.there at ht
              simp only [Bool.and_eq_true, decide_eq_true_eq] at ht
              exact ht.1
            go_wp2_with fail
            refine (lay_any _ _ _ ol (Pl.pos ol xk) (Pl.there ol xk) ⟨xk, xv, xo, xx⟩ _ (HE.out.below hwr5) HN2.out HL.out (Pl.pos_le _ _) HT.out).mono ?_
            rintro e w6 ⟨v6, rfl, hown6, hb6⟩
            have hq6 : Below (wr.heap.size + 1) _ w6 := hq5.trans (hb6.mono (by omega))
            have hz6 := hb6.size
            clear x0 x1 x2 x3
            obtain ⟨x0, x1, x2, x3⟩ := box4 hq6
            have hwr6 : Below wr.heap.size wr w6 := hwr5.trans (hb6.mono (by omega))
            have HK6 : Hid (OwnS w6 w.heap.size vk ks) := HKR.out.below hwr6
            have HO6 : Hid (Own w6 w5.heap.size v6 (Pl.layL ol (Pl.pos ol xk) (Pl.there ol xk) ⟨xk, xv, xo, xx⟩)) := hown6
            clear hown6
            go_wp2_with (at_builtin; refine append_key rfl (.tmp 50) (.tmp 53) rfl w.heap.size vk ks xk rfl HK6.out (by omega) rfl (by omega) ?_; intro vk7 w7 hk7 hg7 hb7)
            have HO7 : Hid (Own w7 w.heap.size v6 (Pl.ins ol ⟨xk, xv, xo, xx⟩)) := by
              have h6 := HO6.out
              rw [Pl.lay_ins ol ⟨xk, xv, xo, xx⟩] at h6
              have ha := Own.below h6 ((Below.refl _ _).alloc (Nat.le_refl _) (.cells #[.string xk] 9))
              refine (Own.kept ha hg7 ?_).mono (by omega)
              have l1 := World.ownsRow.lt h6
              have l2 := World.ownsRow.lt HKR.out
              cases e1 : v6.ownBlock with
              | none => exact .inl rfl
              | some g =>
                right
                intro e2
                have a1 := (l1 g e1).1
                have a2 := (l2 g e2.symm).2
                omega
            have HG7 : Hid (Pl.Good (Pl.ins ol ⟨xk, xv, xo, xx⟩)) := Pl.ins_good HGR.out HX.out HCC.out
            have hbr7 : Below w.heap.size w w7 := (hbr5.trans (hb6.mono (by omega))).trans hb7
            clear hg7 hb7
            go_wp2_with fail
            go_roundw
            case rel => exact ⟨k + 1, _, ks ++ [xk], _, rfl, by omega, by go_num, HO7, hk7, by simp; omega, by show _ = _; rw [HMR.out, HD.out]; simp [Pl.mrg, HCC.out], HG7, hbr7⟩
            case measure => simp [intOf]; omega
        · obtain rfl : k = lenb := by omega
          go_wp2_with fail
          go_ret3
          have hmm : Pl.mrg ea [] eb = (ol, ks) := by
            rw [HMR.out, List.drop_eq_nil_of_le (by omega)]; rfl
          exact ⟨_, _, by rw [HM.out.1]; rfl, by rw [HM.out.2.1, hmm]; exact HOR.out, by rw [HM.out.2.2, hmm]; exact HKR.out, hbr⟩
    · subst hca
      have hcn : (cb != 0) = true := by simp [hcb]
      have HM : Hid (Pl.mergeC ea eb = cb ∧ Pl.mergeO ea eb = [] ∧ Pl.mergeK ea eb = []) := by
        have : Pl.mergeC ea eb = cb := by unfold Pl.mergeC; rw [HCA.out, HCB.out]; rfl
        refine ⟨this, ?_, ?_⟩
        · unfold Pl.mergeO; rw [this, if_neg hcb]
        · unfold Pl.mergeK; rw [this, if_neg hcb]
      clear hcb
      go_enter Tryd.func25, Tryd.ntmps25
      go_wp2_with fail
      refine (Check_any _ _ _ ea _ HH.out).mono ?_
      rw [HCA.out]
      rintro e w1 ⟨rfl, hb1⟩
      go_wp2_with fail
      refine (Check_any _ _ _ eb _ (HB.out.below hb1)).mono ?_
      rw [HCB.out]
      rintro e w2 ⟨rfl, hb2⟩
      go_wp2_with fail
      go_ret3
      exact ⟨_, _, by rw [HM.out.1]; rfl, by rw [HM.out.2.1]; exact Own.nil _ _, by rw [HM.out.2.2]; exact OwnS.nil _ _, hb1.trans (hb2.mono hb1.size)⟩
  · have hcn : (ca != 0) = true := by simp [hca]
    have HM : Hid (Pl.mergeC ea eb = ca ∧ Pl.mergeO ea eb = [] ∧ Pl.mergeK ea eb = []) := by
      have : Pl.mergeC ea eb = ca := by unfold Pl.mergeC; rw [HCA.out, if_neg hca]
      refine ⟨this, ?_, ?_⟩
      · unfold Pl.mergeO; rw [this, if_neg hca]
      · unfold Pl.mergeK; rw [this, if_neg hca]
    clear hca
    go_enter Tryd.func25, Tryd.ntmps25
    go_wp2_with fail
    refine (Check_any _ _ _ ea _ HH.out).mono ?_
    rw [HCA.out]
    rintro e w1 ⟨rfl, hb1⟩
    go_wp2_with fail
    go_ret3
    exact ⟨_, _, by rw [HM.out.1]; rfl, by rw [HM.out.2.1]; exact Own.nil _ _, by rw [HM.out.2.2]; exact OwnS.nil _ _, hb1⟩
end Go.Proofs.YtcdobhdbafpkiadDoor
/-
  Contract: the store of raw things.
-/
namespace Go.Proofs.YtcdobhdbafpkiadDoor
open Go.RowKit
set_option maxRecDepth 20000

/-- a slice of raw things -/
def IsRaws (w : World) (a : Option Addr) (len cap : Nat) : Prop :=
  len ≤ cap ∧ cap ≤ maxLen ∧ (len = 0 ∨ ∃ b off, a = some ⟨b, off, none⟩ ∧ b < w.heap.size ∧ ∀ i, i < len → ∃ k0 k1 k2 k3 : Int,
    (w.cell? ⟨b, off + i * 4, none⟩ = some (.int .i64 k0) ∧ w.cell? ⟨b, off + i * 4 + 1, none⟩ = some (.int .i64 k1) ∧ w.cell? ⟨b, off + i * 4 + 2, none⟩ = some (.int .i64 k2) ∧ w.cell? ⟨b, off + i * 4 + 3, none⟩ = some (.int .i64 k3)) ∧
    (Lit.int .i64 k0).wf = true ∧ (Lit.int .i64 k1).wf = true ∧ (Lit.int .i64 k2).wf = true ∧ (Lit.int .i64 k3).wf = true)
theorem IsRaws.below {w w' : World} {a : Option Addr} {len cap : Nat} (h : IsRaws w a len cap) (k : Below w.heap.size w w') : IsRaws w' a len cap := by
  obtain ⟨h1, h2, h3⟩ := h
  refine ⟨h1, h2, ?_⟩
  rcases h3 with h3 | ⟨b, off, rfl, hb, hr⟩
  · exact .inl h3
  · refine .inr ⟨b, off, rfl, Nat.lt_of_lt_of_le hb k.size, fun i hi => ?_⟩
    obtain ⟨k0, k1, k2, k3, ⟨q0, q1, q2, q3⟩, hw⟩ := hr i hi
    have hc := (bcell k).1
    exact ⟨k0, k1, k2, k3, ⟨(hc b _ hb).trans q0, (hc b _ hb).trans q1, (hc b _ hb).trans q2, (hc b _ hb).trans q3⟩, hw⟩

namespace Pl
theorem good_nil : Good [] := (good_iff []).1 rfl
theorem good_one {x : Ent} (h : x.may = true) : Good [x] := by
  rw [← good_iff]
  simp [fault, faultN, ent, h, lowB]
theorem mrg_one {es : List Ent} {x : Ent} : (mrg es [] [x]).1 = if comesB es x then ins es x else es := by
  unfold mrg; split <;> simp [mrg]
theorem ins_len_le (es : List Ent) (x : Ent) : es.length ≤ (ins es x).length ∧ (ins es x).length ≤ es.length + 1 := by
  rw [ins_len]; split <;> omega
theorem ins_ne (es : List Ent) (x : Ent) : 1 ≤ (ins es x).length := by
  cases es with
  | nil => rw [ins_len]; simp [there]
  | cons e r => have := (ins_len_le (e :: r) x).1; simp at this; omega
theorem step_one {es : List Ent} {x : Ent} (h : Good es) (hx : x.may = true) : mergeC es [x] = 0 ∧ Good (mergeO es [x]) ∧ es.length ≤ (mergeO es [x]).length ∧ (mergeO es [x]).length ≤ es.length + 1 ∧ 1 ≤ (mergeO es [x]).length := by
  have h1 := (good_iff es).2 h
  have h2 := (good_iff [x]).2 (good_one hx)
  have hc : mergeC es [x] = 0 := by unfold mergeC; rw [if_pos h1]; exact h2
  have ho : mergeO es [x] = if comesB es x then ins es x else es := by unfold mergeO; rw [if_pos hc, mrg_one]
  refine ⟨hc, ?_, ?_⟩
  · unfold mergeO; rw [if_pos hc]; exact mrg_good _ _ _ h (by intro e he; rw [List.mem_singleton.1 he]; exact hx)
  · rw [ho]
    split
    · exact ⟨(ins_len_le es x).1, (ins_len_le es x).2, ins_ne es x⟩
    · rename_i hcm
      refine ⟨Nat.le_refl _, by omega, ?_⟩
      cases es with
      | nil => simp [comesB, there] at hcm
      | cons e r => simp
theorem step_ver {es : List Ent} {x : Ent} (h : Good es) (hx : x.may = true) (hv : ∀ y ∈ es, y.ver ≤ 4) (hx4 : x.ver ≤ 4) : ∀ y ∈ mergeO es [x], y.ver ≤ 4 := by
  have hc := (step_one h hx).1
  have ho : mergeO es [x] = if comesB es x then ins es x else es := by unfold mergeO; rw [if_pos hc, mrg_one]
  rw [ho]
  split
  · intro y hy
    rcases mem_ins hy with rfl | hy
    · exact hx4
    · exact hv y hy
  · exact hv
end Pl

set_option maxHeartbeats 2000000 in
theorem Store_any4 (a : Option Addr) (len cap : Nat) (most : Nat) (w : World) (h : IsRaws w a len cap) (hm : most ≤ 20) :
    Calls Tryd.prog 33 #[.slice a len cap, .int .i64 (most : Int)] w fun e w' => ∃ v es, e = .returned v ∧ Own w' w.heap.size v es ∧ Pl.Good es ∧ (∀ y ∈ es, y.ver ≤ 4) ∧ es.length ≤ most ∧ (1 ≤ len → 1 ≤ most → 1 ≤ es.length) ∧ Below w.heap.size w w' := by
  have HH := hid h
  have hlc := h.1
  have hcm := h.2.1
  unfold maxLen at hcm
  clear h
  go_enter Tryd.func33, Tryd.ntmps33
  go_wp2
  go_loopw [5, 6] (fun vo i wr => ∃ (k : Nat) (es : List Pl.Ent) (u : Value), u = vo ∧ k ≤ len ∧ k ≤ most ∧ i = .int .i64 k ∧ Hid (Own wr w.heap.size u es) ∧ Hid (Pl.Good es) ∧ Hid (∀ y ∈ es, y.ver ≤ 4) ∧ es.length ≤ k ∧ Hid (1 ≤ k → 1 ≤ es.length) ∧ Hid (Below w.heap.size w wr)) (fun _ i _ => len - (intOf i).toNat)
  case atStart => exact ⟨0, [], _, rfl, Nat.zero_le _, Nat.zero_le _, rfl, Own.nil _ _, Pl.good_nil, hid (by simp), Nat.le_refl _, (fun h => by omega), Below.refl _ _⟩
  case round =>
    obtain ⟨k, es, u, rfl, hk, hkm, rfl, HO, HG, HV4, hle, HNE, HB⟩ := hrel
    obtain ⟨au, cu, rfl, hE, hn, _⟩ := HO.out.shape HG.out.ok
    have HE := hid hE
    have HN := hid hn
    have HZ := hid HB.out.size
    clear hE hn
    by_cases hlt : k < len
    · by_cases hlm : k < most
      · obtain ⟨b, off, rfl, hb, hr⟩ := (HH.out.below HB.out).2.2.resolve_left (by omega)
        obtain ⟨k0, k1, k2, k3, ⟨q0, q1, q2, q3⟩, w0, w1, w2, w3⟩ := hr k hlt
        have HEN := hid (fun W => Entry_any4 k0 k1 k2 k3 W w0 w1 w2 w3)
        clear hr w0 w1 w2 w3
        go_wp2_with fail
        refine (HEN.out _).mono ?_
        rintro e w1 ⟨x, rfl, ⟨hx, hx4⟩, hb1⟩
        have HV5 : Hid (∀ y ∈ Pl.mergeO es [x], y.ver ≤ 4) := hid (Pl.step_ver HG.out hx HV4.out hx4)
        clear hx4
        obtain ⟨xk, xv, xo, xx⟩ := x
        simp only
        have hst := Pl.step_one HG.out hx
        have HX := hid hx
        have HB1 := hid hb1
        clear hb1 hx
        obtain ⟨s1, s2, s3, s4, s5⟩ := hst
        have S2 := hid s2
        have S4 := hid s4
        clear s2
        have HI1 : Hid (IsEnts (w1.alloc (.cells #[.string xk, .int .i64 xv, .int .i64 xo, .string xx] 64)) (some ⟨w1.heap.size, 0, none⟩) 1 1 [⟨xk, xv, xo, xx⟩]) := by
          refine ⟨rfl, Nat.le_refl _, by decide, ?_, .inr ⟨_, _, rfl, by simp, ?_⟩⟩
          · intro e he; rw [List.mem_singleton.1 he]; exact Pl.may_ok HX.out
          · intro i hi
            obtain rfl : i = 0 := by simp at hi; omega
            simp [Pl.ent]
        have HBA : Hid (Below w1.heap.size w1 (w1.alloc (.cells #[.string xk, .int .i64 xv, .int .i64 xo, .string xx] 64))) := (Below.refl _ _).alloc (Nat.le_refl _) _
        go_wp2_with fail
        refine (Merge_any _ _ _ es _ _ _ [⟨xk, xv, xo, xx⟩] _ ((HE.out.below HB1.out).below HBA.out) HN.out HI1.out).mono ?_
        rintro e w2 ⟨vo, vk, rfl, ho2, _, hb2⟩
        rw [s1]
        have HO2 := hid ho2
        have HB2 : Hid (Below w.heap.size w w2) := by
          have b1 := HB.out.trans (HB1.out.mono HZ.out)
          have b2 := b1.trans (HBA.out.mono b1.size)
          exact b2.trans (hb2.mono b2.size)
        have HZ2 : Hid (w.heap.size ≤ (w1.alloc (.cells #[.string xk, .int .i64 xv, .int .i64 xo, .string xx] 64)).heap.size) := by
          have b1 := HB.out.trans (HB1.out.mono HZ.out)
          have b2 := b1.trans (HBA.out.mono b1.size)
          exact b2.size
        clear ho2 hb2
        go_wp2_with fail
        go_roundw
        case rel => exact ⟨k + 1, _, _, rfl, by omega, by omega, by go_num, HO2.out.mono HZ2.out, S2, HV5, by have := S4.out; omega, (fun _ => s5), HB2⟩
        case measure => simp [intOf]; omega
      · obtain rfl : k = most := by omega
        go_wp2
        go_ret
        exact ⟨_, _, rfl, HO.out, HG.out, HV4.out, by omega, (fun _ h => HNE.out h), HB.out⟩
    · obtain rfl : k = len := by omega
      go_wp2
      go_ret
      exact ⟨_, _, rfl, HO.out, HG.out, HV4.out, by omega, (fun h _ => HNE.out h), HB.out⟩
theorem Store_any (a : Option Addr) (len cap : Nat) (most : Nat) (w : World) (h : IsRaws w a len cap) (hm : most ≤ 20) :
    Calls Tryd.prog 33 #[.slice a len cap, .int .i64 (most : Int)] w fun e w' => ∃ v es, e = .returned v ∧ Own w' w.heap.size v es ∧ Pl.Good es ∧ es.length ≤ most ∧ (1 ≤ len → 1 ≤ most → 1 ≤ es.length) ∧ Below w.heap.size w w' :=
  (Store_any4 a len cap most w h hm).mono fun _ _ ⟨v, es, e, o, g, _, r⟩ => ⟨v, es, e, o, g, r⟩
end Go.Proofs.YtcdobhdbafpkiadDoor
/-
  What a parameter holds when it is read as data: a slice of raw things.
-/
namespace Go.Proofs.YtcdobhdbafpkiadDoor
open Go.ChangeShapes Go.WideShapes Go.ChangeAt Go.RowKit
set_option maxRecDepth 20000

theorem cellsRaw : Tryd.prog.cellsOf 29 = 4 := by kernel_rfl
theorem raw_of_trod {H : Type} {enc : TypeId × Value → H} {w : World} {base : Nat} {spare : Nat → Bool} {held : Bool} {n : Nat} {cs : List Value} {x : DataW H × List MemPlace}
    (h : DataW.trod enc Tryd.prog w base spare held n 29 cs = some x) : ∃ k0 k1 k2 k3 : Int, cs = [.int .i64 k0, .int .i64 k1, .int .i64 k2, .int .i64 k3] ∧
      (Lit.int .i64 k0).wf = true ∧ (Lit.int .i64 k1).wf = true ∧ (Lit.int .i64 k2).wf = true ∧ (Lit.int .i64 k3).wf = true := by
  obtain ⟨y0, y1, y2, y3, m, _, hl, h0, h1, h2, h3⟩ := Go.Joins.trod_struct4 Tryd.underlying29 h
  rw [cellsRaw] at hl
  match cs, hl with
  | [c0, c1, c2, c3], _ =>
    have e3 : Tryd.prog.cellsOf 3 = 1 := by kernel_rfl
    simp only [e3] at h0 h1 h2 h3
    obtain ⟨s0, a0, _, b0⟩ := DataW.trod_int Tryd.underlying3 h0
    obtain ⟨s1, a1, _, b1⟩ := DataW.trod_int Tryd.underlying3 h1
    obtain ⟨s2, a2, _, b2⟩ := DataW.trod_int Tryd.underlying3 h2
    obtain ⟨s3, a3, _, b3⟩ := DataW.trod_int Tryd.underlying3 h3
    simp at a0 a1 a2 a3
    subst a0 a1 a2 a3
    exact ⟨s0, s1, s2, s3, rfl, b0, b1, b2, b3⟩

theorem open_raw {H : Type} {enc : TypeId × Value → H} {w : World} {r : Reach} {b0 base : Nat} {spare : Nat → Bool} {held : Bool} {v : Value} {d : DataW H} {p : List MemPlace}
    (hv : Value.okWide Tryd.prog w r b0 29 v) (h : DataW.Trod enc Tryd.prog w base spare held 29 v d p) :
    ∃ k0 k1 k2 k3 : Int, v = .agg #[.int .i64 k0, .int .i64 k1, .int .i64 k2, .int .i64 k3] ∧
      ((Lit.int .i64 k0).wf = true ∧ (Lit.int .i64 k1).wf = true ∧ (Lit.int .i64 k2).wf = true ∧ (Lit.int .i64 k3).wf = true) := by
  obtain ⟨fuel, hf⟩ := h
  obtain ⟨cs, rfl, hsz⟩ := okWide_struct Tryd.underlying29 hv
  obtain ⟨k0, k1, k2, k3, he, hw⟩ := raw_of_trod hf
  refine ⟨k0, k1, k2, k3, ?_, hw⟩
  simp [Value.cells] at he
  rw [← he]

theorem open_raws {H : Type} {enc : TypeId × Value → H} {w : World} {r : Reach} {b0 : Nat} {held : Bool} {v : Value} {d : DataW H} {p : List MemPlace}
    (hv : Value.okWide Tryd.prog w r b0 22 v) (h : DataW.Trod enc Tryd.prog w 0 (fun _ => true) held 22 v d p) :
    ∃ a len cap, v = .slice a len cap ∧ IsRaws w a len cap := by
  obtain ⟨a, len, cap, rfl⟩ := okWide_slice Tryd.underlying22 hv
  obtain ⟨fuel, hf⟩ := h
  rcases Go.Deep.open_slice Tryd.underlying22 hf with ⟨hcs, _⟩ | ⟨x, l, c, m, n, D, Q, hcs, _, hl, hm, hmm, _, hx⟩
  · simp [Value.cells] at hcs
    obtain ⟨rfl, rfl, rfl⟩ := hcs
    exact ⟨_, _, _, rfl, Nat.le_refl _, by simp, .inl rfl⟩
  · simp [Value.cells] at hcs
    obtain ⟨rfl, rfl, rfl⟩ := hcs
    simp only [if_true] at hmm
    subst hmm
    rw [cellsRaw] at hx
    refine ⟨_, _, _, rfl, hl, hm, ?_⟩
    rcases Nat.eq_zero_or_pos len with h0 | hpos
    · exact .inl h0
    · right
      obtain ⟨b, off, spot⟩ := x
      obtain ⟨cs0, g1, g2⟩ := hx 0 (by omega)
      obtain ⟨k0, k1, k2, k3, rfl, _⟩ := raw_of_trod g2
      have hc0 := (World.cells?_some g1).2.2 0 (by omega)
      simp only [List.getElem?_cons_zero] at hc0
      have hsp : spot = none := by simpa [Addr.add] using World.cell?_spot hc0
      subst hsp
      refine ⟨b, off, rfl, ?_, ?_⟩
      · have := cell_lt hc0; simpa [Addr.add] using this
      · intro i hi
        obtain ⟨cs1, f1, f2⟩ := hx i (by omega)
        obtain ⟨k0, k1, k2, k3, rfl, hw⟩ := raw_of_trod f2
        have hc := (World.cells?_some f1).2.2
        have c0 := hc 0 (by omega)
        have c1 := hc 1 (by omega)
        have c2 := hc 2 (by omega)
        have c3 := hc 3 (by omega)
        simp only [add_none, List.getElem?_cons_zero, List.getElem?_cons_succ, Nat.add_zero] at c0 c1 c2 c3
        exact ⟨k0, k1, k2, k3, ⟨c0, c1, c2, c3⟩, hw⟩
end Go.Proofs.YtcdobhdbafpkiadDoor
