/-
  Contract: what lay makes: a new row with an entry at its place.
-/
import Derived.Test.YtcdobhdbafpkiadDoorOwn
namespace Go.Proofs.YtcdobhdbafpkiadDoor
open Go.RowKit
set_option maxRecDepth 20000

theorem src_drop {w : World} {b off i cap : Nat} {es : List Pl.Ent} {ad : Addr} (hr : RowAt w b off es) (hl : es.length ≤ cap) (h : (if cap = i then some (⟨b, off, none⟩ : Addr) else some ⟨b, off + i * 4, none⟩) = some ad) :
    ∀ j u, (cellsL (es.drop i))[j]? = some u → w.cell? (ad.add j) = some u := by
  intro j u hj
  split at h
  · rw [List.drop_eq_nil_of_le (by omega)] at hj
    simp [cellsL] at hj
  · cases h
    rw [add_none]
    exact (rowAt_cells _ _).1 (hr.drop i) j u hj

theorem own_lit (w : World) (A C : Obj) (e : Pl.Ent) : Own (((w.alloc A).alloc (.cells #[.string e.key, .int .i64 e.ver, .int .i64 e.org, .string e.val] 64)).alloc C) w.heap.size (.slice (some ⟨w.heap.size + 1, 0, none⟩) 1 1) [e] := by
  refine ⟨rfl, .inr ⟨w.heap.size + 1, 1, #[.string e.key, .int .i64 e.ver, .int .i64 e.org, .string e.val], rfl, by omega, ?_, Nat.le_refl _, by unfold maxLen; omega, rfl, rfl⟩⟩
  rw [Below.heap_alloc _ _ _ (by simp)]
  have := heap_new (w.alloc A) (.cells #[.string e.key, .int .i64 e.ver, .int .i64 e.org, .string e.val] 64)
  simpa using this

/-- the world behind a law that grew a row of the call's own -/
theorem below_grown {B : Nat} {a w w' : World} {row : Option Nat} (h : Below B a w) (hg : w.grownBy w' row) (hB : B ≤ w.heap.size) (hr : ∀ k, row = some k → B ≤ k) : Below B a w' := h.grown hg hB hr

set_option maxHeartbeats 400000 in
theorem lay_full (b off len cap : Nat) (es : List Pl.Ent) (i : Nat) (ins : Bool) (x : Pl.Ent) (w : World) (h : IsEnts w (some ⟨b, off, none⟩) len cap es) (hbw : b < w.heap.size) (hr : RowAt w b off es) (h60 : len ≤ 60) (hi : i ≤ len) (hins : ins = true → i < len) :
    Calls Tryd.prog 44 #[.slice (some ⟨b, off, none⟩) len cap, .int .i64 i, .bool ins, .agg #[.string x.key, .int .i64 x.ver, .int .i64 x.org, .string x.val]] w
      fun e w' => ∃ v, e = .returned v ∧ Own w' w.heap.size v (Pl.layL es i ins x) ∧ Below w.heap.size w w' := by
  obtain ⟨hl, hc, hm, hok, _⟩ := h
  unfold maxLen at hm
  have HL : Hid (Pl.layL es i ins x = es.take i ++ ([x] ++ es.drop (if ins then i + 1 else i))) := rfl
  have HX : Hid (cellsE x = cellsL [x]) := rfl
  generalize Pl.layL es i ins x = ll at *
  obtain ⟨xk, xv, xo, xx⟩ := x
  simp only
  obtain ⟨i0, hi0, hz0, hz1, hz2⟩ := info_parts infoEntry
  have hi' : (i : Int) ≤ (len : Int) := by omega
  have htk : (es.take i).length = i := by simp; omega
  have hbx : Below w.heap.size w (w.alloc (.cells #[.string xk, .int .i64 xv, .int .i64 xo, .string xx] 64)) := (Below.refl _ _).alloc (Nat.le_refl _) _
  have HBX : Hid _ := hbx
  clear hbx
  cases ins
  · go_enter Tryd.func44, Tryd.ntmps44
    go_wp2_with (first
      | (at_make; refine wpList_make_own _ rfl _ (.tmp 12) 45 rfl w.heap.size 64 i0 _ 4 Tryd.underlying45 hi0 hz0 hz1 .i64 .i64 _ (len + 1) rfl rfl (by simp) (by rw [hz2]; omega) (by unfold maxLen; omega) (by simp) ?_; intro w2 hown2 hg2; have hb2 := below_grown ((Below.refl (w.heap.size + 1) _)) hg2 (by simp) (by intro k hk; cases hk); simp only [World.size_alloc] at hown2; clear hg2; have hr2 := hr.below hbw (HBX.out.trans (hb2.mono (by omega))))
      | (at_builtin; (refine wpList_append_fits_any _ rfl (.tmp 14) (.tmp 17) 45 rfl w.heap.size 64 i0 4 Tryd.underlying45 hi0 hz1 (w.heap.size + 1) 0 (len + 1) [] rfl hown2 _ i cap (cellsL (es.take i)) rfl (by rw [cellsL_len, htk]) (by intro hh; cases hh) (by intro ad hh j u hj; cases hh; rw [add_none]; exact (rowAt_cells _ _).1 (hr2.take i) j u hj) (cellsL_one _) (by omega) ?_); intro w3 hown3 hg3; have hb3 := below_grown hb2 hg3 (by have := hb2.size; simp at this; omega) (by intro k hk; cases hk; omega); clear hg3; simp only [Nat.zero_add, List.nil_append] at hown3; obtain ⟨x0, x1, x2, x3⟩ := box4 hb3)
      | (at_builtin; (refine wpList_append_fits _ rfl (.tmp 19) (.tmp 21) 45 rfl w.heap.size 64 i0 4 Tryd.underlying45 hi0 hz1 (w.heap.size + 1) i (len + 1) (cellsL (es.take i)) rfl (hown3.alloc _) ⟨w3.heap.size, 0, none⟩ 1 1 (cellsE ⟨xk, xv, xo, xx⟩) rfl rfl (by intro j u hj; rw [add_none]; exact new4 w3 hj) (by rw [HX.out]; exact cellsL_one _) (by omega) ?_); intro w4 hown4 hg4; have hb4 := below_grown (hb3.alloc (by have := hb3.size; simpa using this) _) hg4 (by have := hb3.size; simp at this ⊢; omega) (by intro k hk; cases hk; omega); clear hg4; rw [HX.out, ← cellsL_append] at hown4; have hr4 := hr.below hbw (HBX.out.trans (hb4.mono (by omega))))
      | (at_builtin; (refine wpList_append_fits_any _ rfl (.tmp 26) (.tmp 29) 45 rfl w.heap.size 64 i0 4 Tryd.underlying45 hi0 hz1 (w.heap.size + 1) (i + 1) (len + 1) _ rfl hown4 _ _ _ (cellsL (es.drop i)) rfl (by rw [cellsL_len, List.length_drop, hl]) (by intro hh; split at hh <;> cases hh) (by intro ad hh; exact src_drop hr4 (by omega) hh) (cellsL_one _) (by omega) ?_); intro w5 hown5 hg5; have hb5 := below_grown hb4 hg5 (by have := hb4.size; simp at this ⊢; omega) (by intro k hk; cases hk; omega); clear hg5))
    all_goals (go_ret; exact ⟨_, rfl, own_of hown5 (by rw [HL.out]; simp [cellsL_append, cellsL]), HBX.out.trans (hb5.mono (by omega))⟩)
  · have hlt := hins rfl
    have hlt' : (i : Int) + 1 ≤ (len : Int) := by omega
    go_enter Tryd.func44, Tryd.ntmps44
    go_wp2_with (first
      | (at_make; refine wpList_make_own _ rfl _ (.tmp 12) 45 rfl w.heap.size 64 i0 _ 4 Tryd.underlying45 hi0 hz0 hz1 .i64 .i64 _ (len + 1) rfl rfl (by simp) (by rw [hz2]; omega) (by unfold maxLen; omega) (by simp) ?_; intro w2 hown2 hg2; have hb2 := below_grown ((Below.refl (w.heap.size + 1) _)) hg2 (by simp) (by intro k hk; cases hk); simp only [World.size_alloc] at hown2; clear hg2; have hr2 := hr.below hbw (HBX.out.trans (hb2.mono (by omega))))
      | (at_builtin; (refine wpList_append_fits_any _ rfl (.tmp 14) (.tmp 17) 45 rfl w.heap.size 64 i0 4 Tryd.underlying45 hi0 hz1 (w.heap.size + 1) 0 (len + 1) [] rfl hown2 _ i cap (cellsL (es.take i)) rfl (by rw [cellsL_len, htk]) (by intro hh; cases hh) (by intro ad hh j u hj; cases hh; rw [add_none]; exact (rowAt_cells _ _).1 (hr2.take i) j u hj) (cellsL_one _) (by omega) ?_); intro w3 hown3 hg3; have hb3 := below_grown hb2 hg3 (by have := hb2.size; simp at this; omega) (by intro k hk; cases hk; omega); clear hg3; simp only [Nat.zero_add, List.nil_append] at hown3; obtain ⟨x0, x1, x2, x3⟩ := box4 hb3)
      | (at_builtin; (refine wpList_append_fits _ rfl (.tmp 19) (.tmp 21) 45 rfl w.heap.size 64 i0 4 Tryd.underlying45 hi0 hz1 (w.heap.size + 1) i (len + 1) (cellsL (es.take i)) rfl (hown3.alloc _) ⟨w3.heap.size, 0, none⟩ 1 1 (cellsE ⟨xk, xv, xo, xx⟩) rfl rfl (by intro j u hj; rw [add_none]; exact new4 w3 hj) (by rw [HX.out]; exact cellsL_one _) (by omega) ?_); intro w4 hown4 hg4; have hb4 := below_grown (hb3.alloc (by have := hb3.size; simpa using this) _) hg4 (by have := hb3.size; simp at this ⊢; omega) (by intro k hk; cases hk; omega); clear hg4; rw [HX.out, ← cellsL_append] at hown4; have hr4 := hr.below hbw (HBX.out.trans (hb4.mono (by omega))))
      | (at_builtin; (refine wpList_append_fits_any _ rfl (.tmp 26) (.tmp 29) 45 rfl w.heap.size 64 i0 4 Tryd.underlying45 hi0 hz1 (w.heap.size + 1) (i + 1) (len + 1) _ rfl hown4 _ _ _ (cellsL (es.drop (i + 1))) rfl (by rw [cellsL_len, List.length_drop, hl]) (by intro hh; split at hh <;> cases hh) (by intro ad hh; exact src_drop hr4 (by omega) hh) (cellsL_one _) (by omega) ?_); intro w5 hown5 hg5; have hb5 := below_grown hb4 hg5 (by have := hb4.size; simp at this ⊢; omega) (by intro k hk; cases hk; omega); clear hg5))
    all_goals (go_ret; exact ⟨_, rfl, own_of hown5 (by rw [HL.out]; simp [cellsL_append, cellsL]), HBX.out.trans (hb5.mono (by omega))⟩)

set_option maxHeartbeats 400000 in
theorem lay_empty (a : Option Addr) (cap : Nat) (x : Pl.Ent) (w : World) (hm : cap ≤ maxLen) (hnil : a = none → cap = 0) :
    Calls Tryd.prog 44 #[.slice a 0 cap, .int .i64 0, .bool false, .agg #[.string x.key, .int .i64 x.ver, .int .i64 x.org, .string x.val]] w
      fun e w' => ∃ v, e = .returned v ∧ Own w' w.heap.size v [x] ∧ Below w.heap.size w w' := by
  unfold maxLen at hm
  obtain ⟨xk, xv, xo, xx⟩ := x
  simp only
  have hbx : Below w.heap.size w (w.alloc (.cells #[.string xk, .int .i64 xv, .int .i64 xo, .string xx] 64)) := (Below.refl _ _).alloc (Nat.le_refl _) _
  have HBX : Hid _ := hbx
  clear hbx
  have HN : Hid (a = none → cap = 0) := hnil
  clear hnil
  have hmk : ∀ w, (Instr.makeSlice 45 (.int .i64 0) (.int .i64 1)).run Tryd.prog w = .ok (.slice (some ⟨w.heap.size, 0, none⟩) 0 1) (w.alloc (.cells #[.string ⟨#[]⟩, .int .i64 0, .int .i64 0, .string ⟨#[]⟩] 64)) := fun _ => by kernel_rfl
  rcases a with _ | ad
  · obtain rfl := HN.out rfl
    go_enter Tryd.func44, Tryd.ntmps44
    go_wp2_with fail
    go_ret
    exact ⟨_, rfl, own_lit w _ _ ⟨xk, xv, xo, xx⟩, (HBX.out.alloc (by simp) _).alloc (by simp; omega) _⟩
  · clear HN
    go_enter Tryd.func44, Tryd.ntmps44
    go_wp2_with fail
    go_ret
    exact ⟨_, rfl, own_lit w _ _ ⟨xk, xv, xo, xx⟩, (HBX.out.alloc (by simp) _).alloc (by simp; omega) _⟩

theorem lay_any (a : Option Addr) (len cap : Nat) (es : List Pl.Ent) (i : Nat) (ins : Bool) (x : Pl.Ent) (w : World) (h : IsEnts w a len cap es) (hnil : a = none → cap = 0) (h60 : len ≤ 60) (hi : i ≤ len) (hins : ins = true → i < len) :
    Calls Tryd.prog 44 #[.slice a len cap, .int .i64 i, .bool ins, .agg #[.string x.key, .int .i64 x.ver, .int .i64 x.org, .string x.val]] w
      fun e w' => ∃ v, e = .returned v ∧ Own w' w.heap.size v (Pl.layL es i ins x) ∧ Below w.heap.size w w' := by
  have h0 := h
  obtain ⟨hl, hc, hm, hok, hrow⟩ := h
  rcases hrow with rfl | ⟨b, off, rfl, hb, hr⟩
  · simp at hl
    subst hl
    obtain rfl : i = 0 := by omega
    cases ins
    · exact lay_empty a cap x w hm hnil
    · have := hins rfl; omega
  · exact lay_full b off len cap es i ins x w h0 hb hr h60 hi hins
end Go.Proofs.YtcdobhdbafpkiadDoor
