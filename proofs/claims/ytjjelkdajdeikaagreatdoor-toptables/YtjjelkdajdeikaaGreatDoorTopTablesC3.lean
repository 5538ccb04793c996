/-
  Contracts and facts that the proof rests on, put together out of several texts.
-/
import Derived.Test.YtjjelkdajdeikaaGreatDoorTopTablesC2
import Derived.Test.YtjjelkdajdeikaaGreatDoorTopTablesC1
import Derived.Test.YtjjelkdajdeikaaGreatDoorProg
import Derived.WalkLawsBesides
import Derived.WalkSpells
import Derived.Deep.RegionWith
import Derived.Deep.QuietTactic
import Derived.BigQuiet
import Derived.OwnWalk
import Derived.Lib.AppendStr
import Derived.Laws.AppendOwnNone
import Derived.Laws.IdiomStrings
import Derived.Lib.BufferRead
import Derived.Laws.BitsAllLaws
namespace Go.Proofs.YtjjelkdajdeikaaGreatDoor
open Go.RowKit
set_option maxRecDepth 20000
theorem consN {n : Nat} {xs : List Value} (h : xs.length = n + 1) : ∃ x ys, xs = x :: ys ∧ ys.length = n := by
 cases xs with
 | nil => simp at h
 | cons x r => exact ⟨x, r, rfl, by simpa using h⟩
theorem listN15 (xs : List Value) (h : xs.length = 15) : ∃ x0 x1 x2 x3 x4 x5 x6 x7 x8 x9 x10 x11 x12 x13 x14, xs = [x0, x1, x2, x3, x4, x5, x6, x7, x8, x9, x10, x11, x12, x13, x14] := by
 obtain ⟨x0, y0, rfl, h0⟩ := consN h
 obtain ⟨x1, y1, rfl, h1⟩ := consN h0
 obtain ⟨x2, y2, rfl, h2⟩ := consN h1
 obtain ⟨x3, y3, rfl, h3⟩ := consN h2
 obtain ⟨x4, y4, rfl, h4⟩ := consN h3
 obtain ⟨x5, y5, rfl, h5⟩ := consN h4
 obtain ⟨x6, y6, rfl, h6⟩ := consN h5
 obtain ⟨x7, y7, rfl, h7⟩ := consN h6
 obtain ⟨x8, y8, rfl, h8⟩ := consN h7
 obtain ⟨x9, y9, rfl, h9⟩ := consN h8
 obtain ⟨x10, y10, rfl, h10⟩ := consN h9
 obtain ⟨x11, y11, rfl, h11⟩ := consN h10
 obtain ⟨x12, y12, rfl, h12⟩ := consN h11
 obtain ⟨x13, y13, rfl, h13⟩ := consN h12
 obtain ⟨x14, y14, rfl, h14⟩ := consN h13
 obtain rfl := List.length_eq_zero_iff.1 h14
 exact ⟨x0, x1, x2, x3, x4, x5, x6, x7, x8, x9, x10, x11, x12, x13, x14, rfl⟩
theorem listN20 (xs : List Value) (h : xs.length = 20) : ∃ x0 x1 x2 x3 x4 x5 x6 x7 x8 x9 x10 x11 x12 x13 x14 x15 x16 x17 x18 x19, xs = [x0, x1, x2, x3, x4, x5, x6, x7, x8, x9, x10, x11, x12, x13, x14, x15, x16, x17, x18, x19] := by
 obtain ⟨x0, y0, rfl, h0⟩ := consN h
 obtain ⟨x1, y1, rfl, h1⟩ := consN h0
 obtain ⟨x2, y2, rfl, h2⟩ := consN h1
 obtain ⟨x3, y3, rfl, h3⟩ := consN h2
 obtain ⟨x4, y4, rfl, h4⟩ := consN h3
 obtain ⟨x5, y5, rfl, h5⟩ := consN h4
 obtain ⟨x6, y6, rfl, h6⟩ := consN h5
 obtain ⟨x7, y7, rfl, h7⟩ := consN h6
 obtain ⟨x8, y8, rfl, h8⟩ := consN h7
 obtain ⟨x9, y9, rfl, h9⟩ := consN h8
 obtain ⟨x10, y10, rfl, h10⟩ := consN h9
 obtain ⟨x11, y11, rfl, h11⟩ := consN h10
 obtain ⟨x12, y12, rfl, h12⟩ := consN h11
 obtain ⟨x13, y13, rfl, h13⟩ := consN h12
 obtain ⟨x14, y14, rfl, h14⟩ := consN h13
 obtain ⟨x15, y15, rfl, h15⟩ := consN h14
 obtain ⟨x16, y16, rfl, h16⟩ := consN h15
 obtain ⟨x17, y17, rfl, h17⟩ := consN h16
 obtain ⟨x18, y18, rfl, h18⟩ := consN h17
 obtain ⟨x19, y19, rfl, h19⟩ := consN h18
 obtain rfl := List.length_eq_zero_iff.1 h19
 exact ⟨x0, x1, x2, x3, x4, x5, x6, x7, x8, x9, x10, x11, x12, x13, x14, x15, x16, x17, x18, x19, rfl⟩
theorem listN21 (xs : List Value) (h : xs.length = 21) : ∃ x0 x1 x2 x3 x4 x5 x6 x7 x8 x9 x10 x11 x12 x13 x14 x15 x16 x17 x18 x19 x20, xs = [x0, x1, x2, x3, x4, x5, x6, x7, x8, x9, x10, x11, x12, x13, x14, x15, x16, x17, x18, x19, x20] := by
 obtain ⟨x0, y0, rfl, h0⟩ := consN h
 obtain ⟨x1, y1, rfl, h1⟩ := consN h0
 obtain ⟨x2, y2, rfl, h2⟩ := consN h1
 obtain ⟨x3, y3, rfl, h3⟩ := consN h2
 obtain ⟨x4, y4, rfl, h4⟩ := consN h3
 obtain ⟨x5, y5, rfl, h5⟩ := consN h4
 obtain ⟨x6, y6, rfl, h6⟩ := consN h5
 obtain ⟨x7, y7, rfl, h7⟩ := consN h6
 obtain ⟨x8, y8, rfl, h8⟩ := consN h7
 obtain ⟨x9, y9, rfl, h9⟩ := consN h8
 obtain ⟨x10, y10, rfl, h10⟩ := consN h9
 obtain ⟨x11, y11, rfl, h11⟩ := consN h10
 obtain ⟨x12, y12, rfl, h12⟩ := consN h11
 obtain ⟨x13, y13, rfl, h13⟩ := consN h12
 obtain ⟨x14, y14, rfl, h14⟩ := consN h13
 obtain ⟨x15, y15, rfl, h15⟩ := consN h14
 obtain ⟨x16, y16, rfl, h16⟩ := consN h15
 obtain ⟨x17, y17, rfl, h17⟩ := consN h16
 obtain ⟨x18, y18, rfl, h18⟩ := consN h17
 obtain ⟨x19, y19, rfl, h19⟩ := consN h18
 obtain ⟨x20, y20, rfl, h20⟩ := consN h19
 obtain rfl := List.length_eq_zero_iff.1 h20
 exact ⟨x0, x1, x2, x3, x4, x5, x6, x7, x8, x9, x10, x11, x12, x13, x14, x15, x16, x17, x18, x19, x20, rfl⟩
theorem listN26 (xs : List Value) (h : xs.length = 26) : ∃ x0 x1 x2 x3 x4 x5 x6 x7 x8 x9 x10 x11 x12 x13 x14 x15 x16 x17 x18 x19 x20 x21 x22 x23 x24 x25, xs = [x0, x1, x2, x3, x4, x5, x6, x7, x8, x9, x10, x11, x12, x13, x14, x15, x16, x17, x18, x19, x20, x21, x22, x23, x24, x25] := by
 obtain ⟨x0, y0, rfl, h0⟩ := consN h
 obtain ⟨x1, y1, rfl, h1⟩ := consN h0
 obtain ⟨x2, y2, rfl, h2⟩ := consN h1
 obtain ⟨x3, y3, rfl, h3⟩ := consN h2
 obtain ⟨x4, y4, rfl, h4⟩ := consN h3
 obtain ⟨x5, y5, rfl, h5⟩ := consN h4
 obtain ⟨x6, y6, rfl, h6⟩ := consN h5
 obtain ⟨x7, y7, rfl, h7⟩ := consN h6
 obtain ⟨x8, y8, rfl, h8⟩ := consN h7
 obtain ⟨x9, y9, rfl, h9⟩ := consN h8
 obtain ⟨x10, y10, rfl, h10⟩ := consN h9
 obtain ⟨x11, y11, rfl, h11⟩ := consN h10
 obtain ⟨x12, y12, rfl, h12⟩ := consN h11
 obtain ⟨x13, y13, rfl, h13⟩ := consN h12
 obtain ⟨x14, y14, rfl, h14⟩ := consN h13
 obtain ⟨x15, y15, rfl, h15⟩ := consN h14
 obtain ⟨x16, y16, rfl, h16⟩ := consN h15
 obtain ⟨x17, y17, rfl, h17⟩ := consN h16
 obtain ⟨x18, y18, rfl, h18⟩ := consN h17
 obtain ⟨x19, y19, rfl, h19⟩ := consN h18
 obtain ⟨x20, y20, rfl, h20⟩ := consN h19
 obtain ⟨x21, y21, rfl, h21⟩ := consN h20
 obtain ⟨x22, y22, rfl, h22⟩ := consN h21
 obtain ⟨x23, y23, rfl, h23⟩ := consN h22
 obtain ⟨x24, y24, rfl, h24⟩ := consN h23
 obtain ⟨x25, y25, rfl, h25⟩ := consN h24
 obtain rfl := List.length_eq_zero_iff.1 h25
 exact ⟨x0, x1, x2, x3, x4, x5, x6, x7, x8, x9, x10, x11, x12, x13, x14, x15, x16, x17, x18, x19, x20, x21, x22, x23, x24, x25, rfl⟩
theorem listN31 (xs : List Value) (h : xs.length = 31) : ∃ x0 x1 x2 x3 x4 x5 x6 x7 x8 x9 x10 x11 x12 x13 x14 x15 x16 x17 x18 x19 x20 x21 x22 x23 x24 x25 x26 x27 x28 x29 x30, xs = [x0, x1, x2, x3, x4, x5, x6, x7, x8, x9, x10, x11, x12, x13, x14, x15, x16, x17, x18, x19, x20, x21, x22, x23, x24, x25, x26, x27, x28, x29, x30] := by
 obtain ⟨x0, y0, rfl, h0⟩ := consN h
 obtain ⟨x1, y1, rfl, h1⟩ := consN h0
 obtain ⟨x2, y2, rfl, h2⟩ := consN h1
 obtain ⟨x3, y3, rfl, h3⟩ := consN h2
 obtain ⟨x4, y4, rfl, h4⟩ := consN h3
 obtain ⟨x5, y5, rfl, h5⟩ := consN h4
 obtain ⟨x6, y6, rfl, h6⟩ := consN h5
 obtain ⟨x7, y7, rfl, h7⟩ := consN h6
 obtain ⟨x8, y8, rfl, h8⟩ := consN h7
 obtain ⟨x9, y9, rfl, h9⟩ := consN h8
 obtain ⟨x10, y10, rfl, h10⟩ := consN h9
 obtain ⟨x11, y11, rfl, h11⟩ := consN h10
 obtain ⟨x12, y12, rfl, h12⟩ := consN h11
 obtain ⟨x13, y13, rfl, h13⟩ := consN h12
 obtain ⟨x14, y14, rfl, h14⟩ := consN h13
 obtain ⟨x15, y15, rfl, h15⟩ := consN h14
 obtain ⟨x16, y16, rfl, h16⟩ := consN h15
 obtain ⟨x17, y17, rfl, h17⟩ := consN h16
 obtain ⟨x18, y18, rfl, h18⟩ := consN h17
 obtain ⟨x19, y19, rfl, h19⟩ := consN h18
 obtain ⟨x20, y20, rfl, h20⟩ := consN h19
 obtain ⟨x21, y21, rfl, h21⟩ := consN h20
 obtain ⟨x22, y22, rfl, h22⟩ := consN h21
 obtain ⟨x23, y23, rfl, h23⟩ := consN h22
 obtain ⟨x24, y24, rfl, h24⟩ := consN h23
 obtain ⟨x25, y25, rfl, h25⟩ := consN h24
 obtain ⟨x26, y26, rfl, h26⟩ := consN h25
 obtain ⟨x27, y27, rfl, h27⟩ := consN h26
 obtain ⟨x28, y28, rfl, h28⟩ := consN h27
 obtain ⟨x29, y29, rfl, h29⟩ := consN h28
 obtain ⟨x30, y30, rfl, h30⟩ := consN h29
 obtain rfl := List.length_eq_zero_iff.1 h30
 exact ⟨x0, x1, x2, x3, x4, x5, x6, x7, x8, x9, x10, x11, x12, x13, x14, x15, x16, x17, x18, x19, x20, x21, x22, x23, x24, x25, x26, x27, x28, x29, x30, rfl⟩
theorem NetAt.reply {w w' : World} {B s X} {cs : Array Value} (h : NetAt w B s) (k : But X w w') (hx : w.heap[X]? = some (.cells cs 40)) (hne : X ≠ B) : NetAt w' B s :=
 h.box k hne (by
  intro cur m
  rw [hx]
  refine ⟨?_, ?_, ?_, ?_⟩ <;> (intro e; simp at e))
def set4 (w : World) (X : Nat) (d0 d1 d2 d3 : Value) : World := (((w.setCell ⟨X, 0, none⟩ d0).setCell ⟨X, 1, none⟩ d1).setCell ⟨X, 2, none⟩ d2).setCell ⟨X, 3, none⟩ d3
theorem set4_at {w : World} {X : Nat} {c0 c1 c2 c3 : Value} {T : TypeId} (h : w.heap[X]? = some (.cells #[c0, c1, c2, c3] T)) (d0 d1 d2 d3 : Value) : (set4 w X d0 d1 d2 d3).heap[X]? = some (.cells #[d0, d1, d2, d3] T) := by
 have := blockLt h
 simp [set4, World.setCell, Array.getElem?_modify, h]
theorem set4_size (w : World) (X : Nat) (d0 d1 d2 d3 : Value) : (set4 w X d0 d1 d2 d3).heap.size = w.heap.size := by simp [set4]
theorem set4_but {a w : World} {X : Nat} (h : But X a w) (d0 d1 d2 d3 : Value) : But X a (set4 w X d0 d1 d2 d3) := (((h.setCell _ _).setCell _ _).setCell _ _).setCell _ _
theorem ownsRow_slice {w : World} {base : Nat} {e : TypeId} {sz : Nat} {v : Value} {n : Nat} {xs : List Value} (h : w.ownsRow base e sz v n xs) : ∃ a cap, v = .slice a n cap := by
 obtain ⟨_, ⟨h, h1⟩ | ⟨g, cap, cur, rfl, _⟩⟩ := h
 ·rw [h1]; exact ⟨_, _, h⟩
 ·exact ⟨_, _, rfl⟩
theorem ownsRow_apart {X : Nat} {w w' : World} {base : Nat} {e : TypeId} {sz : Nat} {v : Value} {n : Nat} {xs : List Value} (h : w.ownsRow base e sz v n xs) (k : But X w w') (hx : ∀ cur m, w.heap[X]? ≠ some (.cells cur e m)) : w'.ownsRow base e sz v n xs := by
 obtain ⟨h0, h1⟩ := h
 refine ⟨h0, ?_⟩
 rcases h1 with h1 | ⟨g, cap, cur, rfl, hb, hh, hr⟩
 ·exact .inl h1
 ·refine .inr ⟨g, cap, cur, rfl, hb, (k.block g (blockLt hh) ?_).trans hh, hr⟩
  rintro rfl
  exact hx _ _ hh
theorem ownS_reply {w w' : World} {X base : Nat} {v : Value} {ks : List ByteArray} {cs : Array Value} (h : OwnS w base v ks) (k : But X w w') (hx : w.heap[X]? = some (.cells cs 40)) : OwnS w' base v ks :=
 ownsRow_apart h k (by intro cur m e; rw [hx] at e; simp at e)
theorem NetAt.blk {w B s} (h : NetAt w B s) : ∃ cs, w.heap[B]? = some (.cells cs 92) := by
 obtain ⟨_, _, _, h, _⟩ := h
 exact ⟨_, h⟩
theorem ownS_nw {w w' : World} {B base : Nat} {v : Value} {ks : List ByteArray} (h : OwnS w base v ks) (k : But B w w') (hx : ∃ cs, w.heap[B]? = some (.cells cs 92)) : OwnS w' base v ks := by
 obtain ⟨cs, hx⟩ := hx
 exact ownsRow_apart h k (by intro cur m e; rw [hx] at e; simp at e)
theorem ownS_one {w : World} {base g : Nat} {k : ByteArray} (hb : base ≤ g) (hg : w.heap[g]? = some (.cells #[.string k] 9)) : OwnS w base (.slice (some ⟨g, 0, none⟩) 1 1) [k] :=
 ⟨by simp, .inr ⟨g, 1, #[.string k], rfl, hb, hg, by simp, by unfold maxLen; omega, by simp, by simp⟩⟩
theorem isNaNi_any (n : Int) (w : World) :
  Calls Tryz.prog 179 #[.int .i64 n] w fun e w' => e = .returned (.bool false) ∧ w' = w := by
 go_enter Tryz.func179, Tryz.ntmps179
 go_wp2
 go_ret
 exact ⟨ret_bool (by simp), rfl⟩
theorem isNaNs_any (x : ByteArray) (w : World) :
  Calls Tryz.prog 199 #[.string x] w fun e w' => e = .returned (.bool false) ∧ w' = w := by
 go_enter Tryz.func199, Tryz.ntmps199
 go_wp2
 go_ret
 exact ⟨ret_bool (by simp), rfl⟩
set_option maxHeartbeats 400000 in
theorem cmpi_any (a b : Int) (w : World) :
  Calls Tryz.prog 147 #[.int .i64 a, .int .i64 b] w fun e w' => e = .returned (.int .i64 (Pl.cmpI a b)) ∧ w' = w := by
 rcases Int.lt_trichotomy a b with h | rfl | h
 ·go_enter Tryz.func147, Tryz.ntmps147
  go_wp2_with (go_at_call 179; refine (isNaNi_any _ _).mono ?_; rintro e w' ⟨rfl, rfl⟩)
  go_ret
  exact ⟨ret_int (Pl.cmpI_lt h).symm, rfl⟩
 ·go_enter Tryz.func147, Tryz.ntmps147
  go_wp2_with (go_at_call 179; refine (isNaNi_any _ _).mono ?_; rintro e w' ⟨rfl, rfl⟩)
  go_ret
  exact ⟨ret_int (Pl.cmpI_eq _).symm, rfl⟩
 ·have h' : ¬ a < b := by omega
  go_enter Tryz.func147, Tryz.ntmps147
  go_wp2_with (go_at_call 179; refine (isNaNi_any _ _).mono ?_; rintro e w' ⟨rfl, rfl⟩)
  go_ret
  exact ⟨ret_int (Pl.cmpI_gt h).symm, rfl⟩
set_option maxHeartbeats 400000 in
theorem cmps_any (a b : ByteArray) (w : World) :
  Calls Tryz.prog 172 #[.string a, .string b] w fun e w' => e = .returned (.int .i64 (Pl.cmpS a b)) ∧ w' = w := by
 rcases Pl.tri a b with ⟨h, h', hn⟩ | rfl | ⟨h, h', hn⟩
 ·go_enter Tryz.func172, Tryz.ntmps172
  go_wp2_with (go_at_call 199; refine (isNaNs_any _ _).mono ?_; rintro e w' ⟨rfl, rfl⟩)
  go_ret
  exact ⟨ret_int (Pl.cmpS_lt h).symm, rfl⟩
 ·have h := Pl.ltB_irrefl a
  have h' : Op.bytesLess a.toList a.toList = false := h
  clear h
  go_enter Tryz.func172, Tryz.ntmps172
  go_wp2_with (go_at_call 199; refine (isNaNs_any _ _).mono ?_; rintro e w' ⟨rfl, rfl⟩)
  go_ret
  exact ⟨ret_int (Pl.cmpS_eq _).symm, rfl⟩
 ·have he := Pl.beqL_false hn
  go_enter Tryz.func172, Tryz.ntmps172
  go_wp2_with (go_at_call 199; refine (isNaNs_any _ _).mono ?_; rintro e w' ⟨rfl, rfl⟩)
  go_ret
  exact ⟨ret_int (Pl.cmpS_gt h').symm, rfl⟩
set_option maxHeartbeats 400000 in
theorem Compare_any (k1 k2 : ByteArray) (v1 o1 v2 o2 : Int) (x1 x2 : ByteArray) (w : World) :
  Calls Tryz.prog 139 #[.agg #[.string k1, .int .i64 v1, .int .i64 o1, .string x1], .agg #[.string k2, .int .i64 v2, .int .i64 o2, .string x2]] w
   fun e w' => e = .returned (.int .i64 (Pl.cmpE v1 o1 x1 v2 o2 x2)) ∧ Below w.heap.size w w' := by
 obtain ⟨c1, H1⟩ : ∃ c, Hid (Pl.cmpI v1 v2 = c) := ⟨_, rfl⟩
 obtain ⟨c2, H2⟩ : ∃ c, Hid (Pl.cmpI o1 o2 = c) := ⟨_, rfl⟩
 obtain ⟨c3, H3⟩ : ∃ c, Hid (Pl.cmpS x1 x2 = c) := ⟨_, rfl⟩
 have HE : Hid (Pl.cmpE v1 o1 x1 v2 o2 x2 = if c1 ≠ 0 then c1 else if c2 ≠ 0 then c2 else c3) := by
  show _ = _
  unfold Pl.cmpE; rw [H1.out, H2.out, H3.out]
 by_cases e1 : c1 = 0
 all_goals by_cases e2 : c2 = 0
 all_goals
  first | (have b1 : (c1 != 0) = false := by simp [e1]) | (have b1 : (c1 != 0) = true := by simp [e1])
 all_goals
  first | (have b2 : (c2 != 0) = false := by simp [e2]) | (have b2 : (c2 != 0) = true := by simp [e2])
 all_goals
  have HF : Hid (Pl.cmpE v1 o1 x1 v2 o2 x2 = if c1 ≠ 0 then c1 else if c2 ≠ 0 then c2 else c3) := HE
  clear HE
  have E1 : Hid (c1 = 0 ∨ True) := Or.inr trivial
  simp only [e1, e2, ne_eq, not_true_eq_false, not_false_eq_true, if_true, if_false] at HF
  clear e1 e2 E1
  go_enter Tryz.func139, Tryz.ntmps139
  go_wp2_with (first | (go_at_call_of 147 (Value.int IntKind.i64 v1); refine (cmpi_any _ _ _).mono ?_; rw [H1.out]; rintro e w' ⟨rfl, rfl⟩) | (go_at_call_of 147 (Value.int IntKind.i64 o1); refine (cmpi_any _ _ _).mono ?_; rw [H2.out]; rintro e w' ⟨rfl, rfl⟩) | (go_at_call 172; refine (cmps_any _ _ _).mono ?_; rw [H3.out]; rintro e w' ⟨rfl, rfl⟩))
  go_ret
  exact ⟨ret_int HF.out.symm, ((Below.refl _ _).alloc (Nat.le_refl _) _).alloc (by simp) _⟩
structure WIn (W : World) where
 w : World
 h : Below W.heap.size W w
theorem wp_region_in {P : Program} {id : Nat} {Q : Exit → Act → World → Prop} {a : Act} {w : World} {l : List Oper} (hm : P.follows .mixedOrders = true) (hB : Region.lexB .any l.toArray = true)
  (h : wpQuiet P l.toArray (fun w' => ∃ x : WIn w, w' = x.w) (fun a' => ∀ w', (∃ x : WIn w, w' = x.w) → Q .normal a' w') l a) : (Code.region id l.toArray true).wp P Q a w :=
 wp_region_quiet (C := fun w' => ∃ x : WIn w, w' = x.w) hm hB ⟨⟨_, (Below.refl _ _).drew⟩, rfl⟩ (by simpa using h)
theorem in_call {P : Program} {f : FuncId} {args : Array Value} {W : World} {x : WIn W} {v : Value}
  (h : Calls P f args x.w fun e w' => e = .returned v ∧ Below x.w.heap.size x.w w') : Calls P f args x.w fun e w'' => e = .returned v ∧ ∃ y : WIn W, w'' = y.w :=
 h.mono fun _ w' ⟨he, hb⟩ => ⟨he, ⟨w', x.h.trans (hb.mono x.h.size)⟩, rfl⟩
theorem in_out {W w' : World} (h : ∃ x : WIn W, w' = x.w) : Below W.heap.size W w' := by
 obtain ⟨x, rfl⟩ := h
 exact x.h
theorem in_some (W : World) : Nonempty (WIn W) := ⟨⟨_, Below.refl _ _⟩⟩
theorem in_cell {W : World} {b o : Nat} {v : Value} (hb : b < W.heap.size) (h : W.cell? ⟨b, o, none⟩ = some v) : ∀ x : WIn W, x.w.cell? ⟨b, o, none⟩ = some v := fun x => (x.h.cell (p := ⟨b, o, none⟩) hb).trans h
set_option maxHeartbeats 1000000 in
theorem Or_any (b off : Nat) (x y : Int) (w : World) (h0 : w.cell? ⟨b, off, none⟩ = some (.int .i64 x)) (h1 : w.cell? ⟨b, off + 1, none⟩ = some (.int .i64 y)) :
  Calls Tryz.prog 146 #[.slice (some ⟨b, off, none⟩) 2 2] w fun e w' => e = .returned (.int .i64 (if x ≠ 0 then x else y)) ∧ w' = w := by
 obtain ⟨r, HR⟩ : ∃ r, Hid ((if x ≠ 0 then x else y) = r) := ⟨_, rfl⟩
 rw [HR.out]
 go_enter Tryz.func146, Tryz.ntmps146
 go_wp2
 go_loop [8] (fun i => ∃ k : Nat, k ≤ 2 ∧ i = .int .i64 k ∧ Hid (0 < k → x = 0) ∧ Hid (1 < k → y = 0)) (fun i => 2 - (intOf i).toNat)
 case atStart => exact ⟨0, by omega, rfl, hid (by omega), hid (by omega)⟩
 case round =>
  obtain ⟨k, hk, rfl, K1, K2⟩ := hrel
  have hks : k = 0 ∨ k = 1 ∨ k = 2 := by omega
  rcases hks with rfl | rfl | rfl
  ·by_cases hx : x = 0
   ·subst hx
    go_wp2
    go_round
    case rel => exact ⟨1, by omega, by go_num, hid (by first | (intro _; rfl) | simp), hid (by omega)⟩
    case measure => simp [intOf]
   ·have hr : r = x := by rw [← HR.out, if_pos hx]
    have HX := hid hr
    have b1 : (x == 0) = false := by simpa using hx
    clear hx hr
    go_wp2
    go_ret
    exact ⟨ret_int HX.out.symm, rfl⟩
  ·have hx : x = 0 := K1.out (by omega)
   have hr : r = y := by rw [← HR.out, if_neg (by simp [hx])]
   have HX := hid hr
   have HX0 := hid hx
   clear hr hx K1 K2 HR
   by_cases hy : y = 0
   ·subst hy
    go_wp2
    go_round
    case rel => exact ⟨2, by omega, by go_num, hid (fun _ => HX0.out), hid (by first | (intro _; rfl) | simp)⟩
    case measure => simp [intOf]
   ·have b1 : (y == 0) = false := by simpa using hy
    clear hy
    go_wp2
    go_ret
    exact ⟨ret_int HX.out.symm, rfl⟩
  ·have hr : r = 0 := by rw [← HR.out, if_neg (by simp [K1.out (by omega)]), K2.out (by omega)]
   have HX := hid hr
   clear hr
   go_wp2
   go_ret
   exact ⟨ret_int HX.out.symm, rfl⟩
def PF (p1 p2 q1 q2 c1 c2 r : Int) (R : Nat) (w : World) : Nat → Value → Prop
 | 0, v => v = .pointer (some ⟨R, 0, none⟩)
 | 1, v => v = .int .i64 p1
 | 2, v => v = .pointer (some ⟨R + 1, 0, none⟩)
 | 3, v => v = .int .i64 q1
 | 4, v => v = .int .i64 c1
 | 5, v => v = .pointer (some ⟨R, 1, none⟩)
 | 6, v => v = .int .i64 p2
 | 7, v => v = .pointer (some ⟨R + 1, 1, none⟩)
 | 8, v => v = .int .i64 q2
 | 9, v => v = .int .i64 c2
 | 10, v => ∃ b, v = .slice (some ⟨b, 0, none⟩) 2 2 ∧ b < w.heap.size ∧ w.cell? ⟨b, 0, none⟩ = some (.int .i64 c1) ∧ w.cell? ⟨b, 1, none⟩ = some (.int .i64 c2)
 | 11, v => v = .int .i64 r
 | _, _ => True
theorem PF.mono {p1 p2 q1 q2 c1 c2 r : Int} {R : Nat} {w w' : World} {k : Nat} {v : Value} (h : PF p1 p2 q1 q2 c1 c2 r R w k v) (hb : Below w.heap.size w w') : PF p1 p2 q1 q2 c1 c2 r R w' k v := by
 have hz := hb.size
 match k, h with
 | 10, ⟨b, h1, h2, h3, h4⟩ => exact ⟨b, h1, by omega, ((bcell hb).1 b 0 h2).trans h3, ((bcell hb).1 b 1 h2).trans h4⟩
 | 0, h => exact h
 | 1, h => exact h
 | 2, h => exact h
 | 3, h => exact h
 | 4, h => exact h
 | 5, h => exact h
 | 6, h => exact h
 | 7, h => exact h
 | 8, h => exact h
 | 9, h => exact h
 | 11, h => exact h
 | n + 12, h => exact h
structure PInv (p1 p2 q1 q2 c1 c2 r : Int) (R : Nat) (W0 : World) (listed : Array Bool) (a : Act) (w : World) : Prop where
 ls : listed.size = 13
 sz : a.tmps.size = 17
 df : a.defers = []
 s2 : a.tmps[2]?.getD undef = .pointer (some ⟨R, 0, none⟩)
 s3 : a.tmps[3]?.getD undef = .pointer (some ⟨R + 1, 0, none⟩)
 f : ∀ k, k < 12 → listed.getD k false = true → PF p1 p2 q1 q2 c1 c2 r R w k (a.tmps[k + 5]?.getD undef)
 nb : Below W0.heap.size W0 w
 dn : listed.getD 12 false = true → a.tmps[4]?.getD undef = .int .i64 r
theorem PInv.put {p1 p2 q1 q2 c1 c2 r : Int} {R : Nat} {W0 : World} {listed : Array Bool} {a : Act} {w w' : World} {i : Nat} {v : Value} (h : PInv p1 p2 q1 q2 c1 c2 r R W0 listed a w) (hi : i < 12) (hb : Below w.heap.size w w') (hv : PF p1 p2 q1 q2 c1 c2 r R w' i v) :
  PInv p1 p2 q1 q2 c1 c2 r R W0 (listed.setIfInBounds i true) (a.put (some (i + 5)) v) w' := by
 refine ⟨by simp [h.ls], by simp [Act.put, h.sz], h.df, by rw [eval_ne (by omega)]; exact h.s2, by rw [eval_ne (by omega)]; exact h.s3, ?_, h.nb.trans (hb.mono h.nb.size), fun h' => ?_⟩
 ·intro k hk hl
  by_cases hki : i = k
  ·subst hki
   rw [eval_eq (by rw [h.sz]; omega)]
   exact hv
  ·rw [getD_set_ne false hki] at hl
   rw [eval_ne (by omega)]
   exact (h.f k hk hl).mono hb
 ·rw [getD_set_ne false (by omega)] at h'
  rw [eval_ne (by omega)]
  exact h.dn h'
set_option maxHeartbeats 4000000 in
theorem comparePrefixes_any (p q : Int × Int) (w : World) :
  Calls Tryz.prog 100 #[.agg #[.int .i64 p.1, .int .i64 p.2], .agg #[.int .i64 q.1, .int .i64 q.2]] w fun e w' => e = .returned (.int .i64 (Pl.pfxC p q)) ∧ Below w.heap.size w w' := by
 obtain ⟨p1, p2⟩ := p
 obtain ⟨q1, q2⟩ := q
 obtain ⟨c1, H1⟩ : ∃ c, Hid (Pl.cmpI p1 q1 = c) := ⟨_, rfl⟩
 obtain ⟨c2, H2⟩ : ∃ c, Hid (Pl.cmpI p2 q2 = c) := ⟨_, rfl⟩
 obtain ⟨r, HR⟩ : ∃ c, Hid ((if c1 ≠ 0 then c1 else c2) = c) := ⟨_, rfl⟩
 have HF : Hid (Pl.pfxC (p1, p2) (q1, q2) = r) := hid (by unfold Pl.pfxC; rw [H1.out, H2.out, HR.out])
 go_enter Tryz.func100, Tryz.ntmps100
 go_wp2_with fail
 refine wp_region_any (by kernel_rfl) ?_
 obtain ⟨W0, hW0⟩ : ∃ W0 : World, W0 = ((w.alloc (.cells #[.int .i64 p1, .int .i64 p2] 49)).alloc (.cells #[.int .i64 q1, .int .i64 q2] 49)) := ⟨_, rfl⟩
 have hR : w.heap.size < W0.heap.size := by rw [hW0]; simp; omega
 have hR1 : w.heap.size + 1 < W0.heap.size := by rw [hW0]; simp
 have d0 : W0.cell? ⟨w.heap.size, 0, none⟩ = some (.int .i64 p1) := by rw [hW0]; simp
 have d1 : W0.cell? ⟨w.heap.size, 1, none⟩ = some (.int .i64 p2) := by rw [hW0]; simp
 have d2 : W0.cell? ⟨w.heap.size + 1, 0, none⟩ = some (.int .i64 q1) := by rw [hW0]; simp
 have d3 : W0.cell? ⟨w.heap.size + 1, 1, none⟩ = some (.int .i64 q2) := by rw [hW0]; simp
 have hB0 : Below w.heap.size w W0 := by rw [hW0]; exact ((Below.refl _ _).alloc (Nat.le_refl _) _).alloc (by simp) _
 refine wpAny_inv (PInv p1 p2 q1 q2 c1 c2 r w.heap.size W0) ?_ ?_ _ _ _ _ (by decide +kernel) ?_
 ·intro i listed a W hi hI
  rw [mem_ready] at hi
  obtain ⟨hl, o, ho, hall⟩ := hi
  have hlt : i < 13 := (Array.getElem?_eq_some_iff.1 ho).1
  have hcs : i = 0 ∨ i = 1 ∨ i = 2 ∨ i = 3 ∨ i = 4 ∨ i = 5 ∨ i = 6 ∨ i = 7 ∨ i = 8 ∨ i = 9 ∨ i = 10 ∨ i = 11 ∨ i = 12 := by omega
  rcases hcs with rfl | rfl | rfl | rfl | rfl | rfl | rfl | rfl | rfl | rfl | rfl | rfl | rfl
  all_goals
   simp at ho
   subst ho
   refine wpOp_of rfl rfl ?_
  ·have e1 := hI.s2
   simp [Oper.wp, go_sem, e1]
   exact hI.put (i := 0) (by omega) (Below.refl _ _) rfl
  ·have e1 : a.tmps[5]?.getD undef = .pointer (some ⟨w.heap.size, 0, none⟩) := hI.f 0 (by omega) (hall ⟨0, .data⟩ (by simp) rfl)
   have e2 := ((bcell hI.nb).1 w.heap.size 0 hR).trans d0
   simp [Oper.wp, go_sem, e1, e2]
   exact hI.put (i := 1) (by omega) (Below.refl _ _) rfl
  ·have e1 := hI.s3
   simp [Oper.wp, go_sem, e1]
   exact hI.put (i := 2) (by omega) (Below.refl _ _) rfl
  ·have e1 : a.tmps[7]?.getD undef = .pointer (some ⟨w.heap.size + 1, 0, none⟩) := hI.f 2 (by omega) (hall ⟨2, .data⟩ (by simp) rfl)
   have e2 := ((bcell hI.nb).1 (w.heap.size + 1) 0 hR1).trans d2
   simp [Oper.wp, go_sem, e1, e2]
   exact hI.put (i := 3) (by omega) (Below.refl _ _) rfl
  ·have e1 : a.tmps[6]?.getD undef = .int .i64 p1 := hI.f 1 (by omega) (hall ⟨1, .data⟩ (by simp) rfl)
   have e2 : a.tmps[8]?.getD undef = .int .i64 q1 := hI.f 3 (by omega) (hall ⟨3, .data⟩ (by simp) rfl)
   simp [Oper.wp, go_sem, e1, e2]
   refine (cmpi_any p1 q1 W).mono ?_
   rw [H1.out]
   rintro e w1 ⟨rfl, rfl⟩
   exact hI.put (i := 4) (by omega) (Below.refl _ _) rfl
  ·have e1 := hI.s2
   simp [Oper.wp, go_sem, e1]
   exact hI.put (i := 5) (by omega) (Below.refl _ _) rfl
  ·have e1 : a.tmps[10]?.getD undef = .pointer (some ⟨w.heap.size, 1, none⟩) := hI.f 5 (by omega) (hall ⟨5, .data⟩ (by simp) rfl)
   have e2 := ((bcell hI.nb).1 w.heap.size 1 hR).trans d1
   simp [Oper.wp, go_sem, e1, e2]
   exact hI.put (i := 6) (by omega) (Below.refl _ _) rfl
  ·have e1 := hI.s3
   simp [Oper.wp, go_sem, e1]
   exact hI.put (i := 7) (by omega) (Below.refl _ _) rfl
  ·have e1 : a.tmps[12]?.getD undef = .pointer (some ⟨w.heap.size + 1, 1, none⟩) := hI.f 7 (by omega) (hall ⟨7, .data⟩ (by simp) rfl)
   have e2 := ((bcell hI.nb).1 (w.heap.size + 1) 1 hR1).trans d3
   simp [Oper.wp, go_sem, e1, e2]
   exact hI.put (i := 8) (by omega) (Below.refl _ _) rfl
  ·have e1 : a.tmps[11]?.getD undef = .int .i64 p2 := hI.f 6 (by omega) (hall ⟨6, .data⟩ (by simp) rfl)
   have e2 : a.tmps[13]?.getD undef = .int .i64 q2 := hI.f 8 (by omega) (hall ⟨8, .data⟩ (by simp) rfl)
   simp [Oper.wp, go_sem, e1, e2]
   refine (cmpi_any p2 q2 W).mono ?_
   rw [H2.out]
   rintro e w1 ⟨rfl, rfl⟩
   exact hI.put (i := 9) (by omega) (Below.refl _ _) rfl
  ·have e1 : a.tmps[9]?.getD undef = .int .i64 c1 := hI.f 4 (by omega) (hall ⟨4, .data⟩ (by simp) rfl)
   have e2 : a.tmps[14]?.getD undef = .int .i64 c2 := hI.f 9 (by omega) (hall ⟨9, .data⟩ (by simp) rfl)
   simp [Oper.wp, go_sem, e1, e2]
   exact hI.put (i := 10) (by omega) ((Below.refl _ _).alloc (Nat.le_refl _) _) ⟨W.heap.size, rfl, by simp, by simp, by simp⟩
  ·obtain ⟨b, e1, hb, hc0, hc1⟩ := hI.f 10 (by omega) (hall ⟨10, .data⟩ (by simp) rfl)
   simp only [Nat.reduceAdd] at e1
   simp [Oper.wp, go_sem, e1]
   refine (Or_any b 0 c1 c2 W hc0 hc1).mono ?_
   rw [HR.out]
   rintro e w1 ⟨rfl, rfl⟩
   exact hI.put (i := 11) (by omega) (Below.refl _ _) rfl
  ·have e1 : a.tmps[16]?.getD undef = .int .i64 r := hI.f 11 (by omega) (hall ⟨11, .data⟩ (by simp) rfl)
   simp [Oper.wp, go_sem, e1]
   refine ⟨by simp [hI.ls], by simp [hI.sz], hI.df, ?_, ?_, ?_, hI.nb, ?_⟩
   ·have := eval_ne (a := a) (m := 4) (n := 2) (v := .int .i64 r) (by omega); exact this.trans hI.s2
   ·have := eval_ne (a := a) (m := 4) (n := 3) (v := .int .i64 r) (by omega); exact this.trans hI.s3
   ·intro k hk hlk
    rw [getD_set_ne false (by omega)] at hlk
    have := eval_ne (a := a) (m := 4) (n := k + 5) (v := .int .i64 r) (by omega)
    exact this ▸ hI.f k hk hlk
   ·intro _
    exact eval_eq (a := a) (m := 4) (v := .int .i64 r) (by rw [hI.sz]; omega)
 ·intro listed a W hr hI
  rename_i K hK
  have hal := all_listed (by decide +kernel) hI.ls hr 12 (by decide)
  have e4 := hI.dn hal
  refine hK a W ?_
  refine wp_ret ?_
  show bodyPost Tryz.prog Tryz.f100 _ Exit.ret a W
  refine bodyPost_ret (v := .int .i64 r) (by simp [results, Tryz.results100, go_sem, e4]) hI.df ⟨ret_int HF.out.symm, hB0.trans (hI.nb.mono hB0.size)⟩
 ·rw [← hW0]
  refine ⟨by rfl, by rfl, rfl, by rfl, by rfl, ?_, Below.drew (Below.refl _ _), ?_⟩
  ·intro k hk h
   have : (Array.replicate 13 false).getD k false = true := h
   rw [show (Array.replicate 13 false).getD k false = false from by by_cases hk' : k < 13 <;> simp [hk']] at this
   cases this
  ·intro h
   have : (Array.replicate 13 false).getD 12 false = true := h
   simp at this
theorem Pl.pfx1_out {p : Int × Int} (h : p.2 < 0 ∨ 8 < p.2 ∨ p.1 < 0 ∨ 255 < p.1) : Pl.pfx1 p = 2 := by
 unfold Pl.pfx1
 rw [if_neg]
 unfold Pl.inP
 simp; omega
theorem Pl.pfx1_in {p : Int × Int} (h1 : 0 ≤ p.2 ∧ p.2 ≤ 8) (h2 : 0 ≤ p.1 ∧ p.1 ≤ 255) : Pl.pfx1 p = if p.1 % Pl.span p.2 = 0 then 0 else 4 := by
 unfold Pl.pfx1
 rw [if_pos]
 unfold Pl.inP
 simp; omega
set_option maxHeartbeats 1000000 in
theorem checkPrefix_any (p : Int × Int) (w : World) :
  Calls Tryz.prog 99 #[.agg #[.int .i64 p.1, .int .i64 p.2]] w fun e w' => e = .returned (.int .i64 (Pl.pfx1 p)) ∧ Below w.heap.size w w' := by
 obtain ⟨a, b⟩ := p
 have hB1 : Below w.heap.size w (w.alloc (.cells #[.int .i64 a, .int .i64 b] 49)) := (Below.refl _ _).alloc (Nat.le_refl _) _
 rcases Int.lt_or_le b 0 with h1 | h1
 ·have HR := hid (Pl.pfx1_out (p := (a, b)) (.inl h1))
  go_enter Tryz.func99, Tryz.ntmps99
  go_wp2
  go_ret
  exact ⟨ret_int HR.out.symm, hB1⟩
 rcases Int.lt_or_le 8 b with h2 | h2
 ·have HR := hid (Pl.pfx1_out (p := (a, b)) (.inr (.inl h2)))
  go_enter Tryz.func99, Tryz.ntmps99
  go_wp2
  go_ret
  exact ⟨ret_int HR.out.symm, hB1⟩
 rcases Int.lt_or_le a 0 with h3 | h3
 ·have HR := hid (Pl.pfx1_out (p := (a, b)) (.inr (.inr (.inl h3))))
  go_enter Tryz.func99, Tryz.ntmps99
  go_wp2
  go_ret
  exact ⟨ret_int HR.out.symm, hB1⟩
 rcases Int.lt_or_le 255 a with h4 | h4
 ·have HR := hid (Pl.pfx1_out (p := (a, b)) (.inr (.inr (.inr h4))))
  go_enter Tryz.func99, Tryz.ntmps99
  go_wp2
  go_ret
  exact ⟨ret_int HR.out.symm, hB1⟩
 have HR := hid (Pl.pfx1_in (p := (a, b)) ⟨h1, h2⟩ ⟨h3, h4⟩)
 obtain ⟨t0, t1, t2, t3, t4, t5, t6, t7, t8⟩ := Pl.span_table
 have hbs := Pl.bits_cases ⟨h1, h2⟩
 rcases hbs with rfl | rfl | rfl | rfl | rfl | rfl | rfl | rfl | rfl
 all_goals
  clear h1 h2
  have htm : ∀ k, a.tmod k = a % k := fun k => Int.tmod_eq_emod_of_nonneg h3
  simp only [t0, t1, t2, t3, t4, t5, t6, t7, t8] at HR
  go_enter Tryz.func99, Tryz.ntmps99
  go_wp2_with fail
  go_quiet (fail)
  go_wp2_with fail
 all_goals go_ret
 all_goals exact ⟨ret_int (by rw [HR.out]; split <;> simp_all), below_drew hB1 _⟩
set_option maxHeartbeats 1000000 in
theorem CheckPrefixes_any (a : Option Addr) (len cap : Nat) (ps : List (Int × Int)) (w : World) (h : IsPairs w a len cap ps) :
  Calls Tryz.prog 60 #[.slice a len cap] w fun e w' => e = .returned (.int .i64 (Pl.pfxF ps)) ∧ Below w.heap.size w w' := by
 obtain ⟨hl, hc, hm, hok, hrow⟩ := h
 unfold maxLen at hm
 by_cases h6 : 6 < len
 ·have HR := hid (Pl.pfxF_size (ps := ps) (by omega))
  go_enter Tryz.func60, Tryz.ntmps60
  go_wp2
  go_ret
  exact ⟨ret_int HR.out.symm, Below.refl _ _⟩
 go_enter Tryz.func60, Tryz.ntmps60
 go_wp2
 go_loopw [11] (fun i wr => ∃ k : Nat, k ≤ len ∧ i = .int .i64 k ∧ Hid (Pl.pfxF ps = Pl.pfxN ps (len - k) k) ∧ Hid (∀ j, j < k → Pl.pfx1 (Pl.pr ps j) = 0) ∧ Below w.heap.size w wr) (fun i _ => len - (intOf i).toNat)
 case atStart => exact ⟨0, Nat.zero_le _, rfl, by show _ = _; rw [Pl.pfxF_from (by omega), hl]; rfl, hid (by intro j hj; omega), Below.refl _ _⟩
 case round =>
  obtain ⟨k, hk, rfl, HF, HV, hb⟩ := hrel
  by_cases hlt : k < len
  ·obtain ⟨b, off, rfl, hbw, hr⟩ : ∃ b off, a = some ⟨b, off, none⟩ ∧ b < w.heap.size ∧ PairsAt w b off ps := by
    rcases hrow with rfl | h
    ·simp at hl; omega
    ·exact h
   clear hrow
   have hr' := hr.below hbw hb
   obtain ⟨c0, c1⟩ := hr' k (by omega)
   have hz := hb.size
   obtain ⟨n, hn⟩ : ∃ n, len - k = n + 1 := ⟨len - k - 1, by omega⟩
   have HN : Hid (len - k = n + 1) := hn
   clear hn
   have hbr : b < wr.heap.size := by omega
   obtain ⟨pp, HP⟩ : ∃ pp, Hid (Pl.pr ps k = pp) := ⟨_, rfl⟩
   rw [HP.out] at c0 c1
   obtain ⟨cc, HCC⟩ : ∃ cc, Hid (Pl.pfx1 pp = cc) := ⟨_, rfl⟩
   by_cases hc0 : cc = 0
   ·subst hc0
    have HM : Hid (Pl.pfx1 (Pl.pr ps k) = 0) := hid (by rw [HP.out, HCC.out])
    have HV' : Hid (∀ j, j < k + 1 → Pl.pfx1 (Pl.pr ps j) = 0) := by
     refine hid fun j hj => ?_
     rcases Nat.lt_or_ge j k with h | h
     ·exact HV.out j h
     ·obtain rfl : j = k := by omega
      exact HM.out
    rcases Nat.eq_zero_or_pos k with hk0 | hk0
    ·have hd : decide (0 < k) = false := by simp; omega
     have HK0 : Hid (k = 0) := hk0
     clear hk0
     go_wp2_with fail
     refine (checkPrefix_any pp _).mono ?_
     rw [HCC.out]
     rintro e w1 ⟨rfl, hb1⟩
     go_wp2_with fail
     go_quiet (fail)
     go_wp2_with fail
     go_roundw
     case rel => exact ⟨k + 1, by omega, by go_num, by show _ = _; have h := HN.out; rw [HF.out, h]; have hm := HM.out; rw [HK0.out] at hm ⊢; rw [Pl.pfxN_first hm]; congr 1; have h0 := HK0.out; omega, HV', below_drew ((hb.alloc hz _).trans (hb1.mono (by simp; omega))) _⟩
     case measure => simp [intOf]; omega
    ·obtain ⟨m, rfl⟩ : ∃ m, k = m + 1 := ⟨k - 1, by omega⟩
     obtain ⟨d0, d1⟩ := hr' m (by omega)
     obtain ⟨qq, HQ⟩ : ∃ pp, Hid (Pl.pr ps m = pp) := ⟨_, rfl⟩
     rw [HQ.out] at d0 d1
     obtain ⟨cq, HCQ⟩ : ∃ c, Hid (Pl.pfxC qq pp = c) := ⟨_, rfl⟩
     have HLW : Hid (decide (0 ≤ cq) = Pl.pfxLow (Pl.pr ps m) (Pl.pr ps (m + 1))) := by
      refine hid ?_
      rw [← HCQ.out, ← HP.out, ← HQ.out]
      exact Pl.pfxC_low (Pl.pfx1_zero (HV.out m (by omega))) (Pl.pfx1_zero HM.out)
     have HCP : Hid (∀ W, Calls Tryz.prog 100 #[.agg #[.int .i64 qq.1, .int .i64 qq.2], .agg #[.int .i64 pp.1, .int .i64 pp.2]] W fun e w' => e = .returned (.int .i64 cq) ∧ Below W.heap.size W w') := by
      refine hid fun W => ?_
      have := comparePrefixes_any qq pp W
      rwa [HCQ.out] at this
     by_cases hle : 0 ≤ cq
     all_goals
      go_wp2_with fail
      refine (checkPrefix_any pp _).mono ?_
      rw [HCC.out]
      rintro e w1 ⟨rfl, hb1⟩
      have hbA : Below (wr.heap.size + 1) (wr.alloc (.cells #[.int .i64 pp.1, .int .i64 pp.2] 49)) w1 := by simpa using hb1
      obtain ⟨x0, x1, xs, hbb⟩ := box2 hbA
      have d0' := (hbb.cell (p := ⟨b, off + m * 2, none⟩) hbr).trans d0
      have d1' := (hbb.cell (p := ⟨b, off + m * 2 + 1, none⟩) hbr).trans d1
      clear hb1 hbA
      have hbw1 : b < w1.heap.size := by omega
      go_wp2_with fail
      have i0 := in_cell xs x0
      have i1 := in_cell xs x1
      have i2 := in_cell hbw1 d0'
      have i3 := in_cell hbw1 d1'
      have hne := in_some w1
      refine wp_region_in (by kernel_rfl) (by kernel_rfl) ?_
      repeat (go_big_quiet_step ((go_at_call 100; exact in_call (HCP.out _))))
      refine wpQuiet_nil ?_
      intro w5 hw'
      have hb5 := in_out hw'
      clear hw' i0 i1 i2 i3 hne x0 x1 d0' d1'
      go_wp2_with fail
     ·go_ret
      exact ⟨ret_int (by rw [HF.out, HN.out, Pl.pfxN_low HM.out (by rw [← HLW.out]; simpa using hle)]), hb.trans ((hbb.mono hz).trans (hb5.mono (Nat.le_trans hz hbb.size)))⟩
     ·go_roundw
      case rel => exact ⟨m + 1 + 1, by omega, by go_num, by show _ = _; rw [HF.out, HN.out, Pl.pfxN_on HM.out (by rw [← HLW.out]; simpa using hle)]; congr 1; have := HN.out; omega, HV', hb.trans ((hbb.mono hz).trans (hb5.mono (Nat.le_trans hz hbb.size)))⟩
      case measure => simp [intOf]; omega
   ·have HR : Hid (Pl.pfxF ps = cc) := by
     refine hid ?_
     rw [HF.out, HN.out, Pl.pfxN_bad (by rw [HP.out, HCC.out]; exact hc0), HP.out, HCC.out]
    have hd0 : (cc == 0) = false := by simpa using hc0
    clear hc0
    go_wp2_with fail
    refine (checkPrefix_any pp _).mono ?_
    rw [HCC.out]
    rintro e w1 ⟨rfl, hb1⟩
    go_wp2_with fail
    go_ret
    exact ⟨ret_int HR.out.symm, (hb.alloc hz _).trans (hb1.mono (by simp; omega))⟩
  ·obtain rfl : k = len := by omega
   go_wp2
   go_ret
   exact ⟨ret_int (by rw [HF.out]; simp [Pl.pfxN]), hb⟩
set_option maxHeartbeats 1000000 in
theorem areHops_any (a : Option Addr) (len cap : Nat) (zs : List Int) (w : World) (h : IsInts w a len cap zs) :
  Calls Tryz.prog 156 #[.slice a len cap] w fun e w' => e = .returned (.bool (Pl.hopsB zs)) ∧ w' = w := by
 have HH := hid h
 have hl := h.1
 have hc := h.2.1
 have hm := h.2.2.1
 unfold maxLen at hm
 clear h
 go_enter Tryz.func156, Tryz.ntmps156
 go_wp2
 go_loop [7] (fun i => ∃ k : Nat, k ≤ len ∧ i = .int .i64 k ∧ Hid (∀ j, j < k → Pl.hopB zs j = true)) (fun i => len - (intOf i).toNat)
 case atStart => exact ⟨0, Nat.zero_le _, rfl, hid (by intro j hj; omega)⟩
 case round =>
  obtain ⟨k, hk, rfl, HK⟩ := hrel
  by_cases hlt : k < len
  ·obtain ⟨b, off, rfl, hb, hr⟩ := HH.out.at hlt
   have c0 := hr k (by omega)
   obtain ⟨z, HZ⟩ : ∃ z, Hid (Pl.nm zs k = z) := ⟨_, rfl⟩
   rw [HZ.out] at c0
   obtain ⟨ob, HO⟩ : ∃ c, Hid (decide (0 ≤ z ∧ z ≤ 11) = c) := ⟨_, rfl⟩
   have HN : Hid (∀ W, Calls Tryz.prog 72 #[.int .i64 z] W fun e w' => e = .returned (.bool ob) ∧ w' = W) := by
    refine hid fun W => ?_
    have := isNode_any z W
    rwa [HO.out] at this
   have HF : Hid (Pl.hopB zs k = false → Pl.hopsB zs = false) := hid fun hh => Pl.hopsB_false (by omega) hh
   cases ob
   ·have HB : Hid (Pl.hopB zs k = false) := hid (by unfold Pl.hopB; rw [HZ.out, HO.out]; rfl)
    go_wp2_with (go_at_call 72; refine (HN.out _).mono ?_; rintro e w' ⟨rfl, rfl⟩)
    go_ret
    exact ⟨ret_bool (HF.out HB.out).symm, rfl⟩
   ·rcases Nat.eq_zero_or_pos k with hk0 | hk0
    ·have hd : decide (0 < k) = false := by simp; omega
     have HB : Hid (Pl.hopB zs k = true) := hid (by rw [hk0, Pl.hopB_zero, ← hk0, HZ.out, HO.out])
     have HK0 := hid hk0
     clear hk0
     go_wp2_with (go_at_call 72; refine (HN.out _).mono ?_; rintro e w' ⟨rfl, rfl⟩)
     go_round
     case rel => exact ⟨k + 1, by omega, by go_num, hid fun j hj => by have := HK0.out; obtain rfl : j = k := (by omega); exact HB.out⟩
     case measure => simp [intOf]; omega
    ·obtain ⟨m, rfl⟩ : ∃ m, k = m + 1 := ⟨k - 1, by omega⟩
     have c1 := hr m (by omega)
     obtain ⟨y, HY⟩ : ∃ z, Hid (Pl.nm zs m = z) := ⟨_, rfl⟩
     rw [HY.out] at c1
     have HBE : Hid (Pl.hopB zs (m + 1) = decide (y < z)) := hid (by rw [Pl.hopB_succ, HZ.out, HY.out, HO.out]; rfl)
     by_cases hle : z ≤ y
     ·have HB : Hid (Pl.hopB zs (m + 1) = false) := hid (by rw [HBE.out]; simp; omega)
      go_wp2_with (go_at_call 72; refine (HN.out _).mono ?_; rintro e w' ⟨rfl, rfl⟩)
      go_ret
      exact ⟨ret_bool (HF.out HB.out).symm, rfl⟩
     ·have HB : Hid (Pl.hopB zs (m + 1) = true) := hid (by rw [HBE.out]; simp; omega)
      go_wp2_with (go_at_call 72; refine (HN.out _).mono ?_; rintro e w' ⟨rfl, rfl⟩)
      go_round
      case rel => exact ⟨m + 1 + 1, by omega, by go_num, hid fun j hj => by rcases Nat.lt_or_ge j (m + 1) with q | q; exact HK.out j q; obtain rfl : j = m + 1 := (by omega); exact HB.out⟩
      case measure => simp [intOf]; omega
  ·obtain rfl : k = len := by omega
   have HB : Hid (Pl.hopsB zs = true) := hid (Pl.hopsB_true (by rw [hl]; exact HK.out))
   go_wp2
   go_ret
   exact ⟨ret_bool HB.out.symm, rfl⟩
theorem Pl.pfxF_one (p : Int × Int) : Pl.pfxF [p] = Pl.pfx1 p := by
 unfold Pl.pfxF Pl.pfxN Pl.pfxN
 by_cases h : Pl.pfx1 p = 0 <;> simp [Pl.pr, h]
theorem onePair (w : World) (n : Nat) (p1 p2 : Int) (T : TypeId) (h : Pl.pairOk (p1, p2)) (hn : w.heap.size = n) : IsPairs (w.alloc (.cells #[.int .i64 p1, .int .i64 p2] T)) (some ⟨n, 0, none⟩) 1 1 [(p1, p2)] := by
 subst hn
 refine ⟨rfl, Nat.le_refl _, by unfold maxLen; omega, by simpa using h, .inr ⟨w.heap.size, 0, rfl, by simp, ?_⟩⟩
 intro i hi
 simp at hi
 subst hi
 simp [Pl.pr]
theorem Pl.routeB_pfx {r : Pl.Rt} (h : ¬ Pl.pfx1 r.p = 0) : Pl.routeB r = false := by unfold Pl.routeB; rw [decide_eq_false h]; rfl
theorem Pl.routeB_here {r : Pl.Rt} (h : Pl.pfx1 r.p = 0) (k : r.here = true) : Pl.routeB r = (decide (r.cost = 0) && decide (r.hops.length = 0)) := by
 unfold Pl.routeB
 rw [decide_eq_true h, k, Bool.eq_iff_iff]
 simp only [Bool.true_and, if_true, Bool.and_eq_true, decide_eq_true_eq, List.length_eq_zero_iff]
 constructor
 ·rintro ⟨⟨_, h1, h2⟩, _⟩; exact ⟨h1, h2⟩
 ·rintro ⟨h1, h2⟩; rw [h1, h2]; exact ⟨⟨by omega, rfl, rfl⟩, rfl⟩
theorem Pl.routeB_there {r : Pl.Rt} (h : Pl.pfx1 r.p = 0) (k : r.here = false) : Pl.routeB r = (decide (0 ≤ r.cost) && decide (r.cost ≤ 1048576) && decide (0 < r.hops.length) && Pl.hopsB r.hops) := by
 unfold Pl.routeB
 rw [decide_eq_true h, k, Bool.eq_iff_iff]
 simp [List.length_pos_iff]
set_option maxHeartbeats 2000000 in
theorem isRoute_any (h : Pl.RH) (r : Pl.Rt) (w : World) (hr : Reads w h r) :
  Calls Tryz.prog 108 #[.agg #[.int .i64 h.p.1, .int .i64 h.p.2, .bool h.here, .int .i64 h.cost, .slice h.ha h.hl h.hc]] w fun e w' => e = .returned (.bool (Pl.routeB r)) ∧ Below w.heap.size w w' := by
 obtain ⟨h1, h2, h3, h4, h5⟩ := hr
 obtain ⟨⟨p1, p2⟩, here, cost, ha, hl, hc⟩ := h
 simp only at h1 h2 h3 h4
 simp only
 obtain ⟨R, HR⟩ : ∃ R, Hid (Pl.routeB r = R) := ⟨_, rfl⟩
 rw [HR.out]
 have HP : Hid (Pl.pairOk (p1, p2)) := hid (by rw [h1]; exact h5)
 obtain ⟨c, HC⟩ : ∃ c, Hid (Pl.pfxF [(p1, p2)] = c) := ⟨_, rfl⟩
 have HC1 : Hid (Pl.pfx1 r.p = c) := hid (by rw [← HC.out, Pl.pfxF_one, h1])
 have HI := hid h4
 have HL : Hid (r.hops.length = hl) := hid h4.1
 have hlc := h4.2.1
 have hcm := h4.2.2.1
 unfold maxLen at hcm
 by_cases hc0 : c = 0
 ·subst hc0
  have hpf := HC1.out
  cases here
  ·have HRB : Hid (R = (decide (0 ≤ cost) && decide (cost ≤ 1048576) && decide (0 < hl) && Pl.hopsB r.hops)) := hid (by rw [← HR.out, Pl.routeB_there hpf h2.symm, h3, HL.out])
   obtain ⟨hb, HHB⟩ : ∃ c, Hid (Pl.hopsB r.hops = c) := ⟨_, rfl⟩
   rw [HHB.out] at HRB
   clear hpf h1 h2 h3 h4 h5
   by_cases g1 : 0 ≤ cost
   all_goals by_cases g2 : cost ≤ 1048576
   all_goals by_cases g3 : 0 < hl
   all_goals first | (exfalso; omega) | skip
   all_goals
    go_enter Tryz.func108, Tryz.ntmps108
    go_wp2_with fail
    refine (CheckPrefixes_any _ _ _ [(p1, p2)] _ (onePair _ _ p1 p2 _ HP.out (by simp))).mono ?_
    rw [HC.out]
    rintro e w1 ⟨rfl, hb1⟩
    have x2 : w1.cell? ⟨w.heap.size, 2, none⟩ = some (.bool false) := (hb1.cell (by simp; omega)).trans (by simp)
    have x3 : w1.cell? ⟨w.heap.size, 3, none⟩ = some (.int .i64 cost) := (hb1.cell (by simp; omega)).trans (by simp)
    have x4 : w1.cell? ⟨w.heap.size, 4, none⟩ = some (.slice ha hl hc) := (hb1.cell (by simp; omega)).trans (by simp)
    have hbw : Below w.heap.size w w1 := (((Below.refl _ _).alloc (Nat.le_refl _) _).alloc (by simp) _).trans (hb1.mono (by simp; omega))
    have HHO : Hid (Calls Tryz.prog 156 #[.slice ha hl hc] w1 fun e w' => e = .returned (.bool hb) ∧ w' = w1) := by
     refine hid ?_
     have := areHops_any ha hl hc r.hops w1 (HI.out.below hbw)
     rwa [HHB.out] at this
    clear hb1
    go_wp2_with (go_at_call 156; refine HHO.out.mono ?_; rintro e w' ⟨rfl, rfl⟩)
    go_ret
    exact ⟨ret_bool (by rw [HRB.out]; simp [g1, g2, g3] <;> (intros; omega)), hbw⟩
  ·have HRB : Hid (R = (decide (cost = 0) && decide (hl = 0))) := hid (by rw [← HR.out, Pl.routeB_here hpf h2.symm, h3, HL.out])
   clear hpf h1 h2 h3 h4 h5
   obtain ⟨e1, g1⟩ : ∃ c, (cost == 0) = c := ⟨_, rfl⟩
   obtain ⟨e3, g3⟩ : ∃ c, ((hl : Int) == 0) = c := ⟨_, rfl⟩
   have HRC : Hid (R = (e1 && e3)) := hid (by rw [HRB.out, ← g1, ← g3, Bool.eq_iff_iff]; simp)
   cases e1
   all_goals cases e3
   all_goals
    go_enter Tryz.func108, Tryz.ntmps108
    go_wp2_with fail
    refine (CheckPrefixes_any _ _ _ [(p1, p2)] _ (onePair _ _ p1 p2 _ HP.out (by simp))).mono ?_
    rw [HC.out]
    rintro e w1 ⟨rfl, hb1⟩
    have x2 : w1.cell? ⟨w.heap.size, 2, none⟩ = some (.bool true) := (hb1.cell (by simp; omega)).trans (by simp)
    have x3 : w1.cell? ⟨w.heap.size, 3, none⟩ = some (.int .i64 cost) := (hb1.cell (by simp; omega)).trans (by simp)
    have x4 : w1.cell? ⟨w.heap.size, 4, none⟩ = some (.slice ha hl hc) := (hb1.cell (by simp; omega)).trans (by simp)
    have hbw : Below w.heap.size w w1 := (((Below.refl _ _).alloc (Nat.le_refl _) _).alloc (by simp) _).trans (hb1.mono (by simp; omega))
    clear hb1
    go_wp2_with fail
    go_ret
    exact ⟨ret_bool (by rw [HRC.out]; rfl), hbw⟩
 ·have HRB : Hid (R = false) := hid (by rw [← HR.out]; exact Pl.routeB_pfx (by rw [HC1.out]; exact hc0))
  have hd0 : (c != 0) = true := by simpa using hc0
  clear hc0 h1 h2 h3 h4 h5
  go_enter Tryz.func108, Tryz.ntmps108
  go_wp2_with fail
  refine (CheckPrefixes_any _ _ _ [(p1, p2)] _ (onePair _ _ p1 p2 _ HP.out (by simp))).mono ?_
  rw [HC.out]
  rintro e w1 ⟨rfl, hb1⟩
  have hbw : Below w.heap.size w w1 := (((Below.refl _ _).alloc (Nat.le_refl _) _).alloc (by simp) _).trans (hb1.mono (by simp; omega))
  clear hb1
  go_wp2_with fail
  go_ret
  exact ⟨ret_bool HRB.out.symm, hbw⟩
theorem box5 {w w3 : World} {c0 c1 c2 c3 c4 : Value} {T : TypeId} (hb : Below (w.heap.size + 1) (w.alloc (.cells #[c0, c1, c2, c3, c4] T)) w3) :
  (w3.cell? ⟨w.heap.size, 0, none⟩ = some c0 ∧ w3.cell? ⟨w.heap.size, 1, none⟩ = some c1 ∧ w3.cell? ⟨w.heap.size, 2, none⟩ = some c2 ∧ w3.cell? ⟨w.heap.size, 3, none⟩ = some c3 ∧ w3.cell? ⟨w.heap.size, 4, none⟩ = some c4) ∧ w.heap.size < w3.heap.size ∧ Below w.heap.size w w3 := by
 have hz := hb.size
 simp only [World.alloc, Array.size_push] at hz
 refine ⟨⟨?_, ?_, ?_, ?_, ?_⟩, by omega, ((Below.refl _ _).alloc (Nat.le_refl _) _).trans (hb.mono (by omega))⟩
 all_goals
  rw [hb.cell (by simp)]
  simp
set_option maxHeartbeats 2000000 in
theorem Check_rib (a : Option Addr) (len cap : Nat) (hs : List Pl.RH) (rs : List Pl.Rt) (w : World) (h : IsRows w a len cap hs) (hrd : ReadsAll w hs rs) :
  Calls Tryz.prog 66 #[.slice a len cap] w fun e w' => e = .returned (.int .i64 (Pl.tabF rs)) ∧ Below w.heap.size w w' := by
 have HH := hid h
 have HD := hid hrd
 have hlr : rs.length = len := by rw [← hrd.1]; exact h.1
 have hlh : hs.length = len := h.1
 have hc := h.2.1
 have hm := h.2.2.1
 unfold maxLen at hm
 clear h hrd
 obtain ⟨R, HR⟩ : ∃ R, Hid (Pl.tabF rs = R) := ⟨_, rfl⟩
 rw [HR.out]
 have HLR := hid hlr
 have HLH := hid hlh
 clear hlr hlh
 by_cases h200 : 200 < len
 ·have HS : Hid (R = 1) := hid (by rw [← HR.out]; exact Pl.tabF_size (by rw [HLR.out]; exact h200))
  go_enter Tryz.func66, Tryz.ntmps66
  go_wp2
  go_ret
  exact ⟨ret_int HS.out.symm, Below.refl _ _⟩
 go_enter Tryz.func66, Tryz.ntmps66
 go_wp2
 go_loopw [10] (fun i wr => ∃ k : Nat, k ≤ len ∧ i = .int .i64 k ∧ Hid (R = Pl.tabN rs (len - k) k) ∧ Hid (Below w.heap.size w wr)) (fun i _ => len - (intOf i).toNat)
 case atStart => exact ⟨0, Nat.zero_le _, rfl, hid (by rw [← HR.out, Pl.tabF_from (by rw [HLR.out]; omega), HLR.out]; rfl), hid (Below.refl _ _)⟩
 case round =>
  obtain ⟨k, hk, rfl, HF, HB⟩ := hrel
  by_cases hlt : k < len
  ·obtain ⟨b, off, rfl, hbw, hr⟩ := HH.out.at hlt
   have hb := HB.out
   have hr' := hr.below hbw hb
   have hz := hb.size
   have hbr : b < wr.heap.size := by omega
   obtain ⟨c0, c1, c2, c3, c4⟩ := hr' k (by rw [HLH.out]; exact hlt)
   have HRD := hid ((HD.out.2 k (by rw [HLH.out]; exact hlt)).below hb)
   obtain ⟨n, hn⟩ : ∃ n, len - k = n + 1 := ⟨len - k - 1, by omega⟩
   have HN := hid hn
   clear hn
   obtain ⟨mm, HM⟩ : ∃ mm, Hid (Pl.routeB (Pl.rt rs k) = mm) := ⟨_, rfl⟩
   obtain ⟨hh, HE⟩ : ∃ x, Hid (Pl.rh hs k = x) := ⟨_, rfl⟩
   rw [HE.out] at c0 c1 c2 c3 c4
   have HRE := hid HRD.out
   rw [HE.out] at HRE
   have hpk : Hid (hh.p = (Pl.rt rs k).p) := hid HRE.out.1
   obtain ⟨⟨p1, p2⟩, here, cost, ha, hl, hcc⟩ := hh
   simp only at c0 c1 c2 c3 c4
   have HIS : Hid (∀ W, Below wr.heap.size wr W → Calls Tryz.prog 108 #[.agg #[.int .i64 p1, .int .i64 p2, .bool here, .int .i64 cost, .slice ha hl hcc]] W fun e w' => e = .returned (.bool mm) ∧ Below W.heap.size W w') := by
    refine hid fun W hW => ?_
    have := isRoute_any ⟨(p1, p2), here, cost, ha, hl, hcc⟩ (Pl.rt rs k) W (HRE.out.below hW)
    rwa [HM.out] at this
   clear HRD HRE hr
   cases mm
   ·go_wp2_with fail
    refine (HIS.out _ ((Below.refl _ _).alloc (Nat.le_refl _) _)).mono ?_
    rintro e w1 ⟨rfl, hb1⟩
    go_wp2_with fail
    go_ret
    exact ⟨ret_int (by rw [HF.out, HN.out, Pl.tabN_form HM.out]), (hb.alloc hz _).trans (hb1.mono (by simp; omega))⟩
   ·rcases Nat.eq_zero_or_pos k with hk0 | hk0
    ·have hd : decide (0 < k) = false := by simp; omega
     have HLW : Hid (Pl.lowR rs k = false) := hid (by rw [hk0]; exact Pl.lowR_zero rs)
     clear hk0
     go_wp2_with fail
     refine (HIS.out _ ((Below.refl _ _).alloc (Nat.le_refl _) _)).mono ?_
     rintro e w1 ⟨rfl, hb1⟩
     go_wp2_with fail
     go_quiet (fail)
     go_wp2_with fail
     go_roundw
     case rel => exact ⟨k + 1, by omega, by go_num, hid (by rw [HF.out, HN.out, Pl.tabN_on HM.out HLW.out]; congr 1; have := HN.out; omega), hid (below_drew ((hb.alloc hz _).trans (hb1.mono (by simp; omega))) _)⟩
     case measure => simp [intOf]; omega
    ·obtain ⟨m, rfl⟩ : ∃ m, k = m + 1 := ⟨k - 1, by omega⟩
     obtain ⟨d0, d1, _, _, _⟩ := hr' m (by rw [HLH.out]; omega)
     obtain ⟨gg, HG⟩ : ∃ x, Hid ((Pl.rh hs m).p = x) := ⟨_, rfl⟩
     rw [HG.out] at d0 d1
     have hpm : Hid (gg = (Pl.rt rs m).p) := hid (by rw [← HG.out]; exact (HD.out.2 m (by rw [HLH.out]; omega)).1)
     obtain ⟨q1, q2⟩ := gg
     simp only at d0 d1
     obtain ⟨cq, HCQ⟩ : ∃ c, Hid (Pl.pfxC (q1, q2) (p1, p2) = c) := ⟨_, rfl⟩
     have HLW : Hid (Pl.lowR rs (m + 1) = decide (0 ≤ cq)) := by
      refine hid ?_
      rw [← HCQ.out, Pl.pfxC_ge, Pl.lowR_succ, ← hpm.out, ← hpk.out]
     have HCP : Hid (∀ W, Calls Tryz.prog 100 #[.agg #[.int .i64 q1, .int .i64 q2], .agg #[.int .i64 p1, .int .i64 p2]] W fun e w' => e = .returned (.int .i64 cq) ∧ Below W.heap.size W w') := by
      refine hid fun W => ?_
      have := comparePrefixes_any (q1, q2) (p1, p2) W
      rwa [HCQ.out] at this
     clear hr'
     by_cases hle : 0 ≤ cq
     all_goals
      go_wp2_with fail
      refine (HIS.out _ ((Below.refl _ _).alloc (Nat.le_refl _) _)).mono ?_
      rintro e w1 ⟨rfl, hb1⟩
      obtain ⟨⟨x0, x1, _, _, _⟩, xs, hbb⟩ := box5 (by simpa using hb1)
      have d0' := (hbb.cell (p := ⟨b, off + m * 5, none⟩) hbr).trans d0
      have d1' := (hbb.cell (p := ⟨b, off + m * 5 + 1, none⟩) hbr).trans d1
      clear hb1
      have hbw1 : b < w1.heap.size := by omega
      go_wp2_with fail
      have i0 := in_cell xs x0
      have i1 := in_cell xs x1
      have i2 := in_cell hbw1 d0'
      have i3 := in_cell hbw1 d1'
      have hne := in_some w1
      refine wp_region_in (by kernel_rfl) (by kernel_rfl) ?_
      repeat (go_big_quiet_step ((go_at_call 100; exact in_call (HCP.out _))))
      refine wpQuiet_nil ?_
      intro w5 hw'
      have hb5 := in_out hw'
      clear hw' i0 i1 i2 i3 hne x0 x1 d0' d1'
      go_wp2_with fail
     ·go_ret
      exact ⟨ret_int (by rw [HF.out, HN.out, Pl.tabN_low HM.out (by rw [HLW.out]; simpa using hle)]), hb.trans ((hbb.mono hz).trans (hb5.mono (Nat.le_trans hz hbb.size)))⟩
     ·go_roundw
      case rel => exact ⟨m + 1 + 1, by omega, by go_num, hid (by rw [HF.out, HN.out, Pl.tabN_on HM.out (by rw [HLW.out]; simpa using hle)]; congr 1; have := HN.out; omega), hid (hb.trans ((hbb.mono hz).trans (hb5.mono (Nat.le_trans hz hbb.size))))⟩
      case measure => simp [intOf]; omega
  ·obtain rfl : k = len := by omega
   go_wp2
   go_ret
   exact ⟨ret_int (by rw [HF.out]; simp [Pl.tabN]), HB.out⟩
end Go.Proofs.YtjjelkdajdeikaaGreatDoor
namespace Go.Proofs.YtjjelkdajdeikaaGreatDoor.Pl
def pfxAt (addr : Int) (bits : Nat) : Int × Int := (addr - addr % span bits, bits)
def lookN (ps : List (Int × Int)) (addr : Int) : Nat → Option Nat
 | 0 => none
 | n + 1 => if thereP ps (pfxAt addr n) then some (posP ps (pfxAt addr n)) else lookN ps addr n
theorem lookN_lt {ps : List (Int × Int)} {addr : Int} : ∀ {n i : Nat}, lookN ps addr n = some i → i < ps.length
 | 0, i, h => by simp [lookN] at h
 | n + 1, i, h => by
  unfold lookN at h
  split at h
  ·rename_i ht
   cases h
   exact thereP_lt ht
  ·exact lookN_lt h
def lookC (rs : List Rt) (addr : Int) : Int :=
 if tabF rs = 0 then (if 0 ≤ addr ∧ addr ≤ 255 then (match lookN (rs.map Rt.p) addr 9 with | some _ => 0 | none => 6) else 2) else tabF rs
def lookR (rs : List Rt) (addr : Int) : Rt :=
 if tabF rs = 0 then (if 0 ≤ addr ∧ addr ≤ 255 then (match lookN (rs.map Rt.p) addr 9 with | some i => rt rs i | none => Rt.none) else Rt.none) else Rt.none
def sameR (a b : Rt) : Bool := decide (a.here = b.here) && decide (a.cost = b.cost) && decide (a.hops = b.hops)
def keptB (a : List Rt) (r : Rt) : Bool := thereP (a.map Rt.p) r.p && sameR (rt a (posP (a.map Rt.p) r.p)) r
def setL (a b : List Rt) : List Rt := b.filter fun r => !keptB a r
def goneL (a b : List Rt) : List (Int × Int) := (a.filter fun r => !thereP (b.map Rt.p) r.p).map Rt.p
def delR (rs : List Rt) (p : Int × Int) : List Rt := if thereP (rs.map Rt.p) p then rs.take (posP (rs.map Rt.p) p) ++ rs.drop (posP (rs.map Rt.p) p + 1) else rs
def delsR (rs : List Rt) (ps : List (Int × Int)) : List Rt := ps.foldl delR rs
def insR : List Rt → Rt → List Rt
 | [], x => [x]
 | e :: r, x => if pltB e.p x.p then e :: insR r x else if e.p = x.p then x :: r else x :: e :: r
def inssR (rs : List Rt) (set : List Rt) : List Rt := set.foldl insR rs
def layR (rs : List Rt) (i : Nat) (instead : Bool) (x : Rt) : List Rt := rs.take i ++ x :: rs.drop (if instead then i + 1 else i)
def SrtR (rs : List Rt) : Prop := rs.Pairwise fun a b => pltB a.p b.p = true
theorem ascP_srt (rs : List Rt) : AscP (rs.map Rt.p) ↔ SrtR rs := by
 unfold AscP SrtR
 rw [List.pairwise_iff_getElem]
 constructor
 ·intro h i j hi hj hij
  have := h i j hij (by simpa using hj)
  rwa [pr_map rs i hi, pr_map rs j hj, rt_eq rs i hi, rt_eq rs j hj] at this
 ·intro h i j hij hj
  simp only [List.length_map] at hj
  have := h i j (by omega) hj hij
  rwa [pr_map rs i (by omega), pr_map rs j hj, rt_eq rs i (by omega), rt_eq rs j hj]
def GoodT (rs : List Rt) : Prop := rs.length ≤ 200 ∧ (∀ r ∈ rs, routeB r = true) ∧ SrtR rs
theorem goodT_iff (rs : List Rt) : tabF rs = 0 ↔ GoodT rs := by
 constructor
 ·intro h
  obtain ⟨h1, h2, h3⟩ := good_of_tabF h
  refine ⟨h1, fun r hr => ?_, (ascP_srt rs).1 h3⟩
  obtain ⟨i, hi, rfl⟩ := List.getElem_of_mem hr
  rw [← rt_eq rs i hi]; exact h2 i hi
 ·rintro ⟨h1, h2, h3⟩
  exact tabF_of_good h1 (fun i hi => h2 _ (rt_mem rs i hi)) ((ascP_srt rs).2 h3)
theorem thereP_cons_lt {e : Int × Int} {r : List (Int × Int)} {p : Int × Int} (h : pltB e p = true) : thereP (e :: r) p = thereP r p := by
 unfold thereP
 simp only [posP, h, if_true, pr_cons_succ, List.length_cons]
 simp
theorem thereP_cons_ge {e : Int × Int} {r : List (Int × Int)} {p : Int × Int} (h : pltB e p = false) : thereP (e :: r) p = decide (e = p) := by
 unfold thereP
 simp [posP, h, pr]
theorem lay_insR : ∀ (rs : List Rt) (x : Rt), layR rs (posP (rs.map Rt.p) x.p) (thereP (rs.map Rt.p) x.p) x = insR rs x
 | [], x => by simp [layR, insR, posP, thereP]
 | e :: r, x => by
  cases h : pltB e.p x.p
  ·rw [List.map_cons, thereP_cons_ge h]
   simp only [posP, h, insR, layR]
   by_cases k : e.p = x.p
   ·simp [k]
   ·simp [k]
  ·rw [List.map_cons, thereP_cons_lt h]
   have ih := lay_insR r x
   unfold layR at ih ⊢
   simp only [posP, h, if_true, insR, List.take_succ_cons, List.cons_append]
   rw [← ih]
   cases thereP (r.map Rt.p) x.p <;> simp
theorem mem_insR {rs : List Rt} {x e : Rt} (h : e ∈ insR rs x) : e = x ∨ e ∈ rs := by
 induction rs with
 | nil => simp [insR] at h; exact .inl h
 | cons a r ih =>
  unfold insR at h
  split at h
  ·rcases List.mem_cons.1 h with rfl | h
   ·exact .inr (by simp)
   ·rcases ih h with h | h
    ·exact .inl h
    ·exact .inr (by simp [h])
  ·split at h
   ·rcases List.mem_cons.1 h with rfl | h
    ·exact .inl rfl
    ·exact .inr (by simp [h])
   ·rcases List.mem_cons.1 h with rfl | h
    ·exact .inl rfl
    ·exact .inr h
theorem insR_srt {rs : List Rt} {x : Rt} (h : SrtR rs) : SrtR (insR rs x) := by
 induction rs with
 | nil => simp [SrtR, insR]
 | cons a r ih =>
  unfold SrtR at h ih ⊢
  rw [List.pairwise_cons] at h
  obtain ⟨h1, h2⟩ := h
  unfold insR
  split
  ·rename_i hl
   refine List.pairwise_cons.2 ⟨fun e he => ?_, ih h2⟩
   rcases mem_insR he with rfl | he
   ·exact hl
   ·exact h1 e he
  ·rename_i hl
   split
   ·rename_i he
    refine List.pairwise_cons.2 ⟨fun e hm => ?_, h2⟩
    rw [← he]; exact h1 e hm
   ·rename_i he
    have hlt : pltB x.p a.p = true := by
     cases k : pltB x.p a.p
     ·exact absurd (pltB_total (by simpa using hl) k) he
     ·rfl
    refine List.pairwise_cons.2 ⟨fun e hm => ?_, List.pairwise_cons.2 ⟨h1, h2⟩⟩
    rcases List.mem_cons.1 hm with rfl | hm
    ·exact hlt
    ·exact pltB_trans hlt (h1 e hm)
theorem insR_len : ∀ (rs : List Rt) (x : Rt), (insR rs x).length = if thereP (rs.map Rt.p) x.p then rs.length else rs.length + 1
 | [], x => by simp [insR, thereP]
 | e :: r, x => by
  have ih := insR_len r x
  cases h : pltB e.p x.p
  ·rw [List.map_cons, thereP_cons_ge h]
   simp only [insR, h]
   by_cases k : e.p = x.p <;> simp [k]
  ·rw [List.map_cons, thereP_cons_lt h]
   simp only [insR, h, if_true, List.length_cons, ih]
   cases thereP (r.map Rt.p) x.p <;> simp
theorem insR_len_ge (rs : List Rt) (x : Rt) : rs.length ≤ (insR rs x).length := by
 rw [insR_len]; split <;> omega
theorem inssR_len_ge : ∀ (set rs : List Rt), rs.length ≤ (inssR rs set).length
 | [], _ => Nat.le_refl _
 | x :: r, rs => Nat.le_trans (insR_len_ge rs x) (inssR_len_ge r (insR rs x))
theorem inssR_srt : ∀ (set rs : List Rt), SrtR rs → SrtR (inssR rs set)
 | [], _, h => h
 | _ :: r, _, h => inssR_srt r _ (insR_srt h)
theorem delR_filter : ∀ (rs : List Rt) (p : Int × Int), SrtR rs → delR rs p = rs.filter fun r => decide (¬ r.p = p)
 | [], p, _ => by simp [delR, thereP]
 | e :: r, p, h => by
  unfold SrtR at h
  rw [List.pairwise_cons] at h
  obtain ⟨h1, h2⟩ := h
  have ih := delR_filter r p h2
  cases hl : pltB e.p p
  ·have hrest : ∀ a ∈ r, ¬ a.p = p := by
    intro a ha he
    have := h1 a ha
    rw [he, hl] at this; cases this
   have hall : (r.filter fun r => decide (¬ r.p = p)) = r := List.filter_eq_self.2 fun a ha => by simpa using hrest a ha
   unfold delR
   rw [List.map_cons, thereP_cons_ge hl]
   simp only [posP, hl]
   by_cases k : e.p = p
   ·simp only [k, decide_true, if_true]
    rw [List.filter_cons_of_neg (by simp [k]), hall]
    simp
   ·simp only [k, decide_false]
    rw [List.filter_cons_of_pos (by simp [k]), hall]
    simp
  ·have k : ¬ e.p = p := pltB_ne hl
   rw [List.filter_cons_of_pos (by simp [k]), ← ih]
   unfold delR
   rw [List.map_cons, thereP_cons_lt hl]
   simp only [posP, hl, if_true, List.take_succ_cons, List.drop_succ_cons]
   split <;> simp
theorem filter_srt {rs : List Rt} (f : Rt → Bool) (h : SrtR rs) : SrtR (rs.filter f) := List.Pairwise.filter _ h
theorem delsR_filter : ∀ (ps : List (Int × Int)) (rs : List Rt), SrtR rs → delsR rs ps = rs.filter fun r => decide (¬ r.p ∈ ps)
 | [], rs, _ => by
  simp only [delsR, List.foldl_nil, List.not_mem_nil, not_false_eq_true, decide_true]
  exact (List.filter_eq_self.2 fun _ _ => rfl).symm
 | p :: ps, rs, h => by
  show delsR (delR rs p) ps = _
  rw [delR_filter rs p h, delsR_filter ps _ (filter_srt _ h), List.filter_filter]
  congr 1
  funext r
  rw [Bool.eq_iff_iff]
  simp
  exact And.comm
theorem delsR_srt {rs : List Rt} {ps : List (Int × Int)} (h : SrtR rs) : SrtR (delsR rs ps) := by rw [delsR_filter ps rs h]; exact filter_srt _ h
theorem delsR_len {rs : List Rt} {ps : List (Int × Int)} (h : SrtR rs) : (delsR rs ps).length ≤ rs.length := by rw [delsR_filter ps rs h]; exact List.length_filter_le _ _
def patR (a set : List Rt) (gone : List (Int × Int)) : List Rt := inssR (delsR a gone) set
def patC (a set : List Rt) (gone : List (Int × Int)) : Int := if tabF a = 0 then tabF (patR a set gone) else tabF a
def patL (a set : List Rt) (gone : List (Int × Int)) : List Rt := if tabF a = 0 then (if tabF (patR a set gone) = 0 then patR a set gone else []) else []
end Go.Proofs.YtjjelkdajdeikaaGreatDoor.Pl
namespace Go.Proofs.YtjjelkdajdeikaaGreatDoor
open Go.RowKit
set_option maxRecDepth 20000
def Pl.hp (hs : List Pl.RH) : List (Int × Int) := hs.map Pl.RH.p
theorem Pl.pr_hp (hs : List Pl.RH) (i : Nat) (h : i < hs.length) : Pl.pr (Pl.hp hs) i = (Pl.rh hs i).p := by
 unfold Pl.hp
 rw [Pl.pr_eq _ _ (by simpa using h), Pl.rh_eq hs i h]; simp
theorem Pl.hp_len (hs : List Pl.RH) : (Pl.hp hs).length = hs.length := by simp [Pl.hp]
set_option maxHeartbeats 400000 in
theorem cloR_any (hs : List Pl.RH) (p1 p2 : Int) (b off len cap bl bk i : Nat) (w : World) (hl : hs.length = len) (_hc : len ≤ cap) (_hm : cap ≤ maxLen) (hbw : b < w.heap.size) (hblw : bl < w.heap.size) (hbkw : bk < w.heap.size)
  (hrow : RowsAt w b off hs) (h1 : w.cell? ⟨bl, 0, none⟩ = some (.slice (some ⟨b, off, none⟩) len cap)) (h2 : w.cell? ⟨bk, 0, none⟩ = some (.int .i64 p1)) (h3 : w.cell? ⟨bk, 1, none⟩ = some (.int .i64 p2)) (hi : i < len) :
  Calls Tryz.prog 109 #[.int .i64 i, .pointer (some ⟨bl, 0, none⟩), .pointer (some ⟨bk, 0, none⟩)] w fun e w' => e = .returned (.bool (!Pl.pltB (Pl.pr (Pl.hp hs) i) (p1, p2))) ∧ Below w.heap.size w w' := by
 unfold maxLen at _hm
 obtain ⟨c0, c1, _, _, _⟩ := hrow i (by omega)
 rw [Pl.pr_hp hs i (by omega)]
 obtain ⟨gg, HG⟩ : ∃ x, Hid ((Pl.rh hs i).p = x) := ⟨_, rfl⟩
 rw [HG.out] at c0 c1 ⊢
 obtain ⟨q1, q2⟩ := gg
 simp only at c0 c1
 have hi' : (i : Int) < (len : Int) := by omega
 obtain ⟨cq, HCQ⟩ : ∃ c, Hid (Pl.pfxC (q1, q2) (p1, p2) = c) := ⟨_, rfl⟩
 have HLW : Hid ((!Pl.pltB (q1, q2) (p1, p2)) = decide (0 ≤ cq)) := hid (by rw [← HCQ.out, Pl.pfxC_ge])
 have HCP : Hid (∀ W, Calls Tryz.prog 100 #[.agg #[.int .i64 q1, .int .i64 q2], .agg #[.int .i64 p1, .int .i64 p2]] W fun e w' => e = .returned (.int .i64 cq) ∧ Below W.heap.size W w') := by
  refine hid fun W => ?_
  have := comparePrefixes_any (q1, q2) (p1, p2) W
  rwa [HCQ.out] at this
 rw [HLW.out]
 clear hrow
 go_enter Tryz.func109, Tryz.ntmps109
 go_wp2_with fail
 have i0 := in_cell hblw h1
 have i1 := in_cell hbkw h2
 have i2 := in_cell hbkw h3
 have i3 := in_cell hbw c0
 have i4 := in_cell hbw c1
 have hne := in_some w
 refine wp_region_in (by kernel_rfl) (by kernel_rfl) ?_
 repeat (go_big_quiet_step ((go_at_call 100; exact in_call (HCP.out _))))
 refine wpQuiet_nil ?_
 intro w5 hw'
 have hb5 := in_out hw'
 clear hw' i0 i1 i2 i3 i4 hne
 go_wp2_with fail
 go_ret
 exact ⟨rfl, hb5⟩
set_option maxHeartbeats 400000 in
theorem SearchR_any (hs : List Pl.RH) (p1 p2 : Int) (a : Option Addr) (len cap bl bk : Nat) (w : World) (hl : hs.length = len) (hc : len ≤ cap) (hm : cap ≤ maxLen) (hblw : bl < w.heap.size) (hbkw : bk < w.heap.size)
  (hrow : hs = [] ∨ ∃ b off, a = some ⟨b, off, none⟩ ∧ b < w.heap.size ∧ RowsAt w b off hs) (h1 : w.cell? ⟨bl, 0, none⟩ = some (.slice a len cap)) (h2 : w.cell? ⟨bk, 0, none⟩ = some (.int .i64 p1)) (h3 : w.cell? ⟨bk, 1, none⟩ = some (.int .i64 p2)) (has : Pl.AscP (Pl.hp hs)) (hbig : len ≤ 2000000) :
  Calls Tryz.prog 94 #[.int .i64 len, .func (.func 109) #[] #[.pointer (some ⟨bl, 0, none⟩), .pointer (some ⟨bk, 0, none⟩)]] w fun e w' => e = .returned (.int .i64 (Pl.posP (Pl.hp hs) (p1, p2))) ∧ Below w.heap.size w w' := by
 have HM := hid hm
 unfold maxLen at hm
 have HR := hid hrow
 have H1 := hid h1
 have H2 := hid h2
 have H3 := hid h3
 have HA := hid has
 have HLP : Hid ((Pl.hp hs).length = len) := hid (by rw [Pl.hp_len, hl])
 clear hrow h1 h2 h3 has
 go_enter Tryz.func94, Tryz.ntmps94
 go_wp2
 go_loopw [5, 6] (fun i j wr => ∃ x y : Nat, x ≤ y ∧ y ≤ len ∧ i = .int .i64 x ∧ j = .int .i64 y ∧ Hid (Below w.heap.size w wr) ∧ Hid (∀ t, t < x → Pl.pltB (Pl.pr (Pl.hp hs) t) (p1, p2) = true) ∧ Hid (∀ t, y ≤ t → t < len → Pl.pltB (Pl.pr (Pl.hp hs) t) (p1, p2) = false)) (fun i j _ => (intOf j).toNat - (intOf i).toNat)
 case atStart => exact ⟨0, len, Nat.zero_le _, Nat.le_refl _, rfl, rfl, Below.refl _ _, fun t h => by omega, fun t h h' => by omega⟩
 case round =>
  obtain ⟨x, y, hxy, hy, rfl, rfl, HW, HX, HY⟩ := hrel
  by_cases hlt : x < y
  ·obtain ⟨b, off, rfl, hbw, hrow⟩ : ∃ b off, a = some ⟨b, off, none⟩ ∧ b < w.heap.size ∧ RowsAt w b off hs := by
    rcases HR.out with h | h
    ·rw [h] at hl; simp at hl; omega
    ·exact h
   have hz := HW.out.size
   have hr : RowsAt wr b off hs := hrow.below hbw HW.out
   have h1 := (HW.out.cell (p := ⟨bl, 0, none⟩) hblw).trans H1.out
   have h2 := (HW.out.cell (p := ⟨bk, 0, none⟩) hbkw).trans H2.out
   have h3 := (HW.out.cell (p := ⟨bk, 1, none⟩) hbkw).trans H3.out
   have HC := hid fun m => cloR_any hs p1 p2 b off len cap bl bk m wr hl hc HM.out (by omega) (by omega) (by omega) hr h1 h2 h3
   clear hr h1 h2 h3 hrow
   go_wp2_with fail
   obtain ⟨m, hm2, hxm, hmy⟩ : ∃ m : Nat, ((x : Int) + (y : Int)) / 2 = (m : Int) ∧ x ≤ m ∧ m < y := ⟨(x + y) / 2, by omega, by omega, by omega⟩
   rw [hm2]
   clear hm2
   refine (HC.out m (by omega)).mono ?_
   rintro e w' ⟨rfl, hbq⟩
   have HQ := hid (HW.out.trans (hbq.mono hz))
   clear hbq
   obtain ⟨ll, HL⟩ : ∃ ll, Hid (Pl.pltB (Pl.pr (Pl.hp hs) m) (p1, p2) = ll) := ⟨_, rfl⟩
   rw [HL.out]
   cases ll
   ·go_wp2
    go_roundw
    case rel => exact ⟨x, m, by omega, by omega, rfl, rfl, HQ, HX, fun t h h' => Pl.ascP_ge HA.out (by rw [HLP.out]; omega) h HL.out⟩
    case measure => simp [intOf]; omega
   ·go_wp2
    go_roundw
    case rel => exact ⟨m + 1, y, by omega, by omega, by go_num, rfl, HQ, fun t h => Pl.ascP_lt HA.out (by rw [HLP.out]; omega) (by omega) HL.out, HY⟩
    case measure => simp [intOf]; omega
  ·obtain rfl : x = y := by omega
   go_wp2
   go_ret
   exact ⟨ret_int (by rw [Pl.posP_of (by rw [HLP.out]; omega) HX.out (fun h => HY.out x (Nat.le_refl _) (by rw [HLP.out] at h; exact h))]), HW.out⟩
theorem new1 (w : World) (v : Value) (T : TypeId) (o : Obj) : ((w.alloc (.cells #[v] T)).alloc o).cell? ⟨w.heap.size, 0, none⟩ = some v := by simp
theorem new2 (w : World) (v0 v1 : Value) (T : TypeId) (o : Obj) : ((w.alloc o).alloc (.cells #[v0, v1] T)).cell? ⟨w.heap.size + 1, 0, none⟩ = some v0 ∧ ((w.alloc o).alloc (.cells #[v0, v1] T)).cell? ⟨w.heap.size + 1, 1, none⟩ = some v1 := by
 have h := World.size_alloc w o
 rw [← h]
 simp
set_option maxHeartbeats 400000 in
theorem find_rib (a : Option Addr) (len cap : Nat) (hs : List Pl.RH) (p1 p2 : Int) (w : World) (h : IsRows w a len cap hs) (has : Pl.AscP (Pl.hp hs)) (hbig : len ≤ 2000000) :
  Calls Tryz.prog 67 #[.slice a len cap, .agg #[.int .i64 p1, .int .i64 p2]] w fun e w' => e = .returned (.tuple #[.int .i64 (Pl.posP (Pl.hp hs) (p1, p2)), .bool (Pl.thereP (Pl.hp hs) (p1, p2))]) ∧ Below w.heap.size w w' := by
 obtain ⟨hl, hc, hm, _, hrow⟩ := h
 have hmf : ∀ (fn : Fn) (first cap : Array Value) (w : World), (Instr.makeFunc fn first cap).run Tryz.prog w = .ok (.func fn first cap) w := fun _ _ _ _ => rfl
 have HLP : Hid ((Pl.hp hs).length = len) := hid (by rw [Pl.hp_len, hl])
 have HB : Hid (Below w.heap.size w ((w.alloc (.cells #[.slice a len cap] 30)).alloc (.cells #[.int .i64 p1, .int .i64 p2] 49))) := ((Below.refl _ _).alloc (Nat.le_refl _) _).alloc (by simp) _
 have HS : Hid (Calls Tryz.prog 94 #[.int .i64 len, .func (.func 109) #[] #[.pointer (some ⟨w.heap.size, 0, none⟩), .pointer (some ⟨w.heap.size + 1, 0, none⟩)]] ((w.alloc (.cells #[.slice a len cap] 30)).alloc (.cells #[.int .i64 p1, .int .i64 p2] 49)) fun e w' => e = .returned (.int .i64 (Pl.posP (Pl.hp hs) (p1, p2))) ∧ Below (w.heap.size + 2) ((w.alloc (.cells #[.slice a len cap] 30)).alloc (.cells #[.int .i64 p1, .int .i64 p2] 49)) w') := by
  refine hid ?_
  have := SearchR_any hs p1 p2 a len cap w.heap.size (w.heap.size + 1) ((w.alloc (.cells #[.slice a len cap] 30)).alloc (.cells #[.int .i64 p1, .int .i64 p2] 49)) hl hc hm (by simp; omega) (by simp) ?_ (new1 _ _ _ _) (new2 _ _ _ _ _).1 (new2 _ _ _ _ _).2 has hbig
  ·simpa using this
  ·rcases hrow with h | ⟨b, off, rfl, hb, hr⟩
   ·exact .inl h
   ·exact .inr ⟨b, off, rfl, by simp; omega, hr.below hb HB.out⟩
 have hp := Pl.posP_le (Pl.hp hs) (p1, p2)
 rw [HLP.out] at hp
 unfold maxLen at hm
 rcases Nat.lt_or_ge (Pl.posP (Pl.hp hs) (p1, p2)) len with hlt | hge
 ·obtain ⟨b, off, rfl, hb, hr⟩ : ∃ b off, a = some ⟨b, off, none⟩ ∧ b < w.heap.size ∧ RowsAt w b off hs := by
   rcases hrow with h | h
   ·rw [h] at hl; simp at hl; omega
   ·exact h
  obtain ⟨c0, c1, _, _, _⟩ := hr (Pl.posP (Pl.hp hs) (p1, p2)) (by omega)
  obtain ⟨gg, HG⟩ : ∃ x, Hid ((Pl.rh hs (Pl.posP (Pl.hp hs) (p1, p2))).p = x) := ⟨_, rfl⟩
  rw [HG.out] at c0 c1
  have HT : Hid (Pl.thereP (Pl.hp hs) (p1, p2) = decide (gg = (p1, p2))) := by
   refine hid ?_
   unfold Pl.thereP
   rw [HLP.out, decide_eq_true hlt, Pl.pr_hp hs _ (by omega), HG.out]; rfl
  obtain ⟨q1, q2⟩ := gg
  simp only at c0 c1
  obtain ⟨tt, HTT⟩ : ∃ t, Hid (Pl.thereP (Pl.hp hs) (p1, p2) = t) := ⟨_, rfl⟩
  rw [HTT.out] at HT ⊢
  generalize Pl.posP (Pl.hp hs) (p1, p2) = p at *
  clear hrow hr
  have hlt' : (p : Int) < (len : Int) := by omega
  obtain ⟨e1, g1⟩ : ∃ c, (q1 == p1) = c := ⟨_, rfl⟩
  obtain ⟨e2, g2⟩ : ∃ c, (q2 == p2) = c := ⟨_, rfl⟩
  have HT2 : Hid (tt = (e1 && e2)) := hid (by rw [HT.out, ← g1, ← g2, Bool.eq_iff_iff]; simp)
  cases e1
  all_goals cases e2
  all_goals
   go_enter Tryz.func67, Tryz.ntmps67
   go_wp2_with fail
   refine HS.out.mono ?_
   rintro e w1 ⟨rfl, hb1⟩
   have x0 : w1.cell? ⟨w.heap.size, 0, none⟩ = some (.slice (some ⟨b, off, none⟩) len cap) := (hb1.cell (show w.heap.size < w.heap.size + 2 by omega)).trans (new1 _ _ _ _)
   have x1 : w1.cell? ⟨w.heap.size + 1, 0, none⟩ = some (.int .i64 p1) := (hb1.cell (show w.heap.size + 1 < w.heap.size + 2 by omega)).trans (new2 _ _ _ _ _).1
   have x2 : w1.cell? ⟨w.heap.size + 1, 1, none⟩ = some (.int .i64 p2) := (hb1.cell (show w.heap.size + 1 < w.heap.size + 2 by omega)).trans (new2 _ _ _ _ _).2
   have HBW := hid (HB.out.trans (hb1.mono (by omega)))
   have d0 := (HBW.out.cell (p := ⟨b, off + p * 5, none⟩) hb).trans c0
   have d1 := (HBW.out.cell (p := ⟨b, off + p * 5 + 1, none⟩) hb).trans c1
   clear c0 c1 hb1
   go_wp2_with fail
   go_quiet (fail)
   go_wp2
   go_ret2
   exact ⟨by rw [HT2.out]; rfl, below_drew HBW.out _⟩
 ·have HT : Hid (Pl.thereP (Pl.hp hs) (p1, p2) = false) := by
   refine hid ?_
   unfold Pl.thereP
   rw [HLP.out, decide_eq_false (by omega)]; rfl
  obtain ⟨tt, HTT⟩ : ∃ t, Hid (Pl.thereP (Pl.hp hs) (p1, p2) = t) := ⟨_, rfl⟩
  rw [HTT.out] at HT ⊢
  generalize Pl.posP (Pl.hp hs) (p1, p2) = p at *
  have hd : decide ((p : Int) < (len : Int)) = false := by simp; omega
  have hd' : decide (p < len) = false := by simp; omega
  go_enter Tryz.func67, Tryz.ntmps67
  go_wp2_with fail
  refine HS.out.mono ?_
  rintro e w1 ⟨rfl, hb1⟩
  have x0 : w1.cell? ⟨w.heap.size, 0, none⟩ = some (.slice a len cap) := (hb1.cell (show w.heap.size < w.heap.size + 2 by omega)).trans (new1 _ _ _ _)
  have HBW := hid (HB.out.trans (hb1.mono (by omega)))
  clear hb1
  go_wp2_with fail
  go_quiet (fail)
  go_wp2
  go_ret2
  exact ⟨by rw [HT.out]; rfl, below_drew HBW.out _⟩
theorem Pl.pfxAt_eq (addr : Int) (n : Nat) (K : Int) (h : Pl.span (n : Int) = K) : Pl.pfxAt addr n = (addr / K * K, (n : Int)) := by
 unfold Pl.pfxAt
 rw [h]
 have e := Int.ediv_mul_add_emod addr K
 generalize addr / K * K = x at *
 generalize addr % K = y at *
 simp only [Prod.mk.injEq, and_true]
 omega
set_option maxHeartbeats 1000000 in
theorem prefixOf_any (addr : Int) (n : Nat) (w : World) (h0 : 0 ≤ addr) (h1 : addr ≤ 255) (hn : n ≤ 8) :
  Calls Tryz.prog 68 #[.int .i64 addr, .int .i64 n] w fun e w' => e = .returned (.agg #[.int .i64 (Pl.pfxAt addr n).1, .int .i64 (Pl.pfxAt addr n).2]) ∧ Below w.heap.size w w' := by
 obtain rfl | rfl | rfl | rfl | rfl | rfl | rfl | rfl | rfl : n = 0 ∨ n = 1 ∨ n = 2 ∨ n = 3 ∨ n = 4 ∨ n = 5 ∨ n = 6 ∨ n = 7 ∨ n = 8 := by omega
 all_goals
  go_enter Tryz.func68, Tryz.ntmps68
  go_wp2
  rw [Pl.pfxAt_eq addr _ _ rfl]
  exact bodyPost_ret (by simp [results, Tryz.results68, go_sem, Pl.span_table]) rfl ⟨rfl, (Below.refl _ _).alloc (Nat.le_refl _) _⟩
theorem Pl.hopsB_len {l : List Int} (h : Pl.hopsB l = true) : l.length ≤ 12 := by
 have key : ∀ i, i < l.length → (i : Int) ≤ Pl.nm l i := by
  intro i
  induction i with
  | zero =>
   intro hi
   have := Pl.hopsB_at h 0 hi
   rw [Pl.hopB_zero] at this
   simp at this
   simpa using this.1
  | succ m ih =>
   intro hi
   have h1 := Pl.hopsB_at h (m + 1) hi
   rw [Pl.hopB_succ] at h1
   simp only [Bool.and_eq_true, decide_eq_true_eq] at h1
   have := ih (by omega)
   omega
 rcases Nat.eq_zero_or_pos l.length with h0 | hp
 ·omega
 ·have a := key (l.length - 1) (by omega)
  have b := Pl.hopsB_at h (l.length - 1) (by omega)
  unfold Pl.hopB at b
  simp only [Bool.and_eq_true, decide_eq_true_eq] at b
  omega
theorem Pl.routeB_hops {r : Pl.Rt} (h : Pl.routeB r = true) : r.hops.length ≤ 12 := by
 unfold Pl.routeB at h
 simp only [Bool.and_eq_true] at h
 exact Pl.hopsB_len h.2
theorem Pl.look_some {rs : List Pl.Rt} {addr : Int} {i : Nat} (h : Pl.tabF rs = 0) (ha : 0 ≤ addr ∧ addr ≤ 255) (hi : Pl.lookN (rs.map Pl.Rt.p) addr 9 = some i) : Pl.lookC rs addr = 0 ∧ Pl.lookR rs addr = Pl.rt rs i := by
 unfold Pl.lookC Pl.lookR
 rw [h, if_pos rfl, if_pos ha, if_pos rfl, if_pos ha, hi]
 exact ⟨rfl, rfl⟩
theorem Pl.look_none {rs : List Pl.Rt} {addr : Int} (h : Pl.tabF rs = 0) (ha : 0 ≤ addr ∧ addr ≤ 255) (hi : Pl.lookN (rs.map Pl.Rt.p) addr 9 = none) : Pl.lookC rs addr = 6 ∧ Pl.lookR rs addr = Pl.Rt.none := by
 unfold Pl.lookC Pl.lookR
 rw [h, if_pos rfl, if_pos ha, if_pos rfl, if_pos ha, hi]
 exact ⟨rfl, rfl⟩
theorem Pl.look_range {rs : List Pl.Rt} {addr : Int} (h : Pl.tabF rs = 0) (ha : ¬ (0 ≤ addr ∧ addr ≤ 255)) : Pl.lookC rs addr = 2 ∧ Pl.lookR rs addr = Pl.Rt.none := by
 unfold Pl.lookC Pl.lookR
 rw [h, if_pos rfl, if_neg ha, if_pos rfl, if_neg ha]
 exact ⟨rfl, rfl⟩
theorem Pl.look_bad {rs : List Pl.Rt} {addr : Int} (h : ¬ Pl.tabF rs = 0) : Pl.lookC rs addr = Pl.tabF rs ∧ Pl.lookR rs addr = Pl.Rt.none := by
 unfold Pl.lookC Pl.lookR
 rw [if_neg h, if_neg h]
 exact ⟨rfl, rfl⟩
theorem boxSoft {w w3 : World} {cs : Array Value} {T : TypeId} (hb : Below (w.heap.size + 1) (w.alloc (.cells cs T)) w3) (o : Nat) : w3.frozen? ⟨w.heap.size, o, none⟩ = false := by
 rw [hb.frozen (p := ⟨w.heap.size, o, none⟩) (show w.heap.size < w.heap.size + 1 by omega)]
 simp only [World.frozen?, heapNewZ]
 simp
theorem readsNone (w : World) : Reads w Pl.RH.none Pl.Rt.none := ⟨rfl, rfl, rfl, IsInts.nil w, by decide, by decide⟩
set_option maxHeartbeats 2000000 in
theorem Lookup_any (a : Option Addr) (len cap : Nat) (hs : List Pl.RH) (rs : List Pl.Rt) (addr : Int) (w : World) (h : IsRows w a len cap hs) (hrd : ReadsAll w hs rs) :
  Calls Tryz.prog 38 #[.slice a len cap, .int .i64 addr] w fun e w' =>
   ∃ g : Pl.RH, e = .returned (.tuple #[.agg #[.int .i64 g.p.1, .int .i64 g.p.2, .bool g.here, .int .i64 g.cost, .slice g.ha g.hl g.hc], .int .i64 (Pl.lookC rs addr)]) ∧ Reads w' g (Pl.lookR rs addr) ∧ Below w.heap.size w w' := by
 have HH := hid h
 have HD := hid hrd
 have HLH : Hid (hs.length = len) := hid h.1
 have hc := h.2.1
 have hm := h.2.2.1
 unfold maxLen at hm
 clear h hrd
 obtain ⟨LC, HLC⟩ : ∃ x, Hid (Pl.lookC rs addr = x) := ⟨_, rfl⟩
 obtain ⟨LR, HLR⟩ : ∃ x, Hid (Pl.lookR rs addr = x) := ⟨_, rfl⟩
 rw [HLC.out, HLR.out]
 obtain ⟨c, HC⟩ : ∃ c, Hid (Pl.tabF rs = c) := ⟨_, rfl⟩
 by_cases hc0 : c = 0
 ·subst hc0
  by_cases hin : 0 ≤ addr ∧ addr ≤ 255
  ·obtain ⟨ha0, ha1⟩ := hin
   have hg := Pl.good_of_tabF HC.out
   have HAS : Hid (Pl.AscP (Pl.hp hs)) := hid (by unfold Pl.hp; rw [HD.out.map_p]; exact hg.2.2)
   have hbig : len ≤ 2000000 := by have := hg.1; rw [← HD.out.1, HLH.out] at this; omega
   have HRB : Hid (∀ i, i < len → Pl.routeB (Pl.rt rs i) = true) := hid fun i hi => hg.2.1 i (by rw [← HD.out.1, HLH.out]; exact hi)
   have HQS : Hid (∀ i, Pl.lookN (Pl.hp hs) addr 9 = some i → LC = 0 ∧ LR = Pl.rt rs i) := hid fun i hi => by
    unfold Pl.hp at hi; rw [HD.out.map_p] at hi
    have := Pl.look_some HC.out ⟨ha0, ha1⟩ hi
    rwa [HLC.out, HLR.out] at this
   have HQN : Hid (Pl.lookN (Pl.hp hs) addr 9 = none → LC = 6 ∧ LR = Pl.Rt.none) := hid fun hi => by
    unfold Pl.hp at hi; rw [HD.out.map_p] at hi
    have := Pl.look_none HC.out ⟨ha0, ha1⟩ hi
    rwa [HLC.out, HLR.out] at this
   have HLP : Hid ((Pl.hp hs).length = len) := hid (by rw [Pl.hp_len, HLH.out])
   clear hg
   go_enter Tryz.func38, Tryz.ntmps38
   go_wp2_with fail
   refine (Check_rib _ _ _ hs rs _ (HH.out.below ((Below.refl _ _).alloc (Nat.le_refl _) _)) (HD.out.below ((Below.refl _ _).alloc (Nat.le_refl _) _))).mono ?_
   rw [HC.out]
   rintro e w1 ⟨rfl, hb1⟩
   have HB1 : Hid (Below (w.heap.size + 1) (w.alloc (.cells #[.int .i64 0, .int .i64 0, .bool false, .int .i64 0, .slice none 0 0] 80)) w1) := hid (by simpa using hb1)
   clear hb1
   go_wp2_with fail
   go_loopw [7] (fun i wr => ∃ n : Nat, n ≤ 9 ∧ i = .int .i64 ((n : Int) - 1) ∧ Hid (Pl.lookN (Pl.hp hs) addr 9 = Pl.lookN (Pl.hp hs) addr n) ∧ Hid (Below (w.heap.size + 1) (w.alloc (.cells #[.int .i64 0, .int .i64 0, .bool false, .int .i64 0, .slice none 0 0] 80)) wr)) (fun i _ => (intOf i + 1).toNat)
   case atStart => exact ⟨9, Nat.le_refl _, rfl, hid rfl, HB1⟩
   case round =>
    obtain ⟨n, hn, rfl, HN, HB⟩ := hrel
    obtain ⟨⟨y0, y1, y2, y3, y4⟩, hbx, hbw⟩ := box5 HB.out
    have HBW := hid hbw
    clear hbw
    rcases Nat.eq_zero_or_pos n with hn0 | hn0
    ·subst hn0
     have HE := hid (HQN.out (by rw [HN.out]; rfl))
     have yf : ∀ o, wr.frozen? ⟨w.heap.size, o, none⟩ = false := fun o => boxSoft HB.out o
     go_wp2_with fail
     refine bodyPost_ret (v := .tuple #[.agg #[.int .i64 0, .int .i64 0, .bool false, .int .i64 0, .slice none 0 0], .int .i64 6]) (by simp [results, Tryz.results38, go_sem, y0, y1, y2, y3, y4]) rfl ⟨Pl.RH.none, by rw [HE.out.1]; rfl, by rw [HE.out.2]; exact readsNone _, ?_⟩
     exact (((((HBW.out.setCell (Nat.le_refl _) _).setCell (Nat.le_refl _) _).setCell (Nat.le_refl _) _).setCell (Nat.le_refl _) _).setCell (Nat.le_refl _) _)
    ·obtain ⟨m, rfl⟩ : ∃ m, n = m + 1 := ⟨n - 1, by omega⟩
     have e1 : ((m + 1 : Nat) : Int) - 1 = (m : Int) := by omega
     rw [e1]
     clear e1 hn0
     have hm9 : m ≤ 8 := by omega
     obtain ⟨pp, HPP⟩ : ∃ x, Hid (Pl.pfxAt addr m = x) := ⟨_, rfl⟩
     have HPO : Hid (∀ W, Calls Tryz.prog 68 #[.int .i64 addr, .int .i64 m] W fun e w' => e = .returned (.agg #[.int .i64 pp.1, .int .i64 pp.2]) ∧ Below W.heap.size W w') := hid fun W => by
      have := prefixOf_any addr m W ha0 ha1 hm9
      rwa [HPP.out] at this
     have HST : Hid (Pl.lookN (Pl.hp hs) addr (m + 1) = if Pl.thereP (Pl.hp hs) pp then some (Pl.posP (Pl.hp hs) pp) else Pl.lookN (Pl.hp hs) addr m) := hid (by rw [← HPP.out]; rfl)
     obtain ⟨p1, p2⟩ := pp
     simp only at HPO
     obtain ⟨tt, HT⟩ : ∃ x, Hid (Pl.thereP (Pl.hp hs) (p1, p2) = x) := ⟨_, rfl⟩
     have HZ := hid HBW.out.size
     have HFI : Hid (∀ W, Below w.heap.size w W → Calls Tryz.prog 67 #[.slice a len cap, .agg #[.int .i64 p1, .int .i64 p2]] W fun e w' => e = .returned (.tuple #[.int .i64 (Pl.posP (Pl.hp hs) (p1, p2)), .bool tt]) ∧ Below W.heap.size W w') := hid fun W hW => by
      have := find_rib a len cap hs p1 p2 W (HH.out.below hW) HAS.out hbig
      rwa [HT.out] at this
     have HPL : Hid (tt = true → Pl.posP (Pl.hp hs) (p1, p2) < len) := hid fun e => by
      have := Pl.thereP_lt (by rw [HT.out]; exact e : Pl.thereP (Pl.hp hs) (p1, p2) = true)
      rwa [HLP.out] at this
     rw [HT.out] at HST
     generalize Pl.posP (Pl.hp hs) (p1, p2) = ix at *
     cases tt
     ·go_wp2_with fail
      refine (HPO.out _).mono ?_
      rintro e w2 ⟨rfl, hb2⟩
      have HB2 := hid (HBW.out.trans (hb2.mono HZ.out))
      have HB2' := hid (HB.out.trans (hb2.mono (by omega)))
      clear hb2
      go_wp2_with fail
      refine (HFI.out _ HB2.out).mono ?_
      rintro e w3 ⟨rfl, hb3⟩
      have HB3' := hid (HB2'.out.trans (hb3.mono (by have := HB2'.out.size; simpa using this)))
      clear hb3
      go_wp2_with fail
      go_roundw
      case rel => exact ⟨m, by omega, by go_num, hid (by rw [HN.out, HST.out]; rfl), HB3'⟩
      case measure => simp [intOf]
     ·have hix := HPL.out rfl
      have HE := hid (HQS.out ix (by rw [HN.out, HST.out]; rfl))
      obtain ⟨b, off, rfl, hbw, hr⟩ := HH.out.at hix
      have HRD := hid (HD.out.2 ix (by rw [HLH.out]; exact hix))
      have hhl : (Pl.rh hs ix).hl ≤ 1000 := by
       have h1 := HRD.out.2.2.2.1.1
       have h2 := Pl.routeB_hops (HRB.out ix hix)
       omega
      obtain ⟨c0, c1, c2, c3, c4⟩ := hr ix (by rw [HLH.out]; exact hix)
      have hix' : (ix : Int) < (len : Int) := by omega
      go_wp2_with fail
      refine (HPO.out _).mono ?_
      rintro e w2 ⟨rfl, hb2⟩
      have HB2 := hid (HBW.out.trans (hb2.mono HZ.out))
      have HB2' := hid (HB.out.trans (hb2.mono (by omega)))
      clear hb2
      go_wp2_with fail
      refine (HFI.out _ HB2.out).mono ?_
      rintro e w3 ⟨rfl, hb3⟩
      have HB3' := hid (HB2'.out.trans (hb3.mono (by have := HB2'.out.size; simpa using this)))
      have HB3 := hid (HB2.out.trans (hb3.mono HB2.out.size))
      clear hb3
      have d0 := (HB3.out.cell (p := ⟨b, off + ix * 5, none⟩) hbw).trans c0
      have d1 := (HB3.out.cell (p := ⟨b, off + ix * 5 + 1, none⟩) hbw).trans c1
      have d2 := (HB3.out.cell (p := ⟨b, off + ix * 5 + 2, none⟩) hbw).trans c2
      have d3 := (HB3.out.cell (p := ⟨b, off + ix * 5 + 3, none⟩) hbw).trans c3
      have d4 := (HB3.out.cell (p := ⟨b, off + ix * 5 + 4, none⟩) hbw).trans c4
      clear c0 c1 c2 c3 c4 y0 y1 y2 y3 y4
      have HFR := hid (fresh_any (Pl.rh hs ix) (Pl.rt rs ix) w3 (HRD.out.below HB3.out) hhl)
      generalize Pl.rh hs ix = hh at *
      go_wp2_with fail
      refine HFR.out.mono ?_
      rintro e w4 ⟨g, rfl, hg4, hn4, hb4⟩
      have HB4' := hid (HB3'.out.trans (hb4.mono (by have := HB3'.out.size; simpa using this)))
      obtain ⟨⟨y0, y1, y2, y3, y4⟩, hbx4, hbw4⟩ := box5 HB4'.out
      have HG := hid hg4
      have HN4 := hid hn4
      have HBW4 := hid hbw4
      have hz3 := HB3'.out.size
      simp only [World.size_alloc] at hz3
      have yf : ∀ o, w4.frozen? ⟨w.heap.size, o, none⟩ = false := fun o => boxSoft HB4'.out o
      clear hg4 hn4 hb4 hbw4
      go_wp2_with fail
      refine bodyPost_ret (v := .tuple #[.agg #[.int .i64 g.p.1, .int .i64 g.p.2, .bool g.here, .int .i64 g.cost, .slice g.ha g.hl g.hc], .int .i64 0]) (by simp [results, Tryz.results38, go_sem, y0, y1, y2, y3, y4]) rfl ⟨g, by rw [HE.out.1], ?_, ?_⟩
      ·rw [HE.out.2]
       exact HG.out.but (B := w.heap.size) ((((((But.refl _ _).setCell _ _).setCell _ _).setCell _ _).setCell _ _).setCell _ _) (fun x hx => by have := HN4.out x hx; omega)
      ·exact (((((HBW4.out.setCell (Nat.le_refl _) _).setCell (Nat.le_refl _) _).setCell (Nat.le_refl _) _).setCell (Nat.le_refl _) _).setCell (Nat.le_refl _) _)
  ·have HE : Hid (LC = 2 ∧ LR = Pl.Rt.none) := hid (by have := Pl.look_range HC.out hin; rwa [HLC.out, HLR.out] at this)
   have hin2 : addr < 0 ∨ (0 ≤ addr ∧ 255 < addr) := by omega
   clear hin
   rcases hin2 with hin | ⟨hin1, hin⟩
   all_goals
    go_enter Tryz.func38, Tryz.ntmps38
    go_wp2_with fail
    refine (Check_rib _ _ _ hs rs _ (HH.out.below ((Below.refl _ _).alloc (Nat.le_refl _) _)) (HD.out.below ((Below.refl _ _).alloc (Nat.le_refl _) _))).mono ?_
    rw [HC.out]
    rintro e w1 ⟨rfl, hb1⟩
    have HB1 : Hid (Below (w.heap.size + 1) (w.alloc (.cells #[.int .i64 0, .int .i64 0, .bool false, .int .i64 0, .slice none 0 0] 80)) w1) := hid (by simpa using hb1)
    clear hb1
    obtain ⟨⟨y0, y1, y2, y3, y4⟩, hbx, hbw⟩ := box5 HB1.out
    have HBW := hid hbw
    clear hbw
    have yf : ∀ o, w1.frozen? ⟨w.heap.size, o, none⟩ = false := fun o => boxSoft HB1.out o
    go_wp2_with fail
    refine bodyPost_ret (v := .tuple #[.agg #[.int .i64 0, .int .i64 0, .bool false, .int .i64 0, .slice none 0 0], .int .i64 2]) (by simp [results, Tryz.results38, go_sem, y0, y1, y2, y3, y4]) rfl ⟨Pl.RH.none, by rw [HE.out.1]; rfl, by rw [HE.out.2]; exact readsNone _, ?_⟩
    exact (((((HBW.out.setCell (Nat.le_refl _) _).setCell (Nat.le_refl _) _).setCell (Nat.le_refl _) _).setCell (Nat.le_refl _) _).setCell (Nat.le_refl _) _)
 ·have HE : Hid (LC = c ∧ LR = Pl.Rt.none) := hid (by have := Pl.look_bad (addr := addr) (by rw [HC.out]; exact hc0 : ¬ Pl.tabF rs = 0); rwa [HLC.out, HLR.out, HC.out] at this)
  have hd0 : (c != 0) = true := by simpa using hc0
  clear hc0
  go_enter Tryz.func38, Tryz.ntmps38
  go_wp2_with fail
  refine (Check_rib _ _ _ hs rs _ (HH.out.below ((Below.refl _ _).alloc (Nat.le_refl _) _)) (HD.out.below ((Below.refl _ _).alloc (Nat.le_refl _) _))).mono ?_
  rw [HC.out]
  rintro e w1 ⟨rfl, hb1⟩
  have HB1 : Hid (Below (w.heap.size + 1) (w.alloc (.cells #[.int .i64 0, .int .i64 0, .bool false, .int .i64 0, .slice none 0 0] 80)) w1) := hid (by simpa using hb1)
  clear hb1
  obtain ⟨⟨y0, y1, y2, y3, y4⟩, hbx, hbw⟩ := box5 HB1.out
  have HBW := hid hbw
  clear hbw
  have yf : ∀ o, w1.frozen? ⟨w.heap.size, o, none⟩ = false := fun o => boxSoft HB1.out o
  go_wp2_with fail
  refine bodyPost_ret (v := .tuple #[.agg #[.int .i64 0, .int .i64 0, .bool false, .int .i64 0, .slice none 0 0], .int .i64 c]) (by simp [results, Tryz.results38, go_sem, y0, y1, y2, y3, y4]) rfl ⟨Pl.RH.none, by rw [HE.out.1]; rfl, by rw [HE.out.2]; exact readsNone _, ?_⟩
  exact (((((HBW.out.setCell (Nat.le_refl _) _).setCell (Nat.le_refl _) _).setCell (Nat.le_refl _) _).setCell (Nat.le_refl _) _).setCell (Nat.le_refl _) _)
theorem readsNoneZ (w : World) (base : Nat) : ReadsZ w base Pl.RH.none Pl.Rt.none := ⟨rfl, rfl, rfl, OwnZ.nil _ _, by decide, by decide⟩
theorem ReadsZ.but {B : Nat} {w w' : World} {base : Nat} {h : Pl.RH} {r : Pl.Rt} (hz : ReadsZ w base h r) (k : But B w w') (hB : B < base) : ReadsZ w' base h r := ⟨hz.1, hz.2.1, hz.2.2.1, hz.2.2.2.1.but k (.inl hB), hz.2.2.2.2⟩
set_option maxHeartbeats 2000000 in
theorem Lookup_own (a : Option Addr) (len cap : Nat) (hs : List Pl.RH) (rs : List Pl.Rt) (addr : Int) (w : World) (h : IsRows w a len cap hs) (hrd : ReadsAll w hs rs) :
  Calls Tryz.prog 38 #[.slice a len cap, .int .i64 addr] w fun e w' =>
   ∃ g : Pl.RH, e = .returned (.tuple #[.agg #[.int .i64 g.p.1, .int .i64 g.p.2, .bool g.here, .int .i64 g.cost, .slice g.ha g.hl g.hc], .int .i64 (Pl.lookC rs addr)]) ∧ ReadsZ w' w.heap.size g (Pl.lookR rs addr) ∧ Below w.heap.size w w' := by
 have HH := hid h
 have HD := hid hrd
 have HLH : Hid (hs.length = len) := hid h.1
 have hc := h.2.1
 have hm := h.2.2.1
 unfold maxLen at hm
 clear h hrd
 obtain ⟨LC, HLC⟩ : ∃ x, Hid (Pl.lookC rs addr = x) := ⟨_, rfl⟩
 obtain ⟨LR, HLR⟩ : ∃ x, Hid (Pl.lookR rs addr = x) := ⟨_, rfl⟩
 rw [HLC.out, HLR.out]
 obtain ⟨c, HC⟩ : ∃ c, Hid (Pl.tabF rs = c) := ⟨_, rfl⟩
 by_cases hc0 : c = 0
 ·subst hc0
  by_cases hin : 0 ≤ addr ∧ addr ≤ 255
  ·obtain ⟨ha0, ha1⟩ := hin
   have hg := Pl.good_of_tabF HC.out
   have HAS : Hid (Pl.AscP (Pl.hp hs)) := hid (by unfold Pl.hp; rw [HD.out.map_p]; exact hg.2.2)
   have hbig : len ≤ 2000000 := by have := hg.1; rw [← HD.out.1, HLH.out] at this; omega
   have HRB : Hid (∀ i, i < len → Pl.routeB (Pl.rt rs i) = true) := hid fun i hi => hg.2.1 i (by rw [← HD.out.1, HLH.out]; exact hi)
   have HQS : Hid (∀ i, Pl.lookN (Pl.hp hs) addr 9 = some i → LC = 0 ∧ LR = Pl.rt rs i) := hid fun i hi => by
    unfold Pl.hp at hi; rw [HD.out.map_p] at hi
    have := Pl.look_some HC.out ⟨ha0, ha1⟩ hi
    rwa [HLC.out, HLR.out] at this
   have HQN : Hid (Pl.lookN (Pl.hp hs) addr 9 = none → LC = 6 ∧ LR = Pl.Rt.none) := hid fun hi => by
    unfold Pl.hp at hi; rw [HD.out.map_p] at hi
    have := Pl.look_none HC.out ⟨ha0, ha1⟩ hi
    rwa [HLC.out, HLR.out] at this
   have HLP : Hid ((Pl.hp hs).length = len) := hid (by rw [Pl.hp_len, HLH.out])
   clear hg
   go_enter Tryz.func38, Tryz.ntmps38
   go_wp2_with fail
   refine (Check_rib _ _ _ hs rs _ (HH.out.below ((Below.refl _ _).alloc (Nat.le_refl _) _)) (HD.out.below ((Below.refl _ _).alloc (Nat.le_refl _) _))).mono ?_
   rw [HC.out]
   rintro e w1 ⟨rfl, hb1⟩
   have HB1 : Hid (Below (w.heap.size + 1) (w.alloc (.cells #[.int .i64 0, .int .i64 0, .bool false, .int .i64 0, .slice none 0 0] 80)) w1) := hid (by simpa using hb1)
   clear hb1
   go_wp2_with fail
   go_loopw [7] (fun i wr => ∃ n : Nat, n ≤ 9 ∧ i = .int .i64 ((n : Int) - 1) ∧ Hid (Pl.lookN (Pl.hp hs) addr 9 = Pl.lookN (Pl.hp hs) addr n) ∧ Hid (Below (w.heap.size + 1) (w.alloc (.cells #[.int .i64 0, .int .i64 0, .bool false, .int .i64 0, .slice none 0 0] 80)) wr)) (fun i _ => (intOf i + 1).toNat)
   case atStart => exact ⟨9, Nat.le_refl _, rfl, hid rfl, HB1⟩
   case round =>
    obtain ⟨n, hn, rfl, HN, HB⟩ := hrel
    obtain ⟨⟨y0, y1, y2, y3, y4⟩, hbx, hbw⟩ := box5 HB.out
    have HBW := hid hbw
    clear hbw
    rcases Nat.eq_zero_or_pos n with hn0 | hn0
    ·subst hn0
     have HE := hid (HQN.out (by rw [HN.out]; rfl))
     have yf : ∀ o, wr.frozen? ⟨w.heap.size, o, none⟩ = false := fun o => boxSoft HB.out o
     go_wp2_with fail
     refine bodyPost_ret (v := .tuple #[.agg #[.int .i64 0, .int .i64 0, .bool false, .int .i64 0, .slice none 0 0], .int .i64 6]) (by simp [results, Tryz.results38, go_sem, y0, y1, y2, y3, y4]) rfl ⟨Pl.RH.none, by rw [HE.out.1]; rfl, by rw [HE.out.2]; exact readsNoneZ _ _, ?_⟩
     exact (((((HBW.out.setCell (Nat.le_refl _) _).setCell (Nat.le_refl _) _).setCell (Nat.le_refl _) _).setCell (Nat.le_refl _) _).setCell (Nat.le_refl _) _)
    ·obtain ⟨m, rfl⟩ : ∃ m, n = m + 1 := ⟨n - 1, by omega⟩
     have e1 : ((m + 1 : Nat) : Int) - 1 = (m : Int) := by omega
     rw [e1]
     clear e1 hn0
     have hm9 : m ≤ 8 := by omega
     obtain ⟨pp, HPP⟩ : ∃ x, Hid (Pl.pfxAt addr m = x) := ⟨_, rfl⟩
     have HPO : Hid (∀ W, Calls Tryz.prog 68 #[.int .i64 addr, .int .i64 m] W fun e w' => e = .returned (.agg #[.int .i64 pp.1, .int .i64 pp.2]) ∧ Below W.heap.size W w') := hid fun W => by
      have := prefixOf_any addr m W ha0 ha1 hm9
      rwa [HPP.out] at this
     have HST : Hid (Pl.lookN (Pl.hp hs) addr (m + 1) = if Pl.thereP (Pl.hp hs) pp then some (Pl.posP (Pl.hp hs) pp) else Pl.lookN (Pl.hp hs) addr m) := hid (by rw [← HPP.out]; rfl)
     obtain ⟨p1, p2⟩ := pp
     simp only at HPO
     obtain ⟨tt, HT⟩ : ∃ x, Hid (Pl.thereP (Pl.hp hs) (p1, p2) = x) := ⟨_, rfl⟩
     have HZ := hid HBW.out.size
     have HFI : Hid (∀ W, Below w.heap.size w W → Calls Tryz.prog 67 #[.slice a len cap, .agg #[.int .i64 p1, .int .i64 p2]] W fun e w' => e = .returned (.tuple #[.int .i64 (Pl.posP (Pl.hp hs) (p1, p2)), .bool tt]) ∧ Below W.heap.size W w') := hid fun W hW => by
      have := find_rib a len cap hs p1 p2 W (HH.out.below hW) HAS.out hbig
      rwa [HT.out] at this
     have HPL : Hid (tt = true → Pl.posP (Pl.hp hs) (p1, p2) < len) := hid fun e => by
      have := Pl.thereP_lt (by rw [HT.out]; exact e : Pl.thereP (Pl.hp hs) (p1, p2) = true)
      rwa [HLP.out] at this
     rw [HT.out] at HST
     generalize Pl.posP (Pl.hp hs) (p1, p2) = ix at *
     cases tt
     ·go_wp2_with fail
      refine (HPO.out _).mono ?_
      rintro e w2 ⟨rfl, hb2⟩
      have HB2 := hid (HBW.out.trans (hb2.mono HZ.out))
      have HB2' := hid (HB.out.trans (hb2.mono (by omega)))
      clear hb2
      go_wp2_with fail
      refine (HFI.out _ HB2.out).mono ?_
      rintro e w3 ⟨rfl, hb3⟩
      have HB3' := hid (HB2'.out.trans (hb3.mono (by have := HB2'.out.size; simpa using this)))
      clear hb3
      go_wp2_with fail
      go_roundw
      case rel => exact ⟨m, by omega, by go_num, hid (by rw [HN.out, HST.out]; rfl), HB3'⟩
      case measure => simp [intOf]
     ·have hix := HPL.out rfl
      have HE := hid (HQS.out ix (by rw [HN.out, HST.out]; rfl))
      obtain ⟨b, off, rfl, hbw, hr⟩ := HH.out.at hix
      have HRD := hid (HD.out.2 ix (by rw [HLH.out]; exact hix))
      have hhl : (Pl.rh hs ix).hl ≤ 1000 := by
       have h1 := HRD.out.2.2.2.1.1
       have h2 := Pl.routeB_hops (HRB.out ix hix)
       omega
      obtain ⟨c0, c1, c2, c3, c4⟩ := hr ix (by rw [HLH.out]; exact hix)
      have hix' : (ix : Int) < (len : Int) := by omega
      go_wp2_with fail
      refine (HPO.out _).mono ?_
      rintro e w2 ⟨rfl, hb2⟩
      have HB2 := hid (HBW.out.trans (hb2.mono HZ.out))
      have HB2' := hid (HB.out.trans (hb2.mono (by omega)))
      clear hb2
      go_wp2_with fail
      refine (HFI.out _ HB2.out).mono ?_
      rintro e w3 ⟨rfl, hb3⟩
      have HB3' := hid (HB2'.out.trans (hb3.mono (by have := HB2'.out.size; simpa using this)))
      have HB3 := hid (HB2.out.trans (hb3.mono HB2.out.size))
      clear hb3
      have d0 := (HB3.out.cell (p := ⟨b, off + ix * 5, none⟩) hbw).trans c0
      have d1 := (HB3.out.cell (p := ⟨b, off + ix * 5 + 1, none⟩) hbw).trans c1
      have d2 := (HB3.out.cell (p := ⟨b, off + ix * 5 + 2, none⟩) hbw).trans c2
      have d3 := (HB3.out.cell (p := ⟨b, off + ix * 5 + 3, none⟩) hbw).trans c3
      have d4 := (HB3.out.cell (p := ⟨b, off + ix * 5 + 4, none⟩) hbw).trans c4
      clear c0 c1 c2 c3 c4 y0 y1 y2 y3 y4
      have HFR := hid (fresh_own (Pl.rh hs ix) (Pl.rt rs ix) w3 (HRD.out.below HB3.out) hhl)
      generalize Pl.rh hs ix = hh at *
      go_wp2_with fail
      refine HFR.out.mono ?_
      rintro e w4 ⟨g, rfl, hg4, hb4⟩
      have HB4' := hid (HB3'.out.trans (hb4.mono (by have := HB3'.out.size; simpa using this)))
      obtain ⟨⟨y0, y1, y2, y3, y4⟩, hbx4, hbw4⟩ := box5 HB4'.out
      have HG := hid hg4
      have HBW4 := hid hbw4
      have hz3 := HB3'.out.size
      simp only [World.size_alloc] at hz3
      have yf : ∀ o, w4.frozen? ⟨w.heap.size, o, none⟩ = false := fun o => boxSoft HB4'.out o
      clear hg4 hb4 hbw4
      go_wp2_with fail
      refine bodyPost_ret (v := .tuple #[.agg #[.int .i64 g.p.1, .int .i64 g.p.2, .bool g.here, .int .i64 g.cost, .slice g.ha g.hl g.hc], .int .i64 0]) (by simp [results, Tryz.results38, go_sem, y0, y1, y2, y3, y4]) rfl ⟨g, by rw [HE.out.1], ?_, ?_⟩
      ·rw [HE.out.2]
       exact (ReadsZ.but HG.out (B := w.heap.size) ((((((But.refl _ _).setCell _ _).setCell _ _).setCell _ _).setCell _ _).setCell _ _) (by omega)).mono (by omega)
      ·exact (((((HBW4.out.setCell (Nat.le_refl _) _).setCell (Nat.le_refl _) _).setCell (Nat.le_refl _) _).setCell (Nat.le_refl _) _).setCell (Nat.le_refl _) _)
  ·have HE : Hid (LC = 2 ∧ LR = Pl.Rt.none) := hid (by have := Pl.look_range HC.out hin; rwa [HLC.out, HLR.out] at this)
   have hin2 : addr < 0 ∨ (0 ≤ addr ∧ 255 < addr) := by omega
   clear hin
   rcases hin2 with hin | ⟨hin1, hin⟩
   all_goals
    go_enter Tryz.func38, Tryz.ntmps38
    go_wp2_with fail
    refine (Check_rib _ _ _ hs rs _ (HH.out.below ((Below.refl _ _).alloc (Nat.le_refl _) _)) (HD.out.below ((Below.refl _ _).alloc (Nat.le_refl _) _))).mono ?_
    rw [HC.out]
    rintro e w1 ⟨rfl, hb1⟩
    have HB1 : Hid (Below (w.heap.size + 1) (w.alloc (.cells #[.int .i64 0, .int .i64 0, .bool false, .int .i64 0, .slice none 0 0] 80)) w1) := hid (by simpa using hb1)
    clear hb1
    obtain ⟨⟨y0, y1, y2, y3, y4⟩, hbx, hbw⟩ := box5 HB1.out
    have HBW := hid hbw
    clear hbw
    have yf : ∀ o, w1.frozen? ⟨w.heap.size, o, none⟩ = false := fun o => boxSoft HB1.out o
    go_wp2_with fail
    refine bodyPost_ret (v := .tuple #[.agg #[.int .i64 0, .int .i64 0, .bool false, .int .i64 0, .slice none 0 0], .int .i64 2]) (by simp [results, Tryz.results38, go_sem, y0, y1, y2, y3, y4]) rfl ⟨Pl.RH.none, by rw [HE.out.1]; rfl, by rw [HE.out.2]; exact readsNoneZ _ _, ?_⟩
    exact (((((HBW.out.setCell (Nat.le_refl _) _).setCell (Nat.le_refl _) _).setCell (Nat.le_refl _) _).setCell (Nat.le_refl _) _).setCell (Nat.le_refl _) _)
 ·have HE : Hid (LC = c ∧ LR = Pl.Rt.none) := hid (by have := Pl.look_bad (addr := addr) (by rw [HC.out]; exact hc0 : ¬ Pl.tabF rs = 0); rwa [HLC.out, HLR.out, HC.out] at this)
  have hd0 : (c != 0) = true := by simpa using hc0
  clear hc0
  go_enter Tryz.func38, Tryz.ntmps38
  go_wp2_with fail
  refine (Check_rib _ _ _ hs rs _ (HH.out.below ((Below.refl _ _).alloc (Nat.le_refl _) _)) (HD.out.below ((Below.refl _ _).alloc (Nat.le_refl _) _))).mono ?_
  rw [HC.out]
  rintro e w1 ⟨rfl, hb1⟩
  have HB1 : Hid (Below (w.heap.size + 1) (w.alloc (.cells #[.int .i64 0, .int .i64 0, .bool false, .int .i64 0, .slice none 0 0] 80)) w1) := hid (by simpa using hb1)
  clear hb1
  obtain ⟨⟨y0, y1, y2, y3, y4⟩, hbx, hbw⟩ := box5 HB1.out
  have HBW := hid hbw
  clear hbw
  have yf : ∀ o, w1.frozen? ⟨w.heap.size, o, none⟩ = false := fun o => boxSoft HB1.out o
  go_wp2_with fail
  refine bodyPost_ret (v := .tuple #[.agg #[.int .i64 0, .int .i64 0, .bool false, .int .i64 0, .slice none 0 0], .int .i64 c]) (by simp [results, Tryz.results38, go_sem, y0, y1, y2, y3, y4]) rfl ⟨Pl.RH.none, by rw [HE.out.1]; rfl, by rw [HE.out.2]; exact readsNoneZ _ _, ?_⟩
  exact (((((HBW.out.setCell (Nat.le_refl _) _).setCell (Nat.le_refl _) _).setCell (Nat.le_refl _) _).setCell (Nat.le_refl _) _).setCell (Nat.le_refl _) _)
theorem box5c {w : World} {b : Nat} {c0 c1 c2 c3 c4 : Value} {T : TypeId} (h : w.heap[b]? = some (.cells #[c0, c1, c2, c3, c4] T)) :
  (w.cell? ⟨b, 0, none⟩ = some c0 ∧ w.cell? ⟨b, 1, none⟩ = some c1 ∧ w.cell? ⟨b, 2, none⟩ = some c2 ∧ w.cell? ⟨b, 3, none⟩ = some c3 ∧ w.cell? ⟨b, 4, none⟩ = some c4) ∧ (∀ o, w.frozen? ⟨b, o, none⟩ = false) ∧ b < w.heap.size := by
 refine ⟨⟨?_, ?_, ?_, ?_, ?_⟩, fun o => ?_, blockLt h⟩
 iterate 5 simp [World.cell?, h]
 simp [World.frozen?, h]
def setRt (w : World) (X : Nat) (d0 d1 d2 d3 d4 : Value) : World := ((((w.setCell ⟨X, 0, none⟩ d0).setCell ⟨X, 1, none⟩ d1).setCell ⟨X, 2, none⟩ d2).setCell ⟨X, 3, none⟩ d3).setCell ⟨X, 4, none⟩ d4
theorem setRt_at {w : World} {X : Nat} {c0 c1 c2 c3 c4 : Value} {T : TypeId} (h : w.heap[X]? = some (.cells #[c0, c1, c2, c3, c4] T)) (d0 d1 d2 d3 d4 : Value) : (setRt w X d0 d1 d2 d3 d4).heap[X]? = some (.cells #[d0, d1, d2, d3, d4] T) := by
 have := blockLt h
 simp [setRt, World.setCell, Array.getElem?_modify, h]
theorem setRt_but {a w : World} {X : Nat} (h : But X a w) (d0 d1 d2 d3 d4 : Value) : But X a (setRt w X d0 d1 d2 d3 d4) := ((((h.setCell _ _).setCell _ _).setCell _ _).setCell _ _).setCell _ _
theorem setRt_below {a w : World} {X B : Nat} (h : Below B a w) (hX : B ≤ X) (d0 d1 d2 d3 d4 : Value) : Below B a (setRt w X d0 d1 d2 d3 d4) := ((((h.setCell hX _).setCell hX _).setCell hX _).setCell hX _).setCell hX _
def gA (g : Pl.RH) : Value := .agg #[.int .i64 g.p.1, .int .i64 g.p.2, .bool g.here, .int .i64 g.cost, .slice g.ha g.hl g.hc]
def WV (base : Nat) (R : Pl.Rt) (c : Int) (VL : List Value) (j : Nat) (u : Value) (W : World) : Prop :=
 if j = 0 then (∃ X c0 c1 c2 c3 c4, u = .pointer (some ⟨X, 0, none⟩) ∧ base ≤ X ∧ W.heap[X]? = some (.cells #[c0, c1, c2, c3, c4] 80))
 else if j = 12 ∨ j = 22 then (∃ g, u = .tuple #[gA g, .int .i64 c] ∧ ReadsZ W base g R)
 else if j = 23 then (∃ g, u = gA g ∧ ReadsZ W base g R)
 else u = VL.getD j undef
theorem WV.eq {base R c VL j u W} (h : WV base R c VL j u W) (h0 : j ≠ 0) (h1 : j ≠ 12) (h2 : j ≠ 22) (h3 : j ≠ 23) : u = VL.getD j undef := by
 unfold WV at h
 rwa [if_neg h0, if_neg (by omega), if_neg h3] at h
theorem WV.of {base R c VL j u W} (h0 : j ≠ 0) (h1 : j ≠ 12) (h2 : j ≠ 22) (h3 : j ≠ 23) (h : u = VL.getD j undef) : WV base R c VL j u W := by
 unfold WV
 rwa [if_neg h0, if_neg (by omega), if_neg h3]
theorem WV.isTwo {base R c VL j u W} (hj : j = 12 ∨ j = 22) (h : WV base R c VL j u W) : ∃ g, u = .tuple #[gA g, .int .i64 c] ∧ ReadsZ W base g R := by
 unfold WV at h
 rwa [if_neg (by omega), if_pos hj] at h
theorem WV.two {base R c VL j u W} (hj : j = 12 ∨ j = 22) (h : ∃ g, u = .tuple #[gA g, .int .i64 c] ∧ ReadsZ W base g R) : WV base R c VL j u W := by
 unfold WV
 rwa [if_neg (by omega), if_pos hj]
theorem WV.isLook {base R c VL u W} (h : WV base R c VL 23 u W) : ∃ g, u = gA g ∧ ReadsZ W base g R := by
 unfold WV at h
 rwa [if_neg (by omega), if_neg (by omega), if_pos rfl] at h
theorem WV.look {base R c VL u W} (h : ∃ g, u = gA g ∧ ReadsZ W base g R) : WV base R c VL 23 u W := by
 unfold WV
 rwa [if_neg (by omega), if_neg (by omega), if_pos rfl]
theorem WV.isBox {base R c VL u W} (h : WV base R c VL 0 u W) : ∃ X c0 c1 c2 c3 c4, u = .pointer (some ⟨X, 0, none⟩) ∧ base ≤ X ∧ W.heap[X]? = some (.cells #[c0, c1, c2, c3, c4] 80) := by
 unfold WV at h
 rwa [if_pos rfl] at h
theorem WV.box {base R c VL u W} (h : ∃ X c0 c1 c2 c3 c4, u = .pointer (some ⟨X, 0, none⟩) ∧ base ≤ X ∧ W.heap[X]? = some (.cells #[c0, c1, c2, c3, c4] 80)) : WV base R c VL 0 u W := by
 unfold WV
 rwa [if_pos rfl]
theorem WV.grow {base R c VL} {W W' : World} (hb : Below W.heap.size W W') : ∀ q u, WV base R c VL q u W → WV base R c VL q u W' := by
 intro q u h
 unfold WV at h ⊢
 split
 ·rename_i e
  rw [if_pos e] at h
  obtain ⟨X, c0, c1, c2, c3, c4, h1, h2, h3⟩ := h
  exact ⟨X, c0, c1, c2, c3, c4, h1, h2, (hb.block _ (blockLt h3)).trans h3⟩
 ·rename_i e
  rw [if_neg e] at h
  split
  ·rename_i e2
   rw [if_pos e2] at h
   obtain ⟨g, h1, h2⟩ := h
   exact ⟨g, h1, h2.below hb⟩
  ·rename_i e2
   rw [if_neg e2] at h
   split
   ·rename_i e3
    rw [if_pos e3] at h
    obtain ⟨g, h1, h2⟩ := h
    exact ⟨g, h1, h2.below hb⟩
   ·rename_i e3
    rwa [if_neg e3] at h
theorem ReadsZ.apart {X : Nat} {w w' : World} {base : Nat} {h : Pl.RH} {r : Pl.Rt} (hz : ReadsZ w base h r) (k : But X w w') {cs : Array Value} (hx : w.heap[X]? = some (.cells cs 80)) : ReadsZ w' base h r :=
 ⟨hz.1, hz.2.1, hz.2.2.1, ownsRow_apart hz.2.2.2.1 k (by intro cur m e; rw [hx] at e; simp at e), hz.2.2.2.2⟩
theorem WV.stored {base R c VL} {W : World} {X : Nat} {c0 c1 c2 c3 c4 d0 d1 d2 d3 d4 : Value} (hx : W.heap[X]? = some (.cells #[c0, c1, c2, c3, c4] 80)) : ∀ q u, WV base R c VL q u W → WV base R c VL q u (setRt W X d0 d1 d2 d3 d4) := by
 have hb : But X W (setRt W X d0 d1 d2 d3 d4) := setRt_but (But.refl X W) _ _ _ _ _
 intro q u h
 unfold WV at h ⊢
 split
 ·rename_i e
  rw [if_pos e] at h
  obtain ⟨Y, b0, b1, b2, b3, b4, h1, h2, h3⟩ := h
  by_cases hY : Y = X
  ·subst hY
   exact ⟨Y, d0, d1, d2, d3, d4, h1, h2, setRt_at hx _ _ _ _ _⟩
  ·exact ⟨Y, b0, b1, b2, b3, b4, h1, h2, (hb.block _ (blockLt h3) hY).trans h3⟩
 ·rename_i e
  rw [if_neg e] at h
  split
  ·rename_i e2
   rw [if_pos e2] at h
   obtain ⟨g, h1, h2⟩ := h
   exact ⟨g, h1, h2.apart hb hx⟩
  ·rename_i e2
   rw [if_neg e2] at h
   split
   ·rename_i e3
    rw [if_pos e3] at h
    obtain ⟨g, h1, h2⟩ := h
    exact ⟨g, h1, h2.apart hb hx⟩
   ·rename_i e3
    rwa [if_neg e3] at h
def BoxF (base : Nat) (R : Pl.Rt) (listed : Array Bool) (a : Act) (W : World) : Prop := listed.getD 14 false = true → ∃ X g, a.tmps[8]?.getD undef = .pointer (some ⟨X, 0, none⟩) ∧ base ≤ X ∧ W.heap[X]? = some (.cells #[.int .i64 g.p.1, .int .i64 g.p.2, .bool g.here, .int .i64 g.cost, .slice g.ha g.hl g.hc] 80) ∧ ReadsZ W base g R
def WInv (a0 : Act) (w0 : World) (R : Pl.Rt) (c : Int) (VL : List Value) (listed : Array Bool) (a : Act) (W : World) : Prop :=
 RInv a0 8 25 16 (fun k => ([some 13, some 14, some 15, some 16, some 17, some 18, some 19, some 20, some 21, some 22, some 12, some 23, some 24, some 0, none, some 1] : List (Option Nat)).getD k none) (WV w0.heap.size R c VL) (fun W => Below w0.heap.size w0 W) listed a W ∧ BoxF w0.heap.size R listed a W ∧ ∀ j, 2 ≤ j → j < 12 → a.tmps[8 + j]?.getD undef = a0.tmps[8 + j]?.getD undef
theorem WInv.put {a0 : Act} {w0 : World} {R : Pl.Rt} {c : Int} {VL : List Value} {listed : Array Bool} {a : Act} {W W' : World} {i j : Nat} {v : Value} (h : WInv a0 w0 R c VL listed a W)
  (ho : ([some 13, some 14, some 15, some 16, some 17, some 18, some 19, some 20, some 21, some 22, some 12, some 23, some 24, some 0, none, some 1] : List (Option Nat)).getD i none = some j) (hj : j < 25) (hi : i ≠ 14) (hj0 : j ≠ 0 ∧ (j < 2 ∨ 12 ≤ j)) (hb : Below W.heap.size W W') (hv : WV w0.heap.size R c VL j v W') (hc : Below w0.heap.size w0 W') : WInv a0 w0 R c VL (listed.setIfInBounds i true) (a.put (some (8 + j)) v) W' := by
 have h3 : ∀ q, 2 ≤ q → q < 12 → (a.put (some (8 + j)) v).tmps[8 + q]?.getD undef = a0.tmps[8 + q]?.getD undef := fun q q1 q2 => by
  show (a.tmps.setIfInBounds (8 + j) v)[8 + q]?.getD undef = _
  rw [Array.getElem?_setIfInBounds_ne (by omega)]
  exact h.2.2 q q1 q2
 refine ⟨h.1.put ho hj (WV.grow hb) hv hc, fun hl => ?_, h3⟩
 rw [getD_set_ne false hi] at hl
 obtain ⟨X, g, h1, h2, h3, h4⟩ := h.2.1 hl
 refine ⟨X, g, ?_, h2, (hb.block _ (blockLt h3)).trans h3, h4.below hb⟩
 show (a.tmps.setIfInBounds (8 + j) v)[8]?.getD undef = _
 rw [Array.getElem?_setIfInBounds_ne (by omega)]
 exact h1
theorem WInv.box {a0 : Act} {w0 : World} {R : Pl.Rt} {c : Int} {VL : List Value} {listed : Array Bool} {a : Act} {v : Value} {W W' : World} (h : WInv a0 w0 R c VL listed a W) (h14 : listed.getD 14 false = false)
  (hr : RInv a0 8 25 16 (fun k => ([some 13, some 14, some 15, some 16, some 17, some 18, some 19, some 20, some 21, some 22, some 12, some 23, some 24, some 0, none, some 1] : List (Option Nat)).getD k none) (WV w0.heap.size R c VL) (fun W => Below w0.heap.size w0 W) (listed.setIfInBounds 13 true) (a.put (some (8 + 0)) v) W') : WInv a0 w0 R c VL (listed.setIfInBounds 13 true) (a.put (some (8 + 0)) v) W' :=
 by
 have h3 : ∀ q, 2 ≤ q → q < 12 → (a.put (some (8 + 0)) v).tmps[8 + q]?.getD undef = a0.tmps[8 + q]?.getD undef := fun q q1 q2 => by
  show (a.tmps.setIfInBounds (8 + 0) v)[8 + q]?.getD undef = _
  rw [Array.getElem?_setIfInBounds_ne (by omega)]
  exact h.2.2 q q1 q2
 refine ⟨hr, fun hl => ?_, h3⟩
 rw [getD_set_ne false (by decide), h14] at hl
 cases hl
theorem WInv.store {a0 : Act} {w0 : World} {R : Pl.Rt} {c : Int} {VL : List Value} {listed : Array Bool} {a : Act} {W : World} {X : Nat} {c0 c1 c2 c3 c4 : Value} {g : Pl.RH} (h : WInv a0 w0 R c VL listed a W) (hX : w0.heap.size ≤ X)
  (hx : W.heap[X]? = some (.cells #[c0, c1, c2, c3, c4] 80)) (e8 : a.tmps[8]?.getD undef = .pointer (some ⟨X, 0, none⟩)) (hg : ReadsZ W w0.heap.size g R) (ho : ([some 13, some 14, some 15, some 16, some 17, some 18, some 19, some 20, some 21, some 22, some 12, some 23, some 24, some 0, none, some 1] : List (Option Nat)).getD 14 none = none) :
  WInv a0 w0 R c VL (listed.setIfInBounds 14 true) a (setRt W X (.int .i64 g.p.1) (.int .i64 g.p.2) (.bool g.here) (.int .i64 g.cost) (.slice g.ha g.hl g.hc)) :=
 ⟨h.1.skip ho (WV.stored hx) (setRt_below h.1.cw hX _ _ _ _ _), fun _ => ⟨X, g, e8, hX, setRt_at hx _ _ _ _ _, hg.apart (setRt_but (But.refl X W) _ _ _ _ _) hx⟩, h.2.2⟩
set_option maxHeartbeats 8000000 in
theorem netWalk5 {Q : Exit → Act → World → Prop} {a0 : Act} {w0 : World} {B xb a tl tc : Nat} {n : Int} {ta : Option Addr} {hs : List Pl.RH} {rs : List Pl.Rt}
  (hsize : a0.tmps.size = 75) (q0 : a0.tmps[0]?.getD undef = .pointer (some ⟨B, 0, none⟩)) (q3 : a0.tmps[3]?.getD undef = .pointer (some ⟨xb, 0, none⟩)) (q5 : a0.tmps[5]?.getD undef = .int .i64 a)
  (hB : B < w0.heap.size) (hx : xb < w0.heap.size) (X3 : w0.cell? ⟨xb, 3, none⟩ = some (.int .i64 n)) (TN : w0.cell? ⟨B, a * 4 + 3, none⟩ = some (.slice ta tl tc)) (ha : (a : Int) < 12) (HR : IsRows w0 ta tl tc hs) (HD : ReadsAll w0 hs rs)
  (hQ : ∀ xs W X g, xs.length = 25 → (∀ j, 2 ≤ j → j < 12 → xs.getD j undef = a0.tmps[8 + j]?.getD undef) → xs.getD 0 undef = .pointer (some ⟨X, 0, none⟩) → xs.getD 1 undef = .int .i64 (Pl.lookC rs n) → w0.heap.size ≤ X → W.heap[X]? = some (.cells #[.int .i64 g.p.1, .int .i64 g.p.2, .bool g.here, .int .i64 g.cost, .slice g.ha g.hl g.hc] 80) → ReadsZ W w0.heap.size g (Pl.lookR rs n) → Below w0.heap.size w0 W → Q .normal { a0 with tmps := setFrom a0.tmps 8 xs } W) :
  ∀ ops, regIn Tryz.f119 5 = some ops → (Code.region 5 ops true).wp Tryz.prog Q a0 w0 := by
 intro ops hops
 have eo := Option.some.inj (hops.symm.trans (rfl : regIn Tryz.f119 5 = some _))
 subst eo
 clear hops
 have hsz : 8 + 25 ≤ a0.tmps.size := by omega
 refine wp_region_any (by kernel_rfl) ?_
 refine wpAny_inv2 (WInv a0 w0 (Pl.lookR rs n) (Pl.lookC rs n) [undef, (.int .i64 (Pl.lookC rs n) : Value), undef, undef, undef, undef, undef, undef, undef, undef, undef, undef, undef, (.pointer (some ⟨B, 0, none⟩) : Value), (.int .i64 a : Value), (.pointer (some ⟨B, 0, none⟩) : Value), (.pointer (some ⟨B, 0, none⟩) : Value), (.pointer (some ⟨B, a * 4, none⟩) : Value), (.pointer (some ⟨B, a * 4 + 3, none⟩) : Value), (.slice ta tl tc : Value), (.pointer (some ⟨xb, 3, none⟩) : Value), (.int .i64 n : Value), undef, undef, (.int .i64 (Pl.lookC rs n) : Value)]) ?_ ?_ _ _ _ _ (by decide +kernel) ?_ (closed_start _ _ _)
 ·rintro i listed a' W hi hCl hI
  rw [mem_ready] at hi
  obtain ⟨hl0, o, ho, hall⟩ := hi
  have hlti : i < 16 := (Array.getElem?_eq_some_iff.1 ho).1
  have o0 := (hI.1.out (k := 0) (by omega)).trans q0
  have o3 := (hI.1.out (k := 3) (by omega)).trans q3
  have o5 := (hI.1.out (k := 5) (by omega)).trans q5
  have x3 := (hI.1.cw.cell (p := ⟨xb, 3, none⟩) hx).trans X3
  have tn := (hI.1.cw.cell (p := ⟨B, a * 4 + 3, none⟩) hB).trans TN
  have hcs : i = 0 ∨ i = 1 ∨ i = 2 ∨ i = 3 ∨ i = 4 ∨ i = 5 ∨ i = 6 ∨ i = 7 ∨ i = 8 ∨ i = 9 ∨ i = 10 ∨ i = 11 ∨ i = 12 ∨ i = 13 ∨ i = 14 ∨ i = 15 := by omega
  rcases hcs with rfl | rfl | rfl | rfl | rfl | rfl | rfl | rfl | rfl | rfl | rfl | rfl | rfl | rfl | rfl | rfl
  all_goals
   simp at ho
   subst ho
   refine wpOp_of rfl rfl ?_
  ·simp [Oper.wp, go_sem, o0]
   exact hI.put (i := 0) (j := 13) rfl (by omega) (by decide) (by decide) (Below.refl _ _) (WV.of (by decide) (by decide) (by decide) (by decide) rfl) hI.1.cw
  ·simp [Oper.wp, go_sem, o5]
   exact hI.put (i := 1) (j := 14) rfl (by omega) (by decide) (by decide) (Below.refl _ _) (WV.of (by decide) (by decide) (by decide) (by decide) rfl) hI.1.cw
  ·have e21 : a'.tmps[21]?.getD undef = .pointer (some ⟨B, 0, none⟩) := WV.eq (hI.1.at (k := 0) (j := 13) hsz rfl (by omega) (hall ⟨0, .data⟩ (by simp) rfl)) (by decide) (by decide) (by decide) (by decide)
   simp [Oper.wp, go_sem, e21]
   exact hI.put (i := 2) (j := 15) rfl (by omega) (by decide) (by decide) (Below.refl _ _) (WV.of (by decide) (by decide) (by decide) (by decide) rfl) hI.1.cw
  ·have e23 : a'.tmps[23]?.getD undef = .pointer (some ⟨B, 0, none⟩) := WV.eq (hI.1.at (k := 2) (j := 15) hsz rfl (by omega) (hall ⟨2, .data⟩ (by simp) rfl)) (by decide) (by decide) (by decide) (by decide)
   simp [Oper.wp, go_sem, e23]
   exact hI.put (i := 3) (j := 16) rfl (by omega) (by decide) (by decide) (Below.refl _ _) (WV.of (by decide) (by decide) (by decide) (by decide) rfl) hI.1.cw
  ·have e24 : a'.tmps[24]?.getD undef = .pointer (some ⟨B, 0, none⟩) := WV.eq (hI.1.at (k := 3) (j := 16) hsz rfl (by omega) (hall ⟨3, .data⟩ (by simp) rfl)) (by decide) (by decide) (by decide) (by decide)
   have e22 : a'.tmps[22]?.getD undef = .int .i64 a := WV.eq (hI.1.at (k := 1) (j := 14) hsz rfl (by omega) (hall ⟨1, .data⟩ (by simp) rfl)) (by decide) (by decide) (by decide) (by decide)
   simp [Oper.wp, go_sem, e24, e22, ha]
   exact hI.put (i := 4) (j := 17) rfl (by omega) (by decide) (by decide) (Below.refl _ _) (WV.of (by decide) (by decide) (by decide) (by decide) rfl) hI.1.cw
  ·have e25 : a'.tmps[25]?.getD undef = .pointer (some ⟨B, a * 4, none⟩) := WV.eq (hI.1.at (k := 4) (j := 17) hsz rfl (by omega) (hall ⟨4, .data⟩ (by simp) rfl)) (by decide) (by decide) (by decide) (by decide)
   simp [Oper.wp, go_sem, e25]
   exact hI.put (i := 5) (j := 18) rfl (by omega) (by decide) (by decide) (Below.refl _ _) (WV.of (by decide) (by decide) (by decide) (by decide) rfl) hI.1.cw
  ·have e26 : a'.tmps[26]?.getD undef = .pointer (some ⟨B, a * 4 + 3, none⟩) := WV.eq (hI.1.at (k := 5) (j := 18) hsz rfl (by omega) (hall ⟨5, .data⟩ (by simp) rfl)) (by decide) (by decide) (by decide) (by decide)
   simp [Oper.wp, go_sem, e26, tn]
   exact hI.put (i := 6) (j := 19) rfl (by omega) (by decide) (by decide) (Below.refl _ _) (WV.of (by decide) (by decide) (by decide) (by decide) rfl) hI.1.cw
  ·simp [Oper.wp, go_sem, o3]
   exact hI.put (i := 7) (j := 20) rfl (by omega) (by decide) (by decide) (Below.refl _ _) (WV.of (by decide) (by decide) (by decide) (by decide) rfl) hI.1.cw
  ·have e28 : a'.tmps[28]?.getD undef = .pointer (some ⟨xb, 3, none⟩) := WV.eq (hI.1.at (k := 7) (j := 20) hsz rfl (by omega) (hall ⟨7, .data⟩ (by simp) rfl)) (by decide) (by decide) (by decide) (by decide)
   simp [Oper.wp, go_sem, e28, x3]
   exact hI.put (i := 8) (j := 21) rfl (by omega) (by decide) (by decide) (Below.refl _ _) (WV.of (by decide) (by decide) (by decide) (by decide) rfl) hI.1.cw
  ·have e27 : a'.tmps[27]?.getD undef = .slice ta tl tc := WV.eq (hI.1.at (k := 6) (j := 19) hsz rfl (by omega) (hall ⟨6, .data⟩ (by simp) rfl)) (by decide) (by decide) (by decide) (by decide)
   have e29 : a'.tmps[29]?.getD undef = .int .i64 n := WV.eq (hI.1.at (k := 8) (j := 21) hsz rfl (by omega) (hall ⟨8, .data⟩ (by simp) rfl)) (by decide) (by decide) (by decide) (by decide)
   simp [Oper.wp, go_sem, e27, e29]
   refine (Lookup_own ta tl tc hs rs n W (HR.below hI.1.cw) (HD.below hI.1.cw)).mono ?_
   rintro e W' ⟨g, rfl, hg', hb'⟩
   exact hI.put (i := 9) (j := 22) rfl (by omega) (by decide) (by decide) hb' (WV.two (.inr rfl) ⟨g, rfl, hg'.mono hI.1.cw.size⟩) (hI.1.cw.trans (hb'.mono hI.1.cw.size))
  ·obtain ⟨g, hl, hp⟩ := WV.isTwo (.inr rfl) (hI.1.at (k := 9) (j := 22) hsz rfl (by omega) (hall ⟨9, .data⟩ (by simp) rfl))
   have hl : a'.tmps[30]?.getD undef = _ := hl
   simp [Oper.wp, go_sem, hl]
   exact hI.put (i := 10) (j := 12) rfl (by omega) (by decide) (by decide) (Below.refl _ _) (WV.two (.inl rfl) ⟨g, rfl, hp⟩) hI.1.cw
  ·obtain ⟨g, hl, hp⟩ := WV.isTwo (.inl rfl) (hI.1.at (k := 10) (j := 12) hsz rfl (by omega) (hall ⟨10, .data⟩ (by simp) rfl))
   have hl : a'.tmps[20]?.getD undef = _ := hl
   simp [Oper.wp, go_sem, hl]
   exact hI.put (i := 11) (j := 23) rfl (by omega) (by decide) (by decide) (Below.refl _ _) (WV.look ⟨g, rfl, hp⟩) hI.1.cw
  ·obtain ⟨g, hl, hp⟩ := WV.isTwo (.inl rfl) (hI.1.at (k := 10) (j := 12) hsz rfl (by omega) (hall ⟨10, .data⟩ (by simp) rfl))
   have hl : a'.tmps[20]?.getD undef = _ := hl
   simp [Oper.wp, go_sem, hl]
   exact hI.put (i := 12) (j := 24) rfl (by omega) (by decide) (by decide) (Below.refl _ _) (WV.of (by decide) (by decide) (by decide) (by decide) rfl) hI.1.cw
  ·simp [Oper.wp, go_sem]
   have hb' : Below W.heap.size W (W.alloc (.cells #[.int .i64 0, .int .i64 0, .bool false, .int .i64 0, .slice none 0 0] 80)) := (Below.refl _ _).alloc (Nat.le_refl _) _
   have h14 : listed.getD 14 false = false := by
    cases h : listed.getD 14 false with
    | false => rfl
    | true =>
     have e := hCl 14 _ rfl h ⟨13, .data⟩ (by simp) rfl
     rcases Nat.lt_or_ge 13 listed.size with g | g
     ·simp [g] at hl0 e
      rw [hl0] at e
      cases e
     ·simp [Array.getElem?_eq_none g] at e
   exact hI.box h14 (hI.1.put (i := 13) (j := 0) rfl (by omega) (WV.grow hb') (WV.box ⟨W.heap.size, _, _, _, _, _, rfl, hI.1.cw.size, heapNew _ _⟩) (hI.1.cw.trans (hb'.mono hI.1.cw.size)))
  ·obtain ⟨X, c0, c1, c2, c3, c4, e8, hX, hxx⟩ := WV.isBox (hI.1.at (k := 13) (j := 0) hsz rfl (by omega) (hall ⟨13, .data⟩ (by simp) rfl))
   have e8 : a'.tmps[8]?.getD undef = .pointer (some ⟨X, 0, none⟩) := e8
   obtain ⟨g, hl, hp⟩ := WV.isLook (hI.1.at (k := 11) (j := 23) hsz rfl (by omega) (hall ⟨11, .data⟩ (by simp) rfl))
   have hl : a'.tmps[31]?.getD undef = _ := hl
   unfold gA at hl
   obtain ⟨⟨y0, y1, y2, y3, y4⟩, yf, yl⟩ := box5c hxx
   simp [Oper.wp, go_sem, e8, hl, y0, y1, y2, y3, y4, yf]
   exact hI.store hX hxx e8 hp (by decide)
  ·have e32 : a'.tmps[32]?.getD undef = .int .i64 (Pl.lookC rs n) := WV.eq (hI.1.at (k := 12) (j := 24) hsz rfl (by omega) (hall ⟨12, .data⟩ (by simp) rfl)) (by decide) (by decide) (by decide) (by decide)
   simp [Oper.wp, go_sem, e32]
   exact hI.put (i := 15) (j := 1) rfl (by omega) (by decide) (by decide) (Below.refl _ _) (WV.of (by decide) (by decide) (by decide) (by decide) rfl) hI.1.cw
 ·rintro listed a' W hr hI
  have hal := all_listed2 (by decide +kernel) hI.1.ls hr
  obtain ⟨X, g, g1, g2, g3, g4⟩ := hI.2.1 (hal 14 (by decide))
  have hkp := hI.2.2
  obtain ⟨xs, hxl, rfl, hf⟩ := hI.1.fr
  refine hQ xs W X g hxl (fun j j1 j2 => ?_) ?_ (WV.eq (hf 15 1 rfl (hal 15 (by decide))) (by decide) (by decide) (by decide) (by decide)) g2 g3 g4 hI.1.cw
  ·have e : (setFrom a0.tmps 8 xs)[8 + j]?.getD undef = _ := hkp j j1 j2
   rw [setFrom_at xs a0.tmps 8 j (by omega) (by omega)] at e
   rw [← e]; simp [List.getD]
  have e : (setFrom a0.tmps 8 xs)[8 + 0]?.getD undef = .pointer (some ⟨X, 0, none⟩) := g1
  rw [setFrom_at xs a0.tmps 8 0 (by omega) (by omega)] at e
  simpa [List.getD] using e
 ·exact ⟨RInv.start hsz (Below.refl _ _).drew, fun h => (by simp at h), fun _ _ _ => rfl⟩
end Go.Proofs.YtjjelkdajdeikaaGreatDoor
namespace Go.Proofs.YtjjelkdajdeikaaGreatDoor.Pl
def u8 (n : Int) : UInt8 := UInt8.ofNat n.toNat
theorem u8_val {n : Int} (h0 : 0 ≤ n) (h1 : n ≤ 255) : ((u8 n).toNat : Int) = n := by
 unfold u8
 rw [UInt8.toNat_ofNat']
 omega
def encV : Nat → Int → List UInt8
 | 0, n => [u8 n]
 | f + 1, n => if n < 128 then [u8 n] else u8 (n % 128 + 128) :: encV f (n / 128)
def lim : Nat → Int
 | 0 => 1
 | f + 1 => 128 * lim f
theorem encV_small {f : Nat} {n : Int} (h : n < 128) : encV f n = [u8 n] := by cases f <;> simp [encV, h]
theorem encV_great {f : Nat} {n : Int} (h : ¬ n < 128) : encV (f + 1) n = u8 (n % 128 + 128) :: encV f (n / 128) := by simp [encV, h]
theorem encV_len : ∀ (f : Nat) (n : Int), (encV f n).length ≤ f + 1
 | 0, _ => by simp [encV]
 | f + 1, n => by
  have := encV_len f (n / 128)
  unfold encV; split <;> simp; omega
def encT (s : ByteArray) : List UInt8 := u8 (s.size : Int) :: s.data.toList
def encE (e : Ent) : List UInt8 := encT e.key ++ (encV 6 e.ver ++ ([u8 e.org] ++ encT e.val))
def encL : List Ent → List UInt8
 | [] => []
 | e :: r => encE e ++ encL r
def body (es : List Ent) : List UInt8 := [116, u8 (es.length : Int)] ++ encL es
def sxy : List UInt8 → Int → Int → Int × Int
 | [], x, y => (x, y)
 | c :: r, x, y => sxy r ((x + (c.toNat : Int)) % 65521) ((y + (x + (c.toNat : Int)) % 65521) % 65521)
def sealL (bs : List UInt8) : List UInt8 := [u8 ((sxy bs 1 0).2 / 256), u8 ((sxy bs 1 0).2 % 256), u8 ((sxy bs 1 0).1 / 256), u8 ((sxy bs 1 0).1 % 256)]
theorem sealL_len (bs : List UInt8) : (sealL bs).length = 4 := rfl
def enc (es : List Ent) : List UInt8 := body es ++ sealL (body es)
theorem may_parts {e : Ent} (h : e.may = true) : e.key.size ≤ 8 ∧ 1 ≤ e.key.size ∧ 1 ≤ e.ver ∧ e.ver ≤ 1099511627776 ∧ 0 ≤ e.org ∧ e.org ≤ 11 ∧ e.val.size ≤ 120 := by
 unfold Ent.may entB keyB at h
 simp only [Bool.and_eq_true, decide_eq_true_eq] at h
 obtain ⟨⟨⟨⟨h1, _⟩, h2⟩, h3⟩, h4⟩ := h
 omega
theorem encT_len (s : ByteArray) : (encT s).length = s.size + 1 := by
 unfold encT
 simp only [List.length_cons, Array.length_toList]
 rfl
theorem encE_len {e : Ent} (h : e.may = true) : (encE e).length ≤ 138 := by
 have := may_parts h
 have h6 := encV_len 6 e.ver
 unfold encE
 simp only [List.length_append, encT_len, List.length_singleton]
 omega
end Go.Proofs.YtjjelkdajdeikaaGreatDoor.Pl
namespace Go.Proofs.YtjjelkdajdeikaaGreatDoor
open Go.RowKit
set_option maxRecDepth 20000
def bcells (bs : List UInt8) : List Value := bs.map fun c => Value.int .u8 (c.toNat : Int)
theorem bcells_len (bs : List UInt8) : (bcells bs).length = bs.length := by simp [bcells]
theorem bcells_append (a b : List UInt8) : bcells (a ++ b) = bcells a ++ bcells b := by simp [bcells]
theorem bcells_one (bs : List UInt8) : ∀ u ∈ bcells bs, u.oneCell' = true := by
 intro u hu
 obtain ⟨_, _, rfl⟩ := List.mem_map.1 hu
 rfl
theorem bcells_str (s : ByteArray) : Lib.strCells s = bcells s.data.toList := rfl
def IsBytes (w : World) (a : Option Addr) (len cap : Nat) (bs : List UInt8) : Prop :=
 bs.length = len ∧ len ≤ cap ∧ cap ≤ maxLen ∧ (bs = [] ∨ ∃ b off, a = some ⟨b, off, none⟩ ∧ b < w.heap.size ∧ ∀ j u, (bcells bs)[j]? = some u → w.cell? ⟨b, off + j, none⟩ = some u)
theorem IsBytes.below {w w' : World} {a : Option Addr} {len cap : Nat} {bs : List UInt8} (h : IsBytes w a len cap bs) (k : Below w.heap.size w w') : IsBytes w' a len cap bs := by
 obtain ⟨h1, h2, h3, h5⟩ := h
 refine ⟨h1, h2, h3, ?_⟩
 rcases h5 with h5 | ⟨b, off, rfl, hb, hr⟩
 ·exact .inl h5
 ·exact .inr ⟨b, off, rfl, Nat.lt_of_lt_of_le hb k.size, fun j u hj => (k.cell (p := ⟨b, off + j, none⟩) hb).trans (hr j u hj)⟩
theorem bcell_at {bs : List UInt8} {k : Nat} (h : k < bs.length) : (bcells bs)[k]? = some (.int .u8 ((bs.getD k 0).toNat : Int)) := by
 simp [bcells, List.getD, h]
def OwnB (w : World) (base : Nat) (v : Value) (bs : List UInt8) : Prop := w.ownsRow base 5 1 v bs.length (bcells bs)
theorem infoByte : (Tryz.prog.info? 5).map (fun i => (i.zero, i.size, i.bytes)) = some (some (.int .u8 0), 1, 1) := by kernel_rfl
theorem ownb_of {w : World} {base n : Nat} {v : Value} {xs : List Value} {bs : List UInt8} (h : w.ownsRow base 5 1 v n xs) (e : xs = bcells bs) : OwnB w base v bs := by
 subst e
 have hn : n = bs.length := by
  have := h.1
  rw [bcells_len] at this
  omega
 subst hn
 exact h
theorem OwnB.below {w w' : World} {base : Nat} {v : Value} {bs : List UInt8} (h : OwnB w base v bs) (k : Below w.heap.size w w') : OwnB w' base v bs := by
 obtain ⟨h0, h1⟩ := h
 refine ⟨h0, ?_⟩
 rcases h1 with h1 | ⟨g, cap, cur, rfl, hb, hh, hr⟩
 ·exact .inl h1
 ·exact .inr ⟨g, cap, cur, rfl, hb, (k.block g (lt_of_block hh)).trans hh, hr⟩
theorem OwnB.mono {w : World} {base base' : Nat} {v : Value} {bs : List UInt8} (h : OwnB w base v bs) (k : base' ≤ base) : OwnB w base' v bs := by
 obtain ⟨h0, h1⟩ := h
 refine ⟨h0, ?_⟩
 rcases h1 with h1 | ⟨g, cap, cur, rfl, hb, hr⟩
 ·exact .inl h1
 ·exact .inr ⟨g, cap, cur, rfl, by omega, hr⟩
theorem OwnB.nil (w : World) (base : Nat) : OwnB w base (.slice none 0 0) [] := World.ownsRow_nil _ _ _ _
theorem OwnB.shape {w : World} {base : Nat} {v : Value} {bs : List UInt8} (h : OwnB w base v bs) :
  ∃ a cap, v = .slice a bs.length cap ∧ IsBytes w a bs.length cap bs ∧ (a = none → cap = 0) ∧ (∀ x, a = some x → base ≤ x.block) := by
 obtain ⟨_, h | ⟨g, cap, cur, rfl, hb, hh, hn, hm, hs, hx⟩⟩ := h
 ·obtain ⟨rfl, hn⟩ := h
  have hes : bs = [] := List.length_eq_zero_iff.1 hn
  subst hes
  exact ⟨none, 0, rfl, ⟨rfl, Nat.le_refl _, by simp, .inl rfl⟩, fun _ => rfl, by simp⟩
 ·refine ⟨some ⟨g, 0, none⟩, cap, rfl, ⟨rfl, hn, hm, .inr ⟨g, 0, rfl, lt_of_block hh, ?_⟩⟩, by simp, by rintro x ⟨⟩; exact hb⟩
  intro j u hj
  rw [← hx] at hj
  have hj' : cur[j]? = some u := by
   rw [List.getElem?_take] at hj
   split at hj
   ·rw [← Array.getElem?_toList]; exact hj
   ·cases hj
  simp [World.cell?, hh, hj']
def Keep (base : Nat) (w w' : World) : Prop := Below base w w' ∧ ∀ (k : Nat) (cs : Array Value) (T : TypeId) (z : Nat × Nat), w.heap[k]? = some (Obj.cells cs T z) → ¬ T = 5 → w'.heap[k]? = some (Obj.cells cs T z)
theorem Keep.refl (base : Nat) (w : World) : Keep base w w := ⟨Below.refl _ _, fun _ _ _ _ h _ => h⟩
theorem Keep.trans {base : Nat} {a b c : World} (h : Keep base a b) (k : Keep base b c) : Keep base a c :=
 ⟨h.1.trans k.1, fun i cs T z hi hT => k.2 i cs T z (h.2 i cs T z hi hT) hT⟩
theorem Keep.of_below {base : Nat} {w w' : World} (h : Below w.heap.size w w') (hb : base ≤ w.heap.size) : Keep base w w' :=
 ⟨h.mono hb, fun k _ _ _ hk _ => (h.block k (lt_of_block hk)).trans hk⟩
theorem Keep.of_grown {base n : Nat} {w w' : World} {v : Value} {xs : List Value} (ho : w.ownsRow base 5 1 v n xs) (hg : w.grownBy w' v.ownBlock) (hb : base ≤ w.heap.size) : Keep base w w' := by
 refine ⟨(Below.refl _ _).grown hg hb (fun k hk => (World.ownsRow.lt ho k hk).1), fun k cs T z hk hT => ?_⟩
 refine (hg.block k (lt_of_block hk) (fun e => ?_)).trans hk
 obtain ⟨_, h | ⟨g, cap, cur, rfl, _, hh, _⟩⟩ := ho
 ·obtain ⟨rfl, _⟩ := h
  cases e
 ·simp only [Value.ownBlock, Option.some.injEq] at e
  subst e
  rw [hh] at hk
  simp only [Option.some.injEq, Obj.cells.injEq] at hk
  exact hT hk.2.1.symm
theorem append_b1 {w : World} {ops : Array Oper} {rest : List Oper} {o : Oper} {a : Act} {Q : Exit → Act → World → Prop} (hgd : o.guard = none) (s x : Operand)
  (ho : o.op = .call { callee := .builtin .append, args := #[s, x], argTypes := #[105, 105] })
  (base : Nat) (v : Value) (bs : List UInt8) (n : Int) (hs : a.eval s = v) (hown : OwnB w base v bs) (hbase : base ≤ w.heap.size) (hx : a.eval x = .slice (some ⟨w.heap.size, 0, none⟩) 1 1) (h0 : 0 ≤ n) (h1 : n ≤ 255) (hb : bs.length + 1 ≤ 140737488355328)
  (h : ∀ v' w', OwnB w' base v' (bs ++ [Pl.u8 n]) → Keep base w w' → wpList Tryz.prog ops Q rest (a.put o.dst v') w') :
  wpList Tryz.prog ops Q (o :: rest) a (w.alloc (.cells #[.int .u8 n] 5)) := by
 obtain ⟨i0, hi0, hz0, hz1, hz2⟩ := info_parts infoByte
 refine wpList_append_own (w := _) hgd s x 105 ho base 5 i0 _ 1 1 Tryz.underlying105 hi0 hz0 hz1 hz2 rfl (by decide) _ bs.length (bcells bs) hs (World.ownsRow.alloc hown _) ⟨w.heap.size, 0, none⟩ 1 1 [.int .u8 n] hx rfl ?_ ?_ (by unfold maxLen; omega) (by omega) (by simp; omega) ?_
 ·intro j u hj
  match j, hj with
  | 0, hj => simp at hj; subst hj; simp [Addr.add]
 ·intro u hu; simp at hu; subst hu; rfl
 ·intro v' w' hown' hg _
  refine h v' w' (ownb_of hown' ?_) ((Keep.of_below ((Below.refl _ _).alloc (Nat.le_refl _) _) hbase).trans (Keep.of_grown (World.ownsRow.alloc hown _) hg (by simp; omega)))
  rw [bcells_append]
  simp [bcells, Pl.u8_val h0 h1]
theorem append_str {w : World} {ops : Array Oper} {rest : List Oper} {o : Oper} {a : Act} {Q : Exit → Act → World → Prop} (hgd : o.guard = none) (s x : Operand)
  (ho : o.op = .call { callee := .builtin .append, args := #[s, x], argTypes := #[105, 9] })
  (base : Nat) (v : Value) (bs : List UInt8) (t : ByteArray) (hs : a.eval s = v) (hown : OwnB w base v bs) (hbase : base ≤ w.heap.size) (hx : a.eval x = .string t) (hb : bs.length + t.size ≤ 140737488355328)
  (h : ∀ v' w', OwnB w' base v' (bs ++ t.data.toList) → Keep base w w' → wpList Tryz.prog ops Q rest (a.put o.dst v') w') : wpList Tryz.prog ops Q (o :: rest) a w := by
 obtain ⟨i0, hi0, hz0, hz1, hz2⟩ := info_parts infoByte
 refine Lib.wpList_append_own_string w hgd s x 105 9 ho base 5 i0 Tryz.underlying105 Tryz.underlying9 hi0 hz0 hz1 hz2 v bs.length (bcells bs) hs hown t hx (by unfold maxLen; omega) hb hbase ?_
 intro v' w' hown' hg _
 exact h v' w' (ownb_of hown' (by rw [bcells_append, bcells_str])) (Keep.of_grown hown hg hbase)
theorem append_bs {w : World} {ops : Array Oper} {rest : List Oper} {o : Oper} {a : Act} {Q : Exit → Act → World → Prop} (hgd : o.guard = none) (s x : Operand)
  (ho : o.op = .call { callee := .builtin .append, args := #[s, x], argTypes := #[105, 105] })
  (base : Nat) (v : Value) (bs : List UInt8) (ad : Option Addr) (m c : Nat) (ns : List UInt8) (hs : a.eval s = v) (hown : OwnB w base v bs) (hbase : base ≤ w.heap.size) (hx : a.eval x = .slice ad m c) (hI : IsBytes w ad m c ns) (hnil : ad = none → c = 0) (hb : bs.length + m ≤ 140737488355328)
  (h : ∀ v' w', OwnB w' base v' (bs ++ ns) → Keep base w w' → wpList Tryz.prog ops Q rest (a.put o.dst v') w') : wpList Tryz.prog ops Q (o :: rest) a w := by
 obtain ⟨i0, hi0, hz0, hz1, hz2⟩ := info_parts infoByte
 obtain ⟨hl, hc, hm, hr⟩ := hI
 rcases ad with _ | ad
 ·obtain rfl := hnil rfl
  obtain rfl : m = 0 := by omega
  obtain rfl : ns = [] := List.length_eq_zero_iff.1 hl
  refine wpList_append_own_none hgd s x 105 ho base 5 i0 1 Tryz.underlying105 hi0 v bs.length (bcells bs) hs hown hx (h _ _ ?_ (Keep.refl _ _))
  rw [List.append_nil]; exact hown
 ·refine wpList_append_own (w := w) hgd s x 105 ho base 5 i0 _ 1 1 Tryz.underlying105 hi0 hz0 hz1 hz2 rfl (by decide) v bs.length (bcells bs) hs hown ad m c (bcells ns) hx (by rw [bcells_len, hl]; omega) ?_ (bcells_one _) (by unfold maxLen; omega) (by omega) hbase ?_
  ·intro j u hj
   rcases hr with rfl | ⟨b, off, hba, _, hr⟩
   ·simp [bcells] at hj
   ·cases hba
    have := hr j u hj
    unfold Addr.add; split
    ·rename_i h0; subst h0; simpa using this
    ·simpa using this
  ·intro v' w' hown' hg _
   exact h v' w' (ownb_of hown' (by rw [bcells_append])) (Keep.of_grown hown hg hbase)
theorem conv_any {w : World} {a : Option Addr} {len cap : Nat} {bs : List UInt8} (h : IsBytes w a len cap bs) :
  (convert 105 9 (.slice a len cap)).run Tryz.prog w = .ok (.string ⟨bs.toArray⟩) w := by
 obtain ⟨hl, _, _, hr⟩ := h
 subst hl
 rcases a with _ | ad
 ·have hbs : bs = [] := by
   rcases hr with h | ⟨b, off, h, _⟩
   ·exact h
   ·cases h
  subst hbs
  exact Go.Lib.run_convert_nil_bytes w _ _ 5 cap Tryz.underlying105 Tryz.underlying5 Tryz.underlying9
 ·refine run_convert_bytes_back w _ _ 5 ad cap bs Tryz.underlying105 Tryz.underlying5 Tryz.underlying9 ?_
  intro j hj
  rcases hr with rfl | ⟨b, off, hba, _, hr⟩
  ·simp at hj
  ·cases hba
   rw [add_none]
   exact hr j _ (by simp [bcells, hj])
end Go.Proofs.YtjjelkdajdeikaaGreatDoor
namespace Go.Proofs.YtjjelkdajdeikaaGreatDoor.Pl
def num (c : Int) (r : List UInt8) : Int × Int × List UInt8 :=
 if c = 0 then (match r with | [] => (0, 5, []) | x :: t => ((x.toNat : Int), 0, t)) else (0, c, [])
theorem num_bad {c : Int} {r : List UInt8} (h : ¬ c = 0) : num c r = (0, c, []) := by unfold num; rw [if_neg h]
theorem num_nil : num 0 [] = (0, 5, []) := rfl
theorem num_cons (x : UInt8) (t : List UInt8) : num 0 (x :: t) = ((x.toNat : Int), 0, t) := rfl
theorem num_range (c : Int) (r : List UInt8) : 0 ≤ (num c r).1 ∧ (num c r).1 ≤ 255 := by
 by_cases h : c = 0
 ·subst h
  cases r with
  | nil => rw [num_nil]; simp
  | cons x t => rw [num_cons]; have := x.toNat_lt; simp; omega
 ·rw [num_bad h]; simp
theorem num_left (c : Int) (r : List UInt8) : ¬ (num c r).2.1 = 0 → (num c r).2.2 = [] ∧ (num c r).1 = 0 := by
 by_cases h : c = 0
 ·subst h
  cases r with
  | nil => rw [num_nil]; simp
  | cons x t => rw [num_cons]; simp
 ·rw [num_bad h]; simp
def txt (c : Int) (r : List UInt8) : ByteArray × Int × List UInt8 :=
 if (num c r).2.1 = 0 then
  (if (num c r).1.toNat ≤ (num c r).2.2.length then (⟨((num c r).2.2.take (num c r).1.toNat).toArray⟩, 0, (num c r).2.2.drop (num c r).1.toNat) else (⟨#[]⟩, 5, []))
 else (⟨#[]⟩, (num c r).2.1, [])
def verF : Nat → Nat → Int → Int → List UInt8 → Int × Int × List UInt8
 | 0, _, _, c, _ => (0, c, [])
 | f + 1, k, v, c, r =>
  if (num c r).2.1 = 0 then
   (if k = 7 ∨ (0 < k ∧ (num c r).1 = 0) then (0, 4, [])
       else if (num c r).1 < 128 then (v + (num c r).1 % 128 * 128 ^ k, 0, (num c r).2.2) else verF f (k + 1) (v + (num c r).1 % 128 * 128 ^ k) 0 (num c r).2.2)
  else (0, (num c r).2.1, [])
def ver (c : Int) (r : List UInt8) : Int × Int × List UInt8 := verF 8 0 0 c r
def ent4 (c : Int) (r : List UInt8) : Ent × Int × List UInt8 :=
 (⟨(txt c r).1, (ver (txt c r).2.1 (txt c r).2.2).1, (num (ver (txt c r).2.1 (txt c r).2.2).2.1 (ver (txt c r).2.1 (txt c r).2.2).2.2).1,
  (txt (num (ver (txt c r).2.1 (txt c r).2.2).2.1 (ver (txt c r).2.1 (txt c r).2.2).2.2).2.1 (num (ver (txt c r).2.1 (txt c r).2.2).2.1 (ver (txt c r).2.1 (txt c r).2.2).2.2).2.2).1⟩,
   (txt (num (ver (txt c r).2.1 (txt c r).2.2).2.1 (ver (txt c r).2.1 (txt c r).2.2).2.2).2.1 (num (ver (txt c r).2.1 (txt c r).2.2).2.1 (ver (txt c r).2.1 (txt c r).2.2).2.2).2.2).2)
def entsN : Nat → List Ent → Int → List UInt8 → List Ent × Int × List UInt8
 | 0, l, c, r => (l, c, r)
 | n + 1, l, c, r => if (ent4 c r).2.1 = 0 then entsN n (l ++ [(ent4 c r).1]) (ent4 c r).2.1 (ent4 c r).2.2 else ([], (ent4 c r).2.1, [])
def rdL (r : List UInt8) : List Ent × Int :=
 if (num 0 r).2.1 = 0 then
  (if (entsN (num 0 r).1.toNat [] (num 0 r).2.1 (num 0 r).2.2).2.1 = 0 then
   (if (entsN (num 0 r).1.toNat [] (num 0 r).2.1 (num 0 r).2.2).2.2 = [] then ((entsN (num 0 r).1.toNat [] (num 0 r).2.1 (num 0 r).2.2).1, 0) else ([], 4))
     else ([], (entsN (num 0 r).1.toNat [] (num 0 r).2.1 (num 0 r).2.2).2.1))
 else ([], (num 0 r).2.1)
def frameC (b : List UInt8) : Int :=
 if 20000 < b.length then 1 else if b.length < 6 then 5 else if ¬ b.getD 0 0 = 116 then 4 else if ¬ sealL (b.take (b.length - 4)) = b.drop (b.length - 4) then 9 else 0
def decC (b : List UInt8) : Int :=
 if frameC b = 0 then (if (rdL ((b.take (b.length - 4)).drop 1)).2 = 0 then fault (rdL ((b.take (b.length - 4)).drop 1)).1 else (rdL ((b.take (b.length - 4)).drop 1)).2) else frameC b
def decO (b : List UInt8) : List Ent := if decC b = 0 then (rdL ((b.take (b.length - 4)).drop 1)).1 else []
theorem txt_size (c : Int) (r : List UInt8) : (txt c r).1.size ≤ 255 := by
 have := num_range c r
 unfold txt
 split
 ·split
  ·show (List.toArray _).size ≤ 255
   simp; omega
  ·simp [ByteArray.size]
 ·simp [ByteArray.size]
theorem pow_pos128 (k : Nat) : (1 : Int) ≤ 128 ^ k := by
 induction k with
 | zero => simp
 | succ k ih => rw [Int.pow_succ]; omega
theorem pow128_le {k : Nat} (h : k ≤ 7) : (128 : Int) ^ k ≤ 562949953421312 := by
 have e : k = 0 ∨ k = 1 ∨ k = 2 ∨ k = 3 ∨ k = 4 ∨ k = 5 ∨ k = 6 ∨ k = 7 := by omega
 rcases e with rfl | rfl | rfl | rfl | rfl | rfl | rfl | rfl <;> decide
theorem verF_range : ∀ (f k : Nat) (v c : Int) (r : List UInt8), f + k = 8 → 0 ≤ v → v < 128 ^ k → 0 ≤ (verF f k v c r).1 ∧ (verF f k v c r).1 ≤ 562949953421312
 | 0, _, _, _, _, _, _, _ => by simp [verF]
 | f + 1, k, v, c, r, hk, h0, h1 => by
  have hr := num_range c r
  have hp := pow_pos128 k
  unfold verF
  generalize num c r = q at *
  obtain ⟨n, c1, r1⟩ := q
  simp only at hr ⊢
  have hb : v + n % 128 * 128 ^ k < 128 ^ (k + 1) := by
   rw [Int.pow_succ]
   generalize (128 : Int) ^ k = P at *
   have h127 : n % 128 ≤ 127 := by omega
   have : n % 128 * P ≤ 127 * P := Int.mul_le_mul_of_nonneg_right h127 (by omega)
   omega
  have hn0 : 0 ≤ v + n % 128 * 128 ^ k := by
   have : 0 ≤ n % 128 * 128 ^ k := Int.mul_nonneg (by omega) (by omega)
   omega
  split
  ·split
   ·simp
   ·rename_i hk7
    split
    ·refine ⟨hn0, ?_⟩
     have := pow128_le (k := k + 1) (by omega)
     show v + n % 128 * 128 ^ k ≤ _
     omega
    ·exact verF_range f (k + 1) _ 0 r1 (by omega) hn0 hb
  ·simp
theorem ent4_ok (c : Int) (r : List UInt8) : (ent4 c r).1.ok := by
 have hv := verF_range 8 0 0 (txt c r).2.1 (txt c r).2.2 rfl (by omega) (by simp)
 refine ⟨?_, ?_, ?_, ?_⟩
 ·have := txt_size c r
  show (txt c r).1.size ≤ maxLen
  unfold maxLen; omega
 ·exact Go.WalkArith.wf_i64 (by show _ ≤ (ver _ _).1 ∧ (ver _ _).1 ≤ _; unfold ver; omega)
 ·have := num_range (ver (txt c r).2.1 (txt c r).2.2).2.1 (ver (txt c r).2.1 (txt c r).2.2).2.2
  exact Go.WalkArith.wf_i64 (by show _ ≤ (num _ _).1 ∧ (num _ _).1 ≤ _; omega)
 ·have := txt_size (num (ver (txt c r).2.1 (txt c r).2.2).2.1 (ver (txt c r).2.1 (txt c r).2.2).2.2).2.1 (num (ver (txt c r).2.1 (txt c r).2.2).2.1 (ver (txt c r).2.1 (txt c r).2.2).2.2).2.2
  show (txt _ _).1.size ≤ maxLen
  unfold maxLen; omega
theorem entsN_ok : ∀ (n : Nat) (l : List Ent) (c : Int) (r : List UInt8), (∀ e ∈ l, e.ok) → ∀ e ∈ (entsN n l c r).1, e.ok
 | 0, _, _, _, h => h
 | n + 1, l, c, r, h => by
  unfold entsN
  split
  ·refine entsN_ok n _ _ _ (fun e he => ?_)
   rcases List.mem_append.1 he with he | he
   ·exact h e he
   ·simp at he; subst he; exact ent4_ok c r
  ·intro e he; cases he
theorem rdL_ok (r : List UInt8) : ∀ e ∈ (rdL r).1, e.ok := by
 unfold rdL
 split
 ·split
  ·split
   ·exact entsN_ok _ _ _ _ (fun e he => by cases he)
   ·intro e he; cases he
  ·intro e he; cases he
 ·intro e he; cases he
theorem i64_or_nat (a b : Nat) (ha : a < 9223372036854775808) (hb : b < 9223372036854775808) : bits .or .i64 (a : Int) (b : Int) = ((a ||| b : Nat) : Int) := by
 have hx : a ||| b < 2 ^ 63 := Nat.or_lt_two_pow (by omega) (by omega)
 show IntKind.i64.wrap ((BitVec.ofInt 64 (a : Int) ||| BitVec.ofInt 64 (b : Int)).toNat : Int) = _
 rw [BitVec.toNat_or, ofInt_u64 a (by omega), ofInt_u64 b (by omega), IntKind.wrap_i64]
 omega
theorem or_low (v x : Int) (i : Nat) (hv0 : 0 ≤ v) (hv : v < 2 ^ i) (hx0 : 0 ≤ x) (hx : x * 2 ^ i < 9223372036854775808) (hvm : v < 9223372036854775808) : bits .or .i64 v (x * 2 ^ i) = v + x * 2 ^ i := by
 obtain ⟨V, rfl⟩ := Int.eq_ofNat_of_zero_le hv0
 obtain ⟨X, rfl⟩ := Int.eq_ofNat_of_zero_le hx0
 have e : ((X : Int) * 2 ^ i) = ((X * 2 ^ i : Nat) : Int) := by simp
 rw [e] at hx ⊢
 rw [i64_or_nat V (X * 2 ^ i) (by omega) (by omega)]
 have h1 : V < 2 ^ i := by
  have : ((V : Int)) < ((2 ^ i : Nat) : Int) := by simpa using hv
  omega
 have := Nat.shiftLeft_add_eq_or_of_lt h1 X
 rw [Nat.shiftLeft_eq] at this
 rw [Nat.or_comm, ← this]
 omega
end Go.Proofs.YtjjelkdajdeikaaGreatDoor.Pl
namespace Go.Proofs.YtjjelkdajdeikaaGreatDoor
open Go.RowKit
set_option maxRecDepth 20000
def Only (R : Nat) (w w' : World) : Prop := w.grownBy w' (some R)
theorem Only.refl (R : Nat) (w : World) : Only R w w := World.grownBy.refl _ _
theorem Only.trans {R : Nat} {a b c : World} (h : Only R a b) (k : Only R b c) : Only R a c :=
 ⟨k.os.trans h.os, k.tape.trans h.tape, k.output.trans h.output, Nat.le_trans h.size k.size, fun i hi hne => (k.block i (Nat.lt_of_lt_of_le hi h.size) hne).trans (h.block i hi hne)⟩
theorem Only.set (R o : Nat) (w : World) (v : Value) : Only R w (w.setCell ⟨R, o, none⟩ v) :=
 ⟨rfl, rfl, rfl, by simp [World.setCell], fun k _ hne => Below.heap_setCell _ _ _ _ (fun e => hne (by rw [e]))⟩
theorem Only.of_below {R : Nat} {w w' : World} (h : Below w.heap.size w w') : Only R w w' := ⟨h.os, h.tape, h.output, h.size, fun k hk _ => h.block k hk⟩
theorem Only.below {R B : Nat} {w w' : World} (h : Only R w w') (hB : B ≤ R) (hs : R ≤ w.heap.size) : Below B w w' := ⟨h.os, h.tape, h.output, h.size, fun k hk => h.block k (by omega) (fun e => by cases e; omega)⟩
theorem Only.cell {R b o : Nat} {w w' : World} (h : Only R w w') (hb : b < w.heap.size) (hne : ¬ b = R) : w'.cell? ⟨b, o, none⟩ = w.cell? ⟨b, o, none⟩ :=
 World.cell?_of_block (w := w) (h.block b hb (fun e => hne (by cases e; rfl)))
def RdAt (w : World) (B R : Nat) (c : Int) (rs : List UInt8) : Prop :=
 ∃ a len cap, w.cell? ⟨R, 0, none⟩ = some (.slice a len cap) ∧ w.cell? ⟨R, 1, none⟩ = some (.int .i64 c) ∧ w.frozen? ⟨R, 0, none⟩ = false ∧ w.frozen? ⟨R, 1, none⟩ = false ∧
  IsBytes w a len cap rs ∧ (a = none → cap = 0) ∧ (∀ x, a = some x → ¬ rs = [] → x.block < B) ∧ B ≤ R ∧ R < w.heap.size ∧ (¬ c = 0 → rs = [])
theorem isBytes_only {w w' : World} {R B : Nat} {a : Option Addr} {len cap : Nat} {bs : List UInt8} (h : IsBytes w a len cap bs) (k : Only R w w') (hB : B ≤ R) (hx : ∀ x, a = some x → ¬ bs = [] → x.block < B) : IsBytes w' a len cap bs := by
 obtain ⟨h1, h2, h3, h5⟩ := h
 refine ⟨h1, h2, h3, ?_⟩
 by_cases hn : bs = []
 ·exact .inl hn
 ·rcases h5 with h5 | ⟨b, off, rfl, hb, hr⟩
  ·exact .inl h5
  ·have := hx _ rfl hn
   exact .inr ⟨b, off, rfl, Nat.lt_of_lt_of_le hb k.size, fun j u hj => (k.cell hb (by simp at this; omega)).trans (hr j u hj)⟩
theorem bytes_end {w : World} {b off len n : Nat} {bs : List UInt8} (hc : len ≤ n) (hl : bs.length = len) : IsBytes w (some ⟨b, off, none⟩) (len - n) 0 (bs.drop n) := by
 have e : bs.drop n = [] := List.drop_eq_nil_of_le (by omega)
 rw [e, show len - n = 0 by omega]
 exact ⟨rfl, Nat.le_refl _, by simp, .inl rfl⟩
theorem bytes_on {w : World} {b off len cap n : Nat} {bs : List UInt8} (h : IsBytes w (some ⟨b, off, none⟩) len cap bs) (hn : n ≤ len) : IsBytes w (some ⟨b, off + n, none⟩) (len - n) (cap - n) (bs.drop n) := by
 obtain ⟨h1, h2, h3, h5⟩ := h
 refine ⟨by simp; omega, by omega, by omega, ?_⟩
 rcases h5 with rfl | ⟨b', off', hba, hb, hr⟩
 ·left; simp
 ·cases hba
  refine .inr ⟨b, off + n, rfl, hb, fun j u hj => ?_⟩
  have := hr (n + j) u (by
   have e : bcells (bs.drop n) = (bcells bs).drop n := by simp [bcells]
   rw [e, List.getElem?_drop] at hj
   exact hj)
  rwa [show off + n + j = off + (n + j) by omega]
theorem bytes_to {w : World} {a : Option Addr} {len cap n : Nat} {bs : List UInt8} (h : IsBytes w a len cap bs) (hn : n ≤ len) : IsBytes w a n cap (bs.take n) := by
 obtain ⟨h1, h2, h3, h5⟩ := h
 refine ⟨by simp; omega, by omega, by omega, ?_⟩
 rcases h5 with rfl | ⟨b, off, rfl, hb, hr⟩
 ·left; simp
 ·refine .inr ⟨b, off, rfl, hb, fun j u hj => hr j u ?_⟩
  have e : bcells (bs.take n) = (bcells bs).take n := by simp [bcells]
  rw [e, List.getElem?_take] at hj
  split at hj
  ·exact hj
  ·cases hj
theorem isBytes_nil (w : World) : IsBytes w none 0 0 [] := ⟨rfl, Nat.le_refl _, by simp, .inl rfl⟩
theorem rd_set {w : World} {B R : Nat} {c : Int} {rs ns : List UInt8} {a : Option Addr} {len cap : Nat} (h : RdAt w B R c rs) (hI : IsBytes w a len cap ns) (hN : a = none → cap = 0) (hx : ∀ x, a = some x → ¬ ns = [] → x.block < B) (hc : ¬ c = 0 → ns = []) :
  RdAt (w.setCell ⟨R, 0, none⟩ (.slice a len cap)) B R c ns := by
 obtain ⟨a0, l0, c0, h0, h1, f0, f1, _, _, _, hB, hR, _⟩ := h
 refine ⟨a, len, cap, ?_, ?_, ?_, ?_, isBytes_only hI (Only.set R 0 w _) hB hx, hN, hx, hB, by simpa [World.setCell] using hR, hc⟩
 ·go_simp
 ·go_simp
 ·rw [World.frozen?_setCell]; exact f0
 ·rw [World.frozen?_setCell]; exact f1
theorem rd_both {w : World} {B R : Nat} {c n : Int} {rs : List UInt8} (h : RdAt w B R c rs) :
  RdAt ((w.setCell ⟨R, 1, none⟩ (.int .i64 n)).setCell ⟨R, 0, none⟩ (.slice none 0 0)) B R n [] := by
 obtain ⟨a0, l0, c0, h0, h1, f0, f1, _, _, _, hB, hR, _⟩ := h
 refine ⟨none, 0, 0, ?_, ?_, ?_, ?_, isBytes_nil _, (fun _ => rfl), (fun x hx => by cases hx), hB, by simpa [World.setCell] using hR, fun _ => rfl⟩
 ·go_simp
 ·go_simp
 ·rw [World.frozen?_setCell, World.frozen?_setCell]; exact f0
 ·rw [World.frozen?_setCell, World.frozen?_setCell]; exact f1
set_option maxHeartbeats 400000 in
theorem refuse_any (B R : Nat) (c : Int) (rs : List UInt8) (n : Int) (w : World) (h : RdAt w B R c rs) (hn : ¬ n = 0) :
  Calls Tryz.prog 270 #[.pointer (some ⟨R, 0, none⟩), .int .i64 n] w fun e w' => e = .returned (.tuple #[]) ∧ RdAt w' B R (if c = 0 then n else c) [] ∧ Only R w w' := by
 have HD := hid h
 obtain ⟨a, len, cap, h0, h1, f0, f1, _, _, _, _, _, _⟩ := h
 have HN := hid hn
 clear hn
 by_cases hc : c = 0
 ·subst hc
  go_enter Tryz.func270, Tryz.ntmps270
  go_wp2
  go_end0
  refine ⟨rfl, ?_, (Only.set R 1 w _).trans (Only.set R 0 _ _)⟩
  exact rd_both HD.out
 ·have hce : (c == 0) = false := by simp [hc]
  have HC := hid hc
  clear hc
  go_enter Tryz.func270, Tryz.ntmps270
  go_wp2
  go_end0
  refine ⟨rfl, ?_, Only.set R 0 w _⟩
  exact rd_set HD.out (isBytes_nil w) (fun _ => rfl) (fun x hx => by cases hx) (fun _ => rfl)
set_option maxHeartbeats 400000 in
theorem number_any (B R : Nat) (c : Int) (rs : List UInt8) (w : World) (h : RdAt w B R c rs) :
  Calls Tryz.prog 256 #[.pointer (some ⟨R, 0, none⟩)] w fun e w' => e = .returned (.int .i64 (Pl.num c rs).1) ∧ RdAt w' B R (Pl.num c rs).2.1 (Pl.num c rs).2.2 ∧ Only R w w' := by
 have HD := hid h
 obtain ⟨a, len, cap, h0, h1, f0, f1, hI, _, hx, hB, hR, hcn⟩ := h
 obtain ⟨hl, hlc, hm, hrow⟩ := hI
 unfold maxLen at hm
 rcases rs with _ | ⟨x, t⟩
 ·simp at hl
  subst hl
  have HE : Hid (Pl.num c [] = (0, if c = 0 then 5 else c, [])) := by
   show _ = _
   unfold Pl.num; split <;> rfl
  clear hrow hx hcn
  go_enter Tryz.func256, Tryz.ntmps256
  go_wp2_with fail
  refine (refuse_any B R c [] 5 _ HD.out (by omega)).mono ?_
  rintro e w' ⟨rfl, hr, ho⟩
  go_wp2_with fail
  go_ret
  exact ⟨ret_int (by rw [HE.out]), by rw [HE.out]; exact hr, ho⟩
 ·have hc0 : c = 0 := by
   by_cases h : c = 0
   ·exact h
   ·have := hcn h; cases this
  subst hc0
  obtain ⟨b, off, rfl, hb, hr⟩ := hrow.resolve_left (by simp)
  have q0 := hr 0 (.int .u8 (x.toNat : Int)) (by simp [bcells])
  simp only [Nat.add_zero] at q0
  have hxb := hx _ rfl (by simp)
  simp at hxb
  have hlen : (1 : Int) ≤ (len : Int) := by simp at hl; omega
  have hne : ((len : Int) == 0) = false := by simp; omega
  have hxl := byte_le x
  have HE : Hid (Pl.num 0 (x :: t) = ((x.toNat : Int), 0, t)) := Pl.num_cons x t
  have hbr : ¬ b = R := by omega
  generalize x.toNat = xn at *
  have HI1 := hid (fun (hc : len ≤ 1) => bytes_end (w := w) (b := b) (off := off) (n := 1) hc hl)
  have HI2 := hid (bytes_on (n := 1) ⟨hl, hlc, by unfold maxLen; exact hm, .inr ⟨b, off, rfl, hb, hr⟩⟩ (by omega))
  clear hr hrow
  go_enter Tryz.func256, Tryz.ntmps256
  go_wp2
  ·go_ret
   refine ⟨ret_int (by rw [HE.out]), ?_, Only.set R 0 w _⟩
   rw [HE.out]
   exact rd_set HD.out (HI1.out (by omega)) (fun h => by cases h) (fun y hy _ => by cases hy; exact hxb) (fun h => absurd rfl h)
  ·go_ret
   refine ⟨ret_int (by rw [HE.out]), ?_, Only.set R 0 w _⟩
   rw [HE.out]
   exact rd_set HD.out HI2.out (fun h => by cases h) (fun y hy _ => by cases hy; exact hxb) (fun h => absurd rfl h)
theorem txt_of_num {c n c1 : Int} {rs r1 : List UInt8} (h : Pl.num c rs = (n, c1, r1)) (hn : n.toNat ≤ r1.length) : Pl.txt c rs = (⟨(r1.take n.toNat).toArray⟩, c1, r1.drop n.toNat) := by
 have hl := Pl.num_left c rs
 unfold Pl.txt
 rw [h] at hl ⊢
 simp only at hl ⊢
 by_cases hc : c1 = 0
 ·rw [if_pos hc, if_pos hn, hc]
 ·obtain ⟨e1, e2⟩ := hl hc
  subst e1 e2
  rw [if_neg hc]; simp
theorem txt_short {c n c1 : Int} {rs r1 : List UInt8} (h : Pl.num c rs = (n, c1, r1)) (hn : r1.length < n.toNat) : Pl.txt c rs = (⟨#[]⟩, 5, []) ∧ c1 = 0 := by
 have hl := Pl.num_left c rs
 unfold Pl.txt
 rw [h] at hl ⊢
 simp only at hl ⊢
 by_cases hc : c1 = 0
 ·rw [if_pos hc, if_neg (by omega)]; exact ⟨rfl, hc⟩
 ·obtain ⟨e1, e2⟩ := hl hc
  subst e2
  simp at hn
set_option maxHeartbeats 400000 in
theorem text_any (B R : Nat) (c : Int) (rs : List UInt8) (w : World) (h : RdAt w B R c rs) :
  Calls Tryz.prog 271 #[.pointer (some ⟨R, 0, none⟩)] w fun e w' => e = .returned (.string (Pl.txt c rs).1) ∧ RdAt w' B R (Pl.txt c rs).2.1 (Pl.txt c rs).2.2 ∧ Only R w w' := by
 have HD := hid h
 clear h
 have hnr := Pl.num_range c rs
 have HNU := hid (number_any B R c rs w HD.out)
 obtain ⟨n, c1, r1, HE⟩ : ∃ n c1 r1, Hid (Pl.num c rs = (n, c1, r1)) := ⟨_, _, _, rfl⟩
 rw [HE.out] at hnr HNU
 simp only at hnr HNU
 obtain ⟨hn0, hn1⟩ := hnr
 obtain ⟨m, rfl⟩ := Int.eq_ofNat_of_zero_le hn0
 go_enter Tryz.func271, Tryz.ntmps271
 go_wp2_with fail
 refine HNU.out.mono ?_
 rintro e w1 ⟨rfl, hr1, ho1⟩
 have HR1 := hid hr1
 obtain ⟨a, len, cap, h0, h1, f0, f1, hI, hnl, hx, hB, hR, hcn⟩ := hr1
 have hlen : r1.length = len := hI.1
 have hlc := hI.2.1
 have hm := hI.2.2.1
 unfold maxLen at hm
 by_cases hgt : len < m
 ·obtain ⟨hT, hc1⟩ := txt_short HE.out (by simp; omega)
  have HT := hid hT
  clear hT hI hx
  subst hc1
  go_wp2_with fail
  refine (refuse_any B R 0 r1 5 _ HR1.out (by omega)).mono ?_
  rintro e w2 ⟨rfl, hr2, ho2⟩
  go_wp2_with fail
  go_ret
  exact ⟨by rw [HT.out]; rfl, by rw [HT.out]; exact hr2, ho1.trans ho2⟩
 ·have HT := hid (txt_of_num HE.out (by simp; omega))
  simp only [Int.toNat_natCast] at HT
  have hcv := conv_any (bytes_to hI (show m ≤ len by omega))
  rcases r1 with _ | ⟨x, t⟩
  ·simp at hlen
   subst hlen
   obtain rfl : m = 0 := by omega
   rcases a with _ | ad
   ·obtain rfl := hnl rfl
    go_wp2
    go_ret
    refine ⟨by rw [HT.out]; rfl, ?_, ho1.trans (Only.set R 0 w1 _)⟩
    rw [HT.out]
    exact rd_set HR1.out (isBytes_nil _) (fun _ => rfl) (fun y hy => by cases hy) (fun _ => rfl)
   ·have HI := hid hI
    clear hI hx
    go_wp2
    go_ret
    refine ⟨by rw [HT.out]; rfl, ?_, ho1.trans (Only.set R 0 w1 _)⟩
    rw [HT.out]
    exact rd_set HR1.out HI.out (fun h => by cases h) (fun y _ hy => absurd rfl hy) (fun _ => rfl)
  ·obtain ⟨b, off, rfl, hb, hr⟩ := hI.2.2.2.resolve_left (by simp)
   have hxb := hx _ rfl (by simp)
   simp at hxb
   have hc1 : c1 = 0 := by
    by_cases h : c1 = 0
    ·exact h
    ·have := hcn h; cases this
   subst hc1
   have HI1 := hid (fun (hc : len ≤ m) => bytes_end (w := w1) (b := b) (off := off) (n := m) hc hlen)
   have HI2 := hid (bytes_on (n := m) hI (by omega))
   clear hr hI hx hnl hcn
   have hm' : (m : Int) ≤ (len : Int) := by omega
   go_wp2
   ·go_ret
    refine ⟨by rw [HT.out]; rfl, ?_, ho1.trans (Only.set R 0 w1 _)⟩
    rw [HT.out]
    exact rd_set HR1.out (HI1.out (by omega)) (fun h => by cases h) (fun y hy _ => by cases hy; exact hxb) (fun h => absurd rfl h)
   ·go_ret
    refine ⟨by rw [HT.out]; rfl, ?_, ho1.trans (Only.set R 0 w1 _)⟩
    rw [HT.out]
    exact rd_set HR1.out HI2.out (fun h => by cases h) (fun y hy _ => by cases hy; exact hxb) (fun h => absurd rfl h)
set_option maxHeartbeats 2000000 in
theorem version_any (B R : Nat) (c : Int) (rs : List UInt8) (w : World) (h : RdAt w B R c rs) :
  Calls Tryz.prog 272 #[.pointer (some ⟨R, 0, none⟩)] w fun e w' => e = .returned (.int .i64 (Pl.ver c rs).1) ∧ RdAt w' B R (Pl.ver c rs).2.1 (Pl.ver c rs).2.2 ∧ Only R w w' := by
 have HD := hid h
 clear h
 go_enter Tryz.func272, Tryz.ntmps272
 go_wp2
 go_loopw [3, 4] (fun p i wr => ∃ (k f : Nat) (v c1 : Int) (r1 : List UInt8), f + k = 8 ∧ 1 ≤ f ∧ i = .int .i64 k ∧ p = .int .i64 v ∧ 0 ≤ v ∧ Hid (v < 128 ^ k) ∧ Hid (RdAt wr B R c1 r1) ∧ Hid (Pl.ver c rs = Pl.verF f k v c1 r1) ∧ Hid (Only R w wr)) (fun _ i _ => 8 - (intOf i).toNat)
 case atStart => exact ⟨0, 8, 0, c, rs, rfl, by omega, rfl, rfl, by omega, by show _ < _; omega, HD, rfl, Only.refl _ _⟩
 case round =>
  obtain ⟨k, f, v, c1, r1, hfk, hf1, rfl, rfl, hv0, HV, HR, HE, HO⟩ := hrel
  obtain ⟨g, rfl⟩ : ∃ g, f = g + 1 := ⟨f - 1, by omega⟩
  have hnr := Pl.num_range c1 r1
  have HNU := hid (number_any B R c1 r1 wr HR.out)
  obtain ⟨n, c2, r2, HN⟩ : ∃ n c2 r2, Hid (Pl.num c1 r1 = (n, c2, r2)) := ⟨_, _, _, rfl⟩
  rw [HN.out] at hnr HNU
  simp only at hnr HNU
  obtain ⟨hn0, hn1⟩ := hnr
  have HS : Hid (Pl.ver c rs = if c2 = 0 then (if k = 7 ∨ (0 < k ∧ n = 0) then (0, 4, []) else if n < 128 then (v + n % 128 * 128 ^ k, 0, r2) else Pl.verF g (k + 1) (v + n % 128 * 128 ^ k) 0 r2) else (0, c2, [])) := by
   show _ = _
   rw [HE.out, Pl.verF, HN.out]
  clear HE
  by_cases hc2 : c2 = 0
  ·subst hc2
   simp only [if_true] at HS
   have hk : k = 0 ∨ k = 1 ∨ k = 2 ∨ k = 3 ∨ k = 4 ∨ k = 5 ∨ k = 6 ∨ k = 7 := by omega
   rcases hk with rfl | rfl | rfl | rfl | rfl | rfl | rfl | rfl
   ·have hv : v = 0 := by have := HV.out; simp at this; omega
    subst hv
    have hor : bits .or .i64 0 (n % 128) = n % 128 := by
     have := Pl.or_low 0 (n % 128) 0 (by omega) (by omega) (by omega) (by omega) (by omega)
     simpa using this
    have HF : Hid (Pl.ver c rs = if n < 128 then (n % 128, 0, r2) else Pl.verF g 1 (n % 128) 0 r2) := by
     show _ = _
     rw [HS.out]; simp
    clear HS
    go_wp2_with fail
    refine HNU.out.mono ?_
    rintro e w1 ⟨rfl, hr1, ho1⟩
    have HR1 := hid hr1
    obtain ⟨a, len, cap, h0, h1, f0, f1, _, _, _, _, _, _⟩ := hr1
    go_wp2_with fail
    ·go_ret
     have hlt : n < 128 := by assumption
     rw [if_pos hlt] at HF
     exact ⟨ret_int (by rw [HF.out]), by rw [HF.out]; exact HR1.out, HO.out.trans ho1⟩
    ·go_roundw
     case rel =>
      have hge : 128 ≤ n := by assumption
      rw [if_neg (by omega)] at HF
      exact ⟨1, g, n % 128, 0, r2, by omega, by omega, rfl, rfl, by omega, by show _ < _; omega, HR1, HF, HO.out.trans ho1⟩
     case measure => simp [intOf]
   ·have HV' : v < 128 := HV.out
    by_cases hz : n = 0
    ·have HF : Hid (Pl.ver c rs = (0, 4, [])) := by
      show _ = _
      rw [HS.out, if_pos (.inr ⟨by omega, hz⟩)]
     have hzb : (n == 0) = true := by simp [hz]
     have HZ := hid hz
     clear HS hz
     go_wp2_with fail
     refine HNU.out.mono ?_
     rintro e w1 ⟨rfl, hr1, ho1⟩
     have HR1 := hid hr1
     obtain ⟨a, len, cap, h0, h1, f0, f1, _, _, _, _, _, _⟩ := hr1
     go_wp2_with fail
     refine (refuse_any B R 0 r2 4 _ HR1.out (by omega)).mono ?_
     rintro e w2 ⟨rfl, hr2, ho2⟩
     go_wp2_with fail
     go_ret
     exact ⟨ret_int (by rw [HF.out]), by rw [HF.out]; exact hr2, (HO.out.trans ho1).trans ho2⟩
    ·have hzb : (n == 0) = false := by simp [hz]
     have hor : bits .or .i64 v (n % 128 * 128) = v + n % 128 * 128 := by
      have := Pl.or_low v (n % 128) 7 (by omega) (by rw [show (2 : Int) ^ 7 = 128 from rfl]; omega) (by omega) (by rw [show (2 : Int) ^ 7 = 128 from rfl]; omega) (by omega)
      rwa [show (2 : Int) ^ 7 = 128 from rfl] at this
     have HF : Hid (Pl.ver c rs = if n < 128 then (v + n % 128 * 128, 0, r2) else Pl.verF g 2 (v + n % 128 * 128) 0 r2) := by
      show _ = _
      rw [HS.out, if_neg (by omega)]; rfl
     clear HS
     go_wp2_with fail
     refine HNU.out.mono ?_
     rintro e w1 ⟨rfl, hr1, ho1⟩
     have HR1 := hid hr1
     obtain ⟨a, len, cap, h0, h1, f0, f1, _, _, _, _, _, _⟩ := hr1
     go_wp2_with fail
     ·go_ret
      have hlt : n < 128 := by assumption
      rw [if_pos hlt] at HF
      exact ⟨ret_int (by rw [HF.out]), by rw [HF.out]; exact HR1.out, HO.out.trans ho1⟩
     ·go_roundw
      case rel =>
       have hge : 128 ≤ n := by assumption
       rw [if_neg (by omega)] at HF
       exact ⟨2, g, v + n % 128 * 128, 0, r2, by omega, by omega, rfl, rfl, by omega, by show _ < _; rw [show (128 : Int) ^ 2 = 16384 from rfl]; omega, HR1, HF, HO.out.trans ho1⟩
      case measure => simp [intOf]
   ·have HV' : v < 16384 := HV.out
    by_cases hz : n = 0
    ·have HF : Hid (Pl.ver c rs = (0, 4, [])) := by
      show _ = _
      rw [HS.out, if_pos (.inr ⟨by omega, hz⟩)]
     have hzb : (n == 0) = true := by simp [hz]
     have HZ := hid hz
     clear HS hz
     go_wp2_with fail
     refine HNU.out.mono ?_
     rintro e w1 ⟨rfl, hr1, ho1⟩
     have HR1 := hid hr1
     obtain ⟨a, len, cap, h0, h1, f0, f1, _, _, _, _, _, _⟩ := hr1
     go_wp2_with fail
     refine (refuse_any B R 0 r2 4 _ HR1.out (by omega)).mono ?_
     rintro e w2 ⟨rfl, hr2, ho2⟩
     go_wp2_with fail
     go_ret
     exact ⟨ret_int (by rw [HF.out]), by rw [HF.out]; exact hr2, (HO.out.trans ho1).trans ho2⟩
    ·have hzb : (n == 0) = false := by simp [hz]
     have hor : bits .or .i64 v (n % 128 * 16384) = v + n % 128 * 16384 := by
      have := Pl.or_low v (n % 128) 14 (by omega) (by rw [show (2 : Int) ^ 14 = 16384 from rfl]; omega) (by omega) (by rw [show (2 : Int) ^ 14 = 16384 from rfl]; omega) (by omega)
      rwa [show (2 : Int) ^ 14 = 16384 from rfl] at this
     have HF : Hid (Pl.ver c rs = if n < 128 then (v + n % 128 * 16384, 0, r2) else Pl.verF g 3 (v + n % 128 * 16384) 0 r2) := by
      show _ = _
      rw [HS.out, if_neg (by omega)]; rfl
     clear HS
     go_wp2_with fail
     refine HNU.out.mono ?_
     rintro e w1 ⟨rfl, hr1, ho1⟩
     have HR1 := hid hr1
     obtain ⟨a, len, cap, h0, h1, f0, f1, _, _, _, _, _, _⟩ := hr1
     go_wp2_with fail
     ·go_ret
      have hlt : n < 128 := by assumption
      rw [if_pos hlt] at HF
      exact ⟨ret_int (by rw [HF.out]), by rw [HF.out]; exact HR1.out, HO.out.trans ho1⟩
     ·go_roundw
      case rel =>
       have hge : 128 ≤ n := by assumption
       rw [if_neg (by omega)] at HF
       exact ⟨3, g, v + n % 128 * 16384, 0, r2, by omega, by omega, rfl, rfl, by omega, by show _ < _; rw [show (128 : Int) ^ 3 = 2097152 from rfl]; omega, HR1, HF, HO.out.trans ho1⟩
      case measure => simp [intOf]
   ·have HV' : v < 2097152 := HV.out
    by_cases hz : n = 0
    ·have HF : Hid (Pl.ver c rs = (0, 4, [])) := by
      show _ = _
      rw [HS.out, if_pos (.inr ⟨by omega, hz⟩)]
     have hzb : (n == 0) = true := by simp [hz]
     have HZ := hid hz
     clear HS hz
     go_wp2_with fail
     refine HNU.out.mono ?_
     rintro e w1 ⟨rfl, hr1, ho1⟩
     have HR1 := hid hr1
     obtain ⟨a, len, cap, h0, h1, f0, f1, _, _, _, _, _, _⟩ := hr1
     go_wp2_with fail
     refine (refuse_any B R 0 r2 4 _ HR1.out (by omega)).mono ?_
     rintro e w2 ⟨rfl, hr2, ho2⟩
     go_wp2_with fail
     go_ret
     exact ⟨ret_int (by rw [HF.out]), by rw [HF.out]; exact hr2, (HO.out.trans ho1).trans ho2⟩
    ·have hzb : (n == 0) = false := by simp [hz]
     have hor : bits .or .i64 v (n % 128 * 2097152) = v + n % 128 * 2097152 := by
      have := Pl.or_low v (n % 128) 21 (by omega) (by rw [show (2 : Int) ^ 21 = 2097152 from rfl]; omega) (by omega) (by rw [show (2 : Int) ^ 21 = 2097152 from rfl]; omega) (by omega)
      rwa [show (2 : Int) ^ 21 = 2097152 from rfl] at this
     have HF : Hid (Pl.ver c rs = if n < 128 then (v + n % 128 * 2097152, 0, r2) else Pl.verF g 4 (v + n % 128 * 2097152) 0 r2) := by
      show _ = _
      rw [HS.out, if_neg (by omega)]; rfl
     clear HS
     go_wp2_with fail
     refine HNU.out.mono ?_
     rintro e w1 ⟨rfl, hr1, ho1⟩
     have HR1 := hid hr1
     obtain ⟨a, len, cap, h0, h1, f0, f1, _, _, _, _, _, _⟩ := hr1
     go_wp2_with fail
     ·go_ret
      have hlt : n < 128 := by assumption
      rw [if_pos hlt] at HF
      exact ⟨ret_int (by rw [HF.out]), by rw [HF.out]; exact HR1.out, HO.out.trans ho1⟩
     ·go_roundw
      case rel =>
       have hge : 128 ≤ n := by assumption
       rw [if_neg (by omega)] at HF
       exact ⟨4, g, v + n % 128 * 2097152, 0, r2, by omega, by omega, rfl, rfl, by omega, by show _ < _; rw [show (128 : Int) ^ 4 = 268435456 from rfl]; omega, HR1, HF, HO.out.trans ho1⟩
      case measure => simp [intOf]
   ·have HV' : v < 268435456 := HV.out
    by_cases hz : n = 0
    ·have HF : Hid (Pl.ver c rs = (0, 4, [])) := by
      show _ = _
      rw [HS.out, if_pos (.inr ⟨by omega, hz⟩)]
     have hzb : (n == 0) = true := by simp [hz]
     have HZ := hid hz
     clear HS hz
     go_wp2_with fail
     refine HNU.out.mono ?_
     rintro e w1 ⟨rfl, hr1, ho1⟩
     have HR1 := hid hr1
     obtain ⟨a, len, cap, h0, h1, f0, f1, _, _, _, _, _, _⟩ := hr1
     go_wp2_with fail
     refine (refuse_any B R 0 r2 4 _ HR1.out (by omega)).mono ?_
     rintro e w2 ⟨rfl, hr2, ho2⟩
     go_wp2_with fail
     go_ret
     exact ⟨ret_int (by rw [HF.out]), by rw [HF.out]; exact hr2, (HO.out.trans ho1).trans ho2⟩
    ·have hzb : (n == 0) = false := by simp [hz]
     have hor : bits .or .i64 v (n % 128 * 268435456) = v + n % 128 * 268435456 := by
      have := Pl.or_low v (n % 128) 28 (by omega) (by rw [show (2 : Int) ^ 28 = 268435456 from rfl]; omega) (by omega) (by rw [show (2 : Int) ^ 28 = 268435456 from rfl]; omega) (by omega)
      rwa [show (2 : Int) ^ 28 = 268435456 from rfl] at this
     have HF : Hid (Pl.ver c rs = if n < 128 then (v + n % 128 * 268435456, 0, r2) else Pl.verF g 5 (v + n % 128 * 268435456) 0 r2) := by
      show _ = _
      rw [HS.out, if_neg (by omega)]; rfl
     clear HS
     go_wp2_with fail
     refine HNU.out.mono ?_
     rintro e w1 ⟨rfl, hr1, ho1⟩
     have HR1 := hid hr1
     obtain ⟨a, len, cap, h0, h1, f0, f1, _, _, _, _, _, _⟩ := hr1
     go_wp2_with fail
     ·go_ret
      have hlt : n < 128 := by assumption
      rw [if_pos hlt] at HF
      exact ⟨ret_int (by rw [HF.out]), by rw [HF.out]; exact HR1.out, HO.out.trans ho1⟩
     ·go_roundw
      case rel =>
       have hge : 128 ≤ n := by assumption
       rw [if_neg (by omega)] at HF
       exact ⟨5, g, v + n % 128 * 268435456, 0, r2, by omega, by omega, rfl, rfl, by omega, by show _ < _; rw [show (128 : Int) ^ 5 = 34359738368 from rfl]; omega, HR1, HF, HO.out.trans ho1⟩
      case measure => simp [intOf]
   ·have HV' : v < 34359738368 := HV.out
    by_cases hz : n = 0
    ·have HF : Hid (Pl.ver c rs = (0, 4, [])) := by
      show _ = _
      rw [HS.out, if_pos (.inr ⟨by omega, hz⟩)]
     have hzb : (n == 0) = true := by simp [hz]
     have HZ := hid hz
     clear HS hz
     go_wp2_with fail
     refine HNU.out.mono ?_
     rintro e w1 ⟨rfl, hr1, ho1⟩
     have HR1 := hid hr1
     obtain ⟨a, len, cap, h0, h1, f0, f1, _, _, _, _, _, _⟩ := hr1
     go_wp2_with fail
     refine (refuse_any B R 0 r2 4 _ HR1.out (by omega)).mono ?_
     rintro e w2 ⟨rfl, hr2, ho2⟩
     go_wp2_with fail
     go_ret
     exact ⟨ret_int (by rw [HF.out]), by rw [HF.out]; exact hr2, (HO.out.trans ho1).trans ho2⟩
    ·have hzb : (n == 0) = false := by simp [hz]
     have hor : bits .or .i64 v (n % 128 * 34359738368) = v + n % 128 * 34359738368 := by
      have := Pl.or_low v (n % 128) 35 (by omega) (by rw [show (2 : Int) ^ 35 = 34359738368 from rfl]; omega) (by omega) (by rw [show (2 : Int) ^ 35 = 34359738368 from rfl]; omega) (by omega)
      rwa [show (2 : Int) ^ 35 = 34359738368 from rfl] at this
     have HF : Hid (Pl.ver c rs = if n < 128 then (v + n % 128 * 34359738368, 0, r2) else Pl.verF g 6 (v + n % 128 * 34359738368) 0 r2) := by
      show _ = _
      rw [HS.out, if_neg (by omega)]; rfl
     clear HS
     go_wp2_with fail
     refine HNU.out.mono ?_
     rintro e w1 ⟨rfl, hr1, ho1⟩
     have HR1 := hid hr1
     obtain ⟨a, len, cap, h0, h1, f0, f1, _, _, _, _, _, _⟩ := hr1
     go_wp2_with fail
     ·go_ret
      have hlt : n < 128 := by assumption
      rw [if_pos hlt] at HF
      exact ⟨ret_int (by rw [HF.out]), by rw [HF.out]; exact HR1.out, HO.out.trans ho1⟩
     ·go_roundw
      case rel =>
       have hge : 128 ≤ n := by assumption
       rw [if_neg (by omega)] at HF
       exact ⟨6, g, v + n % 128 * 34359738368, 0, r2, by omega, by omega, rfl, rfl, by omega, by show _ < _; rw [show (128 : Int) ^ 6 = 4398046511104 from rfl]; omega, HR1, HF, HO.out.trans ho1⟩
      case measure => simp [intOf]
   ·have HV' : v < 4398046511104 := HV.out
    by_cases hz : n = 0
    ·have HF : Hid (Pl.ver c rs = (0, 4, [])) := by
      show _ = _
      rw [HS.out, if_pos (.inr ⟨by omega, hz⟩)]
     have hzb : (n == 0) = true := by simp [hz]
     have HZ := hid hz
     clear HS hz
     go_wp2_with fail
     refine HNU.out.mono ?_
     rintro e w1 ⟨rfl, hr1, ho1⟩
     have HR1 := hid hr1
     obtain ⟨a, len, cap, h0, h1, f0, f1, _, _, _, _, _, _⟩ := hr1
     go_wp2_with fail
     refine (refuse_any B R 0 r2 4 _ HR1.out (by omega)).mono ?_
     rintro e w2 ⟨rfl, hr2, ho2⟩
     go_wp2_with fail
     go_ret
     exact ⟨ret_int (by rw [HF.out]), by rw [HF.out]; exact hr2, (HO.out.trans ho1).trans ho2⟩
    ·have hzb : (n == 0) = false := by simp [hz]
     have hor : bits .or .i64 v (n % 128 * 4398046511104) = v + n % 128 * 4398046511104 := by
      have := Pl.or_low v (n % 128) 42 (by omega) (by rw [show (2 : Int) ^ 42 = 4398046511104 from rfl]; omega) (by omega) (by rw [show (2 : Int) ^ 42 = 4398046511104 from rfl]; omega) (by omega)
      rwa [show (2 : Int) ^ 42 = 4398046511104 from rfl] at this
     have HF : Hid (Pl.ver c rs = if n < 128 then (v + n % 128 * 4398046511104, 0, r2) else Pl.verF g 7 (v + n % 128 * 4398046511104) 0 r2) := by
      show _ = _
      rw [HS.out, if_neg (by omega)]; rfl
     clear HS
     go_wp2_with fail
     refine HNU.out.mono ?_
     rintro e w1 ⟨rfl, hr1, ho1⟩
     have HR1 := hid hr1
     obtain ⟨a, len, cap, h0, h1, f0, f1, _, _, _, _, _, _⟩ := hr1
     go_wp2_with fail
     ·go_ret
      have hlt : n < 128 := by assumption
      rw [if_pos hlt] at HF
      exact ⟨ret_int (by rw [HF.out]), by rw [HF.out]; exact HR1.out, HO.out.trans ho1⟩
     ·go_roundw
      case rel =>
       have hge : 128 ≤ n := by assumption
       rw [if_neg (by omega)] at HF
       exact ⟨7, g, v + n % 128 * 4398046511104, 0, r2, by omega, by omega, rfl, rfl, by omega, by show _ < _; rw [show (128 : Int) ^ 7 = 562949953421312 from rfl]; omega, HR1, HF, HO.out.trans ho1⟩
      case measure => simp [intOf]
   ·have HF : Hid (Pl.ver c rs = (0, 4, [])) := by
     show _ = _
     rw [HS.out, if_pos (.inl rfl)]
    clear HS
    go_wp2_with fail
    refine HNU.out.mono ?_
    rintro e w1 ⟨rfl, hr1, ho1⟩
    have HR1 := hid hr1
    obtain ⟨a, len, cap, h0, h1, f0, f1, _, _, _, _, _, _⟩ := hr1
    go_wp2_with fail
    refine (refuse_any B R 0 r2 4 _ HR1.out (by omega)).mono ?_
    rintro e w2 ⟨rfl, hr2, ho2⟩
    go_wp2_with fail
    go_ret
    exact ⟨ret_int (by rw [HF.out]), by rw [HF.out]; exact hr2, (HO.out.trans ho1).trans ho2⟩
  ·have HF : Hid (Pl.ver c rs = (0, c2, [])) := by
    show _ = _
    rw [HS.out, if_neg hc2]
   have hcb : (c2 != 0) = true := by simp [hc2]
   have HC2 := hid hc2
   have HL := hid (Pl.num_left c1 r1)
   rw [HN.out] at HL
   clear HS hc2
   go_wp2_with fail
   refine HNU.out.mono ?_
   rintro e w1 ⟨rfl, hr1, ho1⟩
   have HR1 := hid hr1
   obtain ⟨a, len, cap, h0, h1, f0, f1, _, _, _, _, _, _⟩ := hr1
   go_wp2_with fail
   go_ret
   refine ⟨ret_int (by rw [HF.out]), ?_, HO.out.trans ho1⟩
   rw [HF.out]
   have := HR1.out
   rwa [(HL.out HC2.out).1] at this
end Go.Proofs.YtjjelkdajdeikaaGreatDoor
