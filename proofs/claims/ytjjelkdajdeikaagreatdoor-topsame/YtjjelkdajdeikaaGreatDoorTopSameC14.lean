/-
  Contracts and facts that the proof rests on, put together out of several texts.
-/
import Derived.Test.YtjjelkdajdeikaaGreatDoorTopSameC13
import Derived.Test.YtjjelkdajdeikaaGreatDoorTopSameC2
import Derived.Test.YtjjelkdajdeikaaGreatDoorTopSameC12
import Derived.Test.YtjjelkdajdeikaaGreatDoorTopSameC1
import Derived.Test.YtjjelkdajdeikaaGreatDoorProg
import Derived.ProofKit
import Derived.OpenShut
import Derived.ShutString
import Derived.ChangeOld
import Derived.Lib.SmallJoins
import Derived.Deep.Slices
import Derived.SizedLaws
namespace Go.Proofs.YtjjelkdajdeikaaGreatDoor
open Go.RowKit
set_option maxRecDepth 20000
def LC2 (S1 S2 B : Nat) (w0 : World) (L0 L1 L2 : Nat → Nat → Int) (l : Array Bool) (W : World) : Prop := G5 W B (if l.getD S2 false = true then L2 else if l.getD S1 false = true then L1 else L0) ∧ But B w0 W
set_option maxHeartbeats 8000000 in
theorem lines8 {Q : Exit → Act → World → Prop} {a0 : Act} {w0 : World} {L : Nat → Nat → Int} {B X xa xb : Nat} {xn : Int}
  (hsize : a0.tmps.size = 57)
  (q5 : a0.tmps[5]?.getD undef = .pointer (some ⟨B, 0, none⟩))
  (q7 : a0.tmps[7]?.getD undef = .pointer (some ⟨X, 0, none⟩))
  (hX : X < w0.heap.size)
  (hne : X ≠ B)
  (ha : xa < 5)
  (hb : xb < 5)
  (C1 : w0.cell? ⟨X, 1, none⟩ = some (.int .i64 xa))
  (C2 : w0.cell? ⟨X, 2, none⟩ = some (.int .i64 xb))
  (C3 : w0.cell? ⟨X, 3, none⟩ = some (.int .i64 xn))
  (HG : G5 w0 B L)
  (hQ : ∀ xs W, xs.length = 16 → G5 W B (Pl.line L xa xb xn) → But B w0 W → Q .normal { a0 with tmps := setFrom a0.tmps 25 xs } W) :
  ∀ ops, regIn Tryz.f26 8 = some ops → (Code.region 8 ops true).wp Tryz.prog Q a0 w0 := by
 intro ops hops
 have eo := Option.some.inj (hops.symm.trans (rfl : regIn Tryz.f26 8 = some _))
 subst eo
 clear hops
 have hsz : 25 + 16 ≤ a0.tmps.size := by omega
 refine wp_region_any (by kernel_rfl) ?_
 refine wpAny_inv2 (LInv a0 25 16 18 (fun k => if k = 14 ∨ k = 17 then none else some (([0, 1, 2, 3, 4, 5, 6, 7, 8, 9, 10, 11, 12, 13, 0, 14, 15, 0] : List Nat).getD k 0)) (fun j => ([.pointer (some ⟨X, 1, none⟩), .int .i64 xa, .pointer (some ⟨X, 2, none⟩), .int .i64 xb, .pointer (some ⟨X, 2, none⟩), .int .i64 xb, .pointer (some ⟨X, 1, none⟩), .int .i64 xa, .pointer (some ⟨X, 3, none⟩), .int .i64 xn, .pointer (some ⟨X, 3, none⟩), .int .i64 xn, .pointer (some ⟨B, xa * 5, none⟩), .pointer (some ⟨B, xa * 5 + xb, none⟩), .pointer (some ⟨B, xb * 5, none⟩), .pointer (some ⟨B, xb * 5 + xa, none⟩)] : List Value).getD j undef) (LC2 14 17 B w0 L (Pl.upd L xa (Pl.upd (L xa) xb xn)) (Pl.upd (Pl.upd L xa (Pl.upd (L xa) xb xn)) xb (Pl.upd ((Pl.upd L xa (Pl.upd (L xa) xb xn)) xb) xa xn)))) ?_ ?_ _ _ _ _ (by decide +kernel) ?_ (closed_start _ _ _)
 ·rintro i listed a' W hi hCl hI
  rw [mem_ready] at hi
  obtain ⟨hl0, o, ho, hall⟩ := hi
  have hlti : i < 18 := (Array.getElem?_eq_some_iff.1 ho).1
  have o5 := (hI.out (k := 5) (by omega)).trans q5
  have o7 := (hI.out (k := 7) (by omega)).trans q7
  obtain ⟨hg, hu⟩ := hI.cw
  have c1 := (hu.cell (p := ⟨X, 1, none⟩) hX hne).trans C1
  have c2 := (hu.cell (p := ⟨X, 2, none⟩) hX hne).trans C2
  have c3 := (hu.cell (p := ⟨X, 3, none⟩) hX hne).trans C3
  have hai : (xa : Int) < 5 := by omega
  have hbi : (xb : Int) < 5 := by omega
  have hcs : i = 0 ∨ i = 1 ∨ i = 2 ∨ i = 3 ∨ i = 4 ∨ i = 5 ∨ i = 6 ∨ i = 7 ∨ i = 8 ∨ i = 9 ∨ i = 10 ∨ i = 11 ∨ i = 12 ∨ i = 13 ∨ i = 14 ∨ i = 15 ∨ i = 16 ∨ i = 17 := by omega
  rcases hcs with rfl | rfl | rfl | rfl | rfl | rfl | rfl | rfl | rfl | rfl | rfl | rfl | rfl | rfl | rfl | rfl | rfl | rfl
  all_goals
   simp at ho
   subst ho
  ·refine wpOp_of rfl rfl ?_
   simp [Oper.wp, go_sem, o7]
   exact hI.put (i := 0) (j := 0) rfl (by omega) rfl ⟨by rw [getD_set_ne false (by omega), getD_set_ne false (by omega)]; exact hg, hu⟩
  ·refine wpOp_of rfl rfl ?_
   have e25 : a'.tmps[25]?.getD undef = .pointer (some ⟨X, 1, none⟩) := hI.at (k := 0) (j := 0) hsz rfl (by omega) (hall ⟨0, .data⟩ (by simp) rfl)
   simp [Oper.wp, go_sem, e25, c1]
   exact hI.put (i := 1) (j := 1) rfl (by omega) rfl ⟨by rw [getD_set_ne false (by omega), getD_set_ne false (by omega)]; exact hg, hu⟩
  ·refine wpOp_of rfl rfl ?_
   simp [Oper.wp, go_sem, o7]
   exact hI.put (i := 2) (j := 2) rfl (by omega) rfl ⟨by rw [getD_set_ne false (by omega), getD_set_ne false (by omega)]; exact hg, hu⟩
  ·refine wpOp_of rfl rfl ?_
   have e27 : a'.tmps[27]?.getD undef = .pointer (some ⟨X, 2, none⟩) := hI.at (k := 2) (j := 2) hsz rfl (by omega) (hall ⟨2, .data⟩ (by simp) rfl)
   simp [Oper.wp, go_sem, e27, c2]
   exact hI.put (i := 3) (j := 3) rfl (by omega) rfl ⟨by rw [getD_set_ne false (by omega), getD_set_ne false (by omega)]; exact hg, hu⟩
  ·refine wpOp_of rfl rfl ?_
   simp [Oper.wp, go_sem, o7]
   exact hI.put (i := 4) (j := 4) rfl (by omega) rfl ⟨by rw [getD_set_ne false (by omega), getD_set_ne false (by omega)]; exact hg, hu⟩
  ·refine wpOp_of rfl rfl ?_
   have e29 : a'.tmps[29]?.getD undef = .pointer (some ⟨X, 2, none⟩) := hI.at (k := 4) (j := 4) hsz rfl (by omega) (hall ⟨4, .data⟩ (by simp) rfl)
   simp [Oper.wp, go_sem, e29, c2]
   exact hI.put (i := 5) (j := 5) rfl (by omega) rfl ⟨by rw [getD_set_ne false (by omega), getD_set_ne false (by omega)]; exact hg, hu⟩
  ·refine wpOp_of rfl rfl ?_
   simp [Oper.wp, go_sem, o7]
   exact hI.put (i := 6) (j := 6) rfl (by omega) rfl ⟨by rw [getD_set_ne false (by omega), getD_set_ne false (by omega)]; exact hg, hu⟩
  ·refine wpOp_of rfl rfl ?_
   have e31 : a'.tmps[31]?.getD undef = .pointer (some ⟨X, 1, none⟩) := hI.at (k := 6) (j := 6) hsz rfl (by omega) (hall ⟨6, .data⟩ (by simp) rfl)
   simp [Oper.wp, go_sem, e31, c1]
   exact hI.put (i := 7) (j := 7) rfl (by omega) rfl ⟨by rw [getD_set_ne false (by omega), getD_set_ne false (by omega)]; exact hg, hu⟩
  ·refine wpOp_of rfl rfl ?_
   simp [Oper.wp, go_sem, o7]
   exact hI.put (i := 8) (j := 8) rfl (by omega) rfl ⟨by rw [getD_set_ne false (by omega), getD_set_ne false (by omega)]; exact hg, hu⟩
  ·refine wpOp_of rfl rfl ?_
   have e33 : a'.tmps[33]?.getD undef = .pointer (some ⟨X, 3, none⟩) := hI.at (k := 8) (j := 8) hsz rfl (by omega) (hall ⟨8, .data⟩ (by simp) rfl)
   simp [Oper.wp, go_sem, e33, c3]
   exact hI.put (i := 9) (j := 9) rfl (by omega) rfl ⟨by rw [getD_set_ne false (by omega), getD_set_ne false (by omega)]; exact hg, hu⟩
  ·refine wpOp_of rfl rfl ?_
   simp [Oper.wp, go_sem, o7]
   exact hI.put (i := 10) (j := 10) rfl (by omega) rfl ⟨by rw [getD_set_ne false (by omega), getD_set_ne false (by omega)]; exact hg, hu⟩
  ·refine wpOp_of rfl rfl ?_
   have e35 : a'.tmps[35]?.getD undef = .pointer (some ⟨X, 3, none⟩) := hI.at (k := 10) (j := 10) hsz rfl (by omega) (hall ⟨10, .data⟩ (by simp) rfl)
   simp [Oper.wp, go_sem, e35, c3]
   exact hI.put (i := 11) (j := 11) rfl (by omega) rfl ⟨by rw [getD_set_ne false (by omega), getD_set_ne false (by omega)]; exact hg, hu⟩
  ·refine wpOp_of rfl rfl ?_
   have e26 : a'.tmps[26]?.getD undef = .int .i64 xa := hI.at (k := 1) (j := 1) hsz rfl (by omega) (hall ⟨1, .data⟩ (by simp) rfl)
   simp [Oper.wp, go_sem, o5, e26, hai]
   exact hI.put (i := 12) (j := 12) rfl (by omega) rfl ⟨by rw [getD_set_ne false (by omega), getD_set_ne false (by omega)]; exact hg, hu⟩
  ·refine wpOp_of rfl rfl ?_
   have e37 : a'.tmps[37]?.getD undef = .pointer (some ⟨B, xa * 5, none⟩) := hI.at (k := 12) (j := 12) hsz rfl (by omega) (hall ⟨12, .data⟩ (by simp) rfl)
   have e28 : a'.tmps[28]?.getD undef = .int .i64 xb := hI.at (k := 3) (j := 3) hsz rfl (by omega) (hall ⟨3, .data⟩ (by simp) rfl)
   simp [Oper.wp, go_sem, e37, e28, hbi]
   exact hI.put (i := 13) (j := 13) rfl (by omega) rfl ⟨by rw [getD_set_ne false (by omega), getD_set_ne false (by omega)]; exact hg, hu⟩
  ·refine wpOp_of rfl rfl ?_
   have e38 : a'.tmps[38]?.getD undef = .pointer (some ⟨B, xa * 5 + xb, none⟩) := hI.at (k := 13) (j := 13) hsz rfl (by omega) (hall ⟨13, .data⟩ (by simp) rfl)
   have e34 : a'.tmps[34]?.getD undef = .int .i64 xn := hI.at (k := 9) (j := 9) hsz rfl (by omega) (hall ⟨9, .data⟩ (by simp) rfl)
   have n2 : listed.getD 17 false = false := by
    cases hq : listed.getD 17 false
    ·rfl
    ·have h1 := hCl 17 _ rfl hq ⟨14, .chain⟩ (by simp) rfl
     have hls := hI.ls
     have hil : 14 < listed.size := by omega
     simp [hil] at h1 hl0
     rw [h1] at hl0; cases hl0
   have n1 : listed.getD 14 false = false := by
    have hls := hI.ls
    have hil : 14 < listed.size := by omega
    simp [hil] at hl0 ⊢; exact hl0
   rw [n2, n1, if_neg Bool.false_ne_true, if_neg Bool.false_ne_true] at hg
   have ec := hg.cell xa xb ha hb
   have ef := CellsAt.soft hg (xa * 5 + xb)
   simp [Oper.wp, go_sem, e38, e34, ec, ef]
   refine hI.skip (i := 14) rfl ⟨?_, hu.setCell _ _⟩
   rw [getD_set_ne false (by omega), n2, if_neg Bool.false_ne_true, listed_at (by rw [hI.ls]; omega), if_pos rfl]
   exact hg.set xa xb hb xn
  ·refine wpOp_of rfl rfl ?_
   have e30 : a'.tmps[30]?.getD undef = .int .i64 xb := hI.at (k := 5) (j := 5) hsz rfl (by omega) (hall ⟨5, .data⟩ (by simp) rfl)
   simp [Oper.wp, go_sem, o5, e30, hbi]
   exact hI.put (i := 15) (j := 14) rfl (by omega) rfl ⟨by rw [getD_set_ne false (by omega), getD_set_ne false (by omega)]; exact hg, hu⟩
  ·refine wpOp_of rfl rfl ?_
   have e39 : a'.tmps[39]?.getD undef = .pointer (some ⟨B, xb * 5, none⟩) := hI.at (k := 15) (j := 14) hsz rfl (by omega) (hall ⟨15, .data⟩ (by simp) rfl)
   have e32 : a'.tmps[32]?.getD undef = .int .i64 xa := hI.at (k := 7) (j := 7) hsz rfl (by omega) (hall ⟨7, .data⟩ (by simp) rfl)
   simp [Oper.wp, go_sem, e39, e32, hai]
   exact hI.put (i := 16) (j := 15) rfl (by omega) rfl ⟨by rw [getD_set_ne false (by omega), getD_set_ne false (by omega)]; exact hg, hu⟩
  ·refine wpOp_of rfl rfl ?_
   have e40 : a'.tmps[40]?.getD undef = .pointer (some ⟨B, xb * 5 + xa, none⟩) := hI.at (k := 16) (j := 15) hsz rfl (by omega) (hall ⟨16, .data⟩ (by simp) rfl)
   have e36 : a'.tmps[36]?.getD undef = .int .i64 xn := hI.at (k := 11) (j := 11) hsz rfl (by omega) (hall ⟨11, .data⟩ (by simp) rfl)
   have n1 : listed.getD 14 false = true := hall ⟨14, .chain⟩ (by simp) rfl
   have n2 : listed.getD 17 false = false := by
    have hls := hI.ls
    have hil : 17 < listed.size := by omega
    simp [hil] at hl0 ⊢; exact hl0
   rw [n2, n1, if_neg Bool.false_ne_true, if_pos rfl] at hg
   have ec := hg.cell xb xa hb ha
   have ef := CellsAt.soft hg (xb * 5 + xa)
   simp [Oper.wp, go_sem, e40, e36, ec, ef]
   refine hI.skip (i := 17) rfl ⟨?_, hu.setCell _ _⟩
   rw [listed_at (by rw [hI.ls]; omega), if_pos rfl]
   exact hg.set xb xa ha xn
 ·rintro listed a' W hr hI
  have hal := all_listed2 (by decide +kernel) hI.ls hr
  obtain ⟨xs, hxl, rfl, -⟩ := hI.fr
  obtain ⟨hg, hu⟩ := hI.cw
  rw [hal 17 (by decide), if_pos rfl] at hg
  exact hQ xs W hxl (hg.ext fun x y _ _ => Pl.line_two L xa xb xn x y) hu
 ·refine LInv.start hsz ⟨?_, (But.refl _ _).drawn 1⟩
  rw [none_listed, none_listed, if_neg Bool.false_ne_true, if_neg Bool.false_ne_true]
  exact HG
set_option maxHeartbeats 8000000 in
theorem lines10 {Q : Exit → Act → World → Prop} {a0 : Act} {w0 : World} {L : Nat → Nat → Int} {B X xa xb : Nat}
  (hsize : a0.tmps.size = 57)
  (q5 : a0.tmps[5]?.getD undef = .pointer (some ⟨B, 0, none⟩))
  (q7 : a0.tmps[7]?.getD undef = .pointer (some ⟨X, 0, none⟩))
  (hX : X < w0.heap.size)
  (hne : X ≠ B)
  (ha : xa < 5)
  (hb : xb < 5)
  (C1 : w0.cell? ⟨X, 1, none⟩ = some (.int .i64 xa))
  (C2 : w0.cell? ⟨X, 2, none⟩ = some (.int .i64 xb))
  (HG : G5 w0 B L)
  (hQ : ∀ xs W, xs.length = 12 → G5 W B (Pl.line L xa xb 0) → But B w0 W → Q .normal { a0 with tmps := setFrom a0.tmps 43 xs } W) :
  ∀ ops, regIn Tryz.f26 10 = some ops → (Code.region 10 ops true).wp Tryz.prog Q a0 w0 := by
 intro ops hops
 have eo := Option.some.inj (hops.symm.trans (rfl : regIn Tryz.f26 10 = some _))
 subst eo
 clear hops
 have hsz : 43 + 12 ≤ a0.tmps.size := by omega
 refine wp_region_any (by kernel_rfl) ?_
 refine wpAny_inv2 (LInv a0 43 12 14 (fun k => if k = 10 ∨ k = 13 then none else some (([0, 1, 2, 3, 4, 5, 6, 7, 8, 9, 0, 10, 11, 0] : List Nat).getD k 0)) (fun j => ([.pointer (some ⟨X, 1, none⟩), .int .i64 xa, .pointer (some ⟨X, 2, none⟩), .int .i64 xb, .pointer (some ⟨X, 2, none⟩), .int .i64 xb, .pointer (some ⟨X, 1, none⟩), .int .i64 xa, .pointer (some ⟨B, xa * 5, none⟩), .pointer (some ⟨B, xa * 5 + xb, none⟩), .pointer (some ⟨B, xb * 5, none⟩), .pointer (some ⟨B, xb * 5 + xa, none⟩)] : List Value).getD j undef) (LC2 10 13 B w0 L (Pl.upd L xa (Pl.upd (L xa) xb 0)) (Pl.upd (Pl.upd L xa (Pl.upd (L xa) xb 0)) xb (Pl.upd ((Pl.upd L xa (Pl.upd (L xa) xb 0)) xb) xa 0)))) ?_ ?_ _ _ _ _ (by decide +kernel) ?_ (closed_start _ _ _)
 ·rintro i listed a' W hi hCl hI
  rw [mem_ready] at hi
  obtain ⟨hl0, o, ho, hall⟩ := hi
  have hlti : i < 14 := (Array.getElem?_eq_some_iff.1 ho).1
  have o5 := (hI.out (k := 5) (by omega)).trans q5
  have o7 := (hI.out (k := 7) (by omega)).trans q7
  obtain ⟨hg, hu⟩ := hI.cw
  have c1 := (hu.cell (p := ⟨X, 1, none⟩) hX hne).trans C1
  have c2 := (hu.cell (p := ⟨X, 2, none⟩) hX hne).trans C2
  have hai : (xa : Int) < 5 := by omega
  have hbi : (xb : Int) < 5 := by omega
  have hcs : i = 0 ∨ i = 1 ∨ i = 2 ∨ i = 3 ∨ i = 4 ∨ i = 5 ∨ i = 6 ∨ i = 7 ∨ i = 8 ∨ i = 9 ∨ i = 10 ∨ i = 11 ∨ i = 12 ∨ i = 13 := by omega
  rcases hcs with rfl | rfl | rfl | rfl | rfl | rfl | rfl | rfl | rfl | rfl | rfl | rfl | rfl | rfl
  all_goals
   simp at ho
   subst ho
  ·refine wpOp_of rfl rfl ?_
   simp [Oper.wp, go_sem, o7]
   exact hI.put (i := 0) (j := 0) rfl (by omega) rfl ⟨by rw [getD_set_ne false (by omega), getD_set_ne false (by omega)]; exact hg, hu⟩
  ·refine wpOp_of rfl rfl ?_
   have e43 : a'.tmps[43]?.getD undef = .pointer (some ⟨X, 1, none⟩) := hI.at (k := 0) (j := 0) hsz rfl (by omega) (hall ⟨0, .data⟩ (by simp) rfl)
   simp [Oper.wp, go_sem, e43, c1]
   exact hI.put (i := 1) (j := 1) rfl (by omega) rfl ⟨by rw [getD_set_ne false (by omega), getD_set_ne false (by omega)]; exact hg, hu⟩
  ·refine wpOp_of rfl rfl ?_
   simp [Oper.wp, go_sem, o7]
   exact hI.put (i := 2) (j := 2) rfl (by omega) rfl ⟨by rw [getD_set_ne false (by omega), getD_set_ne false (by omega)]; exact hg, hu⟩
  ·refine wpOp_of rfl rfl ?_
   have e45 : a'.tmps[45]?.getD undef = .pointer (some ⟨X, 2, none⟩) := hI.at (k := 2) (j := 2) hsz rfl (by omega) (hall ⟨2, .data⟩ (by simp) rfl)
   simp [Oper.wp, go_sem, e45, c2]
   exact hI.put (i := 3) (j := 3) rfl (by omega) rfl ⟨by rw [getD_set_ne false (by omega), getD_set_ne false (by omega)]; exact hg, hu⟩
  ·refine wpOp_of rfl rfl ?_
   simp [Oper.wp, go_sem, o7]
   exact hI.put (i := 4) (j := 4) rfl (by omega) rfl ⟨by rw [getD_set_ne false (by omega), getD_set_ne false (by omega)]; exact hg, hu⟩
  ·refine wpOp_of rfl rfl ?_
   have e47 : a'.tmps[47]?.getD undef = .pointer (some ⟨X, 2, none⟩) := hI.at (k := 4) (j := 4) hsz rfl (by omega) (hall ⟨4, .data⟩ (by simp) rfl)
   simp [Oper.wp, go_sem, e47, c2]
   exact hI.put (i := 5) (j := 5) rfl (by omega) rfl ⟨by rw [getD_set_ne false (by omega), getD_set_ne false (by omega)]; exact hg, hu⟩
  ·refine wpOp_of rfl rfl ?_
   simp [Oper.wp, go_sem, o7]
   exact hI.put (i := 6) (j := 6) rfl (by omega) rfl ⟨by rw [getD_set_ne false (by omega), getD_set_ne false (by omega)]; exact hg, hu⟩
  ·refine wpOp_of rfl rfl ?_
   have e49 : a'.tmps[49]?.getD undef = .pointer (some ⟨X, 1, none⟩) := hI.at (k := 6) (j := 6) hsz rfl (by omega) (hall ⟨6, .data⟩ (by simp) rfl)
   simp [Oper.wp, go_sem, e49, c1]
   exact hI.put (i := 7) (j := 7) rfl (by omega) rfl ⟨by rw [getD_set_ne false (by omega), getD_set_ne false (by omega)]; exact hg, hu⟩
  ·refine wpOp_of rfl rfl ?_
   have e44 : a'.tmps[44]?.getD undef = .int .i64 xa := hI.at (k := 1) (j := 1) hsz rfl (by omega) (hall ⟨1, .data⟩ (by simp) rfl)
   simp [Oper.wp, go_sem, o5, e44, hai]
   exact hI.put (i := 8) (j := 8) rfl (by omega) rfl ⟨by rw [getD_set_ne false (by omega), getD_set_ne false (by omega)]; exact hg, hu⟩
  ·refine wpOp_of rfl rfl ?_
   have e51 : a'.tmps[51]?.getD undef = .pointer (some ⟨B, xa * 5, none⟩) := hI.at (k := 8) (j := 8) hsz rfl (by omega) (hall ⟨8, .data⟩ (by simp) rfl)
   have e46 : a'.tmps[46]?.getD undef = .int .i64 xb := hI.at (k := 3) (j := 3) hsz rfl (by omega) (hall ⟨3, .data⟩ (by simp) rfl)
   simp [Oper.wp, go_sem, e51, e46, hbi]
   exact hI.put (i := 9) (j := 9) rfl (by omega) rfl ⟨by rw [getD_set_ne false (by omega), getD_set_ne false (by omega)]; exact hg, hu⟩
  ·refine wpOp_of rfl rfl ?_
   have e52 : a'.tmps[52]?.getD undef = .pointer (some ⟨B, xa * 5 + xb, none⟩) := hI.at (k := 9) (j := 9) hsz rfl (by omega) (hall ⟨9, .data⟩ (by simp) rfl)
   have n2 : listed.getD 13 false = false := by
    cases hq : listed.getD 13 false
    ·rfl
    ·have h1 := hCl 13 _ rfl hq ⟨10, .chain⟩ (by simp) rfl
     have hls := hI.ls
     have hil : 10 < listed.size := by omega
     simp [hil] at h1 hl0
     rw [h1] at hl0; cases hl0
   have n1 : listed.getD 10 false = false := by
    have hls := hI.ls
    have hil : 10 < listed.size := by omega
    simp [hil] at hl0 ⊢; exact hl0
   rw [n2, n1, if_neg Bool.false_ne_true, if_neg Bool.false_ne_true] at hg
   have ec := hg.cell xa xb ha hb
   have ef := CellsAt.soft hg (xa * 5 + xb)
   simp [Oper.wp, go_sem, e52, ec, ef]
   refine hI.skip (i := 10) rfl ⟨?_, hu.setCell _ _⟩
   rw [getD_set_ne false (by omega), n2, if_neg Bool.false_ne_true, listed_at (by rw [hI.ls]; omega), if_pos rfl]
   exact hg.set xa xb hb 0
  ·refine wpOp_of rfl rfl ?_
   have e48 : a'.tmps[48]?.getD undef = .int .i64 xb := hI.at (k := 5) (j := 5) hsz rfl (by omega) (hall ⟨5, .data⟩ (by simp) rfl)
   simp [Oper.wp, go_sem, o5, e48, hbi]
   exact hI.put (i := 11) (j := 10) rfl (by omega) rfl ⟨by rw [getD_set_ne false (by omega), getD_set_ne false (by omega)]; exact hg, hu⟩
  ·refine wpOp_of rfl rfl ?_
   have e53 : a'.tmps[53]?.getD undef = .pointer (some ⟨B, xb * 5, none⟩) := hI.at (k := 11) (j := 10) hsz rfl (by omega) (hall ⟨11, .data⟩ (by simp) rfl)
   have e50 : a'.tmps[50]?.getD undef = .int .i64 xa := hI.at (k := 7) (j := 7) hsz rfl (by omega) (hall ⟨7, .data⟩ (by simp) rfl)
   simp [Oper.wp, go_sem, e53, e50, hai]
   exact hI.put (i := 12) (j := 11) rfl (by omega) rfl ⟨by rw [getD_set_ne false (by omega), getD_set_ne false (by omega)]; exact hg, hu⟩
  ·refine wpOp_of rfl rfl ?_
   have e54 : a'.tmps[54]?.getD undef = .pointer (some ⟨B, xb * 5 + xa, none⟩) := hI.at (k := 12) (j := 11) hsz rfl (by omega) (hall ⟨12, .data⟩ (by simp) rfl)
   have n1 : listed.getD 10 false = true := hall ⟨10, .chain⟩ (by simp) rfl
   have n2 : listed.getD 13 false = false := by
    have hls := hI.ls
    have hil : 13 < listed.size := by omega
    simp [hil] at hl0 ⊢; exact hl0
   rw [n2, n1, if_neg Bool.false_ne_true, if_pos rfl] at hg
   have ec := hg.cell xb xa hb ha
   have ef := CellsAt.soft hg (xb * 5 + xa)
   simp [Oper.wp, go_sem, e54, ec, ef]
   refine hI.skip (i := 13) rfl ⟨?_, hu.setCell _ _⟩
   rw [listed_at (by rw [hI.ls]; omega), if_pos rfl]
   exact hg.set xb xa ha 0
 ·rintro listed a' W hr hI
  have hal := all_listed2 (by decide +kernel) hI.ls hr
  obtain ⟨xs, hxl, rfl, -⟩ := hI.fr
  obtain ⟨hg, hu⟩ := hI.cw
  rw [hal 13 (by decide), if_pos rfl] at hg
  exact hQ xs W hxl (hg.ext fun x y _ _ => Pl.line_two L xa xb 0 x y) hu
 ·refine LInv.start hsz ⟨?_, (But.refl _ _).drawn 1⟩
  rw [none_listed, none_listed, if_neg Bool.false_ne_true, if_neg Bool.false_ne_true]
  exact HG
theorem listN12 (xs : List Value) (h : xs.length = 12) : ∃ x0 x1 x2 x3 x4 x5 x6 x7 x8 x9 x10 x11, xs = [x0, x1, x2, x3, x4, x5, x6, x7, x8, x9, x10, x11] := by
 obtain ⟨x0, y0, rfl, h0⟩ := consN h
 obtain ⟨x1, y1, rfl, h1⟩ := consN h0
 obtain ⟨x2, y2, rfl, h2⟩ := consN h1
 obtain ⟨x3, y3, rfl, h3⟩ := consN h2
 obtain ⟨x4, y4, rfl, h4⟩ := consN h3
 obtain ⟨x5, y5, rfl, h5⟩ := consN h4
 obtain ⟨x6, y6, rfl, h6⟩ := consN h5
 obtain ⟨x7, y7, rfl, h7⟩ := consN h6
 obtain ⟨x8, y8, rfl, h8⟩ := consN h7
 obtain ⟨x9, y9, rfl, h9⟩ := consN h8
 obtain ⟨x10, y10, rfl, h10⟩ := consN h9
 obtain ⟨x11, y11, rfl, h11⟩ := consN h10
 obtain rfl := List.length_eq_zero_iff.1 h11
 exact ⟨x0, x1, x2, x3, x4, x5, x6, x7, x8, x9, x10, x11, rfl⟩
def rpv (ts : List RpV) (i : Nat) : RpV := ts.getD i ⟨undef, undef, Pl.Rp.no 0⟩
theorem cellsRp_get : ∀ (ts : List RpV) (i k : Nat), i < ts.length → k < 4 → (cellsRp ts)[i * 4 + k]? = ([.int .i64 (rpv ts i).r.code, (rpv ts i).vp, .int .i64 (rpv ts i).r.cost, (rpv ts i).vk] : List Value)[k]?
 | [], i, k, h, _ => by simp at h
 | t :: r, 0, k, _, hk => by
  rw [Nat.zero_mul, Nat.zero_add]
  show (Value.int .i64 t.r.code :: t.vp :: .int .i64 t.r.cost :: t.vk :: cellsRp r)[k]? = ([.int .i64 t.r.code, t.vp, .int .i64 t.r.cost, t.vk] : List Value)[k]?
  match k, hk with
  | 0, _ => rfl
  | 1, _ => rfl
  | 2, _ => rfl
  | 3, _ => rfl
 | t :: r, i + 1, k, h, hk => by
  show (Value.int .i64 t.r.code :: t.vp :: .int .i64 t.r.cost :: t.vk :: cellsRp r)[(i + 1) * 4 + k]? = _
  rw [show (i + 1) * 4 + k = (i * 4 + k) + 4 by omega]
  simp only [List.getElem?_cons_succ]
  exact cellsRp_get r i k (by simpa using h) hk
def RepsAt (w : World) (g : Nat) (ts : List RpV) : Prop := ∀ i, i < ts.length → w.cell? ⟨g, i * 4, none⟩ = some (.int .i64 (rpv ts i).r.code) ∧ w.cell? ⟨g, i * 4 + 1, none⟩ = some (rpv ts i).vp ∧ w.cell? ⟨g, i * 4 + 2, none⟩ = some (.int .i64 (rpv ts i).r.cost) ∧ w.cell? ⟨g, i * 4 + 3, none⟩ = some (rpv ts i).vk
theorem OwnRp.reps {w : World} {base : Nat} {v : Value} {ts : List RpV} (h : OwnRp w base v ts) : ∃ a cap, v = .slice a ts.length cap ∧ ts.length ≤ cap ∧ cap ≤ maxLen ∧ (ts.length = 0 ∨ ∃ g, a = some ⟨g, 0, none⟩ ∧ base ≤ g ∧ g < w.heap.size ∧ RepsAt w g ts) := by
 obtain ⟨⟨hl, ⟨rfl, hn⟩ | ⟨g, cap, cur, rfl, hb, hh, hn, hm, hs, hx⟩⟩, _⟩ := h
 ·exact ⟨none, 0, by rw [hn], by omega, by unfold maxLen; omega, .inl hn⟩
 ·refine ⟨_, cap, rfl, hn, hm, .inr ⟨g, rfl, hb, blockLt hh, fun i hi => ?_⟩⟩
  have hc : ∀ j u, (cellsRp ts)[j]? = some u → w.cell? ⟨g, j, none⟩ = some u := by
   intro j u hj
   rw [← hx] at hj
   have hj' : cur[j]? = some u := by
    rw [List.getElem?_take] at hj
    split at hj
    ·rw [← Array.getElem?_toList]; exact hj
    ·cases hj
   simp [World.cell?, hh, hj']
  have h0 := cellsRp_get ts i 0 hi (by omega)
  have h1 := cellsRp_get ts i 1 hi (by omega)
  have h2 := cellsRp_get ts i 2 hi (by omega)
  have h3 := cellsRp_get ts i 3 hi (by omega)
  exact ⟨hc _ _ h0, hc _ _ h1, hc _ _ h2, hc _ _ h3⟩
def StoresAt (w : World) (g : Nat) (A : Nat → Option Addr) (C : Nat → Nat) (K : Nat → List Pl.Ent) : Prop := ∀ i, i < 12 → w.cell? ⟨g, i, none⟩ = some (.slice (A i) (K i).length (C i)) ∧ IsEnts w (A i) (K i).length (C i) (K i) ∧ (A i = none → C i = 0)
theorem StoresAt.below {w w' : World} {g : Nat} {A : Nat → Option Addr} {C : Nat → Nat} {K : Nat → List Pl.Ent} (h : StoresAt w g A C K) (hg : g < w.heap.size) (k : Below w.heap.size w w') : StoresAt w' g A C K := fun i hi => by
 obtain ⟨h0, h1, h2⟩ := h i hi
 exact ⟨(k.cell (p := ⟨g, _, none⟩) hg).trans h0, h1.below k, h2⟩
theorem OwnL.stores {w : World} {base : Nat} {v : Value} {us : List Value} {K : Nat → List Pl.Ent} (h : OwnL w base v us) (h12 : us.length = 12) (hu : ∀ i, i < 12 → Own w base (us.getD i undef) (K i)) (hok : ∀ i, ∀ e ∈ K i, e.ok) :
  ∃ g cap A C, v = .slice (some ⟨g, 0, none⟩) 12 cap ∧ base ≤ g ∧ g < w.heap.size ∧ 12 ≤ cap ∧ cap ≤ maxLen ∧ StoresAt w g A C K := by
 have hs : ∀ i, ∃ p : Option Addr × Nat, i < 12 → us.getD i undef = .slice p.1 (K i).length p.2 ∧ IsEnts w p.1 (K i).length p.2 (K i) ∧ (p.1 = none → p.2 = 0) := by
  intro i
  by_cases hi : i < 12
  ·obtain ⟨a, cap, e, hE, hn, _⟩ := (hu i hi).shape (hok i)
   exact ⟨(a, cap), fun _ => ⟨e, hE, hn⟩⟩
  ·exact ⟨(none, 0), fun h => absurd h hi⟩
 obtain ⟨F, hF⟩ := Classical.axiomOfChoice hs
 obtain ⟨hl, ⟨rfl, hn⟩ | ⟨g, cap, cur, rfl, hb, hh, hn, hm, hs, hx⟩⟩ := h
 ·omega
 ·rw [h12] at hn
  refine ⟨g, cap, fun i => (F i).1, fun i => (F i).2, by rw [h12], hb, blockLt hh, hn, hm, fun i hi => ?_⟩
  obtain ⟨e, hE, hnn⟩ := hF i hi
  refine ⟨?_, hE, hnn⟩
  rw [← e]
  have hj : us[i]? = some (us.getD i undef) := by rw [List.getD_eq_getElem?_getD, List.getElem?_eq_getElem (by omega)]; rfl
  rw [← hx] at hj
  have hj' : cur[i]? = some ((cur.toList.take (us.length * 1)).getD i undef) := by
   rw [List.getElem?_take] at hj
   split at hj
   ·rw [← Array.getElem?_toList]; exact hj
   ·cases hj
  rw [hx] at hj'
  simp [World.cell?, hh, hj']
theorem RunP.read {w0 w : World} {xs : List Pl.Ac} {vr vs : Value} (h : RunP w0 xs w vr vs) :
  ∃ ts ar cr gs cs A C, vr = .slice ar xs.length cr ∧ vs = .slice (some ⟨gs, 0, none⟩) 12 cs ∧ ts.map RpV.r = Pl.runR Pl.Nt.new xs ∧ ts.length = xs.length ∧ xs.length ≤ cr ∧ cr ≤ maxLen ∧ 12 ≤ cs ∧ cs ≤ maxLen ∧ gs < w.heap.size ∧
   (xs.length = 0 ∨ ∃ g, ar = some ⟨g, 0, none⟩ ∧ g < w.heap.size ∧ RepsAt w g ts) ∧ (∀ t ∈ ts, OwnZ w w0.heap.size t.vp t.r.path ∧ OwnS w w0.heap.size t.vk t.r.keys) ∧ StoresAt w gs A C (Pl.runN Pl.Nt.new xs).K := by
 obtain ⟨⟨ts, ht, hts⟩, us, hu, h12, hk⟩ := h
 have hl : ts.length = xs.length := by have := congrArg List.length hts; rwa [List.length_map, Pl.runR_len] at this
 obtain ⟨ar, cr, rfl, r1, r2, r3⟩ := ht.reps
 obtain ⟨gs, cs, A, C, rfl, _, s2, s3, s4, s5⟩ := hu.stores h12 hk fun i => Pl.Good.ok ((Pl.good_iff _).1 ((Pl.GoodN.new.run xs).K i))
 rw [hl] at r1 r3
 refine ⟨ts, ar, cr, gs, cs, A, C, by rw [hl], rfl, hts, hl, r1, r2, s3, s4, s2, ?_, ht.2, s5⟩
 rcases r3 with h | ⟨g, h1, _, h3, h4⟩
 ·exact .inl h
 ·exact .inr ⟨g, h1, h3, h4⟩
theorem rpv_r (ts : List RpV) (i : Nat) : (rpv ts i).r = (ts.map RpV.r).getD i (Pl.Rp.no 0) := by
 unfold rpv
 rw [List.getD_eq_getElem?_getD, List.getD_eq_getElem?_getD, List.getElem?_map]
 cases ts[i]? <;> rfl
set_option maxHeartbeats 8000000 in
theorem Lines_any (a : Option Addr) (n cap : Nat) (xs ys : List Pl.Ac) (gr m mc : Nat) (ts : List RpV) (w : World) (h : IsActs w a n cap xs) (hd : ∀ x ∈ xs, Pl.Dr x) (hts : ts.map RpV.r = Pl.runR Pl.Nt.new (xs ++ ys)) (hm : ts.length = m) (hmc : m ≤ mc) (hmm : mc ≤ maxLen) (hr : RepsAt w gr ts) (hg : gr < w.heap.size) :
  Calls Tryz.prog 26 #[.slice a n cap, .slice (some ⟨gr, 0, none⟩) m mc] w fun e w' => e = .returned (.agg (cells25 (Pl.runN Pl.Nt.new xs).L).toArray) ∧ Below w.heap.size w w' := by
 have HI := hid h
 have HD := hid hd
 have HTS := hid hts
 have HR := hid hr
 have HLN : Hid (xs.length = n) := hid h.1
 have HTL : Hid (ts.length = m) := hid hm
 have hnm : n ≤ m := by
  have := congrArg List.length hts
  rw [List.length_map, Pl.runR_len, List.length_append, hm, h.1] at this
  omega
 have hcap := h.2.1
 have hmx := h.2.2.1
 unfold maxLen at hmx hmm
 clear h hd hts hm hr
 have n0 := G5.new w
 have n1 := G5.new (w.alloc (.cells #[.int .i64 0, .int .i64 0, .int .i64 0, .int .i64 0, .int .i64 0, .int .i64 0, .int .i64 0, .int .i64 0, .int .i64 0, .int .i64 0, .int .i64 0, .int .i64 0, .int .i64 0, .int .i64 0, .int .i64 0, .int .i64 0, .int .i64 0, .int .i64 0, .int .i64 0, .int .i64 0, .int .i64 0, .int .i64 0, .int .i64 0, .int .i64 0, .int .i64 0] 61))
 have n2 : G5 ((w.alloc (.cells #[.int .i64 0, .int .i64 0, .int .i64 0, .int .i64 0, .int .i64 0, .int .i64 0, .int .i64 0, .int .i64 0, .int .i64 0, .int .i64 0, .int .i64 0, .int .i64 0, .int .i64 0, .int .i64 0, .int .i64 0, .int .i64 0, .int .i64 0, .int .i64 0, .int .i64 0, .int .i64 0, .int .i64 0, .int .i64 0, .int .i64 0, .int .i64 0, .int .i64 0] 61)).alloc (.cells #[.int .i64 0, .int .i64 0, .int .i64 0, .int .i64 0, .int .i64 0, .int .i64 0, .int .i64 0, .int .i64 0, .int .i64 0, .int .i64 0, .int .i64 0, .int .i64 0, .int .i64 0, .int .i64 0, .int .i64 0, .int .i64 0, .int .i64 0, .int .i64 0, .int .i64 0, .int .i64 0, .int .i64 0, .int .i64 0, .int .i64 0, .int .i64 0, .int .i64 0] 61)) w.heap.size (fun _ _ => 0) := CellsAt.below n0 ((Below.refl _ _).alloc (Nat.le_refl _) _)
 rw [show (w.alloc (.cells #[.int .i64 0, .int .i64 0, .int .i64 0, .int .i64 0, .int .i64 0, .int .i64 0, .int .i64 0, .int .i64 0, .int .i64 0, .int .i64 0, .int .i64 0, .int .i64 0, .int .i64 0, .int .i64 0, .int .i64 0, .int .i64 0, .int .i64 0, .int .i64 0, .int .i64 0, .int .i64 0, .int .i64 0, .int .i64 0, .int .i64 0, .int .i64 0, .int .i64 0] 61)).heap.size = w.heap.size + 1 by simp] at n1
 have nb : Below w.heap.size w ((w.alloc (.cells #[.int .i64 0, .int .i64 0, .int .i64 0, .int .i64 0, .int .i64 0, .int .i64 0, .int .i64 0, .int .i64 0, .int .i64 0, .int .i64 0, .int .i64 0, .int .i64 0, .int .i64 0, .int .i64 0, .int .i64 0, .int .i64 0, .int .i64 0, .int .i64 0, .int .i64 0, .int .i64 0, .int .i64 0, .int .i64 0, .int .i64 0, .int .i64 0, .int .i64 0] 61)).alloc (.cells #[.int .i64 0, .int .i64 0, .int .i64 0, .int .i64 0, .int .i64 0, .int .i64 0, .int .i64 0, .int .i64 0, .int .i64 0, .int .i64 0, .int .i64 0, .int .i64 0, .int .i64 0, .int .i64 0, .int .i64 0, .int .i64 0, .int .i64 0, .int .i64 0, .int .i64 0, .int .i64 0, .int .i64 0, .int .i64 0, .int .i64 0, .int .i64 0, .int .i64 0] 61)) := ((Below.refl _ _).alloc (Nat.le_refl _) _).alloc (by simp) _
 obtain ⟨W2, HW2⟩ : ∃ W, Hid (W = (w.alloc (.cells #[.int .i64 0, .int .i64 0, .int .i64 0, .int .i64 0, .int .i64 0, .int .i64 0, .int .i64 0, .int .i64 0, .int .i64 0, .int .i64 0, .int .i64 0, .int .i64 0, .int .i64 0, .int .i64 0, .int .i64 0, .int .i64 0, .int .i64 0, .int .i64 0, .int .i64 0, .int .i64 0, .int .i64 0, .int .i64 0, .int .i64 0, .int .i64 0, .int .i64 0] 61)).alloc (.cells #[.int .i64 0, .int .i64 0, .int .i64 0, .int .i64 0, .int .i64 0, .int .i64 0, .int .i64 0, .int .i64 0, .int .i64 0, .int .i64 0, .int .i64 0, .int .i64 0, .int .i64 0, .int .i64 0, .int .i64 0, .int .i64 0, .int .i64 0, .int .i64 0, .int .i64 0, .int .i64 0, .int .i64 0, .int .i64 0, .int .i64 0, .int .i64 0, .int .i64 0] 61)) := ⟨_, hid rfl⟩
 rw [← HW2.out] at n1 n2 nb
 have N1 := hid n1
 have N2 := hid n2
 have NB := hid nb
 clear n0 n1 n2 nb
 go_enter Tryz.func26, Tryz.ntmps26
 go_wp2_with (rw [← HW2.out])
 go_loopw [10] (fun i wr => ∃ k : Nat, k ≤ n ∧ i = .int .i64 k ∧ Hid (G5 wr (w.heap.size + 1) (Pl.runN Pl.Nt.new (xs.take k)).L) ∧ Hid (G5 wr w.heap.size (fun _ _ => 0)) ∧ Hid (Below w.heap.size w wr)) (fun i _ => n - (intOf i).toNat)
 case atStart => exact ⟨0, Nat.zero_le _, rfl, hid (by rw [List.take_zero]; exact N1.out), N2, NB⟩
 case round =>
  obtain ⟨k, hk, rfl, HG, HZ, HB⟩ := hrel
  have hzr : w.heap.size + 1 < wr.heap.size := CellsAt.lt HG.out
  by_cases hkn : k < n
  ·obtain ⟨b, off, rfl, hbw, hrow⟩ := (HI.out.below HB.out).at hkn
   obtain ⟨x, HX⟩ : ∃ x, Hid (Pl.ac xs k = x) := ⟨_, hid rfl⟩
   have hxd := HD.out _ (Pl.ac_mem xs k (by rw [HLN.out]; exact hkn))
   rw [HX.out] at hxd
   obtain ⟨c0, c1, c2, c3, c4, c5, c6, c7, c8⟩ := hrow.nine (by rw [HLN.out]; exact hkn) HX.out
   have r0 := ((HB.out.cell (p := ⟨gr, k * 4, none⟩) hg).trans (HR.out k (by rw [HTL.out]; omega)).1)
   have hgw : gr < wr.heap.size := Nat.lt_of_lt_of_le hg HB.out.size
   have hon := Pl.lines_on xs (i := k) (by rw [HLN.out]; exact hkn)
   have erp : (rpv ts k).r = Pl.rp (Pl.runR Pl.Nt.new xs) k := by
    rw [rpv_r, HTS.out]
    exact Pl.rp_app Pl.Nt.new xs ys (by rw [HLN.out]; exact hkn)
   rw [HX.out, ← erp] at hon
   obtain ⟨cd, HCD⟩ : ∃ c, Hid ((rpv ts k).r.code = c) := ⟨_, hid rfl⟩
   rw [HCD.out] at r0 hon
   have HON := hid hon
   clear hrow hon erp HI HD HTS HR HCD
   obtain ⟨L, HL⟩ : ∃ L, Hid ((Pl.runN Pl.Nt.new (xs.take k)).L = L) := ⟨_, hid rfl⟩
   rw [HL.out] at HG HON
   obtain ⟨kd, xa, xb, n', m', ⟨p1, p2⟩, ky, vl⟩ := x
   obtain ⟨_, ⟨xa0, xa1⟩, xb0, xb1⟩ := hxd
   simp only at c0 c1 c2 c3 c4 c5 c6 c7 c8 xa0 xa1 xb0 xb1 HON
   obtain ⟨ya, rfl⟩ := Int.eq_ofNat_of_zero_le xa0
   obtain ⟨yb, rfl⟩ := Int.eq_ofNat_of_zero_le xb0
   have hya : ya < 5 := by omega
   have hyb : yb < 5 := by omega
   simp only [Int.toNat_natCast] at HON
   have hkn' : (k : Int) < (n : Int) := by omega
   have hkm' : (k : Int) < (m : Int) := by omega
   obtain ⟨W1, HW1⟩ : ∃ W, Hid (W = wr.alloc (.cells #[.int .i64 kd, .int .i64 ya, .int .i64 yb, .int .i64 n', .int .i64 m', .int .i64 p1, .int .i64 p2, .string ky, .string vl] 51)) := ⟨_, hid rfl⟩
   have hb1 : Below wr.heap.size wr W1 := by rw [HW1.out]; exact (Below.refl _ _).alloc (Nat.le_refl _) _
   have hx1 : W1.heap[wr.heap.size]? = some (.cells #[.int .i64 kd, .int .i64 ya, .int .i64 yb, .int .i64 n', .int .i64 m', .int .i64 p1, .int .i64 p2, .string ky, .string vl] 51) := by rw [HW1.out]; exact heapNew _ _
   obtain ⟨e0, e1, e2, e3, e4, e5, e6, e7, e8⟩ := box9 hx1
   have hz1 : wr.heap.size < W1.heap.size := blockLt hx1
   have hgw1 : gr < W1.heap.size := by omega
   have r1 := (hb1.cell (p := ⟨gr, k * 4, none⟩) hgw).trans r0
   have HG1 : Hid (G5 W1 (w.heap.size + 1) L) := hid (CellsAt.below HG.out hb1)
   have HZ1 : Hid (G5 W1 w.heap.size (fun _ _ => 0)) := hid (CellsAt.below HZ.out hb1)
   have HB1 : Hid (Below w.heap.size w W1) := hid (HB.out.trans (hb1.mono (by omega)))
   clear hb1 hx1 r0 HG HZ
   by_cases hc : cd = 0
   ·rw [if_pos hc] at HON
    have hcb : (cd != 0) = false := by simp [hc]
    have HC := hid hc
    clear hc
    by_cases hk1 : kd = 1
    ·rw [if_pos hk1] at HON
     have hk1b : (kd == 1) = true := by simp [hk1]
     subst hk1
     go_wp2_with (rw [← HW1.out])
     rename_i K hK
     refine lines8 (B := w.heap.size + 1) (X := wr.heap.size) (xa := ya) (xb := yb) (xn := n') (L := L) rfl rfl rfl hz1 (by omega) hya hyb e1 e2 e3 HG1.out ?_ _ (by kernel_rfl)
     intro zs W hzl hg hu
     obtain ⟨x0, x1, x2, x3, x4, x5, x6, x7, x8, x9, x10, x11, x12, x13, x14, x15, rfl⟩ := listN16 zs hzl
     have HGW := hid hg
     have HUW := hid hu
     clear hg hu hzl
     simp only [setFrom_spl, spl]
     refine hK _ W ?_
     clear K hK
     go_wp2_with fail
     go_roundw
     case rel => exact ⟨k + 1, by omega, by go_num, hid (by rw [HON.out]; exact HGW.out), hid (CellsAt.but HZ1.out HUW.out (by omega)), hid (HB1.out.trans (HUW.out.below (by omega) (by omega)))⟩
     case measure => simp [intOf]; omega
    ·rw [if_neg hk1] at HON
     have hk1b : (kd == 1) = false := by simp [hk1]
     by_cases hk2 : kd = 2
     ·rw [if_pos hk2] at HON
      subst hk2
      go_wp2_with (rw [← HW1.out])
      rename_i K hK
      refine lines10 (B := w.heap.size + 1) (X := wr.heap.size) (xa := ya) (xb := yb) (L := L) rfl rfl rfl hz1 (by omega) hya hyb e1 e2 HG1.out ?_ _ (by kernel_rfl)
      intro zs W hzl hg hu
      obtain ⟨x0, x1, x2, x3, x4, x5, x6, x7, x8, x9, x10, x11, rfl⟩ := listN12 zs hzl
      have HGW := hid hg
      have HUW := hid hu
      clear hg hu hzl
      simp only [setFrom_spl, spl]
      refine hK _ W ?_
      clear K hK
      go_wp2_with fail
      go_roundw
      case rel => exact ⟨k + 1, by omega, by go_num, hid (by rw [HON.out]; exact HGW.out), hid (CellsAt.but HZ1.out HUW.out (by omega)), hid (HB1.out.trans (HUW.out.below (by omega) (by omega)))⟩
      case measure => simp [intOf]; omega
     ·rw [if_neg hk2] at HON
      have hk2b : (kd == 2) = false := by simp [hk2]
      go_wp2_with (rw [← HW1.out])
      go_roundw
      case rel => exact ⟨k + 1, by omega, by go_num, hid (by rw [HON.out]; exact HG1.out), HZ1, HB1⟩
      case measure => simp [intOf]; omega
   ·rw [if_neg hc] at HON
    have hcb : (cd != 0) = true := by simp [hc]
    clear hc
    go_wp2_with (rw [← HW1.out])
    go_roundw
    case rel => exact ⟨k + 1, by omega, by go_num, hid (by rw [HON.out]; exact HG1.out), HZ1, HB1⟩
    case measure => simp [intOf]; omega
  ·obtain rfl : k = n := by omega
   have HGF : Hid (G5 wr (w.heap.size + 1) (Pl.runN Pl.Nt.new xs).L) := hid (by have := HG.out; rwa [← HLN.out, List.take_length] at this)
   obtain ⟨L, HL⟩ : ∃ L, Hid ((Pl.runN Pl.Nt.new xs).L = L) := ⟨_, hid rfl⟩
   rw [HL.out] at HGF
   have HRA := hid HGF.out.all
   have HTH := hid (CellsAt.there HZ.out 0 25 (by omega))
   rw [← cells25_len L] at HTH
   obtain ⟨w5, HX⟩ : ∃ x, Hid (x = wr.setCells w.heap.size 0 (cells25 L)) := ⟨_, hid rfl⟩
   have HRL : Hid (w5.rangeAt w.heap.size 0 (cells25 L)) := hid (by rw [HX.out]; exact World.rangeAt_setCells_same _ _ _ _ HTH.out)
   have hkk : ¬ ((k : Int) < (k : Int)) := by omega
   go_wp2_with (first
    | refine wpList_load_mid rfl 61 (.tmp 5) rfl (w.heap.size + 1) 0 rfl (cells25 L) _ HRA.out Tryz.underlying61 rfl (by rw [cells25_len]; exact info25) ?_
    | refine wpList_store_as rfl 61 (.tmp 4) (.tmp 56) rfl w.heap.size 0 (cells25 L) rfl rfl HTH.out (by rw [cells25_len]; exact info25) (cells25_one _) HX.out ?_)
   refine bodyPost_ret (v := .agg (cells25 L).toArray) ?_ rfl ⟨by rw [HL.out], ?_⟩
   ·exact results_mid rfl rfl HRL.out Tryz.underlying61 rfl (by rw [cells25_len]; exact info25)
   ·rw [HX.out]
    exact HB.out.trans ((But.setCells _ 0 _ (But.refl w.heap.size wr)).below (Nat.le_refl _) (by omega))
def reachB (R : Nat → Bool) (o : Nat) : Value := .bool (R o)
theorem infoBool3 : (Tryz.prog.info? 4).map (fun i => (i.zero, i.size, i.bytes)) = some (some (.bool false), 1, 1) := by kernel_rfl
theorem run_makeB5 (w : World) : (Instr.makeSlice 63 (.int .i64 5) (.int .i64 5)).run Tryz.prog w = .ok (.slice (some ⟨w.heap.size, 0, none⟩) 5 5) (w.alloc (.cells (madeCells #[.bool false] 5) 4)) := by
 obtain ⟨i0, hi0, hz0, hz1, hz2⟩ := partsOf infoBool3
 have := run_make (P := Tryz.prog) w 63 4 i0 (.bool false) Tryz.underlying63 hi0 hz0 .i64 .i64 5 5 (by omega) (by omega) (by rw [hz2]; decide) (by omega)
 rw [hz1] at this
 exact this
theorem madeB5 (w : World) : CellsAt (w.alloc (.cells (madeCells #[.bool false] 5) 4)) w.heap.size 4 5 (reachB fun _ => false) := by
 refine CellsAt.new w _ _ _ _ (size_madeCells _ _) fun i hi => ?_
 simp [madeCells, reachB, Nat.mod_one]
theorem G5.box (w : World) (L : Nat → Nat → Int) : G5 (w.alloc (.cells (cells25 L).toArray 61)) w.heap.size L := by
 refine CellsAt.new w _ _ _ _ (by simp [cells25]) fun i hi => ?_
 simp [cells25]
def ConAt (w0 : World) (L : Nat → Nat → Int) (f : Nat) (W : World) : Prop :=
 ∃ R : Nat → Bool, CellsAt W (w0.heap.size + 1) 4 5 (reachB R) ∧ (∀ o, o < 5 → R o = true → Pl.Rch L f o) ∧ G5 W w0.heap.size L ∧ Below w0.heap.size w0 W
theorem ConAt.set {w0 : World} {L : Nat → Nat → Int} {f : Nat} {W : World} (h : ConAt w0 L f W) (b : Nat) (v : Bool) (hv : v = true → Pl.Rch L f b) : ConAt w0 L f (W.setCell ⟨w0.heap.size + 1, b, none⟩ (.bool v)) := by
 obtain ⟨R, h1, h2, h3, h4⟩ := h
 have hbut : But (w0.heap.size + 1) W (W.setCell ⟨w0.heap.size + 1, b, none⟩ (.bool v)) := (But.refl _ _).setCell _ _
 refine ⟨Pl.upd R b v, (CellsAt.set h1 b (.bool v)).ext fun o _ => ?_, fun o ho hr => ?_, CellsAt.but h3 hbut (by omega), h4.trans (hbut.below (by omega) h4.size)⟩
 ·unfold Pl.upd reachB
  by_cases e : o = b
  ·simp [e]
  ·simp [e]
 ·unfold Pl.upd at hr
  by_cases e : o = b
  ·subst e; rw [if_pos rfl] at hr; exact hv hr
  ·rw [if_neg e] at hr; exact h2 o ho hr
set_option maxHeartbeats 8000000 in
theorem Connected_any (L : Nat → Nat → Int) (f : Nat) (w : World) (hf : f < 5) :
  Calls Tryz.prog 27 #[.agg (cells25 L).toArray, .int .i64 f] w fun e w' => ∃ g R, e = .returned (.slice (some ⟨g, 0, none⟩) 5 5) ∧ g < w'.heap.size ∧ CellsAt w' g 4 5 (reachB R) ∧ (∀ o, o < 5 → R o = true → Pl.Rch L f o) ∧ Below w.heap.size w w' := by
 obtain ⟨W1, HW1⟩ : ∃ W, Hid (W = w.alloc (.cells (cells25 L).toArray 61)) := ⟨_, hid rfl⟩
 have hz1 : W1.heap.size = w.heap.size + 1 := by rw [HW1.out]; simp
 have hmk := run_makeB5 W1
 obtain ⟨W2, HW2⟩ : ∃ W, Hid (W = W1.alloc (.cells (madeCells #[.bool false] 5) 4)) := ⟨_, hid rfl⟩
 have hm2 := madeB5 W1
 rw [← HW2.out] at hmk hm2
 have hb1 : Below w.heap.size w W1 := by rw [HW1.out]; exact (Below.refl _ _).alloc (Nat.le_refl _) _
 have hb2 : Below W1.heap.size W1 W2 := by rw [HW2.out]; exact (Below.refl _ _).alloc (Nat.le_refl _) _
 have hg1 : G5 W1 w.heap.size L := by rw [HW1.out]; exact G5.box w L
 rw [hz1] at hmk hm2
 have HC0 : Hid (ConAt w L f W2) := hid ⟨fun _ => false, hm2, fun _ _ h => (by cases h), CellsAt.below hg1 hb2, hb1.trans (hb2.mono (by omega))⟩
 have HC := hid (HC0.out.set f true fun _ => Pl.Rch.refl)
 have hx0 := hm2.cell f hf
 have hx1 := hm2.soft f
 unfold reachB at hx0
 have hfi : (f : Int) < 5 := by omega
 clear hm2 hb1 hb2 hg1
 go_enter Tryz.func27, Tryz.ntmps27
 go_wp2_with (rw [← HW1.out])
 clear hmk hx0 hx1
 go_loopw [12] (fun i wr => ∃ k : Nat, k ≤ 5 ∧ i = .int .i64 k ∧ Hid (ConAt w L f wr)) (fun i _ => 5 - (intOf i).toNat)
 case atStart => exact ⟨0, by omega, rfl, HC⟩
 case round =>
  clear HC HC0
  obtain ⟨k, hk, rfl, HC⟩ := hrel
  by_cases hk5 : k < 5
  ·have hk5t : decide ((k : Int) < 5) = true := by simp; omega
   go_wp2_with fail
   go_loopw [14] (fun i wq => ∃ a : Nat, a ≤ 5 ∧ i = .int .i64 a ∧ Hid (ConAt w L f wq)) (fun i _ => 5 - (intOf i).toNat)
   case atStart => exact ⟨0, by omega, rfl, HC⟩
   case round =>
    clear HC
    obtain ⟨a, ha, rfl, HC⟩ := hrel
    by_cases ha5 : a < 5
    ·have ha5t : decide ((a : Int) < 5) = true := by simp; omega
     go_wp2_with fail
     go_loopw [17] (fun i wb => ∃ b : Nat, b ≤ 5 ∧ i = .int .i64 b ∧ Hid (ConAt w L f wb)) (fun i _ => 5 - (intOf i).toNat)
     case atStart => exact ⟨0, by omega, rfl, HC⟩
     case round =>
      clear HC
      obtain ⟨b, hb, rfl, HC⟩ := hrel
      rename World => wb
      by_cases hb5 : b < 5
      ·have hbi : (b : Int) < 5 := by omega
       have hai : (a : Int) < 5 := by omega
       obtain ⟨R, h1, h2, h3, h4⟩ := HC.out
       have cb := h1.cell b hb5
       have ca := h1.cell a ha5
       have sb := h1.soft b
       have cl := h3.cell a b ha5 hb5
       unfold reachB at cb ca
       have hsz : w.heap.size + 1 < wb.heap.size := CellsAt.lt h1
       have hR := h2 a ha5
       have hRb := h2 b hb5
       clear h1 h2 h3 h4
       obtain ⟨rb, hrb⟩ : ∃ v, R b = v := ⟨_, rfl⟩
       obtain ⟨ra, hra⟩ : ∃ v, R a = v := ⟨_, rfl⟩
       obtain ⟨l, hl⟩ : ∃ v, L a b = v := ⟨_, rfl⟩
       rw [hrb] at cb hRb
       rw [hra] at ca hR
       rw [hl] at cl
       have HS := hid (fun v hv => HC.out.set b v hv)
       cases rb
       ·cases ra
        ·go_wp2_with fail
         go_roundw
         case rel => exact ⟨b + 1, by omega, by go_num, hid (HS.out false (by intro h; cases h))⟩
         case measure => simp [intOf]; omega
        ·have hRa := hR rfl
         by_cases h0 : 0 < l
         ·have h0b : decide (0 < l) = true := by simpa using h0
          have HST := hid (HS.out true fun _ => hRa.step ha5 hb5 (by omega))
          clear h0 hRa hR hRb
          go_wp2_with fail
          go_roundw
          case rel => exact ⟨b + 1, by omega, by go_num, HST⟩
          case measure => simp [intOf]; omega
         ·have h0b : decide (0 < l) = false := by simpa using h0
          clear h0 hRa hR hRb
          go_wp2_with fail
          go_roundw
          case rel => exact ⟨b + 1, by omega, by go_num, hid (HS.out false (by intro h; cases h))⟩
          case measure => simp [intOf]; omega
       ·have HST := hid (HS.out true fun _ => hRb rfl)
        clear hR hRb
        go_wp2_with fail
        go_roundw
        case rel => exact ⟨b + 1, by omega, by go_num, HST⟩
        case measure => simp [intOf]; omega
      ·obtain rfl : b = 5 := by omega
       go_wp2_with fail
       go_roundw
       case rel => exact ⟨a + 1, by omega, by go_num, HC⟩
       case measure => simp [intOf]; omega
    ·obtain rfl : a = 5 := by omega
     go_wp2_with fail
     go_roundw
     case rel => exact ⟨k + 1, by omega, by go_num, HC⟩
     case measure => simp [intOf]; omega
  ·obtain rfl : k = 5 := by omega
   go_wp2_with fail
   go_ret
   obtain ⟨R, h1, h2, _, h4⟩ := HC.out
   exact ⟨_, R, rfl, CellsAt.lt h1, h1, h2, h4⟩
theorem OwnAc.acts2 {w : World} {base : Nat} {v : Value} {xs : List Pl.Ac} (h : OwnAc w base v xs) (hok : ∀ x ∈ xs, Pl.AcOk x) : ∃ a cap, v = .slice a xs.length cap ∧ IsActs w a xs.length cap xs ∧ (a = none → xs.length = 0 ∧ cap = 0) := by
 obtain ⟨a, cap, e, h1, h2, _⟩ := h.acts hok
 refine ⟨a, cap, e, h1, fun hn => ⟨h2 hn, ?_⟩⟩
 subst hn e
 obtain ⟨_, ⟨h, _⟩ | ⟨g, cap', cur, h, _⟩⟩ := h
 ·simp only [Value.slice.injEq] at h
  exact h.2.2
 ·simp only [Value.slice.injEq] at h
  exact absurd h.1 (by simp)
def Pl.colsP (a b : Nat) : List (Nat × Nat) := ((List.range b).filter fun b => decide (a ≠ b)).map fun b => (a, b)
def Pl.rowsP (a : Nat) : List (Nat × Nat) := (List.range a).flatMap fun a => Pl.colsP a 5
theorem Pl.colsP_succ (a b : Nat) : Pl.colsP a (b + 1) = if a = b then Pl.colsP a b else Pl.colsP a b ++ [(a, b)] := by
 unfold Pl.colsP
 rw [List.range_succ, List.filter_append, List.map_append]
 by_cases h : a = b
 ·subst h; simp
 ·rw [if_neg h]; simp [h]
theorem Pl.rowsP_succ (a : Nat) : Pl.rowsP (a + 1) = Pl.rowsP a ++ Pl.colsP a 5 := by
 unfold Pl.rowsP
 rw [List.range_succ, List.flatMap_append]; simp
theorem Pl.rowsP_five : Pl.rowsP 5 = Pl.pairs5 := rfl
theorem Pl.tells_succ (k : Nat) : Pl.tells (List.range (k + 1)) = Pl.tells (List.range k) ++ [Pl.Ac.tell k] := by
 unfold Pl.tells; rw [List.range_succ, List.map_append]; rfl
theorem Pl.decides_succ (k : Nat) : Pl.decides (List.range (k + 1)) = Pl.decides (List.range k) ++ [Pl.Ac.decide k] := by
 unfold Pl.decides; rw [List.range_succ, List.map_append]; rfl
theorem Pl.sends_len (ps : List (Nat × Nat)) : (Pl.sends ps).length = ps.length := by simp [Pl.sends]
theorem Pl.colsP_len (a b : Nat) : (Pl.colsP a b).length ≤ b := by
 unfold Pl.colsP
 rw [List.length_map]
 exact Nat.le_trans (List.length_filter_le _ _) (by simp)
theorem Pl.rowsP_len : ∀ a, (Pl.rowsP a).length ≤ a * 5
 | 0 => by simp [Pl.rowsP]
 | a + 1 => by
  rw [Pl.rowsP_succ, List.length_append]
  have h1 := Pl.rowsP_len a
  have h2 := Pl.colsP_len a 5
  omega
theorem Pl.rounds_len : ∀ r, (Pl.rounds r).length ≤ r * 25
 | 0 => by simp [Pl.rounds]
 | r + 1 => by
  show (Pl.rounds r ++ Pl.pairs5).length ≤ _
  rw [List.length_append]
  have h1 := Pl.rounds_len r
  have h2 : Pl.pairs5.length ≤ 25 := by decide
  omega
def Pl.setS (r a b : Nat) : List Pl.Ac := Pl.tells (List.range 5) ++ Pl.sends (Pl.rounds r ++ (Pl.rowsP a ++ Pl.colsP a b))
theorem Pl.setS_len (r a b : Nat) (hr : r ≤ 4) (ha : a ≤ 5) (hb : b ≤ 5) : (Pl.setS r a b).length ≤ 1000 := by
 unfold Pl.setS
 rw [List.length_append, Pl.sends_len, List.length_append, List.length_append]
 have h1 := Pl.rounds_len r
 have h2 := Pl.rowsP_len a
 have h3 := Pl.colsP_len a b
 have h4 : (Pl.tells (List.range 5)).length = 5 := rfl
 omega
theorem Pl.setS_on {r a b : Nat} (h : a ≠ b) : Pl.setS r a (b + 1) = Pl.setS r a b ++ [Pl.Ac.send a b] := by
 unfold Pl.setS
 rw [Pl.colsP_succ, if_neg h, ← List.append_assoc (Pl.rowsP a), ← List.append_assoc (Pl.rounds r), Pl.sends_app, ← List.append_assoc]
 rfl
theorem Pl.setS_same {r a b : Nat} (h : a = b) : Pl.setS r a (b + 1) = Pl.setS r a b := by
 unfold Pl.setS
 rw [Pl.colsP_succ, if_pos h]
theorem Pl.setS_row (r a : Nat) : Pl.setS r a 5 = Pl.setS r (a + 1) 0 := by
 unfold Pl.setS
 rw [Pl.rowsP_succ, show Pl.colsP (a + 1) 0 = [] from rfl, List.append_nil]
theorem Pl.setS_round (r : Nat) : Pl.setS r 5 0 = Pl.setS (r + 1) 0 0 := by
 unfold Pl.setS
 rw [show Pl.colsP 5 0 = [] from rfl, show Pl.colsP 0 0 = [] from rfl, show Pl.rowsP 0 = [] from rfl, Pl.rowsP_five, List.append_nil, List.append_nil, List.append_nil]
 rfl
theorem Pl.setS_end : Pl.setS 4 0 0 ++ Pl.decides (List.range 5) = Pl.settle5 := by
 unfold Pl.setS Pl.settle5
 rw [show Pl.rowsP 0 ++ Pl.colsP 0 0 = [] from rfl, List.append_nil, List.append_assoc]
set_option maxHeartbeats 8000000 in
theorem Settle_any (w : World) : Calls Tryz.prog 25 #[.int .i64 5] w fun e w' => ∃ v, e = .returned v ∧ OwnAc w' w.heap.size v Pl.settle5 ∧ Below w.heap.size w w' := by
 go_enter Tryz.func25, Tryz.ntmps25
 go_wp2_with fail
 go_loopw [3, 9] (fun vo vi wr => ∃ (k : Nat) (v : Value), v = vo ∧ vi = .int .i64 k ∧ k ≤ 5 ∧ Hid (OwnAc wr w.heap.size v (Pl.tells (List.range k))) ∧ Hid (Below w.heap.size w wr)) (fun _ vi _ => 5 - (intOf vi).toNat)
 case atStart => exact ⟨0, _, rfl, rfl, by omega, hid (OwnAc.nil _ _), hid (Below.refl _ _)⟩
 case round =>
  obtain ⟨k, v, hv, rfl, hk, HO, HB⟩ := hrel
  subst hv
  have hzr := HB.out.size
  obtain ⟨oa, oc, rfl⟩ := ownsRow_slice HO.out
  obtain ⟨no, HNO⟩ : ∃ c, Hid ((Pl.tells (List.range k)).length = c) := ⟨_, hid rfl⟩
  have hno : no ≤ 1000000 := by rw [← HNO.out]; simp [Pl.tells]; omega
  rw [HNO.out] at HO ⊢
  by_cases hk5 : k < 5
  ·have hk5' : (k : Int) < 5 := by omega
   go_wp2_with (at_builtin; refine append_ac rfl (.tmp 12) (.tmp 15) rfl w.heap.size (.slice oa no oc) (Pl.tells (List.range k)) (Pl.Ac.tell k) rfl HO.out hzr rfl (by rw [HNO.out]; exact hno) ?_; intro v5 w5 ho5 hb5; have HO5 := hid ho5; have HB5 := hid hb5; clear ho5 hb5)
   go_roundw
   case rel => exact ⟨k + 1, _, rfl, by go_num, by omega, hid (by rw [Pl.tells_succ]; exact HO5.out), hid (HB.out.trans HB5.out)⟩
   case measure => simp [intOf]; omega
  ·obtain rfl : k = 5 := by omega
   have HS0 : Hid (OwnAc wr w.heap.size (.slice oa no oc) (Pl.setS 0 0 0)) := hid (by
    have e : Pl.setS 0 0 0 = Pl.tells (List.range 5) := by unfold Pl.setS; rw [show Pl.rounds 0 ++ (Pl.rowsP 0 ++ Pl.colsP 0 0) = [] from rfl]; simp [Pl.sends]
    rw [e]; exact HO.out)
   clear HO HNO hno hk hk5
   go_wp2_with fail
   go_loopw [3, 20] (fun vo vi wq => ∃ (r : Nat) (v : Value), v = vo ∧ vi = .int .i64 r ∧ r ≤ 4 ∧ Hid (OwnAc wq w.heap.size v (Pl.setS r 0 0)) ∧ Hid (Below w.heap.size w wq)) (fun _ vi _ => 4 - (intOf vi).toNat)
   case atStart => exact ⟨0, _, rfl, rfl, by omega, HS0, HB⟩
   case round =>
    clear HS0 HB hzr
    obtain ⟨r, v, hv, rfl, hr, HO, HB⟩ := hrel
    subst hv
    rename World => wq
    by_cases hr4 : r < 4
    ·have hr4' : (r : Int) < 4 := by omega
     go_wp2_with fail
     go_loopw [3, 23] (fun vo vi w3 => ∃ (a : Nat) (v : Value), v = vo ∧ vi = .int .i64 a ∧ a ≤ 5 ∧ Hid (OwnAc w3 w.heap.size v (Pl.setS r a 0)) ∧ Hid (Below w.heap.size w w3)) (fun _ vi _ => 5 - (intOf vi).toNat)
     case atStart => exact ⟨0, _, rfl, rfl, by omega, HO, HB⟩
     case round =>
      clear HO HB
      obtain ⟨a, v, hv, rfl, ha, HO, HB⟩ := hrel
      subst hv
      rename World => w3
      have hr4t : decide ((r : Int) < 4) = true := by simpa using hr4'
      by_cases ha5 : a < 5
      ·have ha5' : (a : Int) < 5 := by omega
       go_wp2_with fail
       go_loopw [3, 27] (fun vo vi w4 => ∃ (b : Nat) (v : Value), v = vo ∧ vi = .int .i64 b ∧ b ≤ 5 ∧ Hid (OwnAc w4 w.heap.size v (Pl.setS r a b)) ∧ Hid (Below w.heap.size w w4)) (fun _ vi _ => 5 - (intOf vi).toNat)
       case atStart => exact ⟨0, _, rfl, rfl, by omega, HO, HB⟩
       case round =>
        clear HO HB
        obtain ⟨b, v, hv, rfl, hb, HO, HB⟩ := hrel
        subst hv
        rename World => w4
        have hzr := HB.out.size
        have ha5t : decide ((a : Int) < 5) = true := by simpa using ha5'
        obtain ⟨oa, oc, rfl⟩ := ownsRow_slice HO.out
        obtain ⟨no, HNO⟩ : ∃ c, Hid ((Pl.setS r a b).length = c) := ⟨_, hid rfl⟩
        have hno : no ≤ 1000000 := by rw [← HNO.out]; have := Pl.setS_len r a b hr (by omega) hb; omega
        rw [HNO.out] at HO ⊢
        by_cases hb5 : b < 5
        ·have hb5' : (b : Int) < 5 := by omega
         by_cases hab : a = b
         ·have HSE : Hid (Pl.setS r a (b + 1) = Pl.setS r a b) := hid (Pl.setS_same hab)
          have habb : ((a : Int) != (b : Int)) = false := by simp [hab]
          clear hab
          go_wp2_with fail
          go_roundw
          case rel => exact ⟨b + 1, _, rfl, by go_num, by omega, hid (by rw [HSE.out]; exact HO.out), HB⟩
          case measure => simp [intOf]; omega
         ·have HSE : Hid (Pl.setS r a (b + 1) = Pl.setS r a b ++ [Pl.Ac.send a b]) := hid (Pl.setS_on hab)
          have habb : ((a : Int) != (b : Int)) = true := by simp; omega
          clear hab
          go_wp2_with (at_builtin; refine append_ac rfl (.tmp 33) (.tmp 37) rfl w.heap.size (.slice oa no oc) (Pl.setS r a b) (Pl.Ac.send a b) rfl HO.out hzr rfl (by rw [HNO.out]; exact hno) ?_; intro v5 w5 ho5 hb5; have HO5 := hid ho5; have HB5 := hid hb5; clear ho5 hb5)
          go_roundw
          case rel =>
           repeat apply Exists.intro
           exact ⟨⟨b + 1, _, rfl, by go_num, by omega, hid (by rw [HSE.out]; exact HO5.out), hid (HB.out.trans HB5.out)⟩, rfl⟩
          case measure => simp [intOf]; omega
        ·obtain rfl : b = 5 := by omega
         have HSE : Hid (Pl.setS r a 5 = Pl.setS r (a + 1) 0) := hid (Pl.setS_row r a)
         go_wp2_with fail
         go_roundw
         case rel => exact ⟨a + 1, _, rfl, by go_num, by omega, hid (by rw [← HSE.out]; exact HO.out), HB⟩
         case measure => simp [intOf]; omega
      ·obtain rfl : a = 5 := by omega
       have HSE : Hid (Pl.setS r 5 0 = Pl.setS (r + 1) 0 0) := hid (Pl.setS_round r)
       go_wp2_with fail
       go_roundw
       case rel => exact ⟨r + 1, _, rfl, by go_num, by omega, hid (by rw [← HSE.out]; exact HO.out), HB⟩
       case measure => simp [intOf]; omega
    ·obtain rfl : r = 4 := by omega
     go_wp2_with fail
     go_loopw [3, 43] (fun vo vi w3 => ∃ (k : Nat) (v : Value), v = vo ∧ vi = .int .i64 k ∧ k ≤ 5 ∧ Hid (OwnAc w3 w.heap.size v (Pl.setS 4 0 0 ++ Pl.decides (List.range k))) ∧ Hid (Below w.heap.size w w3)) (fun _ vi _ => 5 - (intOf vi).toNat)
     case atStart => exact ⟨0, _, rfl, rfl, by omega, hid (by rw [show Pl.decides (List.range 0) = [] from rfl, List.append_nil]; exact HO.out), HB⟩
     case round =>
      clear HO HB
      obtain ⟨k, v, hv, rfl, hk, HO, HB⟩ := hrel
      subst hv
      rename World => w3
      have hzr := HB.out.size
      obtain ⟨oa, oc, rfl⟩ := ownsRow_slice HO.out
      obtain ⟨no, HNO⟩ : ∃ c, Hid ((Pl.setS 4 0 0 ++ Pl.decides (List.range k)).length = c) := ⟨_, hid rfl⟩
      have hno : no ≤ 1000000 := by
       rw [← HNO.out, List.length_append]
       have h1 := Pl.setS_len 4 0 0 (by omega) (by omega) (by omega)
       have h2 : (Pl.decides (List.range k)).length = k := by simp [Pl.decides]
       omega
      rw [HNO.out] at HO ⊢
      by_cases hk5 : k < 5
      ·have hk5' : (k : Int) < 5 := by omega
       go_wp2_with (at_builtin; refine append_ac rfl (.tmp 46) (.tmp 49) rfl w.heap.size (.slice oa no oc) (Pl.setS 4 0 0 ++ Pl.decides (List.range k)) (Pl.Ac.decide k) rfl HO.out hzr rfl (by rw [HNO.out]; exact hno) ?_; intro v5 w5 ho5 hb5; have HO5 := hid ho5; have HB5 := hid hb5; clear ho5 hb5)
       go_roundw
       case rel =>
        repeat apply Exists.intro
        exact ⟨⟨k + 1, _, rfl, by go_num, by omega, hid (by rw [Pl.decides_succ, ← List.append_assoc]; exact HO5.out), hid (HB.out.trans HB5.out)⟩, rfl⟩
       case measure => simp [intOf]; omega
      ·obtain rfl : k = 5 := by omega
       have h1 := HO.out
       rw [Pl.setS_end] at h1
       have HO1 := hid h1
       clear h1
       go_wp2_with fail
       go_ret
       exact ⟨_, rfl, HO1.out, HB.out⟩
set_option maxHeartbeats 400000 in
theorem Equal_eq (a b : Option Addr) (len cap capb : Nat) (es : List Pl.Ent) (w : World) (ha : IsEnts w a len cap es) (hB : IsEnts w b len capb es) :
  Calls Tryz.prog 21 #[.slice a len cap, .slice b len capb] w fun e w' => e = .returned (.bool true) ∧ Below w.heap.size w w' := by
 obtain ⟨hl, hc, hm, _, hrow⟩ := ha
 obtain ⟨_, hcb, hmb, _, hrowb⟩ := hB
 unfold maxLen at hm hmb
 have HR : Hid (es = [] ∨ ∃ b off, a = some ⟨b, off, none⟩ ∧ b < w.heap.size ∧ RowAt w b off es) := hrow
 have HRB : Hid (es = [] ∨ ∃ b' off, b = some ⟨b', off, none⟩ ∧ b' < w.heap.size ∧ RowAt w b' off es) := hrowb
 clear hrow hrowb
 go_enter Tryz.func21, Tryz.ntmps21
 go_wp2
 go_loopw [13] (fun i wr => ∃ k : Nat, k ≤ len ∧ i = .int .i64 k ∧ Below w.heap.size w wr) (fun i _ => len - (intOf i).toNat)
 case atStart => exact ⟨0, Nat.zero_le _, rfl, Below.refl _ _⟩
 case round =>
  obtain ⟨k, hk, rfl, hb⟩ := hrel
  by_cases hlt : k < len
  ·obtain ⟨b1, o1, rfl, hb1, hr1⟩ : ∃ b off, a = some ⟨b, off, none⟩ ∧ b < w.heap.size ∧ RowAt w b off es := by
    rcases HR.out with h | h
    ·rw [h] at hl; simp at hl; omega
    ·exact h
   obtain ⟨b2, o2, rfl, hb2, hr2⟩ : ∃ b' off, b = some ⟨b', off, none⟩ ∧ b' < w.heap.size ∧ RowAt w b' off es := by
    rcases HRB.out with h | h
    ·rw [h] at hl; simp at hl; omega
    ·exact h
   obtain ⟨q0, q1, q2, q3⟩ := hr1.below hb1 hb k (by omega)
   obtain ⟨r0, r1, r2, r3⟩ := hr2.below hb2 hb k (by omega)
   clear hr1 hr2
   generalize Pl.ent es k = y at *
   obtain ⟨yk, yv, yo, yx⟩ := y
   simp only at q0 q1 q2 q3 r0 r1 r2 r3
   have hlt' : (k : Int) < (len : Int) := by omega
   go_wp2_with fail
   go_quiet (fail)
   go_wp2
   go_roundw
   case rel => exact ⟨k + 1, by omega, by go_num, below_drewN hb _⟩
   case measure => simp [intOf]; omega
  ·obtain rfl : k = len := by omega
   go_wp2
   go_ret
   exact ⟨rfl, hb⟩
end Go.Proofs.YtjjelkdajdeikaaGreatDoor
namespace Go.Proofs.YtjjelkdajdeikaaGreatDoor
open Go.ChangeShapes Go.WideShapes Go.ChangeAt Go.RowKit
set_option maxRecDepth 20000
theorem cell_lt {W : World} {x : Addr} {v : Value} (h : W.cell? x = some v) : x.block < W.heap.size := by
 rcases Nat.lt_or_ge x.block W.heap.size with h' | h'
 ·exact h'
 ·simp [World.cell?, Array.getElem?_eq_none h'] at h
theorem own : ownKnob Tryz.prog.godebug = none := by kernel_rfl
theorem laidOut : laidOutB Tryz.prog = true := by kernel_rfl
end Go.Proofs.YtjjelkdajdeikaaGreatDoor
namespace Go.Proofs.YtjjelkdajdeikaaGreatDoor
open Go.ChangeShapes Go.WideShapes Go.ChangeAt Go.RowKit
set_option maxRecDepth 20000
theorem cellsRaw : Tryz.prog.cellsOf 98 = 4 := by kernel_rfl
theorem raw_of_trod {H : Type} {enc : TypeId × Value → H} {w : World} {base : Nat} {spare : Nat → Bool} {held : Bool} {n : Nat} {cs : List Value} {x : DataW H × List MemPlace}
  (h : DataW.trod enc Tryz.prog w base spare held n 98 cs = some x) : ∃ k0 k1 k2 k3 : Int, cs = [.int .i64 k0, .int .i64 k1, .int .i64 k2, .int .i64 k3] ∧
   (Lit.int .i64 k0).wf = true ∧ (Lit.int .i64 k1).wf = true ∧ (Lit.int .i64 k2).wf = true ∧ (Lit.int .i64 k3).wf = true := by
 obtain ⟨y0, y1, y2, y3, m, _, hl, h0, h1, h2, h3⟩ := Go.Joins.trod_struct4 Tryz.underlying98 h
 rw [cellsRaw] at hl
 match cs, hl with
 | [c0, c1, c2, c3], _ =>
  have e3 : Tryz.prog.cellsOf 3 = 1 := by kernel_rfl
  simp only [e3] at h0 h1 h2 h3
  obtain ⟨s0, a0, _, b0⟩ := DataW.trod_int Tryz.underlying3 h0
  obtain ⟨s1, a1, _, b1⟩ := DataW.trod_int Tryz.underlying3 h1
  obtain ⟨s2, a2, _, b2⟩ := DataW.trod_int Tryz.underlying3 h2
  obtain ⟨s3, a3, _, b3⟩ := DataW.trod_int Tryz.underlying3 h3
  simp at a0 a1 a2 a3
  subst a0 a1 a2 a3
  exact ⟨s0, s1, s2, s3, rfl, b0, b1, b2, b3⟩
theorem open_raws {H : Type} {enc : TypeId × Value → H} {w : World} {r : Reach} {b0 : Nat} {held : Bool} {v : Value} {d : DataW H} {p : List MemPlace}
  (hv : Value.okWide Tryz.prog w r b0 45 v) (h : DataW.Trod enc Tryz.prog w 0 (fun _ => true) held 45 v d p) :
  ∃ a len cap, v = .slice a len cap ∧ IsRaws w a len cap := by
 obtain ⟨a, len, cap, rfl⟩ := okWide_slice Tryz.underlying45 hv
 obtain ⟨fuel, hf⟩ := h
 rcases Go.Deep.open_slice Tryz.underlying45 hf with ⟨hcs, _⟩ | ⟨x, l, c, m, n, D, Q, hcs, _, hl, hm, hmm, _, hx⟩
 ·simp [Value.cells] at hcs
  obtain ⟨rfl, rfl, rfl⟩ := hcs
  exact ⟨_, _, _, rfl, Nat.le_refl _, by simp, .inl rfl⟩
 ·simp [Value.cells] at hcs
  obtain ⟨rfl, rfl, rfl⟩ := hcs
  simp only [if_true] at hmm
  subst hmm
  rw [cellsRaw] at hx
  refine ⟨_, _, _, rfl, hl, hm, ?_⟩
  rcases Nat.eq_zero_or_pos len with h0 | hpos
  ·exact .inl h0
  ·right
   obtain ⟨b, off, spot⟩ := x
   obtain ⟨cs0, g1, g2⟩ := hx 0 (by omega)
   obtain ⟨k0, k1, k2, k3, rfl, _⟩ := raw_of_trod g2
   have hc0 := (World.cells?_some g1).2.2 0 (by omega)
   simp only [List.getElem?_cons_zero] at hc0
   have hsp : spot = none := by simpa [Addr.add] using World.cell?_spot hc0
   subst hsp
   refine ⟨b, off, rfl, ?_, ?_⟩
   ·have := cell_lt hc0; simpa [Addr.add] using this
   ·intro i hi
    obtain ⟨cs1, f1, f2⟩ := hx i (by omega)
    obtain ⟨k0, k1, k2, k3, rfl, hw⟩ := raw_of_trod f2
    have hc := (World.cells?_some f1).2.2
    have c0 := hc 0 (by omega)
    have c1 := hc 1 (by omega)
    have c2 := hc 2 (by omega)
    have c3 := hc 3 (by omega)
    simp only [add_none, List.getElem?_cons_zero, List.getElem?_cons_succ, Nat.add_zero] at c0 c1 c2 c3
    exact ⟨k0, k1, k2, k3, ⟨c0, c1, c2, c3⟩, hw⟩
end Go.Proofs.YtjjelkdajdeikaaGreatDoor
