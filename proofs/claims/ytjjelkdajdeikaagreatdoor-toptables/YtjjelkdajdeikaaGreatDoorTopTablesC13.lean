/-
  Contracts and facts that the proof rests on, put together out of several texts.
-/
import Derived.Test.YtjjelkdajdeikaaGreatDoorTopTablesC12
import Derived.Test.YtjjelkdajdeikaaGreatDoorTopTablesC9
import Derived.Test.YtjjelkdajdeikaaGreatDoorProg
import Derived.ProofKit
import Derived.OpenShut
import Derived.ShutString
import Derived.ChangeOld
import Derived.Lib.SmallJoins
import Derived.Deep.Slices
import Derived.SizedLaws
import Derived.Test.YtjjelkdajdeikaaGreatDoorTopTablesC1
import Derived.Test.YtjjelkdajdeikaaGreatDoorTopTablesC11
namespace Go.Proofs.YtjjelkdajdeikaaGreatDoor
open Go.RowKit
set_option maxRecDepth 20000
def Pl.remA (xs : List Pl.Ac) : List Pl.Ac := xs.filter (fun y => !decide (y.kind = 8))
theorem Pl.remA_same {xs : List Pl.Ac} (h : ∀ i, i < xs.length → ¬ (Pl.ac xs i).kind = 8) : Pl.remA xs = xs := by
 unfold Pl.remA
 rw [List.filter_eq_self]
 intro y hy
 obtain ⟨i, hi, rfl⟩ := List.getElem_of_mem hy
 have := h i hi
 rw [Pl.ac_eq xs i hi] at this
 simp [this]
theorem Pl.remA_snoc {xs : List Pl.Ac} {j : Nat} (h : j < xs.length) : Pl.remA (xs.take (j + 1)) = Pl.remA (xs.take j) ++ (if (Pl.ac xs j).kind = 8 then [] else [Pl.ac xs j]) := by
 unfold Pl.remA
 rw [List.take_succ_eq_append_getElem h, List.filter_append, ← Pl.ac_eq xs j h]
 congr 1
 by_cases e : (Pl.ac xs j).kind = 8
 ·rw [if_pos e]; simp [e]
 ·rw [if_neg e]; simp [e]
theorem Pl.remA_first {xs : List Pl.Ac} {i : Nat} (hi : i < xs.length) (hk : (Pl.ac xs i).kind = 8) (hj : ∀ j, j < i → ¬ (Pl.ac xs j).kind = 8) : xs.take i = Pl.remA (xs.take (i + 1)) := by
 rw [Pl.remA_snoc hi, if_pos hk, List.append_nil]
 refine (Pl.remA_same (fun j hj' => ?_)).symm
 simp only [List.length_take] at hj'
 have e : Pl.ac (xs.take i) j = Pl.ac xs j := by
  rw [Pl.ac_eq _ _ (by simp; omega), Pl.ac_eq _ _ (by omega)]; simp
 rw [e]; exact hj j (by omega)
theorem Pl.same_ac {a b : List Pl.Ac} {j : Nat} (h : a.drop j = b.drop j) (hl : a.length = b.length) (hj : j < b.length) : Pl.ac a j = Pl.ac b j := by
 rw [Pl.ac_eq a j (by omega), Pl.ac_eq b j hj]
 have h1 : (a.drop j)[0]? = (b.drop j)[0]? := by rw [h]
 simp only [List.getElem?_drop, Nat.add_zero] at h1
 rw [List.getElem?_eq_getElem (by omega), List.getElem?_eq_getElem hj] at h1
 exact Option.some.inj h1
theorem Pl.remA_len (xs : List Pl.Ac) : (Pl.remA xs).length ≤ xs.length := List.length_filter_le _ _
set_option maxHeartbeats 4000000 in
theorem DeleteFuncA_any (g : Nat) (eg : ∀ args w, (callFunc g args).run Tryz.prog w = .ok (.enter g args) w) (hp : PredA g) (base : Nat)
  (v : Value) (xs : List Pl.Ac) (w : World) (h : OwnAc w base v xs) (hok : ∀ x ∈ xs, Pl.AcOk x) (h60 : xs.length ≤ 1000) (hbw : base ≤ w.heap.size) :
  Calls Tryz.prog 54 #[v, .func (.func g) #[] #[]] w fun e w' =>
   ∃ v', e = .returned v' ∧ OwnAc w' base v' (Pl.remA xs) ∧ Below base w w' := by
 have HO := hid h
 have HOK := hid hok
 have HP := hid hp
 obtain ⟨a, cap, rfl, hE, _, _⟩ := h.acts hok
 have HE := hid hE
 have HI := hid (IndexFuncA_any g eg hp a xs.length cap xs w hE)
 have hcap := hE.2.1
 have hm := hE.2.2.1
 unfold maxLen at hm
 clear h hok hp hE
 go_enter Tryz.func54, Tryz.ntmps54
 go_wp2_with fail
 refine HI.out.mono ?_
 rintro e w1 ⟨⟨rfl, hn⟩ | ⟨i, rfl, hi, hik, hij⟩, hb1⟩
 ·have HO1 := hid (HO.out.below hb1)
  have HN := hid (Pl.remA_same hn)
  clear hn
  go_wp2_with fail
  go_ret
  exact ⟨_, rfl, by rw [HN.out]; exact HO1.out, hb1.mono hbw⟩
 ·have hi1 : ((i : Int) == -1) = false := by simp
  have HO1 := hid (HO.out.below hb1)
  have HIK := hid hik
  have HIJ := hid hij
  clear hik hij
  go_wp2_with fail
  go_loopw [5, 6] (fun vi vj wr => ∃ (i j : Nat) (cur : List Pl.Ac), i < j ∧ j ≤ xs.length ∧ vi = .int .i64 i ∧ vj = .int .i64 j ∧ Hid (cur.length = xs.length) ∧ Hid (cur.take i = Pl.remA (xs.take j)) ∧ Hid (cur.drop j = xs.drop j) ∧ Hid (OwnAc wr base (.slice a xs.length cap) cur) ∧ Hid (Below base w wr)) (fun _ j _ => xs.length - (intOf j).toNat)
  case atStart => exact ⟨i, i + 1, xs, by omega, by omega, rfl, by go_num, hid rfl, hid (Pl.remA_first hi HIK.out HIJ.out), hid rfl, HO1, hid (hb1.mono hbw)⟩
  case round =>
   clear HO HE HI HO1 HIK HIJ hi1 hi
   obtain ⟨i, j, cur, hij, hj, rfl, rfl, HL, HT, HD, HO, HBW⟩ := hrel
   obtain ⟨g0, cap0, e0, hbg, hgw, hlc, hmc, hrow, hcl, _⟩ := HO.out.opened (by have := HL.out; omega)
   simp only [Value.slice.injEq, HL.out] at e0
   obtain ⟨rfl, _, rfl⟩ := e0
   have hwb := HBW.out.size
   by_cases hlt : j < xs.length
   ·obtain ⟨y, HY⟩ : ∃ y, Hid (Pl.ac xs j = y) := ⟨_, hid rfl⟩
    obtain ⟨q0, q1, q2, q3, q4, q5, q6, q7, q8⟩ := hrow.nine (i := j) (x := y) (by rw [HL.out]; exact hlt) (by rw [Pl.same_ac HD.out HL.out hlt]; exact HY.out)
    have HRS := hid (Pl.remA_snoc hlt)
    rw [HY.out] at HRS
    simp only [Nat.zero_add] at q0 q1 q2 q3 q4 q5 q6 q7 q8
    have HBA := hid ((Below.refl wr.heap.size wr).alloc (Nat.le_refl _) (.cells #[.int .i64 y.kind, .int .i64 y.a, .int .i64 y.b, .int .i64 y.n, .int .i64 y.m, .int .i64 y.p.1, .int .i64 y.p.2, .string y.key, .string y.val] 51))
    have HC := hid (HP.out (wr.alloc (.cells #[.int .i64 y.kind, .int .i64 y.a, .int .i64 y.b, .int .i64 y.n, .int .i64 y.m, .int .i64 y.p.1, .int .i64 y.p.2, .string y.key, .string y.val] 51)) y)
    have HNB := hid (heapNew wr (.cells #[.int .i64 y.kind, .int .i64 y.a, .int .i64 y.b, .int .i64 y.n, .int .i64 y.m, .int .i64 y.p.1, .int .i64 y.p.2, .string y.key, .string y.val] 51))
    obtain ⟨yk, ya, yb, yn, ym, ⟨yp1, yp2⟩, yx, yy⟩ := y
    unfold acV at HC
    simp only at q0 q1 q2 q3 q4 q5 q6 q7 q8 HC HRS HBA HNB
    have hlt' : (j : Int) < (xs.length : Int) := by omega
    clear hrow hcl
    by_cases hkk : yk = 8
    ·have hdk : decide (yk = 8) = true := decide_eq_true hkk
     rw [if_pos hkk, List.append_nil] at HRS
     clear hkk
     rw [hdk] at HC
     clear hdk
     go_wp2_with fail
     refine HC.out.mono ?_
     rintro e w2 ⟨rfl, hb2⟩
     have HB2 := hid (HBA.out.trans (hb2.mono HBA.out.size))
     clear hb2
     go_wp2_with fail
     go_roundw
     case rel => exact ⟨i, j + 1, cur, by omega, by omega, rfl, by go_num, HL, hid (by rw [HRS.out]; exact HT.out), hid (by rw [← List.drop_drop, ← List.drop_drop, HD.out]), hid (HO.out.below HB2.out), hid (HBW.out.trans (HB2.out.mono (Nat.le_trans hbw hwb)))⟩
     case measure => simp [intOf]; omega
    ·have hdk : decide (yk = 8) = false := decide_eq_false hkk
     rw [if_neg hkk] at HRS
     clear hkk
     rw [hdk] at HC
     clear hdk
     go_wp2_with fail
     refine HC.out.mono ?_
     rintro e w2 ⟨rfl, hb2⟩
     obtain ⟨p0, p1, p2, p3, p4, p5, p6, p7, p8⟩ := box9 ((hb2.block _ (blockLt HNB.out)).trans HNB.out)
     have HB2 := hid (HBA.out.trans (hb2.mono HBA.out.size))
     clear hb2
     obtain ⟨g1, cap1, e1, hbg1, hgw1, _, _, _, hcl1, hset1⟩ := (HO.out.below HB2.out).opened (by have := HL.out; omega)
     simp only [Value.slice.injEq, HL.out, Option.some.injEq, Addr.mk.injEq] at e1
     obtain ⟨⟨rfl, _⟩, _, rfl⟩ := e1
     obtain ⟨r0, f0⟩ := hcl1 (i * 9) (by rw [HL.out]; omega)
     obtain ⟨r1, f1⟩ := hcl1 (i * 9 + 1) (by rw [HL.out]; omega)
     obtain ⟨r2, f2⟩ := hcl1 (i * 9 + 2) (by rw [HL.out]; omega)
     obtain ⟨r3, f3⟩ := hcl1 (i * 9 + 3) (by rw [HL.out]; omega)
     obtain ⟨r4, f4⟩ := hcl1 (i * 9 + 4) (by rw [HL.out]; omega)
     obtain ⟨r5, f5⟩ := hcl1 (i * 9 + 5) (by rw [HL.out]; omega)
     obtain ⟨r6, f6⟩ := hcl1 (i * 9 + 6) (by rw [HL.out]; omega)
     obtain ⟨r7, f7⟩ := hcl1 (i * 9 + 7) (by rw [HL.out]; omega)
     obtain ⟨r8, f8⟩ := hcl1 (i * 9 + 8) (by rw [HL.out]; omega)
     obtain ⟨x0, r0⟩ := Option.isSome_iff_exists.1 r0
     obtain ⟨x1, r1⟩ := Option.isSome_iff_exists.1 r1
     obtain ⟨x2, r2⟩ := Option.isSome_iff_exists.1 r2
     obtain ⟨x3, r3⟩ := Option.isSome_iff_exists.1 r3
     obtain ⟨x4, r4⟩ := Option.isSome_iff_exists.1 r4
     obtain ⟨x5, r5⟩ := Option.isSome_iff_exists.1 r5
     obtain ⟨x6, r6⟩ := Option.isSome_iff_exists.1 r6
     obtain ⟨x7, r7⟩ := Option.isSome_iff_exists.1 r7
     obtain ⟨x8, r8⟩ := Option.isSome_iff_exists.1 r8
     have HSET := hid (hset1 i ⟨yk, ya, yb, yn, ym, (yp1, yp2), yx, yy⟩)
     unfold setAc9 at HSET
     simp only at HSET
     clear hset1 hcl1
     go_wp2_with fail
     go_roundw
     case rel => exact ⟨i + 1, j + 1, cur.set i ⟨yk, ya, yb, yn, ym, (yp1, yp2), yx, yy⟩, by omega, by omega, by go_num, by go_num, hid (by rw [List.length_set]; exact HL.out), hid (by
      rw [HRS.out, ← HT.out, List.take_succ_eq_append_getElem (by rw [List.length_set, HL.out]; omega), List.take_set_of_le (Nat.le_refl _)]
      simp), hid (by
      rw [List.drop_set_of_lt (by omega), ← List.drop_drop, ← List.drop_drop, HD.out]), HSET, hid (by
      have hb3 := HBW.out.trans (HB2.out.mono (Nat.le_trans hbw hwb))
      exact rbelow_set (rbelow_set (rbelow_set (rbelow_set (rbelow_set (rbelow_set (rbelow_set (rbelow_set (rbelow_set hb3 hbg1) hbg1) hbg1) hbg1) hbg1) hbg1) hbg1) hbg1) hbg1)⟩
     case measure => simp [intOf]; omega
   ·obtain rfl : j = xs.length := by omega
    obtain ⟨zs, hzl, hclr⟩ := run_clear_acts wr g0 (i * 9) (xs.length - i) (cap - i) (by omega) (fun q hq => hcl (i * 9 + q) (by rw [HL.out]; omega))
    have hclr0 := hclr 0
    have HROW := hid hrow
    have HTR : Hid (OwnAc (wr.setCells g0 (i * 9) zs) base (.slice (some ⟨g0, 0, none⟩) i cap) (Pl.remA xs)) := hid (by
     have hT := HT.out
     rw [List.take_length] at hT
     exact OwnAc.cut HO.out (by have := HL.out; omega) hT.symm HL.out zs)
    clear hclr hcl hrow
    go_wp2_with fail
    go_ret
    exact ⟨_, rfl, HTR.out, HBW.out.trans (Lib.below_setCells_w hbg zs (i * 9) wr)⟩
set_option maxHeartbeats 1000000 in
theorem pred_drawn : PredA 55 := by
 intro W x
 obtain ⟨k, a, b, n, m, ⟨p1, p2⟩, ky, vl⟩ := x
 unfold acV
 go_enter Tryz.func55, Tryz.ntmps55
 go_wp2_with fail
 go_ret
 exact ⟨rfl, (Below.refl _ _).alloc (Nat.le_refl _) _⟩
theorem Pl.dr_of {x : Pl.Ac} (h : Pl.AcG 5 x) (hk : x.kind ≠ 8) : Pl.Dr x := ⟨hk, ⟨h.a0, by have := h.a1; omega⟩, ⟨h.b0, by have := h.b1; omega⟩⟩
set_option maxHeartbeats 1000000 in
theorem Drawn_any (a : Option Addr) (len cap : Nat) (w : World) (h : IsRaws w a len cap) :
  Calls Tryz.prog 23 #[.slice a len cap] w fun e w' => ∃ v xs, e = .returned v ∧ OwnAc w' w.heap.size v xs ∧ xs.length ≤ 45 ∧ (∀ x ∈ xs, Pl.AcOk x ∧ Pl.Dr x) ∧ Below w.heap.size w w' := by
 have HI := hid h
 clear h
 go_enter Tryz.func23, Tryz.ntmps23
 go_wp2_with fail
 refine (Acts_any a len cap 45 5 _ HI.out (by omega) (by omega) (by omega)).mono ?_
 rintro e w1 ⟨v1, xs, rfl, ho, hl, hg, hb⟩
 have HB := hid hb
 have HG := hid hg
 have HL := hid hl
 have HD := hid (DeleteFuncA_any 55 (enters_of Tryz.func55 (by kernel_rfl) rfl) pred_drawn w.heap.size v1 xs w1 ho (fun x hx => (hg x hx).ok) (by omega) hb.size)
 clear ho hl hg hb
 go_wp2_with fail
 refine HD.out.mono ?_
 rintro e w2 ⟨v2, rfl, ho2, hb2⟩
 have HO2 := hid ho2
 have HB2 := hid hb2
 clear ho2 hb2
 go_wp2_with fail
 go_ret
 refine ⟨_, _, rfl, HO2.out, Nat.le_trans (Pl.remA_len _) HL.out, fun x hx => ?_, HB.out.trans HB2.out⟩
 obtain ⟨h1, h2⟩ := List.mem_filter.1 hx
 exact ⟨(HG.out x h1).ok, Pl.dr_of (HG.out x h1) (by simpa using h2)⟩
theorem Pl.walked {xs ys : List Pl.Ac} (h : Pl.DrG xs) {x : Pl.Ac} {f : Nat} (hk : x.kind = 10) (hxa : x.a = f) (hf : f < 5) (hy : ys = xs ++ Pl.settle5 ++ [x]) :
  ∃ s, Pl.Set5 s ∧ Pl.runN Pl.Nt.new ys = s ∧ Pl.rp (Pl.runR Pl.Nt.new ys) (xs.length + 90) = Pl.actR s x ∧ Pl.Kept5 (Pl.runN Pl.Nt.new xs) s := by
 obtain ⟨h1, h2⟩ := h.set
 refine ⟨_, h1, ?_, ?_, h2⟩
 ·rw [hy, Pl.runN_snoc]
  exact (Pl.walk_act _ hk (by omega)).1
 ·have := Pl.rp_at Pl.Nt.new (xs ++ Pl.settle5) x []
  rw [List.length_append, Pl.settle5_len] at this
  rw [hy]; exact this
end Go.Proofs.YtjjelkdajdeikaaGreatDoor
namespace Go.Proofs.YtjjelkdajdeikaaGreatDoor
open Go.ChangeShapes Go.WideShapes Go.ChangeAt Go.RowKit
set_option maxRecDepth 20000
theorem cell_lt {W : World} {x : Addr} {v : Value} (h : W.cell? x = some v) : x.block < W.heap.size := by
 rcases Nat.lt_or_ge x.block W.heap.size with h' | h'
 ·exact h'
 ·simp [World.cell?, Array.getElem?_eq_none h'] at h
theorem own : ownKnob Tryz.prog.godebug = none := by kernel_rfl
theorem laidOut : laidOutB Tryz.prog = true := by kernel_rfl
end Go.Proofs.YtjjelkdajdeikaaGreatDoor
namespace Go.Proofs.YtjjelkdajdeikaaGreatDoor
open Go.ChangeShapes Go.WideShapes Go.ChangeAt Go.RowKit
set_option maxRecDepth 20000
theorem cellsRaw : Tryz.prog.cellsOf 98 = 4 := by kernel_rfl
theorem raw_of_trod {H : Type} {enc : TypeId × Value → H} {w : World} {base : Nat} {spare : Nat → Bool} {held : Bool} {n : Nat} {cs : List Value} {x : DataW H × List MemPlace}
  (h : DataW.trod enc Tryz.prog w base spare held n 98 cs = some x) : ∃ k0 k1 k2 k3 : Int, cs = [.int .i64 k0, .int .i64 k1, .int .i64 k2, .int .i64 k3] ∧
   (Lit.int .i64 k0).wf = true ∧ (Lit.int .i64 k1).wf = true ∧ (Lit.int .i64 k2).wf = true ∧ (Lit.int .i64 k3).wf = true := by
 obtain ⟨y0, y1, y2, y3, m, _, hl, h0, h1, h2, h3⟩ := Go.Joins.trod_struct4 Tryz.underlying98 h
 rw [cellsRaw] at hl
 match cs, hl with
 | [c0, c1, c2, c3], _ =>
  have e3 : Tryz.prog.cellsOf 3 = 1 := by kernel_rfl
  simp only [e3] at h0 h1 h2 h3
  obtain ⟨s0, a0, _, b0⟩ := DataW.trod_int Tryz.underlying3 h0
  obtain ⟨s1, a1, _, b1⟩ := DataW.trod_int Tryz.underlying3 h1
  obtain ⟨s2, a2, _, b2⟩ := DataW.trod_int Tryz.underlying3 h2
  obtain ⟨s3, a3, _, b3⟩ := DataW.trod_int Tryz.underlying3 h3
  simp at a0 a1 a2 a3
  subst a0 a1 a2 a3
  exact ⟨s0, s1, s2, s3, rfl, b0, b1, b2, b3⟩
theorem open_raws {H : Type} {enc : TypeId × Value → H} {w : World} {r : Reach} {b0 : Nat} {held : Bool} {v : Value} {d : DataW H} {p : List MemPlace}
  (hv : Value.okWide Tryz.prog w r b0 45 v) (h : DataW.Trod enc Tryz.prog w 0 (fun _ => true) held 45 v d p) :
  ∃ a len cap, v = .slice a len cap ∧ IsRaws w a len cap := by
 obtain ⟨a, len, cap, rfl⟩ := okWide_slice Tryz.underlying45 hv
 obtain ⟨fuel, hf⟩ := h
 rcases Go.Deep.open_slice Tryz.underlying45 hf with ⟨hcs, _⟩ | ⟨x, l, c, m, n, D, Q, hcs, _, hl, hm, hmm, _, hx⟩
 ·simp [Value.cells] at hcs
  obtain ⟨rfl, rfl, rfl⟩ := hcs
  exact ⟨_, _, _, rfl, Nat.le_refl _, by simp, .inl rfl⟩
 ·simp [Value.cells] at hcs
  obtain ⟨rfl, rfl, rfl⟩ := hcs
  simp only [if_true] at hmm
  subst hmm
  rw [cellsRaw] at hx
  refine ⟨_, _, _, rfl, hl, hm, ?_⟩
  rcases Nat.eq_zero_or_pos len with h0 | hpos
  ·exact .inl h0
  ·right
   obtain ⟨b, off, spot⟩ := x
   obtain ⟨cs0, g1, g2⟩ := hx 0 (by omega)
   obtain ⟨k0, k1, k2, k3, rfl, _⟩ := raw_of_trod g2
   have hc0 := (World.cells?_some g1).2.2 0 (by omega)
   simp only [List.getElem?_cons_zero] at hc0
   have hsp : spot = none := by simpa [Addr.add] using World.cell?_spot hc0
   subst hsp
   refine ⟨b, off, rfl, ?_, ?_⟩
   ·have := cell_lt hc0; simpa [Addr.add] using this
   ·intro i hi
    obtain ⟨cs1, f1, f2⟩ := hx i (by omega)
    obtain ⟨k0, k1, k2, k3, rfl, hw⟩ := raw_of_trod f2
    have hc := (World.cells?_some f1).2.2
    have c0 := hc 0 (by omega)
    have c1 := hc 1 (by omega)
    have c2 := hc 2 (by omega)
    have c3 := hc 3 (by omega)
    simp only [add_none, List.getElem?_cons_zero, List.getElem?_cons_succ, Nat.add_zero] at c0 c1 c2 c3
    exact ⟨k0, k1, k2, k3, ⟨c0, c1, c2, c3⟩, hw⟩
end Go.Proofs.YtjjelkdajdeikaaGreatDoor
