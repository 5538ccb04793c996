/-
 Proved: for every list of raw things and every two numbers, the law TopTables returns true and leaves its arguments as they were: a node's table is made of what it knows, and what is found by a walk of one step is what the table tells; the condition: strconv's table holds what it holds when the program begins.
-/
import Derived.Test.YtjjelkdajdeikaaGreatDoorCards
import Derived.Test.YtjjelkdajdeikaaGreatDoorTie
import Derived.Test.YtjjelkdajdeikaaGreatDoorTopTablesC1
import Derived.Test.YtjjelkdajdeikaaGreatDoorTopTablesC11
import Derived.Test.YtjjelkdajdeikaaGreatDoorTopTablesC12
import Derived.Test.YtjjelkdajdeikaaGreatDoorTopTablesC13
import Derived.Test.YtjjelkdajdeikaaGreatDoorTopTablesC9
import Derived.Test.YtjjelkdajdeikaaGreatDoorTopTablesC3
import Derived.Deep.DeepHandedRow
import Derived.Lib.LaidTab
namespace Go.Proofs.YtjjelkdajdeikaaGreatDoor.topTables
open Go.ChangeShapes Go.WideShapes Go.ChangeAt Go.RowKit
set_option maxRecDepth 20000
set_option linter.unusedVariables false
set_option maxHeartbeats 16000000 in
theorem walk (a : Option Addr) (len cap : Nat) (f d : Int) (w : World) (h : IsRaws w a len cap) (hf : (Lit.int .i64 f).wf = true) (hd : (Lit.int .i64 d).wf = true) (hT : Tab w) :
  Calls Tryz.prog 9 #[.slice a len cap, .int .i64 f, .int .i64 d] w fun e w' => e = .returned (.bool true) ∧ Below w.heap.size w w' := by
 have HR := hid h
 have HT := hid hT
 have bf := wf_bounds hf
 have bd := wf_bounds hd
 have HPF := hid (fun W => Picked_any f 5 W bf.1 bf.2 (by omega) (by omega))
 have HPD := hid (fun W => Picked_any d 256 W bd.1 bd.2 (by omega) (by omega))
 have hfr := Pl.pk_range f 5 (by omega)
 have hnn := Pl.pk_range d 256 (by omega)
 obtain ⟨fz, HFZ⟩ : ∃ c, Hid (Pl.pk f 5 = c) := ⟨_, hid rfl⟩
 obtain ⟨nn, HNN⟩ : ∃ c, Hid (Pl.pk d 256 = c) := ⟨_, hid rfl⟩
 rw [HFZ.out] at HPF hfr
 rw [HNN.out] at HPD hnn
 obtain ⟨fr, rfl⟩ := Int.eq_ofNat_of_zero_le hfr.1
 have hfr5 : fr < 5 := by omega
 have hfi : (fr : Int) < 12 := by omega
 clear h hf hd hT bf bd HFZ HNN
 go_enter Tryz.func9, Tryz.ntmps9
 go_wp2_with (first | (go_at_call 28; refine (HPF.out _).mono ?_; rintro e w' ⟨rfl, hw'⟩; rw [hw']; clear hw' w') | (go_at_call 28; refine (HPD.out _).mono ?_; rintro e w' ⟨rfl, hw'⟩; rw [hw']; clear hw' w'))
 refine (Drawn_any a len cap _ HR.out).mono ?_
 rintro e w1 ⟨v1, xs, rfl, ho1, hl1, hok1, hb1⟩
 obtain ⟨a1, c1, rfl, hi1, hn1⟩ := ho1.acts2 (fun x hx => (hok1 x hx).1)
 have HDG : Hid (Pl.DrG xs) := hid ⟨by omega, hok1⟩
 obtain ⟨n, HN⟩ : ∃ n, Hid (xs.length = n) := ⟨_, hid rfl⟩
 rw [HN.out] at hi1 hn1 hl1 ⊢
 have HI1 := hid hi1
 have HN1 := hid hn1
 have HB1 := hid hb1
 clear ho1 hok1 hi1 hn1 hb1 HR
 go_wp2_with fail
 refine (Settle_any w1).mono ?_
 rintro e w2 ⟨v2, rfl, ho2, hb2⟩
 obtain ⟨a2, c2, rfl, hi2, hn2⟩ := ho2.acts2 Pl.settle5_ok
 rw [Pl.settle5_len] at hi2 hn2 ⊢
 have HN2 := hid hn2
 obtain ⟨wk, HWK⟩ : ∃ x : Pl.Ac, Hid (x = ⟨10, fr, 0, nn, 0, (0, 0), ⟨#[]⟩, ⟨#[]⟩⟩) := ⟨_, hid rfl⟩
 have HWO : Hid (Pl.AcOk wk) := hid (by rw [HWK.out]; exact Pl.ok_small (by omega) (by omega))
 obtain ⟨W3, HW3⟩ : ∃ W, Hid (W = w2.alloc (.cells #[.int .i64 10, .int .i64 fr, .int .i64 0, .int .i64 nn, .int .i64 0, .int .i64 0, .int .i64 0, .string ⟨#[]⟩, .string ⟨#[]⟩] 51)) := ⟨_, hid rfl⟩
 have hb3 : Below w2.heap.size w2 W3 := by rw [HW3.out]; exact (Below.refl _ _).alloc (Nat.le_refl _) _
 have hx3 : W3.heap[w2.heap.size]? = some (.cells #[.int .i64 10, .int .i64 fr, .int .i64 0, .int .i64 nn, .int .i64 0, .int .i64 0, .int .i64 0, .string ⟨#[]⟩, .string ⟨#[]⟩] 51) := by rw [HW3.out]; exact heapNew _ _
 have hz3 : W3.heap.size = w2.heap.size + 1 := by rw [HW3.out]; simp
 have hi3 := IsActs.lit (xs := [wk]) hx3 (by rw [HWK.out]; rfl) (by intro x hx; rw [List.mem_singleton.1 hx]; exact HWO.out) (by simp)
 obtain ⟨W4, HW4⟩ : ∃ W, Hid (W = W3.alloc (.cells #[.slice a1 n c1, .slice a2 90 c2, .slice (some ⟨w2.heap.size, 0, none⟩) 1 1] 22)) := ⟨_, hid rfl⟩
 have hb4 : Below W3.heap.size W3 W4 := by rw [HW4.out]; exact (Below.refl _ _).alloc (Nat.le_refl _) _
 have hk0 : W4.cell? ⟨W3.heap.size, 0, none⟩ = some (.slice a1 n c1) := by rw [HW4.out]; simp
 have hk1 : W4.cell? ⟨W3.heap.size, 1, none⟩ = some (.slice a2 90 c2) := by rw [HW4.out]; simp
 have hk2 : W4.cell? ⟨W3.heap.size, 2, none⟩ = some (.slice (some ⟨w2.heap.size, 0, none⟩) 1 1) := by rw [HW4.out]; simp
 have hkl : W3.heap.size < W4.heap.size := by rw [HW4.out]; simp
 have hb24 : Below w2.heap.size w2 W4 := hb3.trans (hb4.mono hb3.size)
 have hb14 : Below w1.heap.size w1 W4 := hb2.trans (hb24.mono hb2.size)
 have HB4 : Hid (Below w.heap.size w W4) := hid (HB1.out.trans (hb14.mono HB1.out.size))
 have HCC := hid (ConcatA_any W3.heap.size a1 a2 (some ⟨w2.heap.size, 0, none⟩) n c1 90 c2 1 1 xs Pl.settle5 [wk] W4 hkl hk0 hk1 hk2 (HI1.out.below hb14) (hi2.below hb24) (hi3.below hb4) HN1.out HN2.out (fun e => (by cases e)) (by omega) (by omega) (by omega) (by omega))
 rw [hz3] at HCC
 clear ho2 hb2 hi2 hn2 hb3 hx3 hi3 hb4 hk0 hk1 hk2 hkl hb24 hb14
 go_wp2_with (first | rw [← HW3.out] | rw [← HW4.out])
 try rw [← HW3.out]
 try rw [← HW4.out]
 refine HCC.out.mono ?_
 rintro e w5 ⟨v5, rfl, ho5, hb5⟩
 obtain ⟨ys, HY⟩ : ∃ ys, Hid (ys = xs ++ Pl.settle5 ++ [wk]) := ⟨_, hid rfl⟩
 rw [← HY.out] at ho5
 have HYO : Hid (∀ x ∈ ys, Pl.AcOk x) := hid (by
  intro x hx
  rw [HY.out] at hx
  rcases List.mem_append.1 hx with hx | hx
  ·rcases List.mem_append.1 hx with hx | hx
   ·exact (HDG.out.2 x hx).1
   ·exact Pl.settle5_ok x hx
  ·rw [List.mem_singleton.1 hx]; exact HWO.out)
 obtain ⟨r, HRR⟩ : ∃ r, Hid (r = n + 90) := ⟨_, hid rfl⟩
 obtain ⟨q, HQ⟩ : ∃ q, Hid (q = r + 1) := ⟨_, hid rfl⟩
 have HYL : Hid (ys.length = q) := hid (by rw [HY.out, List.length_append, List.length_append, HN.out, Pl.settle5_len, HQ.out, HRR.out]; rfl)
 obtain ⟨s, hset, hrs, hrp, hkept⟩ := Pl.walked (x := wk) (f := fr) HDG.out (by rw [HWK.out]) (by rw [HWK.out]) hfr5 HY.out
 have HSET := hid hset
 have HRS := hid hrs
 rw [HN.out, ← HRR.out] at hrp
 have HRP := hid hrp
 have HWN : Hid (wk.n = nn) := hid (by rw [HWK.out])
 have HWM : Hid (wk.m = 0) := hid (by rw [HWK.out])
 have hwalk := hset.walk (x := wk) (f := fr) (by rw [HWK.out]) (by rw [HWK.out]) hfr5 (by rw [HWN.out]; omega) (by rw [HWM.out]; omega)
 rw [HWN.out, HWM.out] at hwalk
 have HWALK := hid hwalk
 have hq140 : q ≤ 140 := by rw [HQ.out, HRR.out]; omega
 obtain ⟨a5, c5, rfl, hi5, hn5⟩ := ho5.acts2 HYO.out
 rw [HYL.out] at hi5 hn5 ⊢
 have HI5 := hid hi5
 have HB5 : Hid (Below w.heap.size w w5) := hid (HB4.out.trans (hb5.mono HB4.out.size))
 clear ho5 hb5 hset hrs hrp hkept hwalk hi5 hn5 HCC
 go_wp2_with fail
 refine (TopRun_any a5 q c5 ys w5 HI5.out (by omega) (HT.out.below HB5.out)).mono ?_
 rintro e w6 ⟨vr, vs, rfl, hr6, hb6⟩
 obtain ⟨ts, ar, cr, gs, cs, A, C, rfl, rfl, hts, hl, hcr, hmr, hcs, hms, hgs, hre, hown, hS⟩ := hr6.read
 rw [HYL.out] at hl hcr hre ⊢
 obtain ⟨gr, rfl, hgr, hre⟩ := hre.resolve_left (by rw [HQ.out]; omega)
 rw [HRS.out] at hS
 have HB6 : Hid (Below w.heap.size w w6) := hid (HB5.out.trans (hb6.mono HB5.out.size))
 have hrl : r < ts.length := by rw [hl, HQ.out]; omega
 obtain ⟨q0, q1, q2, q3⟩ := hre r hrl
 obtain ⟨hoz, hos⟩ := hown _ (rpv_mem hrl)
 have er : (rpv ts r).r = Pl.actR s wk := by rw [rpv_r, hts]; exact HRP.out
 obtain ⟨ya, yc, ez, hiz, _⟩ := hoz.ints
 obtain ⟨za, zc, es⟩ := ownsRow_slice hos
 rw [ez] at q1
 rw [es] at q3
 rw [er] at q0 q1 q2 q3 hiz
 generalize Pl.actR s wk = rr at *
 obtain ⟨np, HNP⟩ : ∃ c, Hid (rr.path.length = c) := ⟨_, hid rfl⟩
 obtain ⟨nk, HNK⟩ : ∃ c, Hid (rr.keys.length = c) := ⟨_, hid rfl⟩
 rw [HNP.out] at q1 hiz
 rw [HNK.out] at q3
 have HIZ6 := hid hiz
 obtain ⟨s0, s1, _⟩ := hS fr (by omega)
 have HE6 := hid s1
 obtain ⟨es', HES⟩ : ∃ x, Hid (s.K fr = x) := ⟨_, hid rfl⟩
 have HF : Hid (Pl.fault es' = 0) := hid (by rw [← HES.out]; exact HSET.out.fw.good.K fr)
 rw [HES.out] at s0 HE6 HWALK
 obtain ⟨ne, HNE⟩ : ∃ c, Hid (es'.length = c) := ⟨_, hid rfl⟩
 rw [HNE.out] at s0 HE6
 have hwq : IntKind.i64.wrap ((q : Int) - 1) = (r : Int) := by rw [IntKind.wrap_i64, HQ.out]; push_cast; omega
 have hrq : (r : Int) < (q : Int) := by rw [HQ.out]; omega
 have HQ0 := hid q0
 have HQ1 := hid q1
 have HQ2 := hid q2
 have HQ3 := hid q3
 have HTB := hid (Table_any (A fr) ne (C fr) es' (fr : Int) w6 HE6.out (HT.out.below HB6.out))
 have HWC : Hid (Pl.wayC es' (fr : Int) = 0) := hid (Pl.wayC_ok HF.out (by omega))
 have HTA : Hid (Pl.tabA es' (fr : Int) = Pl.tabL es' fr) := hid (by unfold Pl.tabA; rw [HWC.out, if_pos rfl, Int.toNat_natCast])
 rw [HWC.out, HTA.out] at HTB
 clear hr6 hb6 hre hown hS hts hl hoz hos er ez es hiz s1 q0 q1 q2 q3
 unfold maxLen at hmr hms
 go_wp2_with fail
 refine HTB.out.mono ?_
 rintro e w7 ⟨v7, hs, rfl, ho7, hb7⟩
 have HO7 := hid ho7
 obtain ⟨a7, c7, rfl, hr7, _⟩ := ho7.1.rows
 have HLK := hid (Lookup_any a7 hs.length c7 hs (Pl.tabL es' fr) nn w7 hr7 ho7.reads)
 obtain ⟨nh, HNH⟩ : ∃ c, Hid (hs.length = c) := ⟨_, hid rfl⟩
 obtain ⟨lc, HLC⟩ : ∃ c, Hid (Pl.lookC (Pl.tabL es' fr) nn = c) := ⟨_, hid rfl⟩
 have HOP := hid (fun h0 => (Pl.hop_on es' (by omega : fr < 12) (x := nn) (by omega) h0).2)
 obtain ⟨lr, HLR⟩ : ∃ c, Hid (Pl.lookR (Pl.tabL es' fr) nn = c) := ⟨_, hid rfl⟩
 rw [HLC.out, HLR.out] at HLK HWALK HOP
 rw [HNH.out] at HLK ⊢
 have HB7 : Hid (Below w.heap.size w w7) := hid (HB6.out.trans (hb7.mono HB6.out.size))
 have hgr7 : gr < w7.heap.size := Nat.lt_of_lt_of_le hgr hb7.size
 have HB67 := hid hb7
 clear ho7 hb7 hr7 HTB HO7
 go_wp2_with fail
 refine HLK.out.mono ?_
 rintro e w8 ⟨g, rfl, hrd, hb8⟩
 have HB8 : Hid (Below w.heap.size w w8) := hid (HB7.out.trans (hb8.mono HB7.out.size))
 have HB68 : Hid (Below w6.heap.size w6 w8) := hid (HB67.out.trans (hb8.mono HB67.out.size))
 obtain ⟨_, hg2, _, hg4, _⟩ := hrd
 obtain ⟨⟨g1, g2⟩, gh, gc, ga, gl, gk⟩ := g
 simp only at hg2 hg4 ⊢
 have HGH := hid hg2
 have HHO := hid hg4
 have hr0 := (HB68.out.cell (p := ⟨gr, r * 4, none⟩) hgr).trans HQ0.out
 have hr1 := (HB68.out.cell (p := ⟨gr, r * 4 + 1, none⟩) hgr).trans HQ1.out
 have hr2 := (HB68.out.cell (p := ⟨gr, r * 4 + 2, none⟩) hgr).trans HQ2.out
 have hr3 := (HB68.out.cell (p := ⟨gr, r * 4 + 3, none⟩) hgr).trans HQ3.out
 have hgr8 : gr < w8.heap.size := Nat.lt_of_lt_of_le hgr HB68.out.size
 have HIZ8 := hid (HIZ6.out.below HB68.out)
 clear hb8 hg2 hg4 HLK HQ0 HQ1 HQ2 HQ3 HIZ6
 obtain ⟨W9, HW9⟩ : ∃ W, Hid (W = w8.alloc (.cells #[.int .i64 g1, .int .i64 g2, .bool gh, .int .i64 gc, .slice ga gl gk] 80)) := ⟨_, hid rfl⟩
 have hb9 : Below w8.heap.size w8 W9 := by rw [HW9.out]; exact (Below.refl _ _).alloc (Nat.le_refl _) _
 have hx9 : W9.heap[w8.heap.size]? = some (.cells #[.int .i64 g1, .int .i64 g2, .bool gh, .int .i64 gc, .slice ga gl gk] 80) := by rw [HW9.out]; exact heapNew _ _
 have hz9 : W9.heap.size = w8.heap.size + 1 := by rw [HW9.out]; simp
 rcases HWALK.out with ⟨hlc, hrr⟩ | ⟨hlc, rest, c', e, hrr, _, _, _, _, hhere, hnext⟩
 ·subst hrr
  subst hlc
  simp only at hr0 hr1 hr2 hr3
  obtain ⟨W10, HW10⟩ : ∃ W, Hid (W = W9.alloc (.cells #[.int .i64 6, .slice ya np yc, .int .i64 0, .slice za nk zc] 40)) := ⟨_, hid rfl⟩
  have hb10 : Below W9.heap.size W9 W10 := by rw [HW10.out]; exact (Below.refl _ _).alloc (Nat.le_refl _) _
  have hx10 : W10.heap[W9.heap.size]? = some (.cells #[.int .i64 6, .slice ya np yc, .int .i64 0, .slice za nk zc] 40) := by rw [HW10.out]; exact heapNew _ _
  rw [hz9] at hx10
  obtain ⟨⟨b0, b1, b2, b3⟩, _, hbl⟩ := box4c hx10
  have HBF : Hid (Below w.heap.size w W10) := hid (HB8.out.trans ((hb9.trans (hb10.mono hb9.size)).mono HB8.out.size))
  have r90 := (hb9.cell (p := ⟨gr, r * 4, none⟩) hgr8).trans hr0
  have r91 := (hb9.cell (p := ⟨gr, r * 4 + 1, none⟩) hgr8).trans hr1
  have r92 := (hb9.cell (p := ⟨gr, r * 4 + 2, none⟩) hgr8).trans hr2
  have r93 := (hb9.cell (p := ⟨gr, r * 4 + 3, none⟩) hgr8).trans hr3
  have hgr9 : gr < W9.heap.size := Nat.lt_of_lt_of_le hgr8 hb9.size
  clear hr0 hr1 hr2 hr3 hx9 hx10 hb9 hb10
  go_wp2_with (first | rw [← HW9.out] | rw [← HW10.out])
  have hne := in_some W10
  refine wp_region_in (by kernel_rfl) (by kernel_rfl) ?_
  repeat (go_big_quiet_step (fail))
  refine wpQuiet_nil ?_
  intro w11 hw'
  have hb11 := in_out hw'
  clear hw' hne
  go_wp2_with fail
  go_ret
  exact ⟨rfl, HBF.out.trans (hb11.mono HBF.out.size)⟩
 ·subst hrr
  subst hlc
  simp only at hr0 hr1 hr2 hr3 HIZ8 HNP
  obtain ⟨W10, HW10⟩ : ∃ W, Hid (W = W9.alloc (.cells #[.int .i64 0, .slice ya np yc, .int .i64 c', .slice za nk zc] 40)) := ⟨_, hid rfl⟩
  have hb10 : Below W9.heap.size W9 W10 := by rw [HW10.out]; exact (Below.refl _ _).alloc (Nat.le_refl _) _
  have hx10 : W10.heap[W9.heap.size]? = some (.cells #[.int .i64 0, .slice ya np yc, .int .i64 c', .slice za nk zc] 40) := by rw [HW10.out]; exact heapNew _ _
  rw [hz9] at hx10
  obtain ⟨⟨b0, b1, b2, b3⟩, _, hbl⟩ := box4c hx10
  obtain ⟨⟨d0, d1, d2, d3, d4⟩, _, hdl⟩ := bx5 ((hb10.block _ (blockLt hx9)).trans hx9)
  have HB810 : Hid (Below w8.heap.size w8 W10) := hid (hb9.trans (hb10.mono hb9.size))
  have HBF : Hid (Below w.heap.size w W10) := hid (HB8.out.trans (HB810.out.mono HB8.out.size))
  have r90 := (hb9.cell (p := ⟨gr, r * 4, none⟩) hgr8).trans hr0
  have r91 := (hb9.cell (p := ⟨gr, r * 4 + 1, none⟩) hgr8).trans hr1
  have r92 := (hb9.cell (p := ⟨gr, r * 4 + 2, none⟩) hgr8).trans hr2
  have r93 := (hb9.cell (p := ⟨gr, r * 4 + 3, none⟩) hgr8).trans hr3
  have hgr9 : gr < W9.heap.size := Nat.lt_of_lt_of_le hgr8 hb9.size
  have HOPS := hid (HOP.out rfl)
  clear hr0 hr1 hr2 hr3 hx9 hx10 hb9 hb10
  by_cases hh : lr.here = true
  ·obtain rfl : gh = true := by rw [HGH.out]; exact hh
   have hr := hhere hh
   subst hr
   obtain rfl : np = 1 := by have := HNP.out; simpa using this.symm
   go_wp2_with (first | rw [← HW9.out] | rw [← HW10.out])
   have hne := in_some W10
   have i1 := in_cell hdl d2
   have i2 := in_cell hbl b1
   refine wp_region_in (by kernel_rfl) (by kernel_rfl) ?_
   repeat (go_big_quiet_step (fail))
   refine wpQuiet_nil ?_
   intro w11 hw'
   have hb11 := in_out hw'
   clear hw' hne i1 i2
   go_wp2_with fail
   go_ret
   exact ⟨rfl, HBF.out.trans (hb11.mono HBF.out.size)⟩
  ·have hh' : lr.here = false := by simpa using hh
   obtain rfl : gh = false := by rw [HGH.out]; exact hh'
   have hr := hnext hh'
   have hops := (HOPS.out hh').1
   rw [show (0 : Int).toNat % lr.hops.length = 0 by simp] at hr
   cases rest with
   | nil => cases hr
   | cons y rest =>
    have hy : y = Pl.nm lr.hops 0 := by simpa using hr
    have hnp : 2 ≤ np := by have := HNP.out; simp at this; omega
    obtain ⟨pb, po, rfl, hpb, hpi⟩ := (HIZ8.out.below HB810.out).at (k := 1) (by omega)
    have hp1 := hpi 1 (by simp)
    have hn1 : Pl.nm ((fr : Int) :: y :: rest) 1 = y := rfl
    rw [hn1] at hp1
    have hgl : 0 < gl := by
     have h1 := HHO.out.1
     have := List.length_pos_iff.2 hops
     omega
    obtain ⟨hb', ho', rfl, hhb, hhi⟩ := (HHO.out.below HB810.out).at (k := 0) hgl
    have hh0 := hhi 0 (by have h1 := HHO.out.1; omega)
    rw [← hy, Nat.add_zero] at hh0
    have hg0 : (0 : Int) < (gl : Int) := by omega
    have hn1i : (1 : Int) < (np : Int) := by omega
    clear hpi hhi hy hr hops hnext hhere HOP HOPS HWALK
    go_wp2_with (first | rw [← HW9.out] | rw [← HW10.out])
    have hne := in_some W10
    have i1 := in_cell hdl d2
    have i2 := in_cell hbl b1
    have i3 := in_cell hdl d4
    have i4 := in_cell hpb hp1
    have i5 := in_cell hhb hh0
    refine wp_region_in (by kernel_rfl) (by kernel_rfl) ?_
    repeat (go_big_quiet_step (fail))
    refine wpQuiet_nil ?_
    intro w11 hw'
    have hb11 := in_out hw'
    clear hw' hne i1 i2 i3 i4 i5
    go_wp2_with fail
    go_ret
    exact ⟨rfl, HBF.out.trans (hb11.mono HBF.out.size)⟩
theorem gTab : Tryz.prog.globalNamed "internal/strconv.uint64pow10" = some 0 := by kernel_rfl
theorem gTabType : (Tryz.prog.globals[0]?).map (·.type) = some 231 := by kernel_rfl
theorem cellsTab : Tryz.prog.cellsOf 231 = 20 := by kernel_rfl
theorem laidTab : (Rows.laid_internal_strconv_uint64pow10 : DataW Unit) = Lib.tabData .u64 Lib.pow10Tab := by rfl
theorem table {W : World} (h : laidMetH Tryz.prog Rows.topTablesRow.laid W) : Tab W := by
 have h1 : laidMet Tryz.prog Rows.topTablesRow.laid W := h
 have h2 := laidMet.filter (fun x => x.1 == "internal/strconv.uint64pow10") h1
 have h3 : laidMet Tryz.prog [("internal/strconv.uint64pow10", (Rows.laid_internal_strconv_uint64pow10 : DataW Unit))] W := h2
 rw [laidTab] at h3
 exact Lib.tabIs_of_head (rest := []) gTab gTabType Tryz.underlying231 Tryz.underlying197 (by kernel_rfl) cellsTab h3
theorem contract (H : Type) (enc : TypeId × Value → H) (W : World) (base : Nat) (args : Array Value) (ds gs : List (DataW H)) (before : List MemPlace)
  (hval : ∀ (j : Nat) t v, Tryz.f9.params[j]? = some t → args[j]? = some v → Value.okWide Tryz.prog W .any base t v)
  (hW : DataW.Whole enc Tryz.prog Tryz.f9.params.toList Rows.topTablesSpec.vars false W args.toList ds gs before) (hL : laidMetH Tryz.prog Rows.topTablesRow.laid W) :
  Calls Tryz.prog 9 args W fun e W' => ∃ v, e = .returned v ∧ Rows.topTablesSpec.post enc Tryz.prog Tryz.f9 false true false false W args v W' := by
 have hW' := hW
 obtain ⟨p, q, hA0, hV, rfl, hfz, hnd⟩ := hW
 have hA : DataW.TrodAll enc Tryz.prog W 0 (fun _ => true) true Tryz.f9.params.toList args.toList ds p := hA0
 rw [Tryz.params9] at hA hval
 obtain ⟨v0, vs0, d0, ds0, p0, q0, hargs, rfl, rfl, h0, r0⟩ := trodAll_cons hA
 obtain ⟨v1, vs1, d1, ds1, p1, q1, rfl, rfl, rfl, h1, r1⟩ := trodAll_cons r0
 obtain ⟨v2, vs2, d2, ds2, p2, q2, rfl, rfl, rfl, h2, r2⟩ := trodAll_cons r1
 obtain ⟨rfl, rfl, rfl⟩ := trodAll_nil r2
 obtain rfl : args = #[v0, v1, v2] := by cases args; simp_all
 obtain ⟨rfl, rfl⟩ := trodVars_none hV
 have k0 := h0
 have lt0 : ∀ x ∈ p0, x.block < W.heap.size := by obtain ⟨m, hm⟩ := k0; exact DataW.trod_lt m _ _ _ hm
 obtain ⟨a0, len0, cap0, rfl, w0⟩ := open_raws (hval 0 45 v0 rfl rfl) h0
 have k1 := h1
 have lt1 : ∀ x ∈ p1, x.block < W.heap.size := by obtain ⟨m, hm⟩ := k1; exact DataW.trod_lt m _ _ _ hm
 obtain ⟨a1, rfl, _, _, w1⟩ := open_int Tryz.underlying3 (hval 1 3 v1 rfl rfl) h1
 have k2 := h2
 have lt2 : ∀ x ∈ p2, x.block < W.heap.size := by obtain ⟨m, hm⟩ := k2; exact DataW.trod_lt m _ _ _ hm
 obtain ⟨a2, rfl, _, _, w2⟩ := open_int Tryz.underlying3 (hval 2 3 v2 rfl rfl) h2
 clear hA0
 refine (walk a0 len0 cap0 a1 a2 W w0 w1 w2 (table hL)).mono fun e W' ⟨he, bel⟩ => ?_
 subst he
 exact ⟨_, rfl, _, _, _, [], _, [], hW', trodAll_mk1 (shut_bool Tryz.underlying4 _), (trodAll_cons_mk (Below.trod laidOut (by kernel_rfl) (of_decide_eq_true (by kernel_rfl)) k0 bel lt0) (trodAll_cons_mk (Below.trod laidOut (by kernel_rfl) (of_decide_eq_true (by kernel_rfl)) k1 bel lt1) (trodAll_cons_mk (Below.trod laidOut (by kernel_rfl) (of_decide_eq_true (by kernel_rfl)) k2 bel lt2) trodAll_mk0))), rfl, bel.frame _, fun h => by cases h⟩
def cells_laid_math_bits_deBruijn32tab : Array Value := #[.int .u8 0, .int .u8 1, .int .u8 28, .int .u8 2, .int .u8 29, .int .u8 14, .int .u8 24, .int .u8 3, .int .u8 30, .int .u8 22, .int .u8 20, .int .u8 15, .int .u8 25, .int .u8 17, .int .u8 4, .int .u8 8, .int .u8 31, .int .u8 27, .int .u8 13, .int .u8 23, .int .u8 21, .int .u8 19, .int .u8 16, .int .u8 7, .int .u8 26, .int .u8 12, .int .u8 18, .int .u8 6, .int .u8 11, .int .u8 5, .int .u8 10, .int .u8 9]
def cells_laid_math_bits_deBruijn64tab : Array Value := #[.int .u8 0, .int .u8 1, .int .u8 56, .int .u8 2, .int .u8 57, .int .u8 49, .int .u8 28, .int .u8 3, .int .u8 61, .int .u8 58, .int .u8 42, .int .u8 50, .int .u8 38, .int .u8 29, .int .u8 17, .int .u8 4, .int .u8 62, .int .u8 47, .int .u8 59, .int .u8 36, .int .u8 45, .int .u8 43, .int .u8 51, .int .u8 22, .int .u8 53, .int .u8 39, .int .u8 33, .int .u8 30, .int .u8 24, .int .u8 18, .int .u8 12, .int .u8 5, .int .u8 63, .int .u8 55, .int .u8 48, .int .u8 27, .int .u8 60, .int .u8 41, .int .u8 37, .int .u8 16, .int .u8 46, .int .u8 35, .int .u8 44, .int .u8 21, .int .u8 52, .int .u8 32, .int .u8 23, .int .u8 11, .int .u8 54, .int .u8 26, .int .u8 40, .int .u8 15, .int .u8 34, .int .u8 20, .int .u8 31, .int .u8 10, .int .u8 25, .int .u8 14, .int .u8 19, .int .u8 9, .int .u8 13, .int .u8 8, .int .u8 7, .int .u8 6]
def cells_laid_internal_strconv_uint64pow10 : Array Value := #[.int .u64 1, .int .u64 10, .int .u64 100, .int .u64 1000, .int .u64 10000, .int .u64 100000, .int .u64 1000000, .int .u64 10000000, .int .u64 100000000, .int .u64 1000000000, .int .u64 10000000000, .int .u64 100000000000, .int .u64 1000000000000, .int .u64 10000000000000, .int .u64 100000000000000, .int .u64 1000000000000000, .int .u64 10000000000000000, .int .u64 100000000000000000, .int .u64 1000000000000000000, .int .u64 10000000000000000000]
noncomputable def laidWorld (os : Os) : World := { World.holding Tryz.prog os ⟨#[], #[], []⟩ with heap := ((((World.holding Tryz.prog os ⟨#[], #[], []⟩).heap.modify 2 fun | .cells _ t frozen => .cells cells_laid_math_bits_deBruijn32tab t frozen | o => o).modify 3 fun | .cells _ t frozen => .cells cells_laid_math_bits_deBruijn64tab t frozen | o => o).modify 0 fun | .cells _ t frozen => .cells cells_laid_internal_strconv_uint64pow10 t frozen | o => o) }
set_option maxRecDepth 100000 in
theorem laid_met (os : Os) : laidMet Tryz.prog Rows.topTablesRow.laid ((laidWorld os).forCall (fun _ _ => 0) ⟨#[], #[.slice none 0 0, .int .i64 0, .int .i64 0], []⟩).memory :=
 laidMet_of_run' 8 (by kernel_rfl) (by kernel_rfl)
set_option maxRecDepth 100000 in
theorem reads (os : Os) {H : Type} (enc : TypeId × Value → H) : ∃ places, DataW.whole enc Tryz.prog ((laidWorld os).forCall (fun _ _ => 0) ⟨#[], #[.slice none 0 0, .int .i64 0, .int .i64 0], []⟩).memory Tryz.f9.params.toList Rows.topTablesSpec.vars false (#[.slice none 0 0, .int .i64 0, .int .i64 0] : Array Value).toList 8 = some ([.nil, .lit (.int .i64 0), .lit (.int .i64 0)], [], places) :=
 ⟨[], by kernel_rfl⟩
set_option maxRecDepth 100000 in
theorem lifted (os : Os) (started : os.Started) (H : Type) (enc : TypeId × Value → H) (F : Stop.Interp) :
  ReturnsInHanded {} Tryz.checked os 9 .any ((OpenSpec.ofChange Rows.topTablesSpec).preRow enc Tryz.prog Tryz.f9 Rows.topTablesRow.domain false Rows.topTablesRow.laid) (((OpenSpec.ofChange Rows.topTablesSpec).at F).post enc Tryz.prog Tryz.f9 false true false false) := by
 obtain ⟨places, hx⟩ := reads os enc
 refine returnsInHanded_of_row (C := Tryz.checked) (s := OpenSpec.ofChange Rows.topTablesSpec) own started (by kernel_rfl) Tryz.func9
  (witness_row_at (enc := enc) (C := Tryz.checked) false (laidWorld os) #[.slice none 0 0, .int .i64 0, .int .i64 0] rfl (by kernel_rfl) (by kernel_rfl) (by kernel_rfl)
   (OpenSpec.preRow_of_cond 8 hx (by kernel_rfl) (fun k hk => by cases hk) (by kernel_rfl) (laid_met os))) ?_
 intro W base args ds gs before hval hW _ _ _ hL _ _
 exact contract H enc W base args ds gs before hval hW hL
theorem said : Rows.TopTablesSaid :=
 OpenClaim.holds_of_cond 9 Tryz.f9 rfl rfl rfl rfl rfl rfl rfl ⟨rfl, rfl, rfl, rfl, rfl⟩ rfl rfl rfl rfl rfl (by kernel_rfl) Tryz.func9 (by kernel_rfl)
  (of_decide_eq_true (by kernel_rfl)) (by unfold Func.isWrapper; first | (rw [if_pos (by decide +kernel)]; kernel_rfl) | (rw [if_neg (by decide +kernel)]; exact ⟨rfl, rfl⟩))
  (fun os started H enc _ F => by rw [OpenClaim.pre_eq_preRow]; exact lifted os started H enc F)
theorem plain (f : FuncId) (fn : Func) (hf : Tryz.pinned.checked.prog.funcNamed "tollbar/tollbartop.TopTables" = some f) (hfn : Tryz.pinned.checked.prog.funcs[f]? = some fn) :
  false = Tryz.pinned.checked.prog.looks [] ∧ ∀ (j : Nat) t, fn.params[j]? = some t → Tryz.pinned.checked.prog.wantsStandIn t = false := by
 obtain rfl : f = 9 := Option.some.inj ((show Tryz.prog.funcNamed "tollbar/tollbartop.TopTables" = some 9 by kernel_rfl).symm.trans hf) |>.symm
 obtain rfl : fn = Tryz.f9 := (Option.some.inj (Tryz.func9.symm.trans hfn)).symm
 refine ⟨by kernel_rfl, fun j t ht => ?_⟩
 rw [Tryz.params9] at ht
 have h : t = 45 ∨ t = 3 := by have := Array.mem_of_getElem? ht; simp at this; omega
 rcases h with rfl | rfl
 ·exact (show Tryz.prog.wantsStandIn 45 = false by kernel_rfl)
 ·exact (show Tryz.prog.wantsStandIn 3 = false by kernel_rfl)
end Go.Proofs.YtjjelkdajdeikaaGreatDoor.topTables
namespace Go.Proofs.YtjjelkdajdeikaaGreatDoor
theorem topTables_card : Rows.TopTablesCardSaid :=
 Claim7.holds_tied_plain_at .later [] _ _ _ _ topTables.said (fun _ h => by cases h) (by kernel_rfl) (fun _ h => by cases h) topTables_row_tie rfl ⟨rfl, rfl⟩ (by kernel_rfl) rfl topTables.plain (by kernel_rfl)
#print axioms topTables_card
end Go.Proofs.YtjjelkdajdeikaaGreatDoor
