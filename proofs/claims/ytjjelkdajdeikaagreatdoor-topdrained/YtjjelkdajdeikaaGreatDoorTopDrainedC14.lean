/-
 Proved: for every list of raw things and every four numbers, the law TopDrained returns true and leaves its arguments as they were: through a node that is drained no walk leads, when all have decided, unless it has a prefix of the address itself; the condition: strconv's table holds what it holds when the program begins.
-/
import Derived.Test.YtjjelkdajdeikaaGreatDoorCards
import Derived.Test.YtjjelkdajdeikaaGreatDoorTie
import Derived.Test.YtjjelkdajdeikaaGreatDoorTopDrainedC1
import Derived.Test.YtjjelkdajdeikaaGreatDoorTopDrainedC12
import Derived.Test.YtjjelkdajdeikaaGreatDoorTopDrainedC13
import Derived.Deep.DeepHandedRow
import Derived.Lib.LaidTab
namespace Go.Proofs.YtjjelkdajdeikaaGreatDoor.topDrained
open Go.ChangeShapes Go.WideShapes Go.ChangeAt Go.RowKit
set_option maxRecDepth 20000
set_option linter.unusedVariables false
/-- a node is drained -/
def acD (d : Nat) : Pl.Ac := ⟨3, d, 0, 1, 0, (0, 0), ⟨#[]⟩, ⟨#[]⟩⟩
theorem drainedD (s : Pl.Nt) {d : Nat} (hd : d < 5) : (Pl.actN s (acD d)).D d = true := by
 have h1 : ¬ ¬ (1 ≤ (acD d).kind ∧ (acD d).kind ≤ 10) := fun q => q (by show (1 : Int) ≤ 3 ∧ (3 : Int) ≤ 10; omega)
 have h2 : ¬ ¬ (0 ≤ (acD d).a ∧ (acD d).a ≤ 11) := fun q => q (by show (0 : Int) ≤ (d : Int) ∧ (d : Int) ≤ 11; omega)
 unfold Pl.actN
 rw [if_neg h1, if_neg h2, if_neg (by show ¬ ((3 : Int) = 1); omega), if_neg (by show ¬ ((3 : Int) = 2); omega), if_pos (by show (3 : Int) = 3; rfl)]
 show Pl.drainD s.D (acD d) d = true
 unfold Pl.drainD Pl.drainC
 rw [if_pos (by rw [if_pos (.inr rfl)])]
 show Pl.upd s.D ((d : Int)).toNat ((1 : Int) == 1) d = true
 rw [Int.toNat_natCast, Pl.upd_same]; rfl
theorem mid_mem {x y : Int} {rest : List Int} {n : Nat} (h : y ∈ ((x :: rest).drop 1).take n) : y ∈ rest := by
 simp only [List.drop_one, List.tail_cons] at h
 exact List.mem_of_mem_take h
theorem midInts {w : World} {pb po np yc : Nat} {zs : List Int} (h : IsInts w (some ⟨pb, po, none⟩) np yc zs) (h3 : 3 ≤ np) : IsInts w (some ⟨pb, po + 1, none⟩) (np - 2) (yc - 1) ((zs.drop 1).take (np - 2)) := by
 obtain ⟨h1, h2, h4, _, h5⟩ := h
 refine ⟨by rw [List.length_take, List.length_drop, h1]; omega, by omega, by omega, fun e => (by cases e), .inr ?_⟩
 obtain ⟨b, off, e, hb, hr⟩ : ∃ b off, some (⟨pb, po, none⟩ : Addr) = some ⟨b, off, none⟩ ∧ b < w.heap.size ∧ IntsAt w b off zs := by
  rcases h5 with h5 | h5
  ·rw [h5] at h1; simp at h1; omega
  ·exact h5
 simp only [Option.some.injEq, Addr.mk.injEq, and_true] at e
 obtain ⟨rfl, rfl⟩ := e
 refine ⟨_, _, rfl, hb, fun i hi => ?_⟩
 rw [List.length_take, List.length_drop, h1] at hi
 have := hr (i + 1) (by omega)
 rw [show po + 1 + i = po + (i + 1) by omega, this]
 congr 2
 rw [Pl.nm_eq zs (i + 1) (by omega), Pl.nm_eq _ i (by rw [List.length_take, List.length_drop, h1]; omega)]
 rw [List.getElem_take, List.getElem_drop]
 congr 1
 omega
set_option maxHeartbeats 16000000 in
theorem walk (a : Option Addr) (len cap : Nat) (e f d p : Int) (w : World) (h : IsRaws w a len cap) (he : (Lit.int .i64 e).wf = true) (hf : (Lit.int .i64 f).wf = true) (hd : (Lit.int .i64 d).wf = true) (hp : (Lit.int .i64 p).wf = true) (hT : Tab w) :
  Calls Tryz.prog 8 #[.slice a len cap, .int .i64 e, .int .i64 f, .int .i64 d, .int .i64 p] w fun e w' => e = .returned (.bool true) ∧ Below w.heap.size w w' := by
 have HR := hid h
 have HT := hid hT
 have be := wf_bounds he
 have bf := wf_bounds hf
 have bd := wf_bounds hd
 have bp := wf_bounds hp
 have HPE := hid (fun W => Picked_any e 5 W be.1 be.2 (by omega) (by omega))
 have HPF := hid (fun W => Picked_any f 5 W bf.1 bf.2 (by omega) (by omega))
 have HPD := hid (fun W => Picked_any d 256 W bd.1 bd.2 (by omega) (by omega))
 have HPP := hid (fun W => Picked_any p 9 W bp.1 bp.2 (by omega) (by omega))
 have hdr := Pl.pk_range e 5 (by omega)
 have hfr := Pl.pk_range f 5 (by omega)
 have hnn := Pl.pk_range d 256 (by omega)
 have hpk := Pl.pk_range p 9 (by omega)
 obtain ⟨dz, HDZ⟩ : ∃ c, Hid (Pl.pk e 5 = c) := ⟨_, hid rfl⟩
 obtain ⟨fz, HFZ⟩ : ∃ c, Hid (Pl.pk f 5 = c) := ⟨_, hid rfl⟩
 obtain ⟨nn, HNN⟩ : ∃ c, Hid (Pl.pk d 256 = c) := ⟨_, hid rfl⟩
 obtain ⟨pk9, HPK⟩ : ∃ c, Hid (Pl.pk p 9 = c) := ⟨_, hid rfl⟩
 rw [HDZ.out] at HPE hdr
 rw [HFZ.out] at HPF hfr
 rw [HNN.out] at HPD hnn
 rw [HPK.out] at HPP hpk
 obtain ⟨fr, rfl⟩ := Int.eq_ofNat_of_zero_le hfr.1
 obtain ⟨dr, rfl⟩ := Int.eq_ofNat_of_zero_le hdr.1
 have hfr5 : fr < 5 := by omega
 have hdr5 : dr < 5 := by omega
 clear h he hf hd hp hT be bf bd bp HFZ HNN HPK HDZ
 go_enter Tryz.func8, Tryz.ntmps8
 go_wp2_with (go_at_call 28; refine (HPE.out _).mono ?_; rintro e w' ⟨rfl, hw'⟩; rw [hw']; clear hw' w')
 refine (Drawn_any a len cap _ HR.out).mono ?_
 rintro e' w1 ⟨v1, xs, rfl, ho1, hl1, hok1, hb1⟩
 obtain ⟨W1, HW1⟩ : ∃ W, Hid (W = w1.alloc (.cells #[.int .i64 3, .int .i64 dr, .int .i64 0, .int .i64 1, .int .i64 0, .int .i64 0, .int .i64 0, .string ⟨#[]⟩, .string ⟨#[]⟩] 51)) := ⟨_, hid rfl⟩
 have hbx : Below w1.heap.size w1 W1 := by rw [HW1.out]; exact (Below.refl _ _).alloc (Nat.le_refl _) _
 have hx1 : W1.heap[w1.heap.size]? = some (.cells #[.int .i64 3, .int .i64 dr, .int .i64 0, .int .i64 1, .int .i64 0, .int .i64 0, .int .i64 0, .string ⟨#[]⟩, .string ⟨#[]⟩] 51) := by rw [HW1.out]; exact heapNew _ _
 have HX1 := hid (IsActs.lit (xs := [acD dr]) hx1 rfl (by intro x hx; rw [List.mem_singleton.1 hx]; exact Pl.ok_small (by omega) (by omega)) (by simp))
 have HO1 := hid (ho1.below hbx)
 have hzw : w.heap.size ≤ W1.heap.size := by have := hb1.size; have := hbx.size; omega
 have HBW1 : Hid (Below w.heap.size w W1) := hid (hb1.trans (hbx.mono hb1.size))
 obtain ⟨us, HU⟩ : ∃ us, Hid (us = xs ++ [acD dr]) := ⟨_, hid rfl⟩
 have HDG : Hid (Pl.DrG us) := hid ⟨by rw [HU.out, List.length_append]; show _ + 1 ≤ 46; omega, by
  intro x hx
  rw [HU.out] at hx
  rcases List.mem_append.1 hx with hx | hx
  ·exact hok1 x hx
  ·rw [List.mem_singleton.1 hx]
   exact ⟨Pl.ok_small (by omega) (by omega), by show (3 : Int) ≠ 8; omega, ⟨by show (0 : Int) ≤ (dr : Int); omega, by show (dr : Int) < 5; omega⟩, by show (0 : Int) ≤ 0 ∧ (0 : Int) < 5; omega⟩⟩
 have HDD : Hid ((Pl.runN Pl.Nt.new us).D dr = true) := hid (by rw [HU.out, Pl.runN_snoc]; exact drainedD _ hdr5)
 obtain ⟨n, HN⟩ : ∃ n, Hid (us.length = n) := ⟨_, hid rfl⟩
 have hl46 : n ≤ 46 := by rw [← HN.out]; exact HDG.out.1
 have HXL := hid hl1
 clear ho1 hok1 hb1 hbx hx1 hl1 HR HPE
 go_wp2_with (first | (go_at_call 28; refine (HPD.out _).mono ?_; rintro e w' ⟨rfl, hw'⟩; rw [hw']; clear hw' w') | (rw [← HW1.out]; at_builtin; refine append_acs rfl (.tmp 25) (.tmp 28) rfl w.heap.size v1 xs ⟨w1.heap.size, 0, none⟩ 1 1 [acD dr] rfl HO1.out hzw rfl HX1.out (by have := HXL.out; omega) (by omega) ?_; intro v2 w2 ho2 hb2; rw [← HU.out] at ho2; obtain ⟨a1, c1, rfl, hi1, hn1⟩ := ho2.acts2 (fun x hx => (HDG.out.2 x hx).1); rw [HN.out] at hi1 hn1 ⊢; have HI1 := hid hi1; have HN1 := hid hn1; have HB2 := hid (HBW1.out.trans hb2); clear ho2 hi1 hn1 hb2))
 rename ∀ (a : Act) (w : World), Code.wp _ _ _ a w → _ => hK
 obtain ⟨W2, HW2⟩ : ∃ W, Hid (W = w2.alloc (.cells #[.int .i64 nn] 3)) := ⟨_, hid rfl⟩
 have hb2 : Below w2.heap.size w2 W2 := by rw [HW2.out]; exact (Below.refl _ _).alloc (Nat.le_refl _) _
 have HC2 : Hid (W2.cell? ⟨w2.heap.size, 0, none⟩ = some (.int .i64 nn)) := hid (by rw [HW2.out]; simp)
 have hnb2 : w2.heap.size < W2.heap.size := by rw [HW2.out]; simp
 have HI2 := hid (HI1.out.below hb2)
 have HBW2 : Hid (Below w.heap.size w W2) := hid (HB2.out.trans (hb2.mono HB2.out.size))
 obtain ⟨wk, HWK⟩ : ∃ x : Pl.Ac, Hid (x = ⟨10, fr, 0, nn, pk9, (0, 0), ⟨#[]⟩, ⟨#[]⟩⟩) := ⟨_, hid rfl⟩
 obtain ⟨ys, HY⟩ : ∃ ys, Hid (ys = us ++ Pl.settle5 ++ [wk]) := ⟨_, hid rfl⟩
 have HWO : Hid (Pl.AcOk wk) := hid (by rw [HWK.out]; exact Pl.ok_small (by omega) (by omega))
 have HYO : Hid (∀ x ∈ ys, Pl.AcOk x) := hid (by
  intro x hx
  rw [HY.out] at hx
  rcases List.mem_append.1 hx with hx | hx
  ·rcases List.mem_append.1 hx with hx | hx
   ·exact (HDG.out.2 x hx).1
   ·exact Pl.settle5_ok x hx
  ·rw [List.mem_singleton.1 hx]; exact HWO.out)
 obtain ⟨r, HRR⟩ : ∃ r, Hid (r = n + 90) := ⟨_, hid rfl⟩
 obtain ⟨q, HQ⟩ : ∃ q, Hid (q = r + 1) := ⟨_, hid rfl⟩
 have HYL : Hid (ys.length = q) := hid (by rw [HY.out, List.length_append, List.length_append, HN.out, Pl.settle5_len, HQ.out, HRR.out]; rfl)
 obtain ⟨s, hset, hrs, hrp, hkept⟩ := Pl.walked (x := wk) (f := fr) HDG.out (by rw [HWK.out]) (by rw [HWK.out]) hfr5 HY.out
 have HSET := hid hset
 have HRS := hid hrs
 have HSD : Hid (s.D dr = true) := hid (by rw [hkept.2.1]; exact HDD.out)
 rw [HN.out, ← HRR.out] at hrp
 have HRP := hid hrp
 have HWN : Hid (wk.n = nn) := hid (by rw [HWK.out])
 have hwalk := hset.walk (x := wk) (f := fr) (by rw [HWK.out]) (by rw [HWK.out]) hfr5 (by rw [HWN.out]; omega) (by rw [HWK.out]; exact hpk.1)
 rw [HWN.out] at hwalk
 have HWALK := hid hwalk
 have hq140 : q ≤ 140 := by rw [HQ.out, HRR.out]; omega
 clear hb2 hset hrs hrp hkept hwalk HDD HI1 HXL
 rw [← HW2.out]
 refine topDrained4 (xs0 := us) (ys := ys) (ao := a1) (la := n) (ca := c1) (nb := w2.heap.size) (ff := f) (fr := fr) (nn := nn) (pp := p) (pk9 := pk9) rfl rfl rfl rfl rfl hnb2 HC2.out HI2.out HN1.out (by omega) HPF.out HPP.out (by rw [← HWK.out]; exact HWO.out) (by rw [← HWK.out]; exact HY.out) HYO.out (by rw [HYL.out]; omega) (HT.out.below HBW2.out) ?_ _ (by kernel_rfl)
 intro zs W3 hzl hreps hstores hcode hb3
 obtain ⟨x0, x1, x2, x3, x4, x5, x6, x7, x8, x9, x10, x11, x12, x13, x14, x15, x16, x17, x18, x19, x20, x21, x22, x23, x24, x25, x26, x27, x28, x29, x30, x31, x32, x33, rfl⟩ := listN34 zs hzl
 have hcode : x2 = .int .i64 0 := hcode
 subst hcode
 obtain ⟨ts, ar, cr, gs, cs, A, C, e0, e1, hts, hl, hcr, hmr, hcs, hms, hgs, hre, hown, hS⟩ := (runP_of rfl hreps hstores).read
 have e0 : x0 = .slice ar ys.length cr := e0
 have e1 : x1 = .slice (some ⟨gs, 0, none⟩) 12 cs := e1
 subst e0 e1
 rw [HYL.out] at hl hcr hre ⊢
 obtain ⟨gr, rfl, hgr, hre⟩ := hre.resolve_left (by rw [HQ.out]; omega)
 rw [HRS.out] at hS
 have HB3 : Hid (Below w.heap.size w W3) := hid (HBW2.out.trans (hb3.mono HBW2.out.size))
 have HC3 : Hid (W3.cell? ⟨w2.heap.size, 0, none⟩ = some (.int .i64 nn)) := hid ((hb3.cell (p := ⟨w2.heap.size, 0, none⟩) hnb2).trans HC2.out)
 have hnb3 : w2.heap.size < W3.heap.size := Nat.lt_of_lt_of_le hnb2 hb3.size
 have hrl : r < ts.length := by rw [hl, HQ.out]; omega
 obtain ⟨_, q1, _, _⟩ := hre r hrl
 obtain ⟨hoz, _⟩ := hown _ (rpv_mem hrl)
 have er : (rpv ts r).r = Pl.actR s wk := by rw [rpv_r, hts]; exact HRP.out
 obtain ⟨ya, yc, ez, hiz, _⟩ := hoz.ints
 rw [ez] at q1
 rw [er] at q1 hiz
 have HIZ := hid hiz
 generalize Pl.actR s wk = rr at *
 obtain ⟨np, HNP⟩ : ∃ c, Hid (rr.path.length = c) := ⟨_, hid rfl⟩
 rw [HNP.out] at q1 HIZ
 obtain ⟨s0, s1, _⟩ := hS dr (by omega)
 obtain ⟨o1, o2, o3⟩ := HSET.out.own hdr5
 have HPOK : Hid (∀ p ∈ s.P dr, 0 ≤ p.2 ∧ p.2 ≤ 8) := hid fun p hp => (Pl.pfx1_zero ((Pl.pfxF_good (HSET.out.fw.good.P dr)).2.1 p hp)).1
 have HPPK : Hid (∀ p ∈ s.P dr, Pl.pairOk p) := hid fun p hp => Pl.pairOk_of (by have := Pl.pfx1_zero ((Pl.pfxF_good (HSET.out.fw.good.P dr)).2.1 p hp); omega)
 have hvz : (Pl.gotE (s.K dr) (Pl.pfxKey (dr : Int))).val.size ≤ 120 := Pl.gotE_val _ _
 obtain ⟨g, HG⟩ : ∃ g, Hid (Pl.gotE (s.K dr) (Pl.pfxKey (dr : Int)) = g) := ⟨_, hid rfl⟩
 rw [HG.out] at hvz o2 o3
 obtain ⟨gk, gv, go, gx⟩ := g
 simp only at hvz o2 o3
 have HO1 := hid o1
 have HO2 := hid o2
 have HO3 := hid o3
 have HE := hid s1
 obtain ⟨ne, HNE⟩ : ∃ c, Hid ((s.K dr).length = c) := ⟨_, hid rfl⟩
 rw [HNE.out] at s0 HE
 have hei : (dr : Int) < 12 := by omega
 have hwq : IntKind.i64.wrap ((q : Int) - 1) = (r : Int) := by rw [IntKind.wrap_i64, HQ.out]; push_cast; omega
 have hrq : (r : Int) < (q : Int) := by rw [HQ.out]; omega
 clear hreps hstores hzl hre hown hS hts hl hoz er ez hiz hb3 s1 o1 o2 o3
 unfold maxLen at hmr hms
 simp only [setFrom_spl, spl]
 refine hK _ W3 ?_
 clear hK
 go_wp2_with fail
 rename ∀ (a : Act) (w : World), Code.wp _ _ _ a w → _ => hK
 refine topDrained7 (gs := gs) (cs := cs) (e := dr) (sl := ne) (sc := C dr) (sa := A dr) (es := s.K dr) (gk := gk) (gx := gx) (gv := gv) (go := go) (gc := 0) rfl rfl rfl hgs hei s0 HE.out HG.out HO1.out (HT.out.below HB3.out) ?_ _ (by kernel_rfl)
 intro zs W5 g hzl hgc hbox hgb hb5
 obtain ⟨x0, x1, x2, x3, x4, x5, x6, x7, x8, x9, x10, x11, x12, x13, x14, x15, x16, x17, x18, x19, x20, x21, x22, x23, x24, x25, x26, x27, x28, x29, x30, x31, x32, x33, x34, x35, x36, x37, x38, x39, x40, x41, x42, rfl⟩ := listN43 zs hzl
 have hgc : x0 = .int .i64 0 := hgc
 subst hgc
 obtain ⟨⟨d0, d1, d2, d3⟩, _, hdl⟩ := box4c hbox
 have HB5 : Hid (Below w.heap.size w W5) := hid (HB3.out.trans (hb5.mono HB3.out.size))
 have HC5 : Hid (W5.cell? ⟨w2.heap.size, 0, none⟩ = some (.int .i64 nn)) := hid ((hb5.cell (p := ⟨w2.heap.size, 0, none⟩) hnb3).trans HC3.out)
 have hnb5 : w2.heap.size < W5.heap.size := Nat.lt_of_lt_of_le hnb3 hb5.size
 have q15 := (hb5.cell (p := ⟨gr, r * 4 + 1, none⟩) hgr).trans q1
 have HIZ5 := hid (HIZ.out.below hb5)
 have hgr5 : gr < W5.heap.size := Nat.lt_of_lt_of_le hgr hb5.size
 clear hzl hbox hb5 s0 q1 HIZ HE
 simp only [List.setIfInBounds_toArray, List.set, setFrom_spl, spl]
 refine hK _ W5 ?_
 clear hK
 go_wp2_with fail
 refine (ReadPrefixes_any gx _ (by omega)).mono ?_
 rw [HO2.out, HO3.out]
 rintro e' w6 ⟨v6, rfl, ho6, hb6⟩
 obtain ⟨va, vc, rfl, hv6, _, _⟩ := OwnP.shape ho6 HPPK.out
 have HV6 := hid hv6
 have HB6 : Hid (Below w.heap.size w w6) := hid (HB5.out.trans (hb6.mono HB5.out.size))
 have HC6 : Hid (w6.cell? ⟨w2.heap.size, 0, none⟩ = some (.int .i64 nn)) := hid ((hb6.cell (p := ⟨w2.heap.size, 0, none⟩) hnb5).trans HC5.out)
 have hnb6 : w2.heap.size < w6.heap.size := Nat.lt_of_lt_of_le hnb5 hb6.size
 have q16 := (hb6.cell (p := ⟨gr, r * 4 + 1, none⟩) hgr5).trans q15
 have hgr6 : gr < w6.heap.size := Nat.lt_of_lt_of_le hgr5 hb6.size
 have HIZ6 := hid (HIZ5.out.below hb6)
 obtain ⟨nv, HNV⟩ : ∃ c, Hid ((s.P dr).length = c) := ⟨_, hid rfl⟩
 rw [HNV.out] at HV6 ⊢
 have hcn := HIZ6.out.2.1
 have hmn := HIZ6.out.2.2.1
 unfold maxLen at hmn
 clear ho6 hv6 hb6 d0 d1 d2 d3 q15 HIZ5
 by_cases h3 : np < 3
 ·have h3' : (np : Int) < 3 := by omega
  go_wp2_with fail
  go_ret
  exact ⟨ret_bool (by simp), HB6.out⟩
 ·have h3' : decide ((np : Int) < 3) = false := by simp; omega
  have hnw : IntKind.i64.wrap ((np : Int) - 1) = ((np - 1 : Nat) : Int) := by rw [IntKind.wrap_i64]; omega
  obtain ⟨pb, po, rfl, hpb, _⟩ := HIZ6.out.at (k := 0) (by omega)
  have HMI := hid (midInts HIZ6.out (by omega))
  have HCI := hid (fun (z : Int) => ContainsI_any (some ⟨pb, po + 1, none⟩) (np - 2) (yc - 1) ((rr.path.drop 1).take (np - 2)) z w6 HMI.out)
  have HMID : Hid ((dr : Int) ∈ (rr.path.drop 1).take (np - 2) → ∃ p ∈ s.P dr, nn - nn % Pl.span p.2 = p.1) := hid (by
   intro hm
   rcases HWALK.out with ⟨_, hrr⟩ | ⟨_, rest, c', e, hrr, _, _, _, hr5, _, _⟩
   ·have := HNP.out
    rw [hrr] at this
    simp at this
    omega
   ·rw [hrr] at hm
    obtain ⟨j, hj, hrch, hhas⟩ := hr5 _ (mid_mem hm)
    obtain rfl : dr = j := by omega
    exact HSET.out.has_hit hfr5 hrch (hhas (by rw [(HSET.out.knows hfr5 hrch).1]; exact HSD.out)))
  go_wp2_with fail
  rw [show np - 1 - 1 = np - 2 by omega]
  refine (HCI.out dr).mono ?_
  rintro e' w7 ⟨⟨v, rfl, hv⟩, hb7⟩
  cases v
  ·go_wp2_with fail
   go_ret
   exact ⟨ret_bool (by simp), HB6.out.trans (hb7.mono HB6.out.size)⟩
  ·have hhit := HMID.out (hv rfl)
   have HB7 : Hid (Below w.heap.size w w7) := hid (HB6.out.trans (hb7.mono HB6.out.size))
   have HCF := hid (ContainsFuncP_hit 36 w2.heap.size nn (enters_of Tryz.func36 (by kernel_rfl) rfl) (pred_drained w2.heap.size nn (by omega)) va nv vc (s.P dr) w7 (HV6.out.below hb7) HPOK.out ((hb7.cell (p := ⟨w2.heap.size, 0, none⟩) hnb6).trans HC6.out) (Nat.lt_of_lt_of_le hnb6 hb7.size) hhit)
   clear hhit hv hb7
   go_wp2_with fail
   refine HCF.out.mono ?_
   rintro e' w8 ⟨rfl, hb8⟩
   go_wp2_with fail
   go_ret
   exact ⟨ret_bool (by simp), HB7.out.trans (hb8.mono HB7.out.size)⟩
theorem gTab : Tryz.prog.globalNamed "internal/strconv.uint64pow10" = some 0 := by kernel_rfl
theorem gTabType : (Tryz.prog.globals[0]?).map (·.type) = some 231 := by kernel_rfl
theorem cellsTab : Tryz.prog.cellsOf 231 = 20 := by kernel_rfl
theorem laidTab : (Rows.laid_internal_strconv_uint64pow10 : DataW Unit) = Lib.tabData .u64 Lib.pow10Tab := by rfl
theorem table {W : World} (h : laidMetH Tryz.prog Rows.topDrainedRow.laid W) : Tab W := by
 have h1 : laidMet Tryz.prog Rows.topDrainedRow.laid W := h
 have h2 := laidMet.filter (fun x => x.1 == "internal/strconv.uint64pow10") h1
 have h3 : laidMet Tryz.prog [("internal/strconv.uint64pow10", (Rows.laid_internal_strconv_uint64pow10 : DataW Unit))] W := h2
 rw [laidTab] at h3
 exact Lib.tabIs_of_head (rest := []) gTab gTabType Tryz.underlying231 Tryz.underlying197 (by kernel_rfl) cellsTab h3
theorem contract (H : Type) (enc : TypeId × Value → H) (W : World) (base : Nat) (args : Array Value) (ds gs : List (DataW H)) (before : List MemPlace)
  (hval : ∀ (j : Nat) t v, Tryz.f8.params[j]? = some t → args[j]? = some v → Value.okWide Tryz.prog W .any base t v)
  (hW : DataW.Whole enc Tryz.prog Tryz.f8.params.toList Rows.topDrainedSpec.vars false W args.toList ds gs before) (hL : laidMetH Tryz.prog Rows.topDrainedRow.laid W) :
  Calls Tryz.prog 8 args W fun e W' => ∃ v, e = .returned v ∧ Rows.topDrainedSpec.post enc Tryz.prog Tryz.f8 false true false false W args v W' := by
 have hW' := hW
 obtain ⟨p, q, hA0, hV, rfl, hfz, hnd⟩ := hW
 have hA : DataW.TrodAll enc Tryz.prog W 0 (fun _ => true) true Tryz.f8.params.toList args.toList ds p := hA0
 rw [Tryz.params8] at hA hval
 obtain ⟨v0, vs0, d0, ds0, p0, q0, hargs, rfl, rfl, h0, r0⟩ := trodAll_cons hA
 obtain ⟨v1, vs1, d1, ds1, p1, q1, rfl, rfl, rfl, h1, r1⟩ := trodAll_cons r0
 obtain ⟨v2, vs2, d2, ds2, p2, q2, rfl, rfl, rfl, h2, r2⟩ := trodAll_cons r1
 obtain ⟨v3, vs3, d3, ds3, p3, q3, rfl, rfl, rfl, h3, r3⟩ := trodAll_cons r2
 obtain ⟨v4, vs4, d4, ds4, p4, q4, rfl, rfl, rfl, h4, r4⟩ := trodAll_cons r3
 obtain ⟨rfl, rfl, rfl⟩ := trodAll_nil r4
 obtain rfl : args = #[v0, v1, v2, v3, v4] := by cases args; simp_all
 obtain ⟨rfl, rfl⟩ := trodVars_none hV
 have k0 := h0
 have lt0 : ∀ x ∈ p0, x.block < W.heap.size := by obtain ⟨m, hm⟩ := k0; exact DataW.trod_lt m _ _ _ hm
 obtain ⟨a0, len0, cap0, rfl, w0⟩ := open_raws (hval 0 45 v0 rfl rfl) h0
 have k1 := h1
 have lt1 : ∀ x ∈ p1, x.block < W.heap.size := by obtain ⟨m, hm⟩ := k1; exact DataW.trod_lt m _ _ _ hm
 obtain ⟨a1, rfl, _, _, w1⟩ := open_int Tryz.underlying3 (hval 1 3 v1 rfl rfl) h1
 have k2 := h2
 have lt2 : ∀ x ∈ p2, x.block < W.heap.size := by obtain ⟨m, hm⟩ := k2; exact DataW.trod_lt m _ _ _ hm
 obtain ⟨a2, rfl, _, _, w2⟩ := open_int Tryz.underlying3 (hval 2 3 v2 rfl rfl) h2
 have k3 := h3
 have lt3 : ∀ x ∈ p3, x.block < W.heap.size := by obtain ⟨m, hm⟩ := k3; exact DataW.trod_lt m _ _ _ hm
 obtain ⟨a3, rfl, _, _, w3⟩ := open_int Tryz.underlying3 (hval 3 3 v3 rfl rfl) h3
 have k4 := h4
 have lt4 : ∀ x ∈ p4, x.block < W.heap.size := by obtain ⟨m, hm⟩ := k4; exact DataW.trod_lt m _ _ _ hm
 obtain ⟨a4, rfl, _, _, w4⟩ := open_int Tryz.underlying3 (hval 4 3 v4 rfl rfl) h4
 clear hA0
 refine (walk a0 len0 cap0 a1 a2 a3 a4 W w0 w1 w2 w3 w4 (table hL)).mono fun e W' ⟨he, bel⟩ => ?_
 subst he
 exact ⟨_, rfl, _, _, _, [], _, [], hW', trodAll_mk1 (shut_bool Tryz.underlying4 _), (trodAll_cons_mk (Below.trod laidOut (by kernel_rfl) (of_decide_eq_true (by kernel_rfl)) k0 bel lt0) (trodAll_cons_mk (Below.trod laidOut (by kernel_rfl) (of_decide_eq_true (by kernel_rfl)) k1 bel lt1) (trodAll_cons_mk (Below.trod laidOut (by kernel_rfl) (of_decide_eq_true (by kernel_rfl)) k2 bel lt2) (trodAll_cons_mk (Below.trod laidOut (by kernel_rfl) (of_decide_eq_true (by kernel_rfl)) k3 bel lt3) (trodAll_cons_mk (Below.trod laidOut (by kernel_rfl) (of_decide_eq_true (by kernel_rfl)) k4 bel lt4) trodAll_mk0))))), rfl, bel.frame _, fun h => by cases h⟩
def cells_laid_math_bits_deBruijn32tab : Array Value := #[.int .u8 0, .int .u8 1, .int .u8 28, .int .u8 2, .int .u8 29, .int .u8 14, .int .u8 24, .int .u8 3, .int .u8 30, .int .u8 22, .int .u8 20, .int .u8 15, .int .u8 25, .int .u8 17, .int .u8 4, .int .u8 8, .int .u8 31, .int .u8 27, .int .u8 13, .int .u8 23, .int .u8 21, .int .u8 19, .int .u8 16, .int .u8 7, .int .u8 26, .int .u8 12, .int .u8 18, .int .u8 6, .int .u8 11, .int .u8 5, .int .u8 10, .int .u8 9]
def cells_laid_math_bits_deBruijn64tab : Array Value := #[.int .u8 0, .int .u8 1, .int .u8 56, .int .u8 2, .int .u8 57, .int .u8 49, .int .u8 28, .int .u8 3, .int .u8 61, .int .u8 58, .int .u8 42, .int .u8 50, .int .u8 38, .int .u8 29, .int .u8 17, .int .u8 4, .int .u8 62, .int .u8 47, .int .u8 59, .int .u8 36, .int .u8 45, .int .u8 43, .int .u8 51, .int .u8 22, .int .u8 53, .int .u8 39, .int .u8 33, .int .u8 30, .int .u8 24, .int .u8 18, .int .u8 12, .int .u8 5, .int .u8 63, .int .u8 55, .int .u8 48, .int .u8 27, .int .u8 60, .int .u8 41, .int .u8 37, .int .u8 16, .int .u8 46, .int .u8 35, .int .u8 44, .int .u8 21, .int .u8 52, .int .u8 32, .int .u8 23, .int .u8 11, .int .u8 54, .int .u8 26, .int .u8 40, .int .u8 15, .int .u8 34, .int .u8 20, .int .u8 31, .int .u8 10, .int .u8 25, .int .u8 14, .int .u8 19, .int .u8 9, .int .u8 13, .int .u8 8, .int .u8 7, .int .u8 6]
def cells_laid_internal_strconv_uint64pow10 : Array Value := #[.int .u64 1, .int .u64 10, .int .u64 100, .int .u64 1000, .int .u64 10000, .int .u64 100000, .int .u64 1000000, .int .u64 10000000, .int .u64 100000000, .int .u64 1000000000, .int .u64 10000000000, .int .u64 100000000000, .int .u64 1000000000000, .int .u64 10000000000000, .int .u64 100000000000000, .int .u64 1000000000000000, .int .u64 10000000000000000, .int .u64 100000000000000000, .int .u64 1000000000000000000, .int .u64 10000000000000000000]
noncomputable def laidWorld (os : Os) : World := { World.holding Tryz.prog os ⟨#[], #[], []⟩ with heap := ((((World.holding Tryz.prog os ⟨#[], #[], []⟩).heap.modify 2 fun | .cells _ t frozen => .cells cells_laid_math_bits_deBruijn32tab t frozen | o => o).modify 3 fun | .cells _ t frozen => .cells cells_laid_math_bits_deBruijn64tab t frozen | o => o).modify 0 fun | .cells _ t frozen => .cells cells_laid_internal_strconv_uint64pow10 t frozen | o => o) }
set_option maxRecDepth 100000 in
theorem laid_met (os : Os) : laidMet Tryz.prog Rows.topDrainedRow.laid ((laidWorld os).forCall (fun _ _ => 0) ⟨#[], #[.slice none 0 0, .int .i64 0, .int .i64 0, .int .i64 0, .int .i64 0], []⟩).memory :=
 laidMet_of_run' 8 (by kernel_rfl) (by kernel_rfl)
set_option maxRecDepth 100000 in
theorem reads (os : Os) {H : Type} (enc : TypeId × Value → H) : ∃ places, DataW.whole enc Tryz.prog ((laidWorld os).forCall (fun _ _ => 0) ⟨#[], #[.slice none 0 0, .int .i64 0, .int .i64 0, .int .i64 0, .int .i64 0], []⟩).memory Tryz.f8.params.toList Rows.topDrainedSpec.vars false (#[.slice none 0 0, .int .i64 0, .int .i64 0, .int .i64 0, .int .i64 0] : Array Value).toList 8 = some ([.nil, .lit (.int .i64 0), .lit (.int .i64 0), .lit (.int .i64 0), .lit (.int .i64 0)], [], places) :=
 ⟨[], by kernel_rfl⟩
set_option maxRecDepth 100000 in
theorem lifted (os : Os) (started : os.Started) (H : Type) (enc : TypeId × Value → H) (F : Stop.Interp) :
  ReturnsInHanded {} Tryz.checked os 8 .any ((OpenSpec.ofChange Rows.topDrainedSpec).preRow enc Tryz.prog Tryz.f8 Rows.topDrainedRow.domain false Rows.topDrainedRow.laid) (((OpenSpec.ofChange Rows.topDrainedSpec).at F).post enc Tryz.prog Tryz.f8 false true false false) := by
 obtain ⟨places, hx⟩ := reads os enc
 refine returnsInHanded_of_row (C := Tryz.checked) (s := OpenSpec.ofChange Rows.topDrainedSpec) own started (by kernel_rfl) Tryz.func8
  (witness_row_at (enc := enc) (C := Tryz.checked) false (laidWorld os) #[.slice none 0 0, .int .i64 0, .int .i64 0, .int .i64 0, .int .i64 0] rfl (by kernel_rfl) (by kernel_rfl) (by kernel_rfl)
   (OpenSpec.preRow_of_cond 8 hx (by kernel_rfl) (fun k hk => by cases hk) (by kernel_rfl) (laid_met os))) ?_
 intro W base args ds gs before hval hW _ _ _ hL _ _
 exact contract H enc W base args ds gs before hval hW hL
theorem said : Rows.TopDrainedSaid :=
 OpenClaim.holds_of_cond 8 Tryz.f8 rfl rfl rfl rfl rfl rfl rfl ⟨rfl, rfl, rfl, rfl, rfl⟩ rfl rfl rfl rfl rfl (by kernel_rfl) Tryz.func8 (by kernel_rfl)
  (of_decide_eq_true (by kernel_rfl)) (by unfold Func.isWrapper; first | (rw [if_pos (by decide +kernel)]; kernel_rfl) | (rw [if_neg (by decide +kernel)]; exact ⟨rfl, rfl⟩))
  (fun os started H enc _ F => by rw [OpenClaim.pre_eq_preRow]; exact lifted os started H enc F)
theorem plain (f : FuncId) (fn : Func) (hf : Tryz.pinned.checked.prog.funcNamed "tollbar/tollbartop.TopDrained" = some f) (hfn : Tryz.pinned.checked.prog.funcs[f]? = some fn) :
  false = Tryz.pinned.checked.prog.looks [] ∧ ∀ (j : Nat) t, fn.params[j]? = some t → Tryz.pinned.checked.prog.wantsStandIn t = false := by
 obtain rfl : f = 8 := Option.some.inj ((show Tryz.prog.funcNamed "tollbar/tollbartop.TopDrained" = some 8 by kernel_rfl).symm.trans hf) |>.symm
 obtain rfl : fn = Tryz.f8 := (Option.some.inj (Tryz.func8.symm.trans hfn)).symm
 refine ⟨by kernel_rfl, fun j t ht => ?_⟩
 rw [Tryz.params8] at ht
 have h : t = 45 ∨ t = 3 := by have := Array.mem_of_getElem? ht; simp at this; omega
 rcases h with rfl | rfl
 ·exact (show Tryz.prog.wantsStandIn 45 = false by kernel_rfl)
 ·exact (show Tryz.prog.wantsStandIn 3 = false by kernel_rfl)
end Go.Proofs.YtjjelkdajdeikaaGreatDoor.topDrained
namespace Go.Proofs.YtjjelkdajdeikaaGreatDoor
theorem topDrained_card : Rows.TopDrainedCardSaid :=
 Claim7.holds_tied_plain_at .later [] _ _ _ _ topDrained.said (fun _ h => by cases h) (by kernel_rfl) (fun _ h => by cases h) topDrained_row_tie rfl ⟨rfl, rfl⟩ (by kernel_rfl) rfl topDrained.plain (by kernel_rfl)
#print axioms topDrained_card
end Go.Proofs.YtjjelkdajdeikaaGreatDoor
