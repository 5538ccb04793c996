/-
 Proved: for every list of raw things and every three numbers, the law TopWalks returns true and leaves its arguments as they were: when all have decided no walk goes round, and each ends at a node that has a prefix of the address; the condition: strconv's table holds what it holds when the program begins.
-/
import Derived.Test.YtjjelkdajdeikaaGreatDoorCards
import Derived.Test.YtjjelkdajdeikaaGreatDoorTie
import Derived.Test.YtjjelkdajdeikaaGreatDoorTopWalksC1
import Derived.Test.YtjjelkdajdeikaaGreatDoorTopWalksC12
import Derived.Test.YtjjelkdajdeikaaGreatDoorTopWalksC13
import Derived.Deep.DeepHandedRow
import Derived.Lib.LaidTab
namespace Go.Proofs.YtjjelkdajdeikaaGreatDoor.topWalks
open Go.ChangeShapes Go.WideShapes Go.ChangeAt Go.RowKit
set_option maxRecDepth 20000
set_option linter.unusedVariables false
set_option maxHeartbeats 16000000 in
theorem walk (a : Option Addr) (len cap : Nat) (f d p : Int) (w : World) (h : IsRaws w a len cap) (hf : (Lit.int .i64 f).wf = true) (hd : (Lit.int .i64 d).wf = true) (hp : (Lit.int .i64 p).wf = true) (hT : Tab w) :
  Calls Tryz.prog 7 #[.slice a len cap, .int .i64 f, .int .i64 d, .int .i64 p] w fun e w' => e = .returned (.bool true) ∧ Below w.heap.size w w' := by
 have HR := hid h
 have HT := hid hT
 have bf := wf_bounds hf
 have bd := wf_bounds hd
 have bp := wf_bounds hp
 have HPF := hid (fun W => Picked_any f 5 W bf.1 bf.2 (by omega) (by omega))
 have HPD := hid (fun W => Picked_any d 256 W bd.1 bd.2 (by omega) (by omega))
 have HPP := hid (fun W => Picked_any p 9 W bp.1 bp.2 (by omega) (by omega))
 have hfr := Pl.pk_range f 5 (by omega)
 have hnn := Pl.pk_range d 256 (by omega)
 have hpk := Pl.pk_range p 9 (by omega)
 obtain ⟨fz, HFZ⟩ : ∃ c, Hid (Pl.pk f 5 = c) := ⟨_, hid rfl⟩
 obtain ⟨nn, HNN⟩ : ∃ c, Hid (Pl.pk d 256 = c) := ⟨_, hid rfl⟩
 obtain ⟨pk9, HPK⟩ : ∃ c, Hid (Pl.pk p 9 = c) := ⟨_, hid rfl⟩
 rw [HFZ.out] at HPF hfr
 rw [HNN.out] at HPD hnn
 rw [HPK.out] at HPP hpk
 obtain ⟨fr, rfl⟩ := Int.eq_ofNat_of_zero_le hfr.1
 have hfr5 : fr < 5 := by omega
 clear h hf hd hp hT bf bd bp HFZ HNN HPK
 go_enter Tryz.func7, Tryz.ntmps7
 go_wp2_with fail
 refine (Drawn_any a len cap _ HR.out).mono ?_
 rintro e w1 ⟨v1, xs, rfl, ho1, hl1, hok1, hb1⟩
 obtain ⟨a1, c1, rfl, hi1, hn1⟩ := ho1.acts2 (fun x hx => (hok1 x hx).1)
 have HDG : Hid (Pl.DrG xs) := hid ⟨by omega, hok1⟩
 obtain ⟨n, HN⟩ : ∃ n, Hid (xs.length = n) := ⟨_, hid rfl⟩
 rw [HN.out] at hi1 hn1 hl1 ⊢
 have HN1 := hid hn1
 obtain ⟨W2, HW2⟩ : ∃ W, Hid (W = w1.alloc (.cells #[.int .i64 nn] 3)) := ⟨_, hid rfl⟩
 have hb2 : Below w1.heap.size w1 W2 := by rw [HW2.out]; exact (Below.refl _ _).alloc (Nat.le_refl _) _
 have HC2 : Hid (W2.cell? ⟨w1.heap.size, 0, none⟩ = some (.int .i64 nn)) := hid (by rw [HW2.out]; simp)
 have hnb2 : w1.heap.size < W2.heap.size := by rw [HW2.out]; simp
 have HI2 := hid (hi1.below hb2)
 have HB2 : Hid (Below w.heap.size w W2) := hid (hb1.trans (hb2.mono hb1.size))
 obtain ⟨wk, HWK⟩ : ∃ x : Pl.Ac, Hid (x = ⟨10, fr, 0, nn, pk9, (0, 0), ⟨#[]⟩, ⟨#[]⟩⟩) := ⟨_, hid rfl⟩
 obtain ⟨ys, HY⟩ : ∃ ys, Hid (ys = xs ++ Pl.settle5 ++ [wk]) := ⟨_, hid rfl⟩
 have HWO : Hid (Pl.AcOk wk) := hid (by rw [HWK.out]; exact Pl.ok_small (by omega) (by omega))
 have HYO : Hid (∀ x ∈ ys, Pl.AcOk x) := hid (by
  intro x hx
  rw [HY.out] at hx
  rcases List.mem_append.1 hx with hx | hx
  ·rcases List.mem_append.1 hx with hx | hx
   ·exact (HDG.out.2 x hx).1
   ·exact Pl.settle5_ok x hx
  ·rw [List.mem_singleton.1 hx]; exact HWO.out)
 obtain ⟨r, HRR⟩ : ∃ r, Hid (r = n + 90) := ⟨_, hid rfl⟩
 obtain ⟨q, HQ⟩ : ∃ q, Hid (q = r + 1) := ⟨_, hid rfl⟩
 have HYL : Hid (ys.length = q) := hid (by rw [HY.out, List.length_append, List.length_append, HN.out, Pl.settle5_len, HQ.out, HRR.out]; rfl)
 obtain ⟨s, hset, hrs, hrp, hkept⟩ := Pl.walked (x := wk) (f := fr) HDG.out (by rw [HWK.out]) (by rw [HWK.out]) hfr5 HY.out
 have HSET := hid hset
 have HRS := hid hrs
 rw [HN.out, ← HRR.out] at hrp
 have HRP := hid hrp
 have HWN : Hid (wk.n = nn) := hid (by rw [HWK.out])
 have hwalk := hset.walk (x := wk) (f := fr) (by rw [HWK.out]) (by rw [HWK.out]) hfr5 (by rw [HWN.out]; omega) (by rw [HWK.out]; exact hpk.1)
 rw [HWN.out] at hwalk
 have HWALK := hid hwalk
 have hq140 : q ≤ 140 := by rw [HQ.out, HRR.out]; omega
 clear ho1 hok1 hi1 hn1 hb1 hb2 hset hrs hrp hkept hwalk HR
 go_wp2_with (first | (go_at_call 28; refine (HPD.out _).mono ?_; rintro e w' ⟨rfl, hw'⟩; rw [hw']; clear hw' w') | rw [← HW2.out])
 rename ∀ (a : Act) (w : World), Code.wp _ _ _ a w → _ => hK
 refine topWalks3 (xs0 := xs) (ys := ys) (ao := a1) (la := n) (ca := c1) (nb := w1.heap.size) (ff := f) (fr := fr) (nn := nn) (pp := p) (pk9 := pk9) rfl rfl rfl rfl rfl hnb2 HC2.out HI2.out HN1.out (by omega) HPF.out HPP.out (by rw [← HWK.out]; exact HWO.out) (by rw [← HWK.out]; exact HY.out) HYO.out (by rw [HYL.out]; omega) (HT.out.below HB2.out) ?_ _ (by kernel_rfl)
 intro zs W3 hzl hreps hstores hcode hb3
 obtain ⟨x0, x1, x2, x3, x4, x5, x6, x7, x8, x9, x10, x11, x12, x13, x14, x15, x16, x17, x18, x19, x20, x21, x22, x23, x24, x25, x26, x27, x28, rfl⟩ := listN29 zs hzl
 have hcode : x2 = .int .i64 0 := hcode
 subst hcode
 obtain ⟨ts, ar, cr, gs, cs, A, C, e0, e1, hts, hl, hcr, hmr, hcs, hms, hgs, hre, hown, hS⟩ := (runP_of rfl hreps hstores).read
 have e0 : x0 = .slice ar ys.length cr := e0
 have e1 : x1 = .slice (some ⟨gs, 0, none⟩) 12 cs := e1
 subst e0 e1
 rw [HYL.out] at hl hcr hre ⊢
 obtain ⟨gr, rfl, hgr, hre⟩ := hre.resolve_left (by rw [HQ.out]; omega)
 rw [HRS.out] at hS
 have HS3 := hid hS
 have HB3 : Hid (Below w.heap.size w W3) := hid (HB2.out.trans (hb3.mono HB2.out.size))
 have HC3 : Hid (W3.cell? ⟨w1.heap.size, 0, none⟩ = some (.int .i64 nn)) := hid ((hb3.cell (p := ⟨w1.heap.size, 0, none⟩) hnb2).trans HC2.out)
 have hnb3 : w1.heap.size < W3.heap.size := Nat.lt_of_lt_of_le hnb2 hb3.size
 have hrl : r < ts.length := by rw [hl, HQ.out]; omega
 obtain ⟨q0, q1, q2, q3⟩ := hre r hrl
 obtain ⟨hoz, hos⟩ := hown _ (rpv_mem hrl)
 have er : (rpv ts r).r = Pl.actR s wk := by rw [rpv_r, hts]; exact HRP.out
 obtain ⟨ya, yc, ez, hiz, _⟩ := hoz.ints
 obtain ⟨za, zc, es⟩ := ownsRow_slice hos
 have HIZ := hid hiz
 rw [ez] at q1
 rw [es] at q3
 rw [er] at q0 q1 q2 q3 HIZ
 generalize Pl.actR s wk = rr at *
 obtain ⟨np, HNP⟩ : ∃ c, Hid (rr.path.length = c) := ⟨_, hid rfl⟩
 obtain ⟨nk, HNK⟩ : ∃ c, Hid (rr.keys.length = c) := ⟨_, hid rfl⟩
 rw [HNP.out] at q1 HIZ
 rw [HNK.out] at q3
 have hwq : IntKind.i64.wrap ((q : Int) - 1) = (r : Int) := by rw [IntKind.wrap_i64, HQ.out]; push_cast; omega
 have hrq : (r : Int) < (q : Int) := by rw [HQ.out]; omega
 clear hreps hstores hzl hre hown hS hts hl hoz hos er ez es hiz hb3
 unfold maxLen at hmr hms
 simp only [setFrom_spl, spl]
 refine hK _ W3 ?_
 clear hK
 rcases HWALK.out with ⟨hlc, hrr⟩ | ⟨hlc, rest, c', e, hrr, hrch, hlast, hhas, _, _, _⟩
 ·subst hrr
  simp only at q0 q1 q2 q3
  go_wp2_with fail
  go_ret
  exact ⟨rfl, HB3.out.alloc HB3.out.size _⟩
 ·subst hrr
  simp only at q0 q1 q2 q3 HNP HIZ
  have hpath : ((fr : Int) :: rest).getLast? = some (e : Int) := by
   rcases hlast with ⟨rfl, rfl⟩ | h
   ·rfl
   ·rw [List.getLast?_cons, h]; rfl
  obtain ⟨hl0, hlm⟩ := Pl.last_at hpath
  rw [HNP.out] at hl0 hlm
  obtain ⟨l1, HL1⟩ : ∃ l, Hid (np = l + 1) := ⟨np - 1, hid (by omega)⟩
  rw [show np - 1 = l1 by rw [HL1.out]; rfl] at hlm
  obtain ⟨pb, po, rfl, hpb, hpi⟩ := HIZ.out.at (k := l1) (by rw [HL1.out]; omega)
  have hpl := hpi l1 (by rw [HNP.out, HL1.out]; omega)
  rw [hlm] at hpl
  have hcn := HIZ.out.2.1
  have hmn := HIZ.out.2.2.1
  unfold maxLen at hmn
  have he5 : e < 5 := hrch.lt hfr5
  obtain ⟨s0, s1, _⟩ := HS3.out e (by omega)
  have hsm := HSET.out.same fr e hfr5 hrch
  obtain ⟨o1, o2, o3⟩ := HSET.out.own he5
  obtain ⟨hit, hitm, hite⟩ := HSET.out.has_hit hfr5 hrch hhas
  have HPOK : Hid (∀ p ∈ s.P e, 0 ≤ p.2 ∧ p.2 ≤ 8) := hid fun p hp => (Pl.pfx1_zero ((Pl.pfxF_good (HSET.out.fw.good.P e)).2.1 p hp)).1
  have HPPK : Hid (∀ p ∈ s.P e, Pl.pairOk p) := hid fun p hp => Pl.pairOk_of (by have := Pl.pfx1_zero ((Pl.pfxF_good (HSET.out.fw.good.P e)).2.1 p hp); omega)
  have HHIT : Hid (∃ p ∈ s.P e, nn - nn % Pl.span p.2 = p.1) := hid ⟨hit, hitm, hite⟩
  have hvz : (Pl.gotE (s.K e) (Pl.pfxKey (e : Int))).val.size ≤ 120 := Pl.gotE_val _ _
  obtain ⟨g, HG⟩ : ∃ g, Hid (Pl.gotE (s.K e) (Pl.pfxKey (e : Int)) = g) := ⟨_, hid rfl⟩
  rw [HG.out] at hvz o2 o3
  obtain ⟨gk, gv, go, gx⟩ := g
  simp only at hvz o2 o3
  have HO1 := hid o1
  have HO2 := hid o2
  have HO3 := hid o3
  have HE := hid s1
  obtain ⟨ne, HNE⟩ : ∃ c, Hid ((s.K e).length = c) := ⟨_, hid rfl⟩
  rw [HNE.out] at s0 HE
  obtain ⟨W4, HW4⟩ : ∃ W, Hid (W = W3.alloc (.cells #[.int .i64 0, .slice (some ⟨pb, po, none⟩) np yc, .int .i64 c', .slice za nk zc] 40)) := ⟨_, hid rfl⟩
  have hb4 : Below W3.heap.size W3 W4 := by rw [HW4.out]; exact (Below.refl _ _).alloc (Nat.le_refl _) _
  have hx4 : W4.heap[W3.heap.size]? = some (.cells #[.int .i64 0, .slice (some ⟨pb, po, none⟩) np yc, .int .i64 c', .slice za nk zc] 40) := by rw [HW4.out]; exact heapNew _ _
  obtain ⟨⟨b0, b1, b2, b3⟩, _, hb34⟩ := box4c hx4
  have hpl4 := (hb4.cell (p := ⟨pb, po + l1, none⟩) hpb).trans hpl
  have hpb4 : pb < W4.heap.size := Nat.lt_of_lt_of_le hpb hb4.size
  have s04 := (hb4.cell (p := ⟨gs, e, none⟩) hgs).trans s0
  have hgs4 : gs < W4.heap.size := Nat.lt_of_lt_of_le hgs hb4.size
  have HE4 := hid (HE.out.below hb4)
  have HB4 : Hid (Below w.heap.size w W4) := hid (HB3.out.trans (hb4.mono HB3.out.size))
  have HC4 : Hid (W4.cell? ⟨w1.heap.size, 0, none⟩ = some (.int .i64 nn)) := hid ((hb4.cell (p := ⟨w1.heap.size, 0, none⟩) hnb3).trans HC3.out)
  have hnb4 : w1.heap.size < W4.heap.size := Nat.lt_of_lt_of_le hnb3 hb4.size
  have hwn : IntKind.i64.wrap ((np : Int) - 1) = (l1 : Int) := by have := HL1.out; rw [IntKind.wrap_i64]; omega
  have hln : (l1 : Int) < (np : Int) := by rw [HL1.out]; omega
  have hei : (e : Int) < 12 := by omega
  clear hpath hl0 hlm hpi hpl hb4 hx4 s0 s1 o1 o2 o3 hit hitm hite hsm hlast hhas hb34 HIZ HL1 HNP HS3 HE
  go_wp2_with (rw [← HW4.out])
  rename ∀ (a : Act) (w : World), Code.wp _ _ _ a w → _ => hK
  refine topWalks10 (gs := gs) (cs := cs) (e := e) (sl := ne) (sc := C e) (sa := A e) (es := s.K e) (gk := gk) (gx := gx) (gv := gv) (go := go) (gc := 0) rfl rfl rfl hgs4 hei s04 HE4.out HG.out HO1.out (HT.out.below HB4.out) ?_ _ (by kernel_rfl)
  intro zs W5 g hzl hgc hbox hgb hb5
  obtain ⟨x0, x1, x2, x3, x4, x5, x6, x7, x8, x9, x10, x11, x12, x13, x14, x15, x16, x17, x18, x19, x20, x21, x22, x23, x24, x25, x26, x27, x28, x29, x30, x31, x32, x33, x34, x35, x36, x37, x38, x39, x40, x41, x42, x43, x44, x45, x46, x47, x48, x49, x50, x51, x52, x53, x54, x55, rfl⟩ := listN56 zs hzl
  have hgc : x0 = .int .i64 0 := hgc
  subst hgc
  obtain ⟨⟨d0, d1, d2, d3⟩, _, hdl⟩ := box4c hbox
  have HB5 : Hid (Below w.heap.size w W5) := hid (HB4.out.trans (hb5.mono HB4.out.size))
  have HC5 : Hid (W5.cell? ⟨w1.heap.size, 0, none⟩ = some (.int .i64 nn)) := hid ((hb5.cell (p := ⟨w1.heap.size, 0, none⟩) hnb4).trans HC4.out)
  have hnb5 : w1.heap.size < W5.heap.size := Nat.lt_of_lt_of_le hnb4 hb5.size
  clear hzl hbox hb5 b0 b1 b2 b3 q0 q1 q2 q3 hpl4 s04
  simp only [List.setIfInBounds_toArray, List.set, setFrom_spl, spl]
  refine hK _ W5 ?_
  clear hK
  go_wp2_with fail
  refine (ReadPrefixes_any gx _ (by omega)).mono ?_
  rw [HO2.out, HO3.out]
  rintro e' w6 ⟨v6, rfl, ho6, hb6⟩
  obtain ⟨va, vc, rfl, hv6, _, _⟩ := OwnP.shape ho6 HPPK.out
  have HV6 := hid hv6
  have HB6 : Hid (Below w.heap.size w w6) := hid (HB5.out.trans (hb6.mono HB5.out.size))
  have HCF := hid (ContainsFuncP_hit 34 w1.heap.size nn (enters_of Tryz.func34 (by kernel_rfl) rfl) (pred_walks w1.heap.size nn (by omega)) va (s.P e).length vc (s.P e) w6 hv6 HPOK.out ((hb6.cell (p := ⟨w1.heap.size, 0, none⟩) hnb5).trans HC5.out) (Nat.lt_of_lt_of_le hnb5 hb6.size) HHIT.out)
  obtain ⟨nv, HNV⟩ : ∃ c, Hid ((s.P e).length = c) := ⟨_, hid rfl⟩
  rw [HNV.out] at HCF ⊢
  clear ho6 hv6 hb6 d0 d1 d2 d3
  go_wp2_with fail
  refine HCF.out.mono ?_
  rintro e' w7 ⟨rfl, hb7⟩
  go_wp2_with fail
  go_ret
  exact ⟨ret_bool (by simp), HB6.out.trans (hb7.mono HB6.out.size)⟩
theorem gTab : Tryz.prog.globalNamed "internal/strconv.uint64pow10" = some 0 := by kernel_rfl
theorem gTabType : (Tryz.prog.globals[0]?).map (·.type) = some 231 := by kernel_rfl
theorem cellsTab : Tryz.prog.cellsOf 231 = 20 := by kernel_rfl
theorem laidTab : (Rows.laid_internal_strconv_uint64pow10 : DataW Unit) = Lib.tabData .u64 Lib.pow10Tab := by rfl
theorem table {W : World} (h : laidMetH Tryz.prog Rows.topWalksRow.laid W) : Tab W := by
 have h1 : laidMet Tryz.prog Rows.topWalksRow.laid W := h
 have h2 := laidMet.filter (fun x => x.1 == "internal/strconv.uint64pow10") h1
 have h3 : laidMet Tryz.prog [("internal/strconv.uint64pow10", (Rows.laid_internal_strconv_uint64pow10 : DataW Unit))] W := h2
 rw [laidTab] at h3
 exact Lib.tabIs_of_head (rest := []) gTab gTabType Tryz.underlying231 Tryz.underlying197 (by kernel_rfl) cellsTab h3
theorem contract (H : Type) (enc : TypeId × Value → H) (W : World) (base : Nat) (args : Array Value) (ds gs : List (DataW H)) (before : List MemPlace)
  (hval : ∀ (j : Nat) t v, Tryz.f7.params[j]? = some t → args[j]? = some v → Value.okWide Tryz.prog W .any base t v)
  (hW : DataW.Whole enc Tryz.prog Tryz.f7.params.toList Rows.topWalksSpec.vars false W args.toList ds gs before) (hL : laidMetH Tryz.prog Rows.topWalksRow.laid W) :
  Calls Tryz.prog 7 args W fun e W' => ∃ v, e = .returned v ∧ Rows.topWalksSpec.post enc Tryz.prog Tryz.f7 false true false false W args v W' := by
 have hW' := hW
 obtain ⟨p, q, hA0, hV, rfl, hfz, hnd⟩ := hW
 have hA : DataW.TrodAll enc Tryz.prog W 0 (fun _ => true) true Tryz.f7.params.toList args.toList ds p := hA0
 rw [Tryz.params7] at hA hval
 obtain ⟨v0, vs0, d0, ds0, p0, q0, hargs, rfl, rfl, h0, r0⟩ := trodAll_cons hA
 obtain ⟨v1, vs1, d1, ds1, p1, q1, rfl, rfl, rfl, h1, r1⟩ := trodAll_cons r0
 obtain ⟨v2, vs2, d2, ds2, p2, q2, rfl, rfl, rfl, h2, r2⟩ := trodAll_cons r1
 obtain ⟨v3, vs3, d3, ds3, p3, q3, rfl, rfl, rfl, h3, r3⟩ := trodAll_cons r2
 obtain ⟨rfl, rfl, rfl⟩ := trodAll_nil r3
 obtain rfl : args = #[v0, v1, v2, v3] := by cases args; simp_all
 obtain ⟨rfl, rfl⟩ := trodVars_none hV
 have k0 := h0
 have lt0 : ∀ x ∈ p0, x.block < W.heap.size := by obtain ⟨m, hm⟩ := k0; exact DataW.trod_lt m _ _ _ hm
 obtain ⟨a0, len0, cap0, rfl, w0⟩ := open_raws (hval 0 45 v0 rfl rfl) h0
 have k1 := h1
 have lt1 : ∀ x ∈ p1, x.block < W.heap.size := by obtain ⟨m, hm⟩ := k1; exact DataW.trod_lt m _ _ _ hm
 obtain ⟨a1, rfl, _, _, w1⟩ := open_int Tryz.underlying3 (hval 1 3 v1 rfl rfl) h1
 have k2 := h2
 have lt2 : ∀ x ∈ p2, x.block < W.heap.size := by obtain ⟨m, hm⟩ := k2; exact DataW.trod_lt m _ _ _ hm
 obtain ⟨a2, rfl, _, _, w2⟩ := open_int Tryz.underlying3 (hval 2 3 v2 rfl rfl) h2
 have k3 := h3
 have lt3 : ∀ x ∈ p3, x.block < W.heap.size := by obtain ⟨m, hm⟩ := k3; exact DataW.trod_lt m _ _ _ hm
 obtain ⟨a3, rfl, _, _, w3⟩ := open_int Tryz.underlying3 (hval 3 3 v3 rfl rfl) h3
 clear hA0
 refine (walk a0 len0 cap0 a1 a2 a3 W w0 w1 w2 w3 (table hL)).mono fun e W' ⟨he, bel⟩ => ?_
 subst he
 exact ⟨_, rfl, _, _, _, [], _, [], hW', trodAll_mk1 (shut_bool Tryz.underlying4 _), (trodAll_cons_mk (Below.trod laidOut (by kernel_rfl) (of_decide_eq_true (by kernel_rfl)) k0 bel lt0) (trodAll_cons_mk (Below.trod laidOut (by kernel_rfl) (of_decide_eq_true (by kernel_rfl)) k1 bel lt1) (trodAll_cons_mk (Below.trod laidOut (by kernel_rfl) (of_decide_eq_true (by kernel_rfl)) k2 bel lt2) (trodAll_cons_mk (Below.trod laidOut (by kernel_rfl) (of_decide_eq_true (by kernel_rfl)) k3 bel lt3) trodAll_mk0)))), rfl, bel.frame _, fun h => by cases h⟩
def cells_laid_math_bits_deBruijn32tab : Array Value := #[.int .u8 0, .int .u8 1, .int .u8 28, .int .u8 2, .int .u8 29, .int .u8 14, .int .u8 24, .int .u8 3, .int .u8 30, .int .u8 22, .int .u8 20, .int .u8 15, .int .u8 25, .int .u8 17, .int .u8 4, .int .u8 8, .int .u8 31, .int .u8 27, .int .u8 13, .int .u8 23, .int .u8 21, .int .u8 19, .int .u8 16, .int .u8 7, .int .u8 26, .int .u8 12, .int .u8 18, .int .u8 6, .int .u8 11, .int .u8 5, .int .u8 10, .int .u8 9]
def cells_laid_math_bits_deBruijn64tab : Array Value := #[.int .u8 0, .int .u8 1, .int .u8 56, .int .u8 2, .int .u8 57, .int .u8 49, .int .u8 28, .int .u8 3, .int .u8 61, .int .u8 58, .int .u8 42, .int .u8 50, .int .u8 38, .int .u8 29, .int .u8 17, .int .u8 4, .int .u8 62, .int .u8 47, .int .u8 59, .int .u8 36, .int .u8 45, .int .u8 43, .int .u8 51, .int .u8 22, .int .u8 53, .int .u8 39, .int .u8 33, .int .u8 30, .int .u8 24, .int .u8 18, .int .u8 12, .int .u8 5, .int .u8 63, .int .u8 55, .int .u8 48, .int .u8 27, .int .u8 60, .int .u8 41, .int .u8 37, .int .u8 16, .int .u8 46, .int .u8 35, .int .u8 44, .int .u8 21, .int .u8 52, .int .u8 32, .int .u8 23, .int .u8 11, .int .u8 54, .int .u8 26, .int .u8 40, .int .u8 15, .int .u8 34, .int .u8 20, .int .u8 31, .int .u8 10, .int .u8 25, .int .u8 14, .int .u8 19, .int .u8 9, .int .u8 13, .int .u8 8, .int .u8 7, .int .u8 6]
def cells_laid_internal_strconv_uint64pow10 : Array Value := #[.int .u64 1, .int .u64 10, .int .u64 100, .int .u64 1000, .int .u64 10000, .int .u64 100000, .int .u64 1000000, .int .u64 10000000, .int .u64 100000000, .int .u64 1000000000, .int .u64 10000000000, .int .u64 100000000000, .int .u64 1000000000000, .int .u64 10000000000000, .int .u64 100000000000000, .int .u64 1000000000000000, .int .u64 10000000000000000, .int .u64 100000000000000000, .int .u64 1000000000000000000, .int .u64 10000000000000000000]
noncomputable def laidWorld (os : Os) : World := { World.holding Tryz.prog os ⟨#[], #[], []⟩ with heap := ((((World.holding Tryz.prog os ⟨#[], #[], []⟩).heap.modify 2 fun | .cells _ t frozen => .cells cells_laid_math_bits_deBruijn32tab t frozen | o => o).modify 3 fun | .cells _ t frozen => .cells cells_laid_math_bits_deBruijn64tab t frozen | o => o).modify 0 fun | .cells _ t frozen => .cells cells_laid_internal_strconv_uint64pow10 t frozen | o => o) }
set_option maxRecDepth 100000 in
theorem laid_met (os : Os) : laidMet Tryz.prog Rows.topWalksRow.laid ((laidWorld os).forCall (fun _ _ => 0) ⟨#[], #[.slice none 0 0, .int .i64 0, .int .i64 0, .int .i64 0], []⟩).memory :=
 laidMet_of_run' 8 (by kernel_rfl) (by kernel_rfl)
set_option maxRecDepth 100000 in
theorem reads (os : Os) {H : Type} (enc : TypeId × Value → H) : ∃ places, DataW.whole enc Tryz.prog ((laidWorld os).forCall (fun _ _ => 0) ⟨#[], #[.slice none 0 0, .int .i64 0, .int .i64 0, .int .i64 0], []⟩).memory Tryz.f7.params.toList Rows.topWalksSpec.vars false (#[.slice none 0 0, .int .i64 0, .int .i64 0, .int .i64 0] : Array Value).toList 8 = some ([.nil, .lit (.int .i64 0), .lit (.int .i64 0), .lit (.int .i64 0)], [], places) :=
 ⟨[], by kernel_rfl⟩
set_option maxRecDepth 100000 in
theorem lifted (os : Os) (started : os.Started) (H : Type) (enc : TypeId × Value → H) (F : Stop.Interp) :
  ReturnsInHanded {} Tryz.checked os 7 .any ((OpenSpec.ofChange Rows.topWalksSpec).preRow enc Tryz.prog Tryz.f7 Rows.topWalksRow.domain false Rows.topWalksRow.laid) (((OpenSpec.ofChange Rows.topWalksSpec).at F).post enc Tryz.prog Tryz.f7 false true false false) := by
 obtain ⟨places, hx⟩ := reads os enc
 refine returnsInHanded_of_row (C := Tryz.checked) (s := OpenSpec.ofChange Rows.topWalksSpec) own started (by kernel_rfl) Tryz.func7
  (witness_row_at (enc := enc) (C := Tryz.checked) false (laidWorld os) #[.slice none 0 0, .int .i64 0, .int .i64 0, .int .i64 0] rfl (by kernel_rfl) (by kernel_rfl) (by kernel_rfl)
   (OpenSpec.preRow_of_cond 8 hx (by kernel_rfl) (fun k hk => by cases hk) (by kernel_rfl) (laid_met os))) ?_
 intro W base args ds gs before hval hW _ _ _ hL _ _
 exact contract H enc W base args ds gs before hval hW hL
theorem said : Rows.TopWalksSaid :=
 OpenClaim.holds_of_cond 7 Tryz.f7 rfl rfl rfl rfl rfl rfl rfl ⟨rfl, rfl, rfl, rfl, rfl⟩ rfl rfl rfl rfl rfl (by kernel_rfl) Tryz.func7 (by kernel_rfl)
  (of_decide_eq_true (by kernel_rfl)) (by unfold Func.isWrapper; first | (rw [if_pos (by decide +kernel)]; kernel_rfl) | (rw [if_neg (by decide +kernel)]; exact ⟨rfl, rfl⟩))
  (fun os started H enc _ F => by rw [OpenClaim.pre_eq_preRow]; exact lifted os started H enc F)
theorem plain (f : FuncId) (fn : Func) (hf : Tryz.pinned.checked.prog.funcNamed "tollbar/tollbartop.TopWalks" = some f) (hfn : Tryz.pinned.checked.prog.funcs[f]? = some fn) :
  false = Tryz.pinned.checked.prog.looks [] ∧ ∀ (j : Nat) t, fn.params[j]? = some t → Tryz.pinned.checked.prog.wantsStandIn t = false := by
 obtain rfl : f = 7 := Option.some.inj ((show Tryz.prog.funcNamed "tollbar/tollbartop.TopWalks" = some 7 by kernel_rfl).symm.trans hf) |>.symm
 obtain rfl : fn = Tryz.f7 := (Option.some.inj (Tryz.func7.symm.trans hfn)).symm
 refine ⟨by kernel_rfl, fun j t ht => ?_⟩
 rw [Tryz.params7] at ht
 have h : t = 45 ∨ t = 3 := by have := Array.mem_of_getElem? ht; simp at this; omega
 rcases h with rfl | rfl
 ·exact (show Tryz.prog.wantsStandIn 45 = false by kernel_rfl)
 ·exact (show Tryz.prog.wantsStandIn 3 = false by kernel_rfl)
end Go.Proofs.YtjjelkdajdeikaaGreatDoor.topWalks
namespace Go.Proofs.YtjjelkdajdeikaaGreatDoor
theorem topWalks_card : Rows.TopWalksCardSaid :=
 Claim7.holds_tied_plain_at .later [] _ _ _ _ topWalks.said (fun _ h => by cases h) (by kernel_rfl) (fun _ h => by cases h) topWalks_row_tie rfl ⟨rfl, rfl⟩ (by kernel_rfl) rfl topWalks.plain (by kernel_rfl)
#print axioms topWalks_card
end Go.Proofs.YtjjelkdajdeikaaGreatDoor
