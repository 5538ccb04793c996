/-
  Proved: for every two lists of raw things and every two numbers, the law PatchesLead returns true and leaves its arguments as they were: of two tables of what Map makes of them, the first one patched by the difference is the second one; the condition: strconv's table holds what the program's text lays there.
-/
import Derived.Test.YtcdobhdbafpkiafGreatDoorCards
import Derived.Test.YtcdobhdbafpkiafGreatDoorTie
import Derived.Test.YtcdobhdbafpkiafGreatDoorAll7
import Derived.Test.YtcdobhdbafpkiafGreatDoorAll8
import Derived.Test.YtcdobhdbafpkiafGreatDoorAll13
import Derived.Test.YtcdobhdbafpkiafGreatDoorAll12
import Derived.Deep.DeepHandedRow
import Derived.Lib.LaidTab
namespace Go.Proofs.YtcdobhdbafpkiafGreatDoor.patchesLead
open Go.ChangeShapes Go.WideShapes Go.ChangeAt Go.RowKit
set_option maxRecDepth 20000
set_option linter.unusedVariables false

theorem diff_good {a b : List Pl.Rt} (h : Pl.tabF a = 0) (k : Pl.tabF b = 0) : Pl.diffC a b = 0 ∧ Pl.diffS a b = Pl.setL a b ∧ Pl.diffG a b = Pl.goneL a b := by
  have e : Pl.diffC a b = 0 := by unfold Pl.diffC; rw [if_pos h]; exact k
  refine ⟨e, ?_, ?_⟩
  · unfold Pl.diffS; rw [if_pos e]
  · unfold Pl.diffG; rw [if_pos e]
theorem diff_self {a : List Pl.Rt} (h : Pl.tabF a = 0) : Pl.diffC a a = 0 ∧ Pl.diffS a a = [] ∧ Pl.diffG a a = [] := by
  have hs := ((Pl.goodT_iff a).1 h).2.2
  obtain ⟨h1, h2, h3⟩ := diff_good h h
  exact ⟨h1, by rw [h2]; exact Pl.setL_self hs, by rw [h3]; exact Pl.goneL_self hs⟩
theorem gone_ok {a b : List Pl.Rt} (h : Pl.tabF a = 0) : ∀ p ∈ Pl.goneL a b, Pl.pairOk p := by
  intro p hp
  unfold Pl.goneL at hp
  obtain ⟨r, hr, rfl⟩ := List.mem_map.1 hp
  have hb := (Pl.routeB_iff r).1 (((Pl.goodT_iff a).1 h).2.1 r (List.mem_filter.1 hr).1)
  have := Pl.pfx1_zero hb.1
  exact Pl.pairOk_of ⟨by omega, by omega, by omega, by omega⟩

set_option maxHeartbeats 8000000 in
theorem walk (a : Option Addr) (len cap : Nat) (b : Option Addr) (lenb capb : Nat) (n m : Int) (w : World) (h : IsRaws w a len cap) (h2 : IsRaws w b lenb capb) (hn : (Lit.int .i64 n).wf = true) (hm : (Lit.int .i64 m).wf = true) (hT : Tab w) :
    Calls Tryz.prog 3 #[.slice a len cap, .slice b lenb capb, .int .i64 n, .int .i64 m] w fun e w' => e = .returned (.bool true) ∧ Below w.heap.size w w' := by
  have HH := hid h
  have HH2 := hid h2
  have HT := hid hT
  have bn := wf_bounds hn
  have bm := wf_bounds hm
  clear h h2 hT hn hm
  have HP1 := hid (fun W => picked_any n 6 W bn.1 bn.2 (by omega) (by omega))
  obtain ⟨p, hp⟩ := Int.eq_ofNat_of_zero_le (Pl.pk_range n 6 (by omega)).1
  have hp12 : p < 12 := by have := (Pl.pk_range n 6 (by omega)).2; omega
  rw [hp] at HP1
  have HP2 := hid (fun W => picked_any m 6 W bm.1 bm.2 (by omega) (by omega))
  obtain ⟨q, hq⟩ := Int.eq_ofNat_of_zero_le (Pl.pk_range m 6 (by omega)).1
  have hq12 : q < 12 := by have := (Pl.pk_range m 6 (by omega)).2; omega
  rw [hq] at HP2
  clear hp hq bn bm
  go_enter Tryz.func3, Tryz.ntmps3
  go_wp2_with fail
  refine (StoreTells_any _).mono ?_
  rintro e w0 ⟨rfl, hb0⟩
  have HB0 := hid hb0
  clear hb0
  have HM1 := hid (Map_any a len cap 6 w0 (HH.out.below HB0.out) (by omega) (by omega) (HT.out.below HB0.out))
  go_wp2_with fail
  refine HM1.out.mono ?_
  rintro e w1 ⟨v1, es, rfl, ho1, hg1, hb1⟩
  have HF1 : Hid (Pl.fault es = 0) := hid ((Pl.good_iff es).2 hg1)
  obtain ⟨a1, c1, rfl, hi1, _, _⟩ := ho1.shape hg1.ok
  have HE1 := hid hi1
  have HB1 : Hid (Below w.heap.size w w1) := hid (HB0.out.trans (hb1.mono HB0.out.size))
  obtain ⟨l1, HL1⟩ : ∃ m, Hid (es.length = m) := ⟨_, hid rfl⟩
  rw [HL1.out] at HE1 ⊢
  clear ho1 hg1 hb1 hi1 HM1
  go_wp2_with fail
  refine (HP1.out _).mono ?_
  rintro e wx ⟨rfl, hx⟩; rw [hx]; clear hx wx
  have HW1 : Hid (Pl.wayC es (p : Int) = 0) := hid (Pl.wayC_ok HF1.out hp12)
  have HA1 : Hid (Pl.tabA es (p : Int) = Pl.tabL es p) := hid (by unfold Pl.tabA; rw [HW1.out, if_pos rfl, Int.toNat_natCast])
  have HX0 : Hid (Pl.tabF (Pl.tabL es p) = 0) := hid (Pl.tabL_fault es hp12)
  obtain ⟨X, HX⟩ : ∃ X, Hid (Pl.tabL es p = X) := ⟨_, hid rfl⟩
  go_wp2_with fail
  refine (Table_any a1 l1 c1 es (p : Int) w1 HE1.out (HT.out.below HB1.out)).mono ?_
  rw [HW1.out, HA1.out, HX.out]
  rw [HX.out] at HX0
  rintro e w2 ⟨v2, hs, rfl, ho2, hb2⟩
  have HO2 := hid ho2
  have HB2 : Hid (Below w.heap.size w w2) := hid (HB1.out.trans (hb2.mono HB1.out.size))
  clear ho2 hb2 HX HA1 HW1 HE1
  have HM2 := hid (Map_any b lenb capb 6 w2 (HH2.out.below HB2.out) (by omega) (by omega) (HT.out.below HB2.out))
  go_wp2_with fail
  refine HM2.out.mono ?_
  rintro e w3 ⟨v3, fs, rfl, ho3, hg3, hb3⟩
  have HF3 : Hid (Pl.fault fs = 0) := hid ((Pl.good_iff fs).2 hg3)
  obtain ⟨a3, c3, rfl, hi3, _, _⟩ := ho3.shape hg3.ok
  have HE3 := hid hi3
  have HB3 : Hid (Below w.heap.size w w3) := hid (HB2.out.trans (hb3.mono HB2.out.size))
  have HO3 := hid (HO2.out.below hb3)
  obtain ⟨l3, HL3⟩ : ∃ m, Hid (fs.length = m) := ⟨_, hid rfl⟩
  rw [HL3.out] at HE3 ⊢
  clear ho3 hg3 hb3 hi3 HM2
  go_wp2_with fail
  refine (HP2.out _).mono ?_
  rintro e wx ⟨rfl, hx⟩; rw [hx]; clear hx wx
  have HW3 : Hid (Pl.wayC fs (q : Int) = 0) := hid (Pl.wayC_ok HF3.out hq12)
  have HA3 : Hid (Pl.tabA fs (q : Int) = Pl.tabL fs q) := hid (by unfold Pl.tabA; rw [HW3.out, if_pos rfl, Int.toNat_natCast])
  have HY0 : Hid (Pl.tabF (Pl.tabL fs q) = 0) := hid (Pl.tabL_fault fs hq12)
  obtain ⟨Y, HY⟩ : ∃ Y, Hid (Pl.tabL fs q = Y) := ⟨_, hid rfl⟩
  go_wp2_with fail
  refine (Table_any a3 l3 c3 fs (q : Int) w3 HE3.out (HT.out.below HB3.out)).mono ?_
  rw [HW3.out, HA3.out, HY.out]
  rw [HY.out] at HY0
  rintro e w4 ⟨v4, gs, rfl, ho4, hb4⟩
  have HB4 : Hid (Below w.heap.size w w4) := hid (HB3.out.trans (hb4.mono HB3.out.size))
  have HO4 := hid (HO3.out.below hb4)
  have HP4 := hid ho4
  clear ho4 hb4 HY HA3 HW3 HE3
  obtain ⟨xa, xc, rfl, hxr, _⟩ := HO4.out.1.rows
  obtain ⟨ya, yc, rfl, hyr, _⟩ := HP4.out.1.rows
  have HXR := hid hxr
  have HYR := hid hyr
  have HDX := hid HO4.out.reads
  have HDY := hid HP4.out.reads
  have HLY : Hid (gs.length = Y.length) := hid HP4.out.2.1
  have hxm := hxr.2.2.1
  have hym := hyr.2.2.1
  have hxc := hxr.2.1
  have hyc := hyr.2.1
  unfold maxLen at hxm hym
  obtain ⟨lx, HLX⟩ : ∃ m, Hid (hs.length = m) := ⟨_, hid rfl⟩
  obtain ⟨ly, HLYY⟩ : ∃ m, Hid (gs.length = m) := ⟨_, hid rfl⟩
  rw [HLX.out] at HXR hxc ⊢
  rw [HLYY.out] at HYR HLY hyc ⊢
  clear hxr hyr
  obtain ⟨dc, ds, dg⟩ := diff_good HX0.out HY0.out
  have HDF := hid (Diff_any xa lx xc hs X ya ly yc gs Y w4 HXR.out HDX.out HYR.out HDY.out)
  rw [dc, ds, dg] at HDF
  have HGO := hid (gone_ok (a := X) (b := Y) HX0.out)
  have HPD := hid (Pl.patL_diff HX0.out HY0.out)
  obtain ⟨SL, HSL⟩ : ∃ x, Hid (Pl.setL X Y = x) := ⟨_, hid rfl⟩
  obtain ⟨GL, HGL⟩ : ∃ x, Hid (Pl.goneL X Y = x) := ⟨_, hid rfl⟩
  rw [HSL.out, HGL.out] at HDF HPD
  rw [HGL.out] at HGO
  clear dc ds dg
  go_wp2_with fail
  refine HDF.out.mono ?_
  rintro e w5 ⟨vs, vg, ks, rfl, hs5, hg5, hb5⟩
  obtain ⟨sa, sc, rfl, hsr, _⟩ := hs5.1.rows
  obtain ⟨ga, gc, rfl, hgr, _, _⟩ := OwnP.shape hg5 HGO.out
  have HB5 : Hid (Below w.heap.size w w5) := hid (HB4.out.trans (hb5.mono HB4.out.size))
  have HPA := hid (Patch_any xa lx xc hs X sa ks.length sc ks SL ga GL.length gc GL w5 (HXR.out.below hb5) (HDX.out.below hb5) hsr hs5.reads hgr)
  rw [HPD.out.1, HPD.out.2] at HPA
  have HYR5 := hid (HYR.out.below hb5)
  have HDY5 := hid (HDY.out.below hb5)
  obtain ⟨lk, HLK⟩ : ∃ m, Hid (ks.length = m) := ⟨_, hid rfl⟩
  obtain ⟨lg, HLG⟩ : ∃ m, Hid (GL.length = m) := ⟨_, hid rfl⟩
  rw [HLK.out, HLG.out] at HPA
  rw [HLK.out, HLG.out]
  clear hs5 hg5 hb5 hsr hgr HDF
  go_wp2_with fail
  refine HPA.out.mono ?_
  rintro e w6 ⟨vz, zs, rfl, hz6, hb6⟩
  obtain ⟨za, zc, rfl, hzr, _⟩ := hz6.1.rows
  have HB6 : Hid (Below w.heap.size w w6) := hid (HB5.out.trans (hb6.mono HB5.out.size))
  have HLZ : Hid (zs.length = ly) := hid (by rw [hz6.2.1]; exact HLY.out.symm)
  rw [HLZ.out] at hzr ⊢
  obtain ⟨dc, ds, dg⟩ := diff_self HY0.out
  have HDF := hid (Diff_any za ly zc zs Y ya ly yc gs Y w6 hzr hz6.reads (HYR5.out.below hb6) (HDY5.out.below hb6))
  rw [dc, ds, dg] at HDF
  clear hz6 hb6 hzr dc ds dg HPA
  go_wp2_with fail
  refine HDF.out.mono ?_
  rintro e w7 ⟨vs7, vg7, ks7, rfl, hs7, hg7, hb7⟩
  obtain ⟨sa7, sc7, rfl, _, _⟩ := hs7.1.rows
  obtain ⟨ga7, gc7, rfl, _, _, _⟩ := OwnP.shape hg7 (by simp)
  have hk0 : ks7.length = 0 := by rw [hs7.2.1]; rfl
  rw [hk0]
  have HB7 := hid hb7
  clear hs7 hg7 hb7 hk0 HDF
  simp only [List.length_nil]
  go_wp2_with fail
  go_ret
  exact ⟨ret_bool (by simp), HB6.out.trans (HB7.out.mono HB6.out.size)⟩

theorem gTab : Tryz.prog.globalNamed "internal/strconv.uint64pow10" = some 0 := by kernel_rfl
theorem gTabType : (Tryz.prog.globals[0]?).map (·.type) = some 243 := by kernel_rfl
theorem cellsTab : Tryz.prog.cellsOf 243 = 20 := by kernel_rfl
theorem laidTab : (Rows.laid_internal_strconv_uint64pow10 : DataW Unit) = Lib.tabData .u64 Lib.pow10Tab := by rfl
theorem table {W : World} (h : laidMetH Tryz.prog Rows.patchesLeadRow.laid W) : Tab W := by
  have h1 : laidMet Tryz.prog Rows.patchesLeadRow.laid W := h
  have h2 := laidMet.filter (fun x => x.1 == "internal/strconv.uint64pow10") h1
  have h3 : laidMet Tryz.prog [("internal/strconv.uint64pow10", (Rows.laid_internal_strconv_uint64pow10 : DataW Unit))] W := h2
  rw [laidTab] at h3
  exact Lib.tabIs_of_head (rest := []) gTab gTabType Tryz.underlying243 Tryz.underlying221 (by kernel_rfl) cellsTab h3

theorem contract (H : Type) (enc : TypeId × Value → H) (W : World) (base : Nat) (args : Array Value) (ds gs : List (DataW H)) (before : List MemPlace)
    (hval : ∀ (j : Nat) t v, Tryz.f3.params[j]? = some t → args[j]? = some v → Value.okWide Tryz.prog W .any base t v)
    (hW : DataW.Whole enc Tryz.prog Tryz.f3.params.toList Rows.patchesLeadSpec.vars false W args.toList ds gs before) (hL : laidMetH Tryz.prog Rows.patchesLeadRow.laid W) :
    Calls Tryz.prog 3 args W fun e W' => ∃ v, e = .returned v ∧ Rows.patchesLeadSpec.post enc Tryz.prog Tryz.f3 false true false false W args v W' := by
  have hW' := hW
  obtain ⟨p, q, hA0, hV, rfl, hfz, hnd⟩ := hW
  have hA : DataW.TrodAll enc Tryz.prog W 0 (fun _ => true) true Tryz.f3.params.toList args.toList ds p := hA0
  rw [Tryz.params3] at hA hval
  obtain ⟨v0, vs0, d0, ds0, p0, q0, hargs, rfl, rfl, h0, r0⟩ := trodAll_cons hA
  obtain ⟨v1, vs1, d1, ds1, p1, q1, rfl, rfl, rfl, h1, r1⟩ := trodAll_cons r0
  obtain ⟨v2, vs2, d2, ds2, p2, q2, rfl, rfl, rfl, h2, r2⟩ := trodAll_cons r1
  obtain ⟨v3, vs3, d3, ds3, p3, q3, rfl, rfl, rfl, h3, r3⟩ := trodAll_cons r2
  obtain ⟨rfl, rfl, rfl⟩ := trodAll_nil r3
  obtain rfl : args = #[v0, v1, v2, v3] := by cases args; simp_all
  obtain ⟨rfl, rfl⟩ := trodVars_none hV
  have k0 := h0
  have lt0 : ∀ x ∈ p0, x.block < W.heap.size := by obtain ⟨m, hm⟩ := k0; exact DataW.trod_lt m _ _ _ hm
  obtain ⟨a0, len0, cap0, rfl, w0⟩ := open_raws (hval 0 22 v0 rfl rfl) h0
  have k1 := h1
  have lt1 : ∀ x ∈ p1, x.block < W.heap.size := by obtain ⟨m, hm⟩ := k1; exact DataW.trod_lt m _ _ _ hm
  obtain ⟨a1, len1, cap1, rfl, w1⟩ := open_raws (hval 1 22 v1 rfl rfl) h1
  have k2 := h2
  have lt2 : ∀ x ∈ p2, x.block < W.heap.size := by obtain ⟨m, hm⟩ := k2; exact DataW.trod_lt m _ _ _ hm
  obtain ⟨a2, rfl, _, _, w2⟩ := open_int Tryz.underlying3 (hval 2 3 v2 rfl rfl) h2
  have k3 := h3
  have lt3 : ∀ x ∈ p3, x.block < W.heap.size := by obtain ⟨m, hm⟩ := k3; exact DataW.trod_lt m _ _ _ hm
  obtain ⟨a3, rfl, _, _, w3⟩ := open_int Tryz.underlying3 (hval 3 3 v3 rfl rfl) h3
  clear hA0
  refine (walk a0 len0 cap0 a1 len1 cap1 a2 a3 W w0 w1 w2 w3 (table hL)).mono fun e W' ⟨he, bel⟩ => ?_
  subst he
  exact ⟨_, rfl, _, _, _, [], _, [], hW', trodAll_mk1 (shut_bool Tryz.underlying4 _), (trodAll_cons_mk (Below.trod laidOut (by kernel_rfl) (of_decide_eq_true (by kernel_rfl)) k0 bel lt0) (trodAll_cons_mk (Below.trod laidOut (by kernel_rfl) (of_decide_eq_true (by kernel_rfl)) k1 bel lt1) (trodAll_cons_mk (Below.trod laidOut (by kernel_rfl) (of_decide_eq_true (by kernel_rfl)) k2 bel lt2) (trodAll_cons_mk (Below.trod laidOut (by kernel_rfl) (of_decide_eq_true (by kernel_rfl)) k3 bel lt3) trodAll_mk0)))), rfl, bel.frame _, fun h => by cases h⟩

def cells_laid_math_bits_deBruijn32tab : Array Value := #[.int .u8 0, .int .u8 1, .int .u8 28, .int .u8 2, .int .u8 29, .int .u8 14, .int .u8 24, .int .u8 3, .int .u8 30, .int .u8 22, .int .u8 20, .int .u8 15, .int .u8 25, .int .u8 17, .int .u8 4, .int .u8 8, .int .u8 31, .int .u8 27, .int .u8 13, .int .u8 23, .int .u8 21, .int .u8 19, .int .u8 16, .int .u8 7, .int .u8 26, .int .u8 12, .int .u8 18, .int .u8 6, .int .u8 11, .int .u8 5, .int .u8 10, .int .u8 9]
def cells_laid_math_bits_deBruijn64tab : Array Value := #[.int .u8 0, .int .u8 1, .int .u8 56, .int .u8 2, .int .u8 57, .int .u8 49, .int .u8 28, .int .u8 3, .int .u8 61, .int .u8 58, .int .u8 42, .int .u8 50, .int .u8 38, .int .u8 29, .int .u8 17, .int .u8 4, .int .u8 62, .int .u8 47, .int .u8 59, .int .u8 36, .int .u8 45, .int .u8 43, .int .u8 51, .int .u8 22, .int .u8 53, .int .u8 39, .int .u8 33, .int .u8 30, .int .u8 24, .int .u8 18, .int .u8 12, .int .u8 5, .int .u8 63, .int .u8 55, .int .u8 48, .int .u8 27, .int .u8 60, .int .u8 41, .int .u8 37, .int .u8 16, .int .u8 46, .int .u8 35, .int .u8 44, .int .u8 21, .int .u8 52, .int .u8 32, .int .u8 23, .int .u8 11, .int .u8 54, .int .u8 26, .int .u8 40, .int .u8 15, .int .u8 34, .int .u8 20, .int .u8 31, .int .u8 10, .int .u8 25, .int .u8 14, .int .u8 19, .int .u8 9, .int .u8 13, .int .u8 8, .int .u8 7, .int .u8 6]
def cells_laid_internal_strconv_uint64pow10 : Array Value := #[.int .u64 1, .int .u64 10, .int .u64 100, .int .u64 1000, .int .u64 10000, .int .u64 100000, .int .u64 1000000, .int .u64 10000000, .int .u64 100000000, .int .u64 1000000000, .int .u64 10000000000, .int .u64 100000000000, .int .u64 1000000000000, .int .u64 10000000000000, .int .u64 100000000000000, .int .u64 1000000000000000, .int .u64 10000000000000000, .int .u64 100000000000000000, .int .u64 1000000000000000000, .int .u64 10000000000000000000]
noncomputable def laidWorld (os : Os) : World := { World.holding Tryz.prog os ⟨#[], #[], []⟩ with heap := ((((World.holding Tryz.prog os ⟨#[], #[], []⟩).heap.modify 2 fun | .cells _ t frozen => .cells cells_laid_math_bits_deBruijn32tab t frozen | o => o).modify 3 fun | .cells _ t frozen => .cells cells_laid_math_bits_deBruijn64tab t frozen | o => o).modify 0 fun | .cells _ t frozen => .cells cells_laid_internal_strconv_uint64pow10 t frozen | o => o) }
set_option maxRecDepth 100000 in
theorem laid_met (os : Os) : laidMet Tryz.prog Rows.patchesLeadRow.laid ((laidWorld os).forCall (fun _ _ => 0) ⟨#[], #[.slice none 0 0, .slice none 0 0, .int .i64 0, .int .i64 0], []⟩).memory :=
  laidMet_of_run' 8 (by kernel_rfl) (by kernel_rfl)
set_option maxRecDepth 100000 in
theorem reads (os : Os) {H : Type} (enc : TypeId × Value → H) : ∃ places, DataW.whole enc Tryz.prog ((laidWorld os).forCall (fun _ _ => 0) ⟨#[], #[.slice none 0 0, .slice none 0 0, .int .i64 0, .int .i64 0], []⟩).memory Tryz.f3.params.toList Rows.patchesLeadSpec.vars false (#[.slice none 0 0, .slice none 0 0, .int .i64 0, .int .i64 0] : Array Value).toList 8 = some ([.nil, .nil, .lit (.int .i64 0), .lit (.int .i64 0)], [], places) :=
  ⟨[], by kernel_rfl⟩
set_option maxRecDepth 100000 in
theorem lifted (os : Os) (started : os.Started) (H : Type) (enc : TypeId × Value → H) (F : Stop.Interp) :
    ReturnsInHanded {} Tryz.checked os 3 .any ((OpenSpec.ofChange Rows.patchesLeadSpec).preRow enc Tryz.prog Tryz.f3 Rows.patchesLeadRow.domain false Rows.patchesLeadRow.laid) (((OpenSpec.ofChange Rows.patchesLeadSpec).at F).post enc Tryz.prog Tryz.f3 false true false false) := by
  obtain ⟨places, hx⟩ := reads os enc
  refine returnsInHanded_of_row (C := Tryz.checked) (s := OpenSpec.ofChange Rows.patchesLeadSpec) own started (by kernel_rfl) Tryz.func3
    (witness_row_at (enc := enc) (C := Tryz.checked) false (laidWorld os) #[.slice none 0 0, .slice none 0 0, .int .i64 0, .int .i64 0] rfl (by kernel_rfl) (by kernel_rfl) (by kernel_rfl)
      (OpenSpec.preRow_of_cond 8 hx (by kernel_rfl) (fun k hk => by cases hk) (by kernel_rfl) (laid_met os))) ?_
  intro W base args ds gs before hval hW _ _ _ hL _ _
  exact contract H enc W base args ds gs before hval hW hL

theorem said : Rows.PatchesLeadSaid :=
  OpenClaim.holds_of_cond 3 Tryz.f3 rfl rfl rfl rfl rfl rfl rfl ⟨rfl, rfl, rfl, rfl, rfl⟩ rfl rfl rfl rfl rfl (by kernel_rfl) Tryz.func3 (by kernel_rfl)
    (of_decide_eq_true (by kernel_rfl)) (by unfold Func.isWrapper; first | (rw [if_pos (by decide +kernel)]; kernel_rfl) | (rw [if_neg (by decide +kernel)]; exact ⟨rfl, rfl⟩))
    (fun os started H enc _ F => by rw [OpenClaim.pre_eq_preRow]; exact lifted os started H enc F)

theorem plain (f : FuncId) (fn : Func) (hf : Tryz.pinned.checked.prog.funcNamed "tollbar/tollbarkeep.PatchesLead" = some f) (hfn : Tryz.pinned.checked.prog.funcs[f]? = some fn) :
    false = Tryz.pinned.checked.prog.looks [] ∧ ∀ (j : Nat) t, fn.params[j]? = some t → Tryz.pinned.checked.prog.wantsStandIn t = false := by
  obtain rfl : f = 3 := Option.some.inj ((show Tryz.prog.funcNamed "tollbar/tollbarkeep.PatchesLead" = some 3 by kernel_rfl).symm.trans hf) |>.symm
  obtain rfl : fn = Tryz.f3 := (Option.some.inj (Tryz.func3.symm.trans hfn)).symm
  refine ⟨by kernel_rfl, fun j t ht => ?_⟩
  rw [Tryz.params3] at ht
  have h : t = 22 ∨ t = 3 := by have := Array.mem_of_getElem? ht; simp at this; omega
  rcases h with rfl | rfl
  · exact (show Tryz.prog.wantsStandIn 22 = false by kernel_rfl)
  · exact (show Tryz.prog.wantsStandIn 3 = false by kernel_rfl)

end Go.Proofs.YtcdobhdbafpkiafGreatDoor.patchesLead
namespace Go.Proofs.YtcdobhdbafpkiafGreatDoor
theorem patchesLead_card : Rows.PatchesLeadCardSaid :=
  Claim7.holds_tied_plain_at .later [] _ _ _ _ patchesLead.said (fun _ h => by cases h) (by kernel_rfl) (fun _ h => by cases h) patchesLead_row_tie rfl ⟨rfl, rfl⟩ (by kernel_rfl) rfl patchesLead.plain (by kernel_rfl)
#print axioms patchesLead_card
end Go.Proofs.YtcdobhdbafpkiafGreatDoor
