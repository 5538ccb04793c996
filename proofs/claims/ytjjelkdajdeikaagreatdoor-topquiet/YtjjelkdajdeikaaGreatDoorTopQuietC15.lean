/-
  Proved: for every list of raw things, the law TopQuiet returns true and leaves its argument as it was: who has told all, and sent all, has nothing new to tell or to send; the condition: strconv's table holds what it holds when the program begins.
-/
import Derived.Test.YtjjelkdajdeikaaGreatDoorCards
import Derived.Test.YtjjelkdajdeikaaGreatDoorTie
import Derived.Test.YtjjelkdajdeikaaGreatDoorTopQuietC12
import Derived.Test.YtjjelkdajdeikaaGreatDoorTopQuietC13
import Derived.Test.YtjjelkdajdeikaaGreatDoorTopQuietC14
import Derived.Deep.DeepHandedRow
import Derived.Lib.LaidTab
namespace Go.Proofs.YtjjelkdajdeikaaGreatDoor.topQuiet
open Go.ChangeShapes Go.WideShapes Go.ChangeAt Go.RowKit
set_option maxRecDepth 20000
set_option linter.unusedVariables false

theorem quiet {xs ys zs : List Pl.Ac} (h : Pl.DrG xs) (hy : ys = xs ++ Pl.settle5) (hz : zs = ys ++ Pl.settle5) :
    (Pl.runN Pl.Nt.new zs).K = (Pl.runN Pl.Nt.new ys).K ∧ ∀ i, ys.length ≤ i → i < zs.length → (Pl.rp (Pl.runR Pl.Nt.new zs) i).keys = [] := by
  have hset := h.set.1
  rw [← hy] at hset
  obtain ⟨q1, q2⟩ := Pl.run_quiet hset.quiet
  refine ⟨by rw [hz, Pl.runN_app, q1], fun i h1 h2 => ?_⟩
  rw [hz, List.length_append] at h2
  have hl := Pl.runR_len Pl.Nt.new ys
  have hl2 := Pl.runR_len (Pl.runN Pl.Nt.new ys) Pl.settle5
  rw [hz, Pl.runR_app]
  unfold Pl.rp
  rw [List.getD_eq_getElem?_getD, List.getElem?_append_right (by omega), List.getElem?_eq_getElem (by omega)]
  exact q2 _ (List.getElem_mem _)

set_option maxHeartbeats 8000000 in
theorem walk (a : Option Addr) (len cap : Nat) (w : World) (h : IsRaws w a len cap) (hT : Tab w) :
    Calls Tryz.prog 10 #[.slice a len cap] w fun e w' => e = .returned (.bool true) ∧ Below w.heap.size w w' := by
  have HR := hid h
  have HT := hid hT
  clear h hT
  go_enter Tryz.func10, Tryz.ntmps10
  go_wp2_with fail
  refine (Drawn_any a len cap _ HR.out).mono ?_
  rintro e w1 ⟨v1, xs, rfl, ho1, hl1, hok1, hb1⟩
  have HB1 := hid hb1
  have HO1 := hid ho1
  have HDG : Hid (Pl.DrG xs) := hid ⟨by omega, hok1⟩
  have hz1 := hb1.size
  clear ho1 hok1 hb1
  go_wp2_with fail
  refine (Settle_any w1).mono ?_
  rintro e w2 ⟨v2, rfl, ho2, hb2⟩
  obtain ⟨a2, c2, rfl, hi2, hn2⟩ := ho2.acts2 Pl.settle5_ok
  rw [Pl.settle5_len] at hi2 hn2 ⊢
  have HI2 := hid hi2
  have HN2 := hid hn2
  have HO2 := hid (HO1.out.below hb2)
  have HB2 : Hid (Below w.heap.size w w2) := hid (HB1.out.trans (hb2.mono hz1))
  have hz2 := HB2.out.size
  obtain ⟨n, HN⟩ : ∃ n, Hid (xs.length = n) := ⟨_, hid rfl⟩
  obtain ⟨ys, HY⟩ : ∃ ys, Hid (ys = xs ++ Pl.settle5) := ⟨_, hid rfl⟩
  obtain ⟨m, HM⟩ : ∃ m, Hid (m = n + 90) := ⟨_, hid rfl⟩
  have HYL : Hid (ys.length = m) := hid (by rw [HY.out, HM.out, List.length_append, HN.out, Pl.settle5_len])
  have HYO : Hid (∀ x ∈ ys, Pl.AcOk x) := hid (by
    intro x hx
    rw [HY.out] at hx
    rcases List.mem_append.1 hx with hx | hx
    · exact (HDG.out.2 x hx).1
    · exact Pl.settle5_ok x hx)
  have hm200 : m ≤ 140 := by rw [HM.out]; have := HDG.out.1; have := HN.out; omega
  clear hi2 hn2 hb2 ho2 HO1
  go_wp2_with (at_builtin; refine append_acsA rfl (.tmp 13) (.tmp 14) rfl w.heap.size v1 xs a2 90 c2 Pl.settle5 rfl HO2.out hz2 rfl HI2.out HN2.out (by have := HDG.out.1; omega) (by omega) ?_; intro v3 w3 ho3 hb3; rw [← HY.out] at ho3; obtain ⟨a3, c3, rfl, hi3, hn3⟩ := ho3.acts2 HYO.out; have HI3 := hid hi3; rw [HYL.out] at HI3 hn3 ⊢; have HN3 := hid hn3; have HB3 := hid hb3; clear ho3 hb3 hi3 hn3)
  have HBw3 : Hid (Below w.heap.size w w3) := hid (HB2.out.trans HB3.out)
  have hc3 := HI3.out.2.1
  have hm3 := HI3.out.2.2.1
  unfold maxLen at hm3
  clear HO2 HI2 HN2 HB3
  refine (CloneA_any a3 m c3 ys w3 HI3.out (by omega) (fun e => (HN3.out e).1)).mono ?_
  rintro e w4 ⟨v4, rfl, ho4, hb4⟩
  have HO4 := hid ho4
  have HB34 := hid hb4
  have hz4 := hb4.size
  clear ho4 hb4
  go_wp2_with fail
  refine (Settle_any w4).mono ?_
  rintro e w5 ⟨v5, rfl, ho5, hb5⟩
  obtain ⟨a5, c5, rfl, hi5, hn5⟩ := ho5.acts2 Pl.settle5_ok
  rw [Pl.settle5_len] at hi5 hn5 ⊢
  have HI5 := hid hi5
  have HN5 := hid hn5
  have HO5 := hid (HO4.out.below hb5)
  have HB35 : Hid (Below w3.heap.size w3 w5) := hid (HB34.out.trans (hb5.mono hz4))
  have hz5 := HB35.out.size
  obtain ⟨zs, HZ⟩ : ∃ zs, Hid (zs = ys ++ Pl.settle5) := ⟨_, hid rfl⟩
  obtain ⟨p, HP⟩ : ∃ p, Hid (p = m + 90) := ⟨_, hid rfl⟩
  have HZL : Hid (zs.length = p) := hid (by rw [HZ.out, HP.out, List.length_append, HYL.out, Pl.settle5_len])
  have HZO : Hid (∀ x ∈ zs, Pl.AcOk x) := hid (by
    intro x hx
    rw [HZ.out] at hx
    rcases List.mem_append.1 hx with hx | hx
    · exact HYO.out x hx
    · exact Pl.settle5_ok x hx)
  have hp400 : p ≤ 230 := by rw [HP.out]; omega
  obtain ⟨hq1, hq2⟩ := quiet HDG.out HY.out HZ.out
  have HQ1 := hid hq1
  have HQ2 := hid hq2
  clear hi5 hn5 hb5 ho5 HO4 hq1 hq2 HB34
  go_wp2_with (at_builtin; refine append_acsA rfl (.tmp 18) (.tmp 19) rfl w3.heap.size v4 ys a5 90 c5 Pl.settle5 rfl HO5.out hz5 rfl HI5.out HN5.out (by rw [HYL.out]; omega) (by omega) ?_; intro v6 w6 ho6 hb6; rw [← HZ.out] at ho6; obtain ⟨a6, c6, rfl, hi6, hn6⟩ := ho6.acts2 HZO.out; have HI6 := hid hi6; rw [HZL.out] at HI6 ⊢; have HB6 := hid hb6; clear ho6 hb6 hi6 hn6)
  have HB36 : Hid (Below w3.heap.size w3 w6) := hid (HB35.out.trans HB6.out)
  have HBw6 : Hid (Below w.heap.size w w6) := hid (HBw3.out.trans (HB36.out.mono HBw3.out.size))
  refine (TopRun_any a6 p c6 zs w6 HI6.out (by omega) (HT.out.below HBw6.out)).mono ?_
  rintro e w7 ⟨vr, vs, rfl, hr7, hb7⟩
  obtain ⟨ts, ar, cr, gs, cs, A, C, rfl, rfl, hts, hl, hcr, hmr, hcs, hms, hgs, hre, hown, hS⟩ := hr7.read
  rw [HZL.out] at hl hcr hre ⊢
  obtain ⟨gr, rfl, hgr, hre⟩ := hre.resolve_left (by rw [HP.out]; omega)
  have HB37 : Hid (Below w3.heap.size w3 w7) := hid (HB36.out.trans (hb7.mono HB36.out.size))
  have HBw7 : Hid (Below w.heap.size w w7) := hid (HBw3.out.trans (HB37.out.mono HBw3.out.size))
  have HI37 := hid (HI3.out.below HB37.out)
  have HS7 := hid hS
  rw [HQ1.out] at HS7
  have HRE := hid hre
  have HOWN := hid hown
  have HTS := hid hts
  have HTL := hid hl
  have hmp : m ≤ p := by rw [HP.out]; omega
  have hp90 : p - m = 90 := by rw [HP.out]; omega
  clear hr7 hb7 hS hre hown hts hl HO5 HI5 HN5 HI6 HB6 HB35 HB36 HI3
  unfold maxLen at hmr hms
  go_wp2_with fail
  refine (TopRun_any a3 m c3 ys w7 HI37.out (by omega) (HT.out.below HBw7.out)).mono ?_
  rintro e w8 ⟨vr2, vs2, rfl, hr8, hb8⟩
  obtain ⟨ts2, ar2, cr2, gs2, cs2, A2, C2, rfl, rfl, -, -, hcr2, hmr2, hcs2, hms2, hgs2, -, -, hS2⟩ := hr8.read
  rw [HYL.out] at hcr2 ⊢
  have HB8 : Hid (Below w.heap.size w w8) := hid (HBw7.out.trans (hb8.mono HBw7.out.size))
  have HB78 := hid hb8
  have HS8 := hid (HS7.out.below hgs hb8)
  have HT8 := hid hS2
  have hgs8 : gs < w8.heap.size := Nat.lt_of_lt_of_le hgs hb8.size
  have hgr8 : gr < w8.heap.size := Nat.lt_of_lt_of_le hgr hb8.size
  clear hr8 hb8 hS2 HS7 HI37
  unfold maxLen at hmr2 hms2
  go_wp2_with fail
  go_loopw [42] (fun i wr => ∃ k : Nat, k ≤ 90 ∧ i = .int .i64 k ∧ Hid (Below w8.heap.size w8 wr)) (fun i _ => 90 - (intOf i).toNat)
  case atStart => exact ⟨0, by omega, rfl, hid (Below.refl _ _)⟩
  case round =>
    obtain ⟨k, hk, rfl, HB⟩ := hrel
    have hgrw : gr < wr.heap.size := Nat.lt_of_lt_of_le hgr8 HB.out.size
    by_cases hk90 : k < 90
    · have hmk : m + k < ts.length := by rw [HTL.out, HP.out]; omega
      obtain ⟨q0, q1, q2, q3⟩ := (RepsAt.below HRE.out hgr (HB78.out.trans (HB.out.mono HB78.out.size))) (m + k) hmk
      obtain ⟨ya, yc, e1⟩ := ownsRow_slice (HOWN.out _ (rpv_mem hmk)).1
      obtain ⟨za, zc, e2⟩ := ownsRow_slice (HOWN.out _ (rpv_mem hmk)).2
      have ek : (rpv ts (m + k)).r.keys = [] := by
        rw [rpv_r, HTS.out]
        exact HQ2.out (m + k) (by rw [HYL.out]; omega) (by rw [HZL.out, HP.out]; omega)
      rw [ek] at e2
      rw [e1] at q1
      rw [e2] at q3
      rw [List.length_nil] at q3
      rw [Nat.add_mul] at q0 q1 q2 q3
      generalize (rpv ts (m + k)).r = r at *
      obtain ⟨np, HNP⟩ : ∃ c, Hid (r.path.length = c) := ⟨_, hid rfl⟩
      rw [HNP.out] at q1
      have hk90' : (k : Int) < 90 := by omega
      clear e1 e2 ek hmk
      go_wp2_with fail
      go_roundw
      case rel => exact ⟨k + 1, by omega, by go_num, hid (HB.out.alloc HB.out.size _)⟩
      case measure => simp [intOf]; omega
    · obtain rfl : k = 90 := by omega
      have HEQ := hid (EqualFuncS_any 40 (enters_of Tryz.func40 (by kernel_rfl) rfl) pred_quiet gs gs2 cs cs2 A A2 C C2 _ wr (HS8.out.below hgs8 HB.out) (HT8.out.below hgs2 HB.out) (Nat.lt_of_lt_of_le hgs8 HB.out.size) (Nat.lt_of_lt_of_le hgs2 HB.out.size))
      go_wp2_with fail
      refine HEQ.out.mono ?_
      rintro e w9 ⟨rfl, hb9⟩
      go_wp2_with fail
      go_ret
      exact ⟨rfl, HB8.out.trans ((HB.out.trans (hb9.mono HB.out.size)).mono HB8.out.size)⟩

theorem gTab : Tryz.prog.globalNamed "internal/strconv.uint64pow10" = some 0 := by kernel_rfl
theorem gTabType : (Tryz.prog.globals[0]?).map (·.type) = some 231 := by kernel_rfl
theorem cellsTab : Tryz.prog.cellsOf 231 = 20 := by kernel_rfl
theorem laidTab : (Rows.laid_internal_strconv_uint64pow10 : DataW Unit) = Lib.tabData .u64 Lib.pow10Tab := by rfl
theorem table {W : World} (h : laidMetH Tryz.prog Rows.topQuietRow.laid W) : Tab W := by
  have h1 : laidMet Tryz.prog Rows.topQuietRow.laid W := h
  have h2 := laidMet.filter (fun x => x.1 == "internal/strconv.uint64pow10") h1
  have h3 : laidMet Tryz.prog [("internal/strconv.uint64pow10", (Rows.laid_internal_strconv_uint64pow10 : DataW Unit))] W := h2
  rw [laidTab] at h3
  exact Lib.tabIs_of_head (rest := []) gTab gTabType Tryz.underlying231 Tryz.underlying197 (by kernel_rfl) cellsTab h3

theorem contract (H : Type) (enc : TypeId × Value → H) (W : World) (base : Nat) (args : Array Value) (ds gs : List (DataW H)) (before : List MemPlace)
    (hval : ∀ (j : Nat) t v, Tryz.f10.params[j]? = some t → args[j]? = some v → Value.okWide Tryz.prog W .any base t v)
    (hW : DataW.Whole enc Tryz.prog Tryz.f10.params.toList Rows.topQuietSpec.vars false W args.toList ds gs before) (hL : laidMetH Tryz.prog Rows.topQuietRow.laid W) :
    Calls Tryz.prog 10 args W fun e W' => ∃ v, e = .returned v ∧ Rows.topQuietSpec.post enc Tryz.prog Tryz.f10 false true false false W args v W' := by
  have hW' := hW
  obtain ⟨p, q, hA0, hV, rfl, hfz, hnd⟩ := hW
  have hA : DataW.TrodAll enc Tryz.prog W 0 (fun _ => true) true Tryz.f10.params.toList args.toList ds p := hA0
  rw [Tryz.params10] at hA hval
  obtain ⟨v0, vs0, d0, ds0, p0, q0, hargs, rfl, rfl, h0, r0⟩ := trodAll_cons hA
  obtain ⟨rfl, rfl, rfl⟩ := trodAll_nil r0
  obtain rfl : args = #[v0] := by cases args; simp_all
  obtain ⟨rfl, rfl⟩ := trodVars_none hV
  have k0 := h0
  have lt0 : ∀ x ∈ p0, x.block < W.heap.size := by obtain ⟨m, hm⟩ := k0; exact DataW.trod_lt m _ _ _ hm
  obtain ⟨a0, len0, cap0, rfl, w0⟩ := open_raws (hval 0 45 v0 rfl rfl) h0
  clear hA0
  refine (walk a0 len0 cap0 W w0 (table hL)).mono fun e W' ⟨he, bel⟩ => ?_
  subst he
  exact ⟨_, rfl, _, _, _, [], _, [], hW', trodAll_mk1 (shut_bool Tryz.underlying4 _), (trodAll_cons_mk (Below.trod laidOut (by kernel_rfl) (of_decide_eq_true (by kernel_rfl)) k0 bel lt0) trodAll_mk0), rfl, bel.frame _, fun h => by cases h⟩

def cells_laid_math_bits_deBruijn32tab : Array Value := #[.int .u8 0, .int .u8 1, .int .u8 28, .int .u8 2, .int .u8 29, .int .u8 14, .int .u8 24, .int .u8 3, .int .u8 30, .int .u8 22, .int .u8 20, .int .u8 15, .int .u8 25, .int .u8 17, .int .u8 4, .int .u8 8, .int .u8 31, .int .u8 27, .int .u8 13, .int .u8 23, .int .u8 21, .int .u8 19, .int .u8 16, .int .u8 7, .int .u8 26, .int .u8 12, .int .u8 18, .int .u8 6, .int .u8 11, .int .u8 5, .int .u8 10, .int .u8 9]
def cells_laid_math_bits_deBruijn64tab : Array Value := #[.int .u8 0, .int .u8 1, .int .u8 56, .int .u8 2, .int .u8 57, .int .u8 49, .int .u8 28, .int .u8 3, .int .u8 61, .int .u8 58, .int .u8 42, .int .u8 50, .int .u8 38, .int .u8 29, .int .u8 17, .int .u8 4, .int .u8 62, .int .u8 47, .int .u8 59, .int .u8 36, .int .u8 45, .int .u8 43, .int .u8 51, .int .u8 22, .int .u8 53, .int .u8 39, .int .u8 33, .int .u8 30, .int .u8 24, .int .u8 18, .int .u8 12, .int .u8 5, .int .u8 63, .int .u8 55, .int .u8 48, .int .u8 27, .int .u8 60, .int .u8 41, .int .u8 37, .int .u8 16, .int .u8 46, .int .u8 35, .int .u8 44, .int .u8 21, .int .u8 52, .int .u8 32, .int .u8 23, .int .u8 11, .int .u8 54, .int .u8 26, .int .u8 40, .int .u8 15, .int .u8 34, .int .u8 20, .int .u8 31, .int .u8 10, .int .u8 25, .int .u8 14, .int .u8 19, .int .u8 9, .int .u8 13, .int .u8 8, .int .u8 7, .int .u8 6]
def cells_laid_internal_strconv_uint64pow10 : Array Value := #[.int .u64 1, .int .u64 10, .int .u64 100, .int .u64 1000, .int .u64 10000, .int .u64 100000, .int .u64 1000000, .int .u64 10000000, .int .u64 100000000, .int .u64 1000000000, .int .u64 10000000000, .int .u64 100000000000, .int .u64 1000000000000, .int .u64 10000000000000, .int .u64 100000000000000, .int .u64 1000000000000000, .int .u64 10000000000000000, .int .u64 100000000000000000, .int .u64 1000000000000000000, .int .u64 10000000000000000000]
noncomputable def laidWorld (os : Os) : World := { World.holding Tryz.prog os ⟨#[], #[], []⟩ with heap := ((((World.holding Tryz.prog os ⟨#[], #[], []⟩).heap.modify 2 fun | .cells _ t frozen => .cells cells_laid_math_bits_deBruijn32tab t frozen | o => o).modify 3 fun | .cells _ t frozen => .cells cells_laid_math_bits_deBruijn64tab t frozen | o => o).modify 0 fun | .cells _ t frozen => .cells cells_laid_internal_strconv_uint64pow10 t frozen | o => o) }
set_option maxRecDepth 100000 in
theorem laid_met (os : Os) : laidMet Tryz.prog Rows.topQuietRow.laid ((laidWorld os).forCall (fun _ _ => 0) ⟨#[], #[.slice none 0 0], []⟩).memory :=
  laidMet_of_run' 8 (by kernel_rfl) (by kernel_rfl)
set_option maxRecDepth 100000 in
theorem reads (os : Os) {H : Type} (enc : TypeId × Value → H) : ∃ places, DataW.whole enc Tryz.prog ((laidWorld os).forCall (fun _ _ => 0) ⟨#[], #[.slice none 0 0], []⟩).memory Tryz.f10.params.toList Rows.topQuietSpec.vars false (#[.slice none 0 0] : Array Value).toList 8 = some ([.nil], [], places) :=
  ⟨[], by kernel_rfl⟩
set_option maxRecDepth 100000 in
theorem lifted (os : Os) (started : os.Started) (H : Type) (enc : TypeId × Value → H) (F : Stop.Interp) :
    ReturnsInHanded {} Tryz.checked os 10 .any ((OpenSpec.ofChange Rows.topQuietSpec).preRow enc Tryz.prog Tryz.f10 Rows.topQuietRow.domain false Rows.topQuietRow.laid) (((OpenSpec.ofChange Rows.topQuietSpec).at F).post enc Tryz.prog Tryz.f10 false true false false) := by
  obtain ⟨places, hx⟩ := reads os enc
  refine returnsInHanded_of_row (C := Tryz.checked) (s := OpenSpec.ofChange Rows.topQuietSpec) own started (by kernel_rfl) Tryz.func10
    (witness_row_at (enc := enc) (C := Tryz.checked) false (laidWorld os) #[.slice none 0 0] rfl (by kernel_rfl) (by kernel_rfl) (by kernel_rfl)
      (OpenSpec.preRow_of_cond 8 hx (by kernel_rfl) (fun k hk => by cases hk) (by kernel_rfl) (laid_met os))) ?_
  intro W base args ds gs before hval hW _ _ _ hL _ _
  exact contract H enc W base args ds gs before hval hW hL

theorem said : Rows.TopQuietSaid :=
  OpenClaim.holds_of_cond 10 Tryz.f10 rfl rfl rfl rfl rfl rfl rfl ⟨rfl, rfl, rfl, rfl, rfl⟩ rfl rfl rfl rfl rfl (by kernel_rfl) Tryz.func10 (by kernel_rfl)
    (of_decide_eq_true (by kernel_rfl)) (by unfold Func.isWrapper; first | (rw [if_pos (by decide +kernel)]; kernel_rfl) | (rw [if_neg (by decide +kernel)]; exact ⟨rfl, rfl⟩))
    (fun os started H enc _ F => by rw [OpenClaim.pre_eq_preRow]; exact lifted os started H enc F)

theorem plain (f : FuncId) (fn : Func) (hf : Tryz.pinned.checked.prog.funcNamed "tollbar/tollbartop.TopQuiet" = some f) (hfn : Tryz.pinned.checked.prog.funcs[f]? = some fn) :
    false = Tryz.pinned.checked.prog.looks [] ∧ ∀ (j : Nat) t, fn.params[j]? = some t → Tryz.pinned.checked.prog.wantsStandIn t = false := by
  obtain rfl : f = 10 := Option.some.inj ((show Tryz.prog.funcNamed "tollbar/tollbartop.TopQuiet" = some 10 by kernel_rfl).symm.trans hf) |>.symm
  obtain rfl : fn = Tryz.f10 := (Option.some.inj (Tryz.func10.symm.trans hfn)).symm
  refine ⟨by kernel_rfl, fun j t ht => ?_⟩
  rw [Tryz.params10] at ht
  obtain rfl : t = 45 := by simpa using Array.mem_of_getElem? ht
  exact (show Tryz.prog.wantsStandIn 45 = false by kernel_rfl)

end Go.Proofs.YtjjelkdajdeikaaGreatDoor.topQuiet
namespace Go.Proofs.YtjjelkdajdeikaaGreatDoor
theorem topQuiet_card : Rows.TopQuietCardSaid :=
  Claim7.holds_tied_plain_at .later [] _ _ _ _ topQuiet.said (fun _ h => by cases h) (by kernel_rfl) (fun _ h => by cases h) topQuiet_row_tie rfl ⟨rfl, rfl⟩ (by kernel_rfl) rfl topQuiet.plain (by kernel_rfl)
#print axioms topQuiet_card
end Go.Proofs.YtjjelkdajdeikaaGreatDoor
