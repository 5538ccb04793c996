/-
  Proved: for every list of raw things and every number, the law TopSteps returns true and leaves its arguments as they were: a script that is longer begins as a shorter one does, and what may not be is refused; the condition: strconv's table holds what it holds when the program begins.
-/
import Derived.Test.YtjjelkdajdeikaaGreatDoorCards
import Derived.Test.YtjjelkdajdeikaaGreatDoorTie
import Derived.Test.YtjjelkdajdeikaaGreatDoorTopStepsC1
import Derived.Test.YtjjelkdajdeikaaGreatDoorTopStepsC13
import Derived.Test.YtjjelkdajdeikaaGreatDoorTopStepsC14
import Derived.Deep.DeepHandedRow
import Derived.Lib.LaidTab
namespace Go.Proofs.YtjjelkdajdeikaaGreatDoor.topSteps
open Go.ChangeShapes Go.WideShapes Go.ChangeAt Go.RowKit
set_option maxRecDepth 20000
set_option linter.unusedVariables false

theorem acts_take {w : World} {a : Option Addr} {n cap k : Nat} {xs : List Pl.Ac} (h : IsActs w a n cap xs) (hk : k ≤ n) : IsActs w a k cap (xs.take k) := by
  obtain ⟨h1, h2, h3, h4, h5⟩ := h
  refine ⟨by rw [List.length_take]; omega, by omega, h3, fun x hx => h4 x (List.mem_of_mem_take hx), ?_⟩
  rcases h5 with h5 | ⟨b, off, rfl, hb, hr⟩
  · left; rw [h5]; simp
  · refine .inr ⟨b, off, rfl, hb, fun i hi q v hv => ?_⟩
    rw [List.length_take] at hi
    have e : Pl.ac (xs.take k) i = Pl.ac xs i := by
      rw [Pl.ac_eq _ i (by rw [List.length_take]; omega), Pl.ac_eq _ i (by omega), List.getElem_take]
    rw [e] at hv
    exact hr i (by omega) q v hv
theorem same_rp {xs : List Pl.Ac} {k : Nat} {ts us : List RpV} (h1 : ts.map RpV.r = Pl.runR Pl.Nt.new xs) (h2 : us.map RpV.r = Pl.runR Pl.Nt.new (xs.take k)) (hk : k ≤ xs.length) : ∀ i, i < k → (rpv ts i).r = (rpv us i).r := by
  intro i hi
  rw [rpv_r, rpv_r, h1, h2, Pl.runR_take, List.getD_eq_getElem?_getD, List.getD_eq_getElem?_getD, List.getElem?_take, if_pos hi]

set_option maxHeartbeats 8000000 in
theorem walk (a : Option Addr) (len cap : Nat) (d : Int) (w : World) (h : IsRaws w a len cap) (hd : (Lit.int .i64 d).wf = true) (hT : Tab w) :
    Calls Tryz.prog 11 #[.slice a len cap, .int .i64 d] w fun e w' => e = .returned (.bool true) ∧ Below w.heap.size w w' := by
  have HR := hid h
  have HT := hid hT
  have bd := wf_bounds hd
  have HP9 := hid (fun W => Picked_any d 9 W bd.1 bd.2 (by omega) (by omega))
  have hp9 := Pl.pk_range d 9 (by omega)
  obtain ⟨z9, HZ9⟩ : ∃ c, Hid (Pl.pk d 9 = c) := ⟨_, hid rfl⟩
  rw [HZ9.out] at HP9 hp9
  obtain ⟨p9, rfl⟩ := Int.eq_ofNat_of_zero_le hp9.1
  have hw401 : IntKind.i64.wrap (401 + (p9 : Int)) = ((401 + p9 : Nat) : Int) := by rw [IntKind.wrap_i64]; push_cast; omega
  obtain ⟨big, HBIG⟩ : ∃ b, Hid (401 + p9 = b) := ⟨_, hid rfl⟩
  rw [HBIG.out] at hw401
  have hbig : 400 < big ∧ big ≤ 1000 := by rw [← HBIG.out]; omega
  clear h hd hT
  go_enter Tryz.func11, Tryz.ntmps11
  go_wp2_with fail
  refine (Acts_any a len cap 50 5 _ HR.out (by omega) (by omega) (by omega)).mono ?_
  rintro e w1 ⟨v1, xs, rfl, ho1, hl1, hg1, hb1⟩
  obtain ⟨a1, c1, rfl, hi1, hn1⟩ := ho1.acts2 (fun x hx => (hg1 x hx).ok)
  have HB1 := hid hb1
  have HI1 := hid hi1
  obtain ⟨n, HN⟩ : ∃ n, Hid (xs.length = n) := ⟨_, hid rfl⟩
  rw [HN.out] at HI1 hl1 ⊢
  have hc1 := HI1.out.2.1
  have hm1 := HI1.out.2.2.1
  unfold maxLen at hm1
  have hwn : IntKind.i64.wrap ((n : Int) + 1) = ((n + 1 : Nat) : Int) := by rw [IntKind.wrap_i64]; push_cast; omega
  have HPN := hid (fun W => Picked_any d ((n + 1 : Nat) : Int) W bd.1 bd.2 (by omega) (by omega))
  have hpn := Pl.pk_range d ((n + 1 : Nat) : Int) (by omega)
  obtain ⟨zk, HZK⟩ : ∃ c, Hid (Pl.pk d ((n + 1 : Nat) : Int) = c) := ⟨_, hid rfl⟩
  rw [HZK.out] at HPN hpn
  obtain ⟨k, rfl⟩ := Int.eq_ofNat_of_zero_le hpn.1
  have hkn : k ≤ n := by omega
  clear ho1 hg1 hi1 hn1 hb1 bd hpn HR
  go_wp2_with (go_at_call 28; refine (HPN.out _).mono ?_; rintro e w' ⟨rfl, hw'⟩; rw [hw']; clear hw' w')
  refine (TopRun_any a1 n c1 xs w1 HI1.out (by omega) (HT.out.below HB1.out)).mono ?_
  rintro e w2 ⟨vr, vs, rfl, hr2, hb2⟩
  obtain ⟨ts, ar, cr, gs, cs, A, C, rfl, rfl, hts, hl, hcr, hmr, hcs, hms, hgs, hre, hown, hS⟩ := hr2.read
  rw [HN.out] at hl hcr hre ⊢
  have HB2 : Hid (Below w.heap.size w w2) := hid (HB1.out.trans (hb2.mono HB1.out.size))
  have HI2 := hid (acts_take (HI1.out.below hb2) hkn)
  have HRE := hid hre
  have HOWN := hid hown
  have HTS := hid hts
  have HTL := hid hl
  have hkc : k ≤ cr := by omega
  clear hr2 hb2 hS hre hown hts hl
  unfold maxLen at hmr hms
  go_wp2_with fail
  refine (TopRun_any a1 k c1 (xs.take k) w2 HI2.out (by omega) (HT.out.below HB2.out)).mono ?_
  rintro e w3 ⟨vr2, vs2, rfl, hr3, hb3⟩
  obtain ⟨ts2, ar2, cr2, gs2, cs2, A2, C2, rfl, rfl, hts2, hl2, hcr2, hmr2, hcs2, hms2, hgs2, hre2, hown2, hS2⟩ := hr3.read
  have HKL : Hid ((xs.take k).length = k) := hid (by rw [List.length_take, HN.out]; omega)
  rw [HKL.out] at hl2 hcr2 hre2 ⊢
  have HB3 : Hid (Below w.heap.size w w3) := hid (HB2.out.trans (hb3.mono HB2.out.size))
  have HSAME := hid (same_rp HTS.out hts2 (by rw [HN.out]; exact hkn))
  have HH1 : Hid (k = 0 ∨ ∃ g1, ar = some ⟨g1, 0, none⟩ ∧ g1 < w3.heap.size ∧ RepsAt w3 g1 ts) := hid (by
    rcases HRE.out with h | ⟨g, h1, h2, h3⟩
    · left; omega
    · exact .inr ⟨g, h1, Nat.lt_of_lt_of_le h2 hb3.size, h3.below h2 hb3⟩)
  have HH2 := hid hre2
  have HO1 : Hid (∀ t ∈ ts, OwnZ w3 w1.heap.size t.vp t.r.path ∧ OwnS w3 w1.heap.size t.vk t.r.keys) := hid fun t ht => ⟨(HOWN.out t ht).1.below hb3, OwnS.below (HOWN.out t ht).2 hb3⟩
  have HO2 := hid hown2
  have HTL2 := hid hl2
  clear hr3 hb3 hS2 hre2 hown2 hts2 hl2 HRE HOWN HTS
  unfold maxLen at hmr2 hms2
  obtain ⟨zc, hmk⟩ := run_makeAc w3 big hbig.2
  have hb4 : Below w3.heap.size w3 (w3.alloc (.cells zc 51)) := (Below.refl _ _).alloc (Nat.le_refl _) _
  have HB4 : Hid (Below w.heap.size w (w3.alloc (.cells zc 51))) := hid (HB3.out.trans (hb4.mono HB3.out.size))
  have HEQ := hid (EqualFuncR_any 42 (enters_of Tryz.func42 (by kernel_rfl) rfl) pred_steps ar ar2 k cr cr2 w1.heap.size w2.heap.size ts ts2 (w3.alloc (.cells zc 51))
    (HH1.out.imp id fun ⟨g, h1, h2, h3⟩ => ⟨g, h1, Nat.lt_of_lt_of_le h2 hb4.size, h3.below h2 hb4⟩) (HH2.out.imp id fun ⟨g, h1, h2, h3⟩ => ⟨g, h1, Nat.lt_of_lt_of_le h2 hb4.size, h3.below h2 hb4⟩) (by omega) (by rw [HTL.out]; exact hkn) (by rw [HTL2.out]; exact Nat.le_refl _)
    (fun t ht => ⟨(HO1.out t ht).1.below hb4, OwnS.below (HO1.out t ht).2 hb4⟩) (fun t ht => ⟨(HO2.out t ht).1.below hb4, OwnS.below (HO2.out t ht).2 hb4⟩) HSAME.out)
  clear hb4
  go_wp2_with (go_at_call 28; refine (HP9.out _).mono ?_; rintro e w' ⟨rfl, hw'⟩; rw [hw']; clear hw' w')
  refine (TopRun_long _ big big _ hbig.1).mono ?_
  rintro e w5 ⟨rfl, hw5⟩
  rw [hw5]
  clear hw5 w5
  go_wp2_with fail
  refine HEQ.out.mono ?_
  rintro e w6 ⟨rfl, hb6⟩
  go_wp2_with fail
  go_ret
  exact ⟨ret_bool (by simp), HB4.out.trans (hb6.mono HB4.out.size)⟩

theorem gTab : Tryz.prog.globalNamed "internal/strconv.uint64pow10" = some 0 := by kernel_rfl
theorem gTabType : (Tryz.prog.globals[0]?).map (·.type) = some 231 := by kernel_rfl
theorem cellsTab : Tryz.prog.cellsOf 231 = 20 := by kernel_rfl
theorem laidTab : (Rows.laid_internal_strconv_uint64pow10 : DataW Unit) = Lib.tabData .u64 Lib.pow10Tab := by rfl
theorem table {W : World} (h : laidMetH Tryz.prog Rows.topStepsRow.laid W) : Tab W := by
  have h1 : laidMet Tryz.prog Rows.topStepsRow.laid W := h
  have h2 := laidMet.filter (fun x => x.1 == "internal/strconv.uint64pow10") h1
  have h3 : laidMet Tryz.prog [("internal/strconv.uint64pow10", (Rows.laid_internal_strconv_uint64pow10 : DataW Unit))] W := h2
  rw [laidTab] at h3
  exact Lib.tabIs_of_head (rest := []) gTab gTabType Tryz.underlying231 Tryz.underlying197 (by kernel_rfl) cellsTab h3

theorem contract (H : Type) (enc : TypeId × Value → H) (W : World) (base : Nat) (args : Array Value) (ds gs : List (DataW H)) (before : List MemPlace)
    (hval : ∀ (j : Nat) t v, Tryz.f11.params[j]? = some t → args[j]? = some v → Value.okWide Tryz.prog W .any base t v)
    (hW : DataW.Whole enc Tryz.prog Tryz.f11.params.toList Rows.topStepsSpec.vars false W args.toList ds gs before) (hL : laidMetH Tryz.prog Rows.topStepsRow.laid W) :
    Calls Tryz.prog 11 args W fun e W' => ∃ v, e = .returned v ∧ Rows.topStepsSpec.post enc Tryz.prog Tryz.f11 false true false false W args v W' := by
  have hW' := hW
  obtain ⟨p, q, hA0, hV, rfl, hfz, hnd⟩ := hW
  have hA : DataW.TrodAll enc Tryz.prog W 0 (fun _ => true) true Tryz.f11.params.toList args.toList ds p := hA0
  rw [Tryz.params11] at hA hval
  obtain ⟨v0, vs0, d0, ds0, p0, q0, hargs, rfl, rfl, h0, r0⟩ := trodAll_cons hA
  obtain ⟨v1, vs1, d1, ds1, p1, q1, rfl, rfl, rfl, h1, r1⟩ := trodAll_cons r0
  obtain ⟨rfl, rfl, rfl⟩ := trodAll_nil r1
  obtain rfl : args = #[v0, v1] := by cases args; simp_all
  obtain ⟨rfl, rfl⟩ := trodVars_none hV
  have k0 := h0
  have lt0 : ∀ x ∈ p0, x.block < W.heap.size := by obtain ⟨m, hm⟩ := k0; exact DataW.trod_lt m _ _ _ hm
  obtain ⟨a0, len0, cap0, rfl, w0⟩ := open_raws (hval 0 45 v0 rfl rfl) h0
  have k1 := h1
  have lt1 : ∀ x ∈ p1, x.block < W.heap.size := by obtain ⟨m, hm⟩ := k1; exact DataW.trod_lt m _ _ _ hm
  obtain ⟨a1, rfl, _, _, w1⟩ := open_int Tryz.underlying3 (hval 1 3 v1 rfl rfl) h1
  clear hA0
  refine (walk a0 len0 cap0 a1 W w0 w1 (table hL)).mono fun e W' ⟨he, bel⟩ => ?_
  subst he
  exact ⟨_, rfl, _, _, _, [], _, [], hW', trodAll_mk1 (shut_bool Tryz.underlying4 _), (trodAll_cons_mk (Below.trod laidOut (by kernel_rfl) (of_decide_eq_true (by kernel_rfl)) k0 bel lt0) (trodAll_cons_mk (Below.trod laidOut (by kernel_rfl) (of_decide_eq_true (by kernel_rfl)) k1 bel lt1) trodAll_mk0)), rfl, bel.frame _, fun h => by cases h⟩

def cells_laid_math_bits_deBruijn32tab : Array Value := #[.int .u8 0, .int .u8 1, .int .u8 28, .int .u8 2, .int .u8 29, .int .u8 14, .int .u8 24, .int .u8 3, .int .u8 30, .int .u8 22, .int .u8 20, .int .u8 15, .int .u8 25, .int .u8 17, .int .u8 4, .int .u8 8, .int .u8 31, .int .u8 27, .int .u8 13, .int .u8 23, .int .u8 21, .int .u8 19, .int .u8 16, .int .u8 7, .int .u8 26, .int .u8 12, .int .u8 18, .int .u8 6, .int .u8 11, .int .u8 5, .int .u8 10, .int .u8 9]
def cells_laid_math_bits_deBruijn64tab : Array Value := #[.int .u8 0, .int .u8 1, .int .u8 56, .int .u8 2, .int .u8 57, .int .u8 49, .int .u8 28, .int .u8 3, .int .u8 61, .int .u8 58, .int .u8 42, .int .u8 50, .int .u8 38, .int .u8 29, .int .u8 17, .int .u8 4, .int .u8 62, .int .u8 47, .int .u8 59, .int .u8 36, .int .u8 45, .int .u8 43, .int .u8 51, .int .u8 22, .int .u8 53, .int .u8 39, .int .u8 33, .int .u8 30, .int .u8 24, .int .u8 18, .int .u8 12, .int .u8 5, .int .u8 63, .int .u8 55, .int .u8 48, .int .u8 27, .int .u8 60, .int .u8 41, .int .u8 37, .int .u8 16, .int .u8 46, .int .u8 35, .int .u8 44, .int .u8 21, .int .u8 52, .int .u8 32, .int .u8 23, .int .u8 11, .int .u8 54, .int .u8 26, .int .u8 40, .int .u8 15, .int .u8 34, .int .u8 20, .int .u8 31, .int .u8 10, .int .u8 25, .int .u8 14, .int .u8 19, .int .u8 9, .int .u8 13, .int .u8 8, .int .u8 7, .int .u8 6]
def cells_laid_internal_strconv_uint64pow10 : Array Value := #[.int .u64 1, .int .u64 10, .int .u64 100, .int .u64 1000, .int .u64 10000, .int .u64 100000, .int .u64 1000000, .int .u64 10000000, .int .u64 100000000, .int .u64 1000000000, .int .u64 10000000000, .int .u64 100000000000, .int .u64 1000000000000, .int .u64 10000000000000, .int .u64 100000000000000, .int .u64 1000000000000000, .int .u64 10000000000000000, .int .u64 100000000000000000, .int .u64 1000000000000000000, .int .u64 10000000000000000000]
noncomputable def laidWorld (os : Os) : World := { World.holding Tryz.prog os ⟨#[], #[], []⟩ with heap := ((((World.holding Tryz.prog os ⟨#[], #[], []⟩).heap.modify 2 fun | .cells _ t frozen => .cells cells_laid_math_bits_deBruijn32tab t frozen | o => o).modify 3 fun | .cells _ t frozen => .cells cells_laid_math_bits_deBruijn64tab t frozen | o => o).modify 0 fun | .cells _ t frozen => .cells cells_laid_internal_strconv_uint64pow10 t frozen | o => o) }
set_option maxRecDepth 100000 in
theorem laid_met (os : Os) : laidMet Tryz.prog Rows.topStepsRow.laid ((laidWorld os).forCall (fun _ _ => 0) ⟨#[], #[.slice none 0 0, .int .i64 0], []⟩).memory :=
  laidMet_of_run' 8 (by kernel_rfl) (by kernel_rfl)
set_option maxRecDepth 100000 in
theorem reads (os : Os) {H : Type} (enc : TypeId × Value → H) : ∃ places, DataW.whole enc Tryz.prog ((laidWorld os).forCall (fun _ _ => 0) ⟨#[], #[.slice none 0 0, .int .i64 0], []⟩).memory Tryz.f11.params.toList Rows.topStepsSpec.vars false (#[.slice none 0 0, .int .i64 0] : Array Value).toList 8 = some ([.nil, .lit (.int .i64 0)], [], places) :=
  ⟨[], by kernel_rfl⟩
set_option maxRecDepth 100000 in
theorem lifted (os : Os) (started : os.Started) (H : Type) (enc : TypeId × Value → H) (F : Stop.Interp) :
    ReturnsInHanded {} Tryz.checked os 11 .any ((OpenSpec.ofChange Rows.topStepsSpec).preRow enc Tryz.prog Tryz.f11 Rows.topStepsRow.domain false Rows.topStepsRow.laid) (((OpenSpec.ofChange Rows.topStepsSpec).at F).post enc Tryz.prog Tryz.f11 false true false false) := by
  obtain ⟨places, hx⟩ := reads os enc
  refine returnsInHanded_of_row (C := Tryz.checked) (s := OpenSpec.ofChange Rows.topStepsSpec) own started (by kernel_rfl) Tryz.func11
    (witness_row_at (enc := enc) (C := Tryz.checked) false (laidWorld os) #[.slice none 0 0, .int .i64 0] rfl (by kernel_rfl) (by kernel_rfl) (by kernel_rfl)
      (OpenSpec.preRow_of_cond 8 hx (by kernel_rfl) (fun k hk => by cases hk) (by kernel_rfl) (laid_met os))) ?_
  intro W base args ds gs before hval hW _ _ _ hL _ _
  exact contract H enc W base args ds gs before hval hW hL

theorem said : Rows.TopStepsSaid :=
  OpenClaim.holds_of_cond 11 Tryz.f11 rfl rfl rfl rfl rfl rfl rfl ⟨rfl, rfl, rfl, rfl, rfl⟩ rfl rfl rfl rfl rfl (by kernel_rfl) Tryz.func11 (by kernel_rfl)
    (of_decide_eq_true (by kernel_rfl)) (by unfold Func.isWrapper; first | (rw [if_pos (by decide +kernel)]; kernel_rfl) | (rw [if_neg (by decide +kernel)]; exact ⟨rfl, rfl⟩))
    (fun os started H enc _ F => by rw [OpenClaim.pre_eq_preRow]; exact lifted os started H enc F)

theorem plain (f : FuncId) (fn : Func) (hf : Tryz.pinned.checked.prog.funcNamed "tollbar/tollbartop.TopSteps" = some f) (hfn : Tryz.pinned.checked.prog.funcs[f]? = some fn) :
    false = Tryz.pinned.checked.prog.looks [] ∧ ∀ (j : Nat) t, fn.params[j]? = some t → Tryz.pinned.checked.prog.wantsStandIn t = false := by
  obtain rfl : f = 11 := Option.some.inj ((show Tryz.prog.funcNamed "tollbar/tollbartop.TopSteps" = some 11 by kernel_rfl).symm.trans hf) |>.symm
  obtain rfl : fn = Tryz.f11 := (Option.some.inj (Tryz.func11.symm.trans hfn)).symm
  refine ⟨by kernel_rfl, fun j t ht => ?_⟩
  rw [Tryz.params11] at ht
  have h : t = 45 ∨ t = 3 := by have := Array.mem_of_getElem? ht; simp at this; omega
  rcases h with rfl | rfl
  · exact (show Tryz.prog.wantsStandIn 45 = false by kernel_rfl)
  · exact (show Tryz.prog.wantsStandIn 3 = false by kernel_rfl)

end Go.Proofs.YtjjelkdajdeikaaGreatDoor.topSteps
namespace Go.Proofs.YtjjelkdajdeikaaGreatDoor
theorem topSteps_card : Rows.TopStepsCardSaid :=
  Claim7.holds_tied_plain_at .later [] _ _ _ _ topSteps.said (fun _ h => by cases h) (by kernel_rfl) (fun _ h => by cases h) topSteps_row_tie rfl ⟨rfl, rfl⟩ (by kernel_rfl) rfl topSteps.plain (by kernel_rfl)
#print axioms topSteps_card
end Go.Proofs.YtjjelkdajdeikaaGreatDoor
