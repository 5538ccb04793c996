/-
  Proved: for every list of raw things and every number, the law ScriptsGood returns true and leaves its arguments as they were: whatever acts come, each node's store stays one that may be, and two acts more that are refused change nothing; the condition: strconv's table holds what it holds when the program begins.
-/
import Derived.Test.YtjjelkdajdeikaaGreatDoorCards
import Derived.Test.YtjjelkdajdeikaaGreatDoorTie
import Derived.Test.YtjjelkdajdeikaaGreatDoorScriptsGoodC13
import Derived.Deep.DeepHandedRow
import Derived.Lib.LaidTab
namespace Go.Proofs.YtjjelkdajdeikaaGreatDoor.scriptsGood
open Go.ChangeShapes Go.WideShapes Go.ChangeAt Go.RowKit
set_option maxRecDepth 20000
set_option linter.unusedVariables false

set_option maxHeartbeats 8000000 in
theorem walk (a : Option Addr) (len cap : Nat) (kind : Int) (w : World) (h : IsRaws w a len cap) (hk : (Lit.int .i64 kind).wf = true) (hT : Tab w) :
    Calls Tryz.prog 4 #[.slice a len cap, .int .i64 kind] w fun e w' => e = .returned (.bool true) ∧ Below w.heap.size w w' := by
  have HR := hid h
  have HT := hid hT
  have bk := wf_bounds hk
  have HPK := hid (fun W => picked_any kind 9 W bk.1 bk.2 (by omega) (by omega))
  have hp := Pl.pk_range kind 9 (by omega)
  obtain ⟨p, HP⟩ : ∃ c, Hid (Pl.pk kind 9 = c) := ⟨_, hid rfl⟩
  rw [HP.out] at hp HPK
  have hwr : IntKind.i64.wrap (11 + p) = 11 + p := by rw [IntKind.wrap_i64]; omega
  clear h hT hk
  go_enter Tryz.func4, Tryz.ntmps4
  go_wp2_with fail
  refine (Acts_any a len cap 60 5 _ HR.out (by omega) (by omega) (by omega)).mono ?_
  rintro e w1 ⟨v1, xs, rfl, ho1, hl1, hg1, hb1⟩
  have hok1 : ∀ x ∈ xs, Pl.AcOk x := fun x hx => (hg1 x hx).ok
  obtain ⟨a1, c1, rfl, hi1, hn1⟩ := ho1.acts2 hok1
  have HB1 := hid hb1
  have HI1 := hid hi1
  have HN1 := hid hn1
  have HOK := hid hok1
  obtain ⟨n, HN⟩ : ∃ n, Hid (xs.length = n) := ⟨_, hid rfl⟩
  rw [HN.out] at HI1 HN1 hl1 ⊢
  have hc1 := HI1.out.2.1
  have hm1 := HI1.out.2.2.1
  unfold maxLen at hm1
  clear ho1 hg1 hok1 hi1 hn1 hb1
  go_wp2_with fail
  refine (Run_any a1 n c1 xs w1 HI1.out (by omega) (HT.out.below HB1.out)).mono ?_
  rintro e w2 ⟨vr, vs, rfl, hr2, hb2⟩
  obtain ⟨ts, ar, cr, gs, cs, A, C, rfl, rfl, -, -, hcr, hmr, hcs, hms, hgs, -, -, hS⟩ := hr2.read
  have HB2 : Hid (Below w.heap.size w w2) := hid (HB1.out.trans (hb2.mono HB1.out.size))
  have HI2 := hid (HI1.out.below hb2)
  have HS2 := hid hS
  have HNT := hid HN1.out
  rw [HN.out] at hcr ⊢
  clear hr2 hS hb2
  unfold maxLen at hmr hms
  go_wp2_with fail
  refine (CloneA_any a1 n c1 xs w2 HI2.out (by omega) (fun e => (HNT.out e).1)).mono ?_
  rintro e w3 ⟨v3, rfl, ho3, hb3⟩
  have HB23 := hid hb3
  have HO3 := hid ho3
  have hz3 := hb3.size
  clear ho3 hb3
  obtain ⟨W4, HW4⟩ : ∃ W, Hid (W = w3.alloc (.cells #[.int .i64 (11 + p), .int .i64 0, .int .i64 0, .int .i64 0, .int .i64 0, .int .i64 0, .int .i64 0, .string ⟨#[]⟩, .string ⟨#[]⟩, .int .i64 6, .int .i64 12, .int .i64 0, .int .i64 0, .int .i64 0, .int .i64 0, .int .i64 0, .string ⟨#[]⟩, .string ⟨#[]⟩] 51)) := ⟨_, hid rfl⟩
  have hb4 : Below w3.heap.size w3 W4 := by rw [HW4.out]; exact (Below.refl _ _).alloc (Nat.le_refl _) _
  have hx4 : W4.heap[w3.heap.size]? = some (.cells #[.int .i64 (11 + p), .int .i64 0, .int .i64 0, .int .i64 0, .int .i64 0, .int .i64 0, .int .i64 0, .string ⟨#[]⟩, .string ⟨#[]⟩, .int .i64 6, .int .i64 12, .int .i64 0, .int .i64 0, .int .i64 0, .int .i64 0, .int .i64 0, .string ⟨#[]⟩, .string ⟨#[]⟩] 51) := by rw [HW4.out]; exact heapNew _ _
  have HX4 := hid (IsActs.lit (xs := [Pl.acB p, Pl.acF]) hx4 rfl (Pl.bad_ok p) (by simp))
  have HO4 := hid (HO3.out.below hb4)
  have HB4 : Hid (Below w2.heap.size w2 W4) := hid (HB23.out.trans (hb4.mono hz3))
  have hz4 := hb4.size
  clear hb4 hx4 HO3
  have hnl : n ≤ 60 := hl1
  obtain ⟨m, HM⟩ : ∃ m, Hid (m = n + 2) := ⟨_, hid rfl⟩
  have hz24 : w2.heap.size ≤ W4.heap.size := by omega
  obtain ⟨ys, HY⟩ : ∃ ys, Hid (ys = xs ++ [Pl.acB p, Pl.acF]) := ⟨_, hid rfl⟩
  have HYL : Hid (ys.length = m) := hid (by rw [HY.out, HM.out, List.length_append, HN.out]; rfl)
  obtain ⟨hyn, hr1, hr2⟩ := Pl.bad_two hp.1 xs ys HY.out
  have HYN := hid hyn
  have HR1 := hid hr1
  have HR2 := hid hr2
  rw [HN.out] at HR1 HR2
  clear hyn hr1 hr2
  have HYO : Hid (∀ x ∈ ys, Pl.AcOk x) := hid (by
    intro x hx
    rw [HY.out] at hx
    rcases List.mem_append.1 hx with hx | hx
    · exact HOK.out x hx
    · exact Pl.bad_ok p x hx)
  go_wp2_with (first | (go_at_call 19; refine (HPK.out _).mono ?_; rintro e w' ⟨rfl, hw'⟩; rw [hw']; clear hw' w') | (rw [← HW4.out]; at_builtin; refine append_acs rfl (.tmp 23) (.tmp 29) rfl w2.heap.size v3 xs ⟨w3.heap.size, 0, none⟩ 2 2 [Pl.acB p, Pl.acF] rfl HO4.out hz24 rfl HX4.out (by rw [HN.out]; omega) (by omega) ?_; intro v5 w5 ho5 hb5; rw [← HY.out] at ho5; have HO5 := hid ho5; have HB5 := hid hb5; clear ho5 hb5))
  obtain ⟨a5, c5, rfl, hi5, hn5⟩ := HO5.out.acts2 HYO.out
  have HI5 := hid hi5
  rw [HYL.out] at HI5 ⊢
  have hm62 : m ≤ 62 := by rw [HM.out]; omega
  have HB25 : Hid (Below w2.heap.size w2 w5) := hid (HB4.out.trans HB5.out)
  have HS5 := hid (HS2.out.below hgs HB25.out)
  have HT5 := hid (HT.out.below (HB2.out.trans (HB25.out.mono HB2.out.size)))
  have hgs5 : gs < w5.heap.size := Nat.lt_of_lt_of_le hgs HB25.out.size
  clear hi5 hn5 HO5 HO4 HX4 HS2 HB4 HB5
  refine (Run_any a5 m c5 ys w5 HI5.out (by omega) HT5.out).mono ?_
  rintro e w6 ⟨vr2, vs2, rfl, hr6, hb6⟩
  obtain ⟨ts2, ar2, cr2, gs2, cs2, A2, C2, rfl, rfl, hts2, hl2, hcr2, hmr2, hcs2, hms2, hgs2, hre2, -, hS2⟩ := hr6.read
  rw [HYL.out] at hcr2 hre2 hl2 ⊢
  obtain ⟨gr, rfl, hgr, hre⟩ := hre2.resolve_left (by rw [HM.out]; omega)
  have HB6 : Hid (Below w.heap.size w w6) := hid (HB2.out.trans ((HB25.out.trans (hb6.mono HB25.out.size)).mono HB2.out.size))
  have HS6 := hid (HS5.out.below hgs5 hb6)
  have hgs6 : gs < w6.heap.size := Nat.lt_of_lt_of_le hgs5 hb6.size
  have HT6 := hid hS2
  rw [HYN.out] at HT6
  have q1 := (hre n (by rw [hl2, HM.out]; omega)).1
  have q2 := (hre (n + 1) (by rw [hl2, HM.out]; omega)).1
  rw [rpv_r, hts2] at q1 q2
  have HQ1 := hid (q1.trans (congrArg (fun c => some (Value.int .i64 c)) HR1.out))
  have HQ2 := hid (q2.trans (congrArg (fun c => some (Value.int .i64 c)) HR2.out))
  have HFA : Hid (∀ i, Pl.fault ((Pl.runN Pl.Nt.new xs).K i) = 0) := hid (Pl.GoodN.new.run xs).K
  have HMN := hid HM.out
  clear hr6 hS2 hb6 q1 q2 hre hts2 hl2 HS5 HM HI5 HT5 HI2
  unfold maxLen at hmr2 hms2
  obtain ⟨K, HK⟩ : ∃ K, Hid ((Pl.runN Pl.Nt.new xs).K = K) := ⟨_, hid rfl⟩
  rw [HK.out] at HS6 HT6 HFA
  go_wp2_with fail
  go_loopw [37] (fun i wr => ∃ k : Nat, k ≤ 12 ∧ i = .int .i64 k ∧ Hid (Below w6.heap.size w6 wr)) (fun i _ => 12 - (intOf i).toNat)
  case atStart => exact ⟨0, Nat.zero_le _, rfl, hid (Below.refl _ _)⟩
  case round =>
    obtain ⟨k, hk, rfl, HB⟩ := hrel
    by_cases hlt : k < 12
    · obtain ⟨s0, s1, _⟩ := (HS6.out.below hgs6 HB.out) k hlt
      obtain ⟨t0, t1, _⟩ := (HT6.out.below hgs2 HB.out) k hlt
      have HE1 := hid s1
      have HE2 := hid t1
      have HF := hid (HFA.out k)
      clear s1 t1
      generalize K k = es at *
      obtain ⟨ne, HNE⟩ : ∃ c, Hid (es.length = c) := ⟨_, hid rfl⟩
      rw [HNE.out] at s0 t0 HE1 HE2
      have hlt' : (k : Int) < 12 := by omega
      have l1 : gs < wr.heap.size := Nat.lt_of_lt_of_le hgs6 HB.out.size
      have l2 : gs2 < wr.heap.size := Nat.lt_of_lt_of_le hgs2 HB.out.size
      go_wp2_with fail
      have i0 := in_cell l1 s0
      have j0 := in_cell l2 t0
      have HCK := hid (fun x : WIn wr => (Check_any (A k) ne (C k) es x.w (HE1.out.below x.h)))
      have HEQ := hid (fun x : WIn wr => Equal_eq (A k) (A2 k) ne (C k) (C2 k) es x.w (HE1.out.below x.h) (HE2.out.below x.h))
      have hne := in_some wr
      rw [HF.out] at HCK
      clear s0 t0
      refine wp_region_in (by kernel_rfl) (by kernel_rfl) ?_
      repeat (go_big_quiet_step (first | (go_at_call 20; exact in_call (HCK.out _)) | (go_at_call 21; exact in_call (HEQ.out _))))
      refine wpQuiet_nil ?_
      intro w7 hw'
      have hb7 := in_out hw'
      clear hw' i0 j0 hne
      go_wp2_with fail
      go_roundw
      case rel => exact ⟨k + 1, by omega, by go_num, hid (HB.out.trans (hb7.mono HB.out.size))⟩
      case measure => simp [intOf]; omega
    · obtain rfl : k = 12 := by omega
      have r1 := (HB.out.cell (p := ⟨gr, n * 4, none⟩) hgr).trans HQ1.out
      have r2 := (HB.out.cell (p := ⟨gr, (n + 1) * 4, none⟩) hgr).trans HQ2.out
      have hwn : IntKind.i64.wrap ((n : Int) + 1) = ((n + 1 : Nat) : Int) := by rw [IntKind.wrap_i64]; omega
      have hn1 : (n : Int) < (m : Int) := by have := HMN.out; omega
      have hn2 : ((n + 1 : Nat) : Int) < (m : Int) := by have := HMN.out; omega
      have hgw : gr < wr.heap.size := Nat.lt_of_lt_of_le hgr HB.out.size
      go_wp2_with fail
      go_ret
      exact ⟨ret_bool (by simp), HB6.out.trans (HB.out.mono HB6.out.size)⟩

theorem gTab : Tryz.prog.globalNamed "internal/strconv.uint64pow10" = some 0 := by kernel_rfl
theorem gTabType : (Tryz.prog.globals[0]?).map (·.type) = some 231 := by kernel_rfl
theorem cellsTab : Tryz.prog.cellsOf 231 = 20 := by kernel_rfl
theorem laidTab : (Rows.laid_internal_strconv_uint64pow10 : DataW Unit) = Lib.tabData .u64 Lib.pow10Tab := by rfl
theorem table {W : World} (h : laidMetH Tryz.prog Rows.scriptsGoodRow.laid W) : Tab W := by
  have h1 : laidMet Tryz.prog Rows.scriptsGoodRow.laid W := h
  have h2 := laidMet.filter (fun x => x.1 == "internal/strconv.uint64pow10") h1
  have h3 : laidMet Tryz.prog [("internal/strconv.uint64pow10", (Rows.laid_internal_strconv_uint64pow10 : DataW Unit))] W := h2
  rw [laidTab] at h3
  exact Lib.tabIs_of_head (rest := []) gTab gTabType Tryz.underlying231 Tryz.underlying197 (by kernel_rfl) cellsTab h3

theorem contract (H : Type) (enc : TypeId × Value → H) (W : World) (base : Nat) (args : Array Value) (ds gs : List (DataW H)) (before : List MemPlace)
    (hval : ∀ (j : Nat) t v, Tryz.f4.params[j]? = some t → args[j]? = some v → Value.okWide Tryz.prog W .any base t v)
    (hW : DataW.Whole enc Tryz.prog Tryz.f4.params.toList Rows.scriptsGoodSpec.vars false W args.toList ds gs before) (hL : laidMetH Tryz.prog Rows.scriptsGoodRow.laid W) :
    Calls Tryz.prog 4 args W fun e W' => ∃ v, e = .returned v ∧ Rows.scriptsGoodSpec.post enc Tryz.prog Tryz.f4 false true false false W args v W' := by
  have hW' := hW
  obtain ⟨p, q, hA0, hV, rfl, hfz, hnd⟩ := hW
  have hA : DataW.TrodAll enc Tryz.prog W 0 (fun _ => true) true Tryz.f4.params.toList args.toList ds p := hA0
  rw [Tryz.params4] at hA hval
  obtain ⟨v0, vs0, d0, ds0, p0, q0, hargs, rfl, rfl, h0, r0⟩ := trodAll_cons hA
  obtain ⟨v1, vs1, d1, ds1, p1, q1, rfl, rfl, rfl, h1, r1⟩ := trodAll_cons r0
  obtain ⟨rfl, rfl, rfl⟩ := trodAll_nil r1
  obtain rfl : args = #[v0, v1] := by cases args; simp_all
  obtain ⟨rfl, rfl⟩ := trodVars_none hV
  have k0 := h0
  have lt0 : ∀ x ∈ p0, x.block < W.heap.size := by obtain ⟨m, hm⟩ := k0; exact DataW.trod_lt m _ _ _ hm
  obtain ⟨a0, len0, cap0, rfl, w0⟩ := open_raws (hval 0 45 v0 rfl rfl) h0
  have k1 := h1
  have lt1 : ∀ x ∈ p1, x.block < W.heap.size := by obtain ⟨m, hm⟩ := k1; exact DataW.trod_lt m _ _ _ hm
  obtain ⟨a1, rfl, _, _, w1⟩ := open_int Tryz.underlying3 (hval 1 3 v1 rfl rfl) h1
  clear hA0
  refine (walk a0 len0 cap0 a1 W w0 w1 (table hL)).mono fun e W' ⟨he, bel⟩ => ?_
  subst he
  exact ⟨_, rfl, _, _, _, [], _, [], hW', trodAll_mk1 (shut_bool Tryz.underlying4 _), (trodAll_cons_mk (Below.trod laidOut (by kernel_rfl) (of_decide_eq_true (by kernel_rfl)) k0 bel lt0) (trodAll_cons_mk (Below.trod laidOut (by kernel_rfl) (of_decide_eq_true (by kernel_rfl)) k1 bel lt1) trodAll_mk0)), rfl, bel.frame _, fun h => by cases h⟩

def cells_laid_math_bits_deBruijn32tab : Array Value := #[.int .u8 0, .int .u8 1, .int .u8 28, .int .u8 2, .int .u8 29, .int .u8 14, .int .u8 24, .int .u8 3, .int .u8 30, .int .u8 22, .int .u8 20, .int .u8 15, .int .u8 25, .int .u8 17, .int .u8 4, .int .u8 8, .int .u8 31, .int .u8 27, .int .u8 13, .int .u8 23, .int .u8 21, .int .u8 19, .int .u8 16, .int .u8 7, .int .u8 26, .int .u8 12, .int .u8 18, .int .u8 6, .int .u8 11, .int .u8 5, .int .u8 10, .int .u8 9]
def cells_laid_math_bits_deBruijn64tab : Array Value := #[.int .u8 0, .int .u8 1, .int .u8 56, .int .u8 2, .int .u8 57, .int .u8 49, .int .u8 28, .int .u8 3, .int .u8 61, .int .u8 58, .int .u8 42, .int .u8 50, .int .u8 38, .int .u8 29, .int .u8 17, .int .u8 4, .int .u8 62, .int .u8 47, .int .u8 59, .int .u8 36, .int .u8 45, .int .u8 43, .int .u8 51, .int .u8 22, .int .u8 53, .int .u8 39, .int .u8 33, .int .u8 30, .int .u8 24, .int .u8 18, .int .u8 12, .int .u8 5, .int .u8 63, .int .u8 55, .int .u8 48, .int .u8 27, .int .u8 60, .int .u8 41, .int .u8 37, .int .u8 16, .int .u8 46, .int .u8 35, .int .u8 44, .int .u8 21, .int .u8 52, .int .u8 32, .int .u8 23, .int .u8 11, .int .u8 54, .int .u8 26, .int .u8 40, .int .u8 15, .int .u8 34, .int .u8 20, .int .u8 31, .int .u8 10, .int .u8 25, .int .u8 14, .int .u8 19, .int .u8 9, .int .u8 13, .int .u8 8, .int .u8 7, .int .u8 6]
def cells_laid_internal_strconv_uint64pow10 : Array Value := #[.int .u64 1, .int .u64 10, .int .u64 100, .int .u64 1000, .int .u64 10000, .int .u64 100000, .int .u64 1000000, .int .u64 10000000, .int .u64 100000000, .int .u64 1000000000, .int .u64 10000000000, .int .u64 100000000000, .int .u64 1000000000000, .int .u64 10000000000000, .int .u64 100000000000000, .int .u64 1000000000000000, .int .u64 10000000000000000, .int .u64 100000000000000000, .int .u64 1000000000000000000, .int .u64 10000000000000000000]
noncomputable def laidWorld (os : Os) : World := { World.holding Tryz.prog os ⟨#[], #[], []⟩ with heap := ((((World.holding Tryz.prog os ⟨#[], #[], []⟩).heap.modify 2 fun | .cells _ t frozen => .cells cells_laid_math_bits_deBruijn32tab t frozen | o => o).modify 3 fun | .cells _ t frozen => .cells cells_laid_math_bits_deBruijn64tab t frozen | o => o).modify 0 fun | .cells _ t frozen => .cells cells_laid_internal_strconv_uint64pow10 t frozen | o => o) }
set_option maxRecDepth 100000 in
theorem laid_met (os : Os) : laidMet Tryz.prog Rows.scriptsGoodRow.laid ((laidWorld os).forCall (fun _ _ => 0) ⟨#[], #[.slice none 0 0, .int .i64 0], []⟩).memory :=
  laidMet_of_run' 8 (by kernel_rfl) (by kernel_rfl)
set_option maxRecDepth 100000 in
theorem reads (os : Os) {H : Type} (enc : TypeId × Value → H) : ∃ places, DataW.whole enc Tryz.prog ((laidWorld os).forCall (fun _ _ => 0) ⟨#[], #[.slice none 0 0, .int .i64 0], []⟩).memory Tryz.f4.params.toList Rows.scriptsGoodSpec.vars false (#[.slice none 0 0, .int .i64 0] : Array Value).toList 8 = some ([.nil, .lit (.int .i64 0)], [], places) :=
  ⟨[], by kernel_rfl⟩
set_option maxRecDepth 100000 in
theorem lifted (os : Os) (started : os.Started) (H : Type) (enc : TypeId × Value → H) (F : Stop.Interp) :
    ReturnsInHanded {} Tryz.checked os 4 .any ((OpenSpec.ofChange Rows.scriptsGoodSpec).preRow enc Tryz.prog Tryz.f4 Rows.scriptsGoodRow.domain false Rows.scriptsGoodRow.laid) (((OpenSpec.ofChange Rows.scriptsGoodSpec).at F).post enc Tryz.prog Tryz.f4 false true false false) := by
  obtain ⟨places, hx⟩ := reads os enc
  refine returnsInHanded_of_row (C := Tryz.checked) (s := OpenSpec.ofChange Rows.scriptsGoodSpec) own started (by kernel_rfl) Tryz.func4
    (witness_row_at (enc := enc) (C := Tryz.checked) false (laidWorld os) #[.slice none 0 0, .int .i64 0] rfl (by kernel_rfl) (by kernel_rfl) (by kernel_rfl)
      (OpenSpec.preRow_of_cond 8 hx (by kernel_rfl) (fun k hk => by cases hk) (by kernel_rfl) (laid_met os))) ?_
  intro W base args ds gs before hval hW _ _ _ hL _ _
  exact contract H enc W base args ds gs before hval hW hL

theorem said : Rows.ScriptsGoodSaid :=
  OpenClaim.holds_of_cond 4 Tryz.f4 rfl rfl rfl rfl rfl rfl rfl ⟨rfl, rfl, rfl, rfl, rfl⟩ rfl rfl rfl rfl rfl (by kernel_rfl) Tryz.func4 (by kernel_rfl)
    (of_decide_eq_true (by kernel_rfl)) (by unfold Func.isWrapper; first | (rw [if_pos (by decide +kernel)]; kernel_rfl) | (rw [if_neg (by decide +kernel)]; exact ⟨rfl, rfl⟩))
    (fun os started H enc _ F => by rw [OpenClaim.pre_eq_preRow]; exact lifted os started H enc F)

theorem plain (f : FuncId) (fn : Func) (hf : Tryz.pinned.checked.prog.funcNamed "tollbar/tollbarkeep.ScriptsGood" = some f) (hfn : Tryz.pinned.checked.prog.funcs[f]? = some fn) :
    false = Tryz.pinned.checked.prog.looks [] ∧ ∀ (j : Nat) t, fn.params[j]? = some t → Tryz.pinned.checked.prog.wantsStandIn t = false := by
  obtain rfl : f = 4 := Option.some.inj ((show Tryz.prog.funcNamed "tollbar/tollbarkeep.ScriptsGood" = some 4 by kernel_rfl).symm.trans hf) |>.symm
  obtain rfl : fn = Tryz.f4 := (Option.some.inj (Tryz.func4.symm.trans hfn)).symm
  refine ⟨by kernel_rfl, fun j t ht => ?_⟩
  rw [Tryz.params4] at ht
  have h : t = 45 ∨ t = 3 := by have := Array.mem_of_getElem? ht; simp at this; omega
  rcases h with rfl | rfl
  · exact (show Tryz.prog.wantsStandIn 45 = false by kernel_rfl)
  · exact (show Tryz.prog.wantsStandIn 3 = false by kernel_rfl)

end Go.Proofs.YtjjelkdajdeikaaGreatDoor.scriptsGood
namespace Go.Proofs.YtjjelkdajdeikaaGreatDoor
theorem scriptsGood_card : Rows.ScriptsGoodCardSaid :=
  Claim7.holds_tied_plain_at .later [] _ _ _ _ scriptsGood.said (fun _ h => by cases h) (by kernel_rfl) (fun _ h => by cases h) scriptsGood_row_tie rfl ⟨rfl, rfl⟩ (by kernel_rfl) rfl scriptsGood.plain (by kernel_rfl)
#print axioms scriptsGood_card
end Go.Proofs.YtjjelkdajdeikaaGreatDoor
