/-
  Proved: for every list of raw things and every number, the law SendsSpoilt returns true and leaves its arguments as they were: what is spoilt on its way is refused and changes nothing; the condition: strconv's table holds what it holds when the program begins.
-/
import Derived.Test.YtjjelkdajdeikaaGreatDoorCards
import Derived.Test.YtjjelkdajdeikaaGreatDoorTie
import Derived.Test.YtjjelkdajdeikaaGreatDoorSendsSpoiltC13
import Derived.Test.YtjjelkdajdeikaaGreatDoorSendsSpoiltC12
import Derived.Deep.DeepHandedRow
import Derived.Lib.LaidTab
namespace Go.Proofs.YtjjelkdajdeikaaGreatDoor.sendsSpoilt
open Go.ChangeShapes Go.WideShapes Go.ChangeAt Go.RowKit
set_option maxRecDepth 20000
set_option linter.unusedVariables false

/-- a line is laid, and a node tells -/
def acL : Pl.Ac := ⟨1, 0, 1, 3, 0, (0, 0), ⟨#[]⟩, ⟨#[]⟩⟩
def acT : Pl.Ac := ⟨6, 0, 0, 0, 0, (0, 0), ⟨#[]⟩, ⟨#[]⟩⟩
def acS (p : Int) : Pl.Ac := ⟨7, 0, 1, p, 0, (0, 0), ⟨#[]⟩, ⟨#[]⟩⟩
theorem spoilt {p : Int} (hp : 0 ≤ p) (ys zs : List Pl.Ac) (hz : zs = ys ++ [acS p]) : Pl.runN Pl.Nt.new zs = Pl.runN Pl.Nt.new ys ∧ (Pl.rp (Pl.runR Pl.Nt.new zs) ys.length).code ≠ 0 := by
  obtain ⟨h1, h2⟩ := Pl.act_spoilt (Pl.GoodN.new.run ys) (x := acS p) rfl (by show (0 : Int) ≤ 0 ∧ (0 : Int) ≤ 11; omega) hp
  refine ⟨by rw [hz, Pl.runN_snoc]; exact h1, ?_⟩
  rw [hz, Pl.rp_at Pl.Nt.new ys (acS p) []]
  exact h2
theorem ok2 : ∀ x ∈ [acL, acT], Pl.AcOk x := by
  intro x hx
  rcases List.mem_cons.1 hx with rfl | hx
  · exact Pl.ok_small (by decide) (by decide)
  · rw [List.mem_singleton.1 hx]; exact Pl.ok_small (by decide) (by decide)

set_option maxHeartbeats 8000000 in
theorem walk (a : Option Addr) (len cap : Nat) (kind : Int) (w : World) (h : IsRaws w a len cap) (hk : (Lit.int .i64 kind).wf = true) (hT : Tab w) :
    Calls Tryz.prog 5 #[.slice a len cap, .int .i64 kind] w fun e w' => e = .returned (.bool true) ∧ Below w.heap.size w w' := by
  have HR := hid h
  have HT := hid hT
  have bk := wf_bounds hk
  have HPK := hid (fun W => picked_any kind 10000 W bk.1 bk.2 (by omega) (by omega))
  have hp := Pl.pk_range kind 10000 (by omega)
  obtain ⟨p, HP⟩ : ∃ c, Hid (Pl.pk kind 10000 = c) := ⟨_, hid rfl⟩
  rw [HP.out] at hp HPK
  clear h hT hk
  go_enter Tryz.func5, Tryz.ntmps5
  go_wp2_with fail
  refine (StoreTells_any _).mono ?_
  rintro e w0 ⟨rfl, hb0⟩
  have HB0 := hid hb0
  have HR0 := hid (HR.out.below hb0)
  clear hb0
  go_wp2_with fail
  refine (Acts_any a len cap 40 3 _ HR0.out (by omega) (by omega) (by omega)).mono ?_
  rintro e w1 ⟨v1, xs, rfl, ho1, hl1, hg1, hb1⟩
  have hok1 : ∀ x ∈ xs, Pl.AcOk x := fun x hx => (hg1 x hx).ok
  have HB1 : Hid (Below w.heap.size w w1) := hid (HB0.out.trans (hb1.mono HB0.out.size))
  have HO1 := hid ho1
  have HOK := hid hok1
  have HB01 := hid hb1
  have hz1 := hb1.size
  clear ho1 hg1 hok1 hb1
  obtain ⟨W2, HW2⟩ : ∃ W, Hid (W = w1.alloc (.cells #[.int .i64 1, .int .i64 0, .int .i64 1, .int .i64 3, .int .i64 0, .int .i64 0, .int .i64 0, .string ⟨#[]⟩, .string ⟨#[]⟩, .int .i64 6, .int .i64 0, .int .i64 0, .int .i64 0, .int .i64 0, .int .i64 0, .int .i64 0, .string ⟨#[]⟩, .string ⟨#[]⟩] 51)) := ⟨_, hid rfl⟩
  have hb2 : Below w1.heap.size w1 W2 := by rw [HW2.out]; exact (Below.refl _ _).alloc (Nat.le_refl _) _
  have hx2 : W2.heap[w1.heap.size]? = some (.cells #[.int .i64 1, .int .i64 0, .int .i64 1, .int .i64 3, .int .i64 0, .int .i64 0, .int .i64 0, .string ⟨#[]⟩, .string ⟨#[]⟩, .int .i64 6, .int .i64 0, .int .i64 0, .int .i64 0, .int .i64 0, .int .i64 0, .int .i64 0, .string ⟨#[]⟩, .string ⟨#[]⟩] 51) := by rw [HW2.out]; exact heapNew _ _
  have HX2 := hid (IsActs.lit (xs := [acL, acT]) hx2 rfl ok2 (by simp))
  have HO2 := hid (HO1.out.below hb2)
  have hz02 : w0.heap.size ≤ W2.heap.size := by have := hb2.size; omega
  have HB02 : Hid (Below w0.heap.size w0 W2) := hid (HB01.out.trans (hb2.mono hz1))
  clear hb2 hx2 HO1
  obtain ⟨ys, HY⟩ : ∃ ys, Hid (ys = xs ++ [acL, acT]) := ⟨_, hid rfl⟩
  have HYL : Hid (ys.length ≤ 42) := hid (by rw [HY.out, List.length_append]; show _ + 2 ≤ 42; omega)
  have HYO : Hid (∀ x ∈ ys, Pl.AcOk x) := hid (by
    intro x hx
    rw [HY.out] at hx
    rcases List.mem_append.1 hx with hx | hx
    · exact HOK.out x hx
    · exact ok2 x hx)
  go_wp2_with (rw [← HW2.out]; at_builtin; refine append_acs rfl (.tmp 15) (.tmp 18) rfl w0.heap.size v1 xs ⟨w1.heap.size, 0, none⟩ 2 2 [acL, acT] rfl HO2.out hz02 rfl HX2.out (by omega) (by omega) ?_; intro v3 w3 ho3 hb3; rw [← HY.out] at ho3; obtain ⟨a3, c3, rfl, hi3, hn3⟩ := ho3.acts2 HYO.out; have HI3 := hid hi3; have HN3 := hid hn3; have HB3 := hid hb3; obtain ⟨n, HN⟩ : ∃ n, Hid (ys.length = n) := ⟨_, hid rfl⟩; rw [HN.out] at HI3 HN3 ⊢; clear ho3 hb3 hi3 hn3)
  have hn42 : n ≤ 42 := by have := HYL.out; have := HN.out; omega
  have hc3 := HI3.out.2.1
  have hm3 := HI3.out.2.2.1
  unfold maxLen at hm3
  have HB03 : Hid (Below w0.heap.size w0 w3) := hid (HB02.out.trans HB3.out)
  clear HB02 HB3 HO2 HX2 HB01 HW2
  refine (CloneA_any a3 n c3 ys w3 HI3.out (by omega) (fun e => (HN3.out e).1)).mono ?_
  rintro e w4 ⟨v4, rfl, ho4, hb4⟩
  have HO4 := hid ho4
  have HI4 := hid (HI3.out.below hb4)
  have HB4 := hid hb4
  have hz4 := hb4.size
  clear ho4 hb4
  obtain ⟨W5, HW5⟩ : ∃ W, Hid (W = w4.alloc (.cells #[.int .i64 7, .int .i64 0, .int .i64 1, .int .i64 p, .int .i64 0, .int .i64 0, .int .i64 0, .string ⟨#[]⟩, .string ⟨#[]⟩] 51)) := ⟨_, hid rfl⟩
  have hb5 : Below w4.heap.size w4 W5 := by rw [HW5.out]; exact (Below.refl _ _).alloc (Nat.le_refl _) _
  have hx5 : W5.heap[w4.heap.size]? = some (.cells #[.int .i64 7, .int .i64 0, .int .i64 1, .int .i64 p, .int .i64 0, .int .i64 0, .int .i64 0, .string ⟨#[]⟩, .string ⟨#[]⟩] 51) := by rw [HW5.out]; exact heapNew _ _
  have HX5 := hid (IsActs.lit (xs := [acS p]) hx5 rfl (by intro x hx; rw [List.mem_singleton.1 hx]; exact Pl.ok_small (by omega) (by omega)) (by simp))
  have HO5 := hid (HO4.out.below hb5)
  have hz35 : w3.heap.size ≤ W5.heap.size := by have := hb5.size; omega
  have HB35 : Hid (Below w3.heap.size w3 W5) := hid (HB4.out.trans (hb5.mono hz4))
  clear hb5 hx5 HO4 HB4
  obtain ⟨zs, HZ⟩ : ∃ zs, Hid (zs = ys ++ [acS p]) := ⟨_, hid rfl⟩
  obtain ⟨m, HM⟩ : ∃ m, Hid (m = n + 1) := ⟨_, hid rfl⟩
  have HZL : Hid (zs.length = m) := hid (by rw [HZ.out, HM.out, List.length_append, HN.out]; rfl)
  have HZO : Hid (∀ x ∈ zs, Pl.AcOk x) := hid (by
    intro x hx
    rw [HZ.out] at hx
    rcases List.mem_append.1 hx with hx | hx
    · exact HYO.out x hx
    · rw [List.mem_singleton.1 hx]; exact Pl.ok_small (by omega) (by omega))
  obtain ⟨hzn, hzr⟩ := spoilt hp.1 ys zs HZ.out
  rw [HN.out] at hzr
  have HZN := hid hzn
  have HZR := hid hzr
  clear hzn hzr
  go_wp2_with (first | (go_at_call 19; refine (HPK.out _).mono ?_; rintro e w' ⟨rfl, hw'⟩; rw [hw']; clear hw' w') | (rw [← HW5.out]; at_builtin; refine append_acs rfl (.tmp 22) (.tmp 26) rfl w3.heap.size v4 ys ⟨w4.heap.size, 0, none⟩ 1 1 [acS p] rfl HO5.out hz35 rfl HX5.out (by rw [HN.out]; omega) (by omega) ?_; intro v6 w6 ho6 hb6; rw [← HZ.out] at ho6; have HO6 := hid ho6; have HB6 := hid hb6; clear ho6 hb6))
  obtain ⟨a6, c6, rfl, hi6, hn6⟩ := HO6.out.acts2 HZO.out
  have HI6 := hid hi6
  rw [HZL.out] at HI6 ⊢
  have hm43 : m ≤ 43 := by rw [HM.out]; omega
  have HB36 : Hid (Below w3.heap.size w3 w6) := hid (HB35.out.trans HB6.out)
  have HBw6 : Hid (Below w.heap.size w w6) := hid (HB0.out.trans ((HB03.out.trans (HB36.out.mono HB03.out.size)).mono HB0.out.size))
  have HI36 := hid (HI3.out.below HB36.out)
  clear hi6 hn6 HO6 HO5 HX5 HB35 HB6 HI4 HI3 HW5
  refine (Run_any a6 m c6 zs w6 HI6.out (by omega) (HT.out.below HBw6.out)).mono ?_
  rintro e w7 ⟨vr, vs, rfl, hr7, hb7⟩
  obtain ⟨ts, ar, cr, gs, cs, A, C, rfl, rfl, hts, hl, hcr, hmr, hcs, hms, hgs, hre, -, hS⟩ := hr7.read
  rw [HZL.out] at hcr hre hl ⊢
  obtain ⟨gr, rfl, hgr, hre⟩ := hre.resolve_left (by rw [HM.out]; omega)
  have HB7 : Hid (Below w.heap.size w w7) := hid (HBw6.out.trans (hb7.mono HBw6.out.size))
  have HI7 := hid (HI36.out.below hb7)
  obtain ⟨s0, s1, _⟩ := hS 1 (by omega)
  rw [HZN.out] at s0 s1
  have q1 := (hre n (by rw [hl, HM.out]; omega)).1
  rw [rpv_r, hts] at q1
  obtain ⟨cd, HCD⟩ : ∃ c, Hid ((Pl.rp (Pl.runR Pl.Nt.new zs) n).code = c) := ⟨_, hid rfl⟩
  have HQ1 := hid (q1.trans (congrArg (fun c => some (Value.int .i64 c)) HCD.out))
  have hcd : (cd != 0) = true := by have := HZR.out; rw [HCD.out] at this; simpa using this
  have HS1 := hid s1
  have HS0 := hid s0
  have hnm : (n : Int) < (m : Int) := by rw [HM.out]; omega
  clear hr7 hb7 hS hre hts hl s0 s1 q1 HM HI6 HI36 HZR
  unfold maxLen at hmr hms
  go_wp2_with fail
  refine (Run_any a3 n c3 ys w7 HI7.out (by omega) (HT.out.below HB7.out)).mono ?_
  rintro e w8 ⟨vr2, vs2, rfl, hr8, hb8⟩
  obtain ⟨ts2, ar2, cr2, gs2, cs2, A2, C2, rfl, rfl, -, -, hcr2, hmr2, hcs2, hms2, hgs2, -, -, hS2⟩ := hr8.read
  rw [HN.out] at hcr2 ⊢
  obtain ⟨t0, t1, _⟩ := hS2 1 (by omega)
  have HB8 : Hid (Below w.heap.size w w8) := hid (HB7.out.trans (hb8.mono HB7.out.size))
  have HE1 := hid (HS1.out.below hb8)
  have HE2 := hid t1
  have s0 := (hb8.cell (p := ⟨gs, 1, none⟩) hgs).trans HS0.out
  have q1 := (hb8.cell (p := ⟨gr, n * 4, none⟩) hgr).trans HQ1.out
  have l1 : gs < w8.heap.size := Nat.lt_of_lt_of_le hgs hb8.size
  have l3 : gr < w8.heap.size := Nat.lt_of_lt_of_le hgr hb8.size
  generalize (Pl.runN Pl.Nt.new ys).K 1 = es at *
  obtain ⟨ne, HNE⟩ : ∃ c, Hid (es.length = c) := ⟨_, hid rfl⟩
  rw [HNE.out] at s0 t0 HE1 HE2
  clear hr8 hb8 hS2 t1 HS1 HS0 HQ1 HI7
  unfold maxLen at hmr2 hms2
  go_wp2_with fail
  have i0 := in_cell l1 s0
  have j0 := in_cell hgs2 t0
  have k0 := in_cell l3 q1
  have HEQ := hid (fun x : WIn w8 => Equal_eq (A 1) (A2 1) ne (C 1) (C2 1) es x.w (HE1.out.below x.h) (HE2.out.below x.h))
  have hne := in_some w8
  clear s0 t0 q1
  refine wp_region_in (by kernel_rfl) (by kernel_rfl) ?_
  repeat (go_big_quiet_step ((go_at_call 21; exact in_call (HEQ.out _))))
  refine wpQuiet_nil ?_
  intro w9 hw'
  have hb9 := in_out hw'
  clear hw' i0 j0 k0 hne
  go_wp2_with fail
  go_ret
  exact ⟨ret_bool (by simp), HB8.out.trans (hb9.mono HB8.out.size)⟩

theorem gTab : Tryz.prog.globalNamed "internal/strconv.uint64pow10" = some 0 := by kernel_rfl
theorem gTabType : (Tryz.prog.globals[0]?).map (·.type) = some 231 := by kernel_rfl
theorem cellsTab : Tryz.prog.cellsOf 231 = 20 := by kernel_rfl
theorem laidTab : (Rows.laid_internal_strconv_uint64pow10 : DataW Unit) = Lib.tabData .u64 Lib.pow10Tab := by rfl
theorem table {W : World} (h : laidMetH Tryz.prog Rows.sendsSpoiltRow.laid W) : Tab W := by
  have h1 : laidMet Tryz.prog Rows.sendsSpoiltRow.laid W := h
  have h2 := laidMet.filter (fun x => x.1 == "internal/strconv.uint64pow10") h1
  have h3 : laidMet Tryz.prog [("internal/strconv.uint64pow10", (Rows.laid_internal_strconv_uint64pow10 : DataW Unit))] W := h2
  rw [laidTab] at h3
  exact Lib.tabIs_of_head (rest := []) gTab gTabType Tryz.underlying231 Tryz.underlying197 (by kernel_rfl) cellsTab h3

theorem contract (H : Type) (enc : TypeId × Value → H) (W : World) (base : Nat) (args : Array Value) (ds gs : List (DataW H)) (before : List MemPlace)
    (hval : ∀ (j : Nat) t v, Tryz.f5.params[j]? = some t → args[j]? = some v → Value.okWide Tryz.prog W .any base t v)
    (hW : DataW.Whole enc Tryz.prog Tryz.f5.params.toList Rows.sendsSpoiltSpec.vars false W args.toList ds gs before) (hL : laidMetH Tryz.prog Rows.sendsSpoiltRow.laid W) :
    Calls Tryz.prog 5 args W fun e W' => ∃ v, e = .returned v ∧ Rows.sendsSpoiltSpec.post enc Tryz.prog Tryz.f5 false true false false W args v W' := by
  have hW' := hW
  obtain ⟨p, q, hA0, hV, rfl, hfz, hnd⟩ := hW
  have hA : DataW.TrodAll enc Tryz.prog W 0 (fun _ => true) true Tryz.f5.params.toList args.toList ds p := hA0
  rw [Tryz.params5] at hA hval
  obtain ⟨v0, vs0, d0, ds0, p0, q0, hargs, rfl, rfl, h0, r0⟩ := trodAll_cons hA
  obtain ⟨v1, vs1, d1, ds1, p1, q1, rfl, rfl, rfl, h1, r1⟩ := trodAll_cons r0
  obtain ⟨rfl, rfl, rfl⟩ := trodAll_nil r1
  obtain rfl : args = #[v0, v1] := by cases args; simp_all
  obtain ⟨rfl, rfl⟩ := trodVars_none hV
  have k0 := h0
  have lt0 : ∀ x ∈ p0, x.block < W.heap.size := by obtain ⟨m, hm⟩ := k0; exact DataW.trod_lt m _ _ _ hm
  obtain ⟨a0, len0, cap0, rfl, w0⟩ := open_raws (hval 0 45 v0 rfl rfl) h0
  have k1 := h1
  have lt1 : ∀ x ∈ p1, x.block < W.heap.size := by obtain ⟨m, hm⟩ := k1; exact DataW.trod_lt m _ _ _ hm
  obtain ⟨a1, rfl, _, _, w1⟩ := open_int Tryz.underlying3 (hval 1 3 v1 rfl rfl) h1
  clear hA0
  refine (walk a0 len0 cap0 a1 W w0 w1 (table hL)).mono fun e W' ⟨he, bel⟩ => ?_
  subst he
  exact ⟨_, rfl, _, _, _, [], _, [], hW', trodAll_mk1 (shut_bool Tryz.underlying4 _), (trodAll_cons_mk (Below.trod laidOut (by kernel_rfl) (of_decide_eq_true (by kernel_rfl)) k0 bel lt0) (trodAll_cons_mk (Below.trod laidOut (by kernel_rfl) (of_decide_eq_true (by kernel_rfl)) k1 bel lt1) trodAll_mk0)), rfl, bel.frame _, fun h => by cases h⟩

def cells_laid_math_bits_deBruijn32tab : Array Value := #[.int .u8 0, .int .u8 1, .int .u8 28, .int .u8 2, .int .u8 29, .int .u8 14, .int .u8 24, .int .u8 3, .int .u8 30, .int .u8 22, .int .u8 20, .int .u8 15, .int .u8 25, .int .u8 17, .int .u8 4, .int .u8 8, .int .u8 31, .int .u8 27, .int .u8 13, .int .u8 23, .int .u8 21, .int .u8 19, .int .u8 16, .int .u8 7, .int .u8 26, .int .u8 12, .int .u8 18, .int .u8 6, .int .u8 11, .int .u8 5, .int .u8 10, .int .u8 9]
def cells_laid_math_bits_deBruijn64tab : Array Value := #[.int .u8 0, .int .u8 1, .int .u8 56, .int .u8 2, .int .u8 57, .int .u8 49, .int .u8 28, .int .u8 3, .int .u8 61, .int .u8 58, .int .u8 42, .int .u8 50, .int .u8 38, .int .u8 29, .int .u8 17, .int .u8 4, .int .u8 62, .int .u8 47, .int .u8 59, .int .u8 36, .int .u8 45, .int .u8 43, .int .u8 51, .int .u8 22, .int .u8 53, .int .u8 39, .int .u8 33, .int .u8 30, .int .u8 24, .int .u8 18, .int .u8 12, .int .u8 5, .int .u8 63, .int .u8 55, .int .u8 48, .int .u8 27, .int .u8 60, .int .u8 41, .int .u8 37, .int .u8 16, .int .u8 46, .int .u8 35, .int .u8 44, .int .u8 21, .int .u8 52, .int .u8 32, .int .u8 23, .int .u8 11, .int .u8 54, .int .u8 26, .int .u8 40, .int .u8 15, .int .u8 34, .int .u8 20, .int .u8 31, .int .u8 10, .int .u8 25, .int .u8 14, .int .u8 19, .int .u8 9, .int .u8 13, .int .u8 8, .int .u8 7, .int .u8 6]
def cells_laid_internal_strconv_uint64pow10 : Array Value := #[.int .u64 1, .int .u64 10, .int .u64 100, .int .u64 1000, .int .u64 10000, .int .u64 100000, .int .u64 1000000, .int .u64 10000000, .int .u64 100000000, .int .u64 1000000000, .int .u64 10000000000, .int .u64 100000000000, .int .u64 1000000000000, .int .u64 10000000000000, .int .u64 100000000000000, .int .u64 1000000000000000, .int .u64 10000000000000000, .int .u64 100000000000000000, .int .u64 1000000000000000000, .int .u64 10000000000000000000]
noncomputable def laidWorld (os : Os) : World := { World.holding Tryz.prog os ⟨#[], #[], []⟩ with heap := ((((World.holding Tryz.prog os ⟨#[], #[], []⟩).heap.modify 2 fun | .cells _ t frozen => .cells cells_laid_math_bits_deBruijn32tab t frozen | o => o).modify 3 fun | .cells _ t frozen => .cells cells_laid_math_bits_deBruijn64tab t frozen | o => o).modify 0 fun | .cells _ t frozen => .cells cells_laid_internal_strconv_uint64pow10 t frozen | o => o) }
set_option maxRecDepth 100000 in
theorem laid_met (os : Os) : laidMet Tryz.prog Rows.sendsSpoiltRow.laid ((laidWorld os).forCall (fun _ _ => 0) ⟨#[], #[.slice none 0 0, .int .i64 0], []⟩).memory :=
  laidMet_of_run' 8 (by kernel_rfl) (by kernel_rfl)
set_option maxRecDepth 100000 in
theorem reads (os : Os) {H : Type} (enc : TypeId × Value → H) : ∃ places, DataW.whole enc Tryz.prog ((laidWorld os).forCall (fun _ _ => 0) ⟨#[], #[.slice none 0 0, .int .i64 0], []⟩).memory Tryz.f5.params.toList Rows.sendsSpoiltSpec.vars false (#[.slice none 0 0, .int .i64 0] : Array Value).toList 8 = some ([.nil, .lit (.int .i64 0)], [], places) :=
  ⟨[], by kernel_rfl⟩
set_option maxRecDepth 100000 in
theorem lifted (os : Os) (started : os.Started) (H : Type) (enc : TypeId × Value → H) (F : Stop.Interp) :
    ReturnsInHanded {} Tryz.checked os 5 .any ((OpenSpec.ofChange Rows.sendsSpoiltSpec).preRow enc Tryz.prog Tryz.f5 Rows.sendsSpoiltRow.domain false Rows.sendsSpoiltRow.laid) (((OpenSpec.ofChange Rows.sendsSpoiltSpec).at F).post enc Tryz.prog Tryz.f5 false true false false) := by
  obtain ⟨places, hx⟩ := reads os enc
  refine returnsInHanded_of_row (C := Tryz.checked) (s := OpenSpec.ofChange Rows.sendsSpoiltSpec) own started (by kernel_rfl) Tryz.func5
    (witness_row_at (enc := enc) (C := Tryz.checked) false (laidWorld os) #[.slice none 0 0, .int .i64 0] rfl (by kernel_rfl) (by kernel_rfl) (by kernel_rfl)
      (OpenSpec.preRow_of_cond 8 hx (by kernel_rfl) (fun k hk => by cases hk) (by kernel_rfl) (laid_met os))) ?_
  intro W base args ds gs before hval hW _ _ _ hL _ _
  exact contract H enc W base args ds gs before hval hW hL

theorem said : Rows.SendsSpoiltSaid :=
  OpenClaim.holds_of_cond 5 Tryz.f5 rfl rfl rfl rfl rfl rfl rfl ⟨rfl, rfl, rfl, rfl, rfl⟩ rfl rfl rfl rfl rfl (by kernel_rfl) Tryz.func5 (by kernel_rfl)
    (of_decide_eq_true (by kernel_rfl)) (by unfold Func.isWrapper; first | (rw [if_pos (by decide +kernel)]; kernel_rfl) | (rw [if_neg (by decide +kernel)]; exact ⟨rfl, rfl⟩))
    (fun os started H enc _ F => by rw [OpenClaim.pre_eq_preRow]; exact lifted os started H enc F)

theorem plain (f : FuncId) (fn : Func) (hf : Tryz.pinned.checked.prog.funcNamed "tollbar/tollbarkeep.SendsSpoilt" = some f) (hfn : Tryz.pinned.checked.prog.funcs[f]? = some fn) :
    false = Tryz.pinned.checked.prog.looks [] ∧ ∀ (j : Nat) t, fn.params[j]? = some t → Tryz.pinned.checked.prog.wantsStandIn t = false := by
  obtain rfl : f = 5 := Option.some.inj ((show Tryz.prog.funcNamed "tollbar/tollbarkeep.SendsSpoilt" = some 5 by kernel_rfl).symm.trans hf) |>.symm
  obtain rfl : fn = Tryz.f5 := (Option.some.inj (Tryz.func5.symm.trans hfn)).symm
  refine ⟨by kernel_rfl, fun j t ht => ?_⟩
  rw [Tryz.params5] at ht
  have h : t = 45 ∨ t = 3 := by have := Array.mem_of_getElem? ht; simp at this; omega
  rcases h with rfl | rfl
  · exact (show Tryz.prog.wantsStandIn 45 = false by kernel_rfl)
  · exact (show Tryz.prog.wantsStandIn 3 = false by kernel_rfl)

end Go.Proofs.YtjjelkdajdeikaaGreatDoor.sendsSpoilt
namespace Go.Proofs.YtjjelkdajdeikaaGreatDoor
theorem sendsSpoilt_card : Rows.SendsSpoiltCardSaid :=
  Claim7.holds_tied_plain_at .later [] _ _ _ _ sendsSpoilt.said (fun _ h => by cases h) (by kernel_rfl) (fun _ h => by cases h) sendsSpoilt_row_tie rfl ⟨rfl, rfl⟩ (by kernel_rfl) rfl sendsSpoilt.plain (by kernel_rfl)
#print axioms sendsSpoilt_card
end Go.Proofs.YtjjelkdajdeikaaGreatDoor
