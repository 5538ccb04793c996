/-
 Proved: for every list of raw things, the law TopSame returns true and leaves its argument as it was: when all have told and sent, all nodes that are connected know the same; the condition: strconv's table holds what it holds when the program begins.
-/
import Derived.Test.YtjjelkdajdeikaaGreatDoorCards
import Derived.Test.YtjjelkdajdeikaaGreatDoorTie
import Derived.Test.YtjjelkdajdeikaaGreatDoorTopSameC12
import Derived.Test.YtjjelkdajdeikaaGreatDoorTopSameC13
import Derived.Test.YtjjelkdajdeikaaGreatDoorTopSameC14
import Derived.Deep.DeepHandedRow
import Derived.Lib.LaidTab
namespace Go.Proofs.YtjjelkdajdeikaaGreatDoor.topSame
open Go.ChangeShapes Go.WideShapes Go.ChangeAt Go.RowKit
set_option maxRecDepth 20000
set_option linter.unusedVariables false
set_option maxHeartbeats 8000000 in
theorem walk (a : Option Addr) (len cap : Nat) (w : World) (h : IsRaws w a len cap) (hT : Tab w) :
  Calls Tryz.prog 6 #[.slice a len cap] w fun e w' => e = .returned (.bool true) ∧ Below w.heap.size w w' := by
 have HR := hid h
 have HT := hid hT
 clear h hT
 go_enter Tryz.func6, Tryz.ntmps6
 go_wp2_with fail
 refine (Drawn_any a len cap _ HR.out).mono ?_
 rintro e w1 ⟨v1, xs, rfl, ho1, hl1, hok1, hb1⟩
 obtain ⟨a1, c1, rfl, hi1, hn1⟩ := ho1.acts2 (fun x hx => (hok1 x hx).1)
 have HB1 := hid hb1
 have HI1 := hid hi1
 have HN1 := hid hn1
 have HDG : Hid (Pl.DrG xs) := hid ⟨by omega, hok1⟩
 obtain ⟨n, HN⟩ : ∃ n, Hid (xs.length = n) := ⟨_, hid rfl⟩
 rw [HN.out] at HI1 HN1 hl1 ⊢
 have hc1 := HI1.out.2.1
 have hm1 := HI1.out.2.2.1
 unfold maxLen at hm1
 clear ho1 hok1 hi1 hn1 hb1
 go_wp2_with fail
 refine (CloneA_any a1 n c1 xs w1 HI1.out (by omega) (fun e => (HN1.out e).1)).mono ?_
 rintro e w2 ⟨v2, rfl, ho2, hb2⟩
 have HO2 := hid ho2
 have HB12 := hid hb2
 have hz2 := hb2.size
 clear ho2 hb2
 go_wp2_with fail
 refine (Settle_any w2).mono ?_
 rintro e w3 ⟨v3, rfl, ho3, hb3⟩
 obtain ⟨a3, c3, rfl, hi3, hn3⟩ := ho3.acts2 Pl.settle5_ok
 rw [Pl.settle5_len] at hi3 hn3 ⊢
 have HI3 := hid hi3
 have HN3 := hid hn3
 have HO3 := hid (HO2.out.below hb3)
 have HB13 : Hid (Below w1.heap.size w1 w3) := hid (HB12.out.trans (hb3.mono hz2))
 have hz3 : w1.heap.size ≤ w3.heap.size := HB13.out.size
 obtain ⟨ys, HY⟩ : ∃ ys, Hid (ys = xs ++ Pl.settle5) := ⟨_, hid rfl⟩
 obtain ⟨m, HM⟩ : ∃ m, Hid (m = n + 90) := ⟨_, hid rfl⟩
 have HYL : Hid (ys.length = m) := hid (by rw [HY.out, HM.out, List.length_append, HN.out, Pl.settle5_len])
 have HYO : Hid (∀ x ∈ ys, Pl.AcOk x) := hid (by
  intro x hx
  rw [HY.out] at hx
  rcases List.mem_append.1 hx with hx | hx
  ·exact (HDG.out.2 x hx).1
  ·exact Pl.settle5_ok x hx)
 have hm400 : m ≤ 400 := by rw [HM.out]; omega
 clear hi3 hn3 hb3 ho3
 go_wp2_with (at_builtin; refine append_acsA rfl (.tmp 15) (.tmp 16) rfl w1.heap.size v2 xs a3 90 c3 Pl.settle5 rfl HO3.out hz3 rfl HI3.out HN3.out (by rw [HN.out]; omega) (by omega) ?_; intro v4 w4 ho4 hb4; rw [← HY.out] at ho4; obtain ⟨a4, c4, rfl, hi4, hn4⟩ := ho4.acts2 HYO.out; have HI4 := hid hi4; rw [HYL.out] at HI4 ⊢; have HB4 := hid hb4; clear ho4 hb4 hi4 hn4)
 have HB14 : Hid (Below w1.heap.size w1 w4) := hid (HB13.out.trans HB4.out)
 refine (TopRun_any a4 m c4 ys w4 HI4.out hm400 (HT.out.below (HB1.out.trans (HB14.out.mono HB1.out.size)))).mono ?_
 rintro e w5 ⟨vr, vs, rfl, hr5, hb5⟩
 obtain ⟨ts, ar, cr, gs, cs, A, C, rfl, rfl, hts, hl, hcr, hmr, hcs, hms, hgs, hre, -, hS⟩ := hr5.read
 rw [HYL.out] at hl hcr hre ⊢
 obtain ⟨gr, rfl, hgr, hre⟩ := hre.resolve_left (by rw [HM.out]; omega)
 have HB15 : Hid (Below w1.heap.size w1 w5) := hid (HB14.out.trans (hb5.mono HB14.out.size))
 have HB5 : Hid (Below w.heap.size w w5) := hid (HB1.out.trans (HB15.out.mono HB1.out.size))
 have HI5 := hid (HI1.out.below HB15.out)
 have HS5 := hid hS
 have HRE := hid hre
 have HTS : Hid (ts.map RpV.r = Pl.runR Pl.Nt.new (xs ++ Pl.settle5)) := hid (by rw [hts, HY.out])
 have HTL := hid hl
 obtain ⟨hset, hkept⟩ := HDG.out.set
 rw [← HY.out] at hset hkept
 obtain ⟨s, HSS⟩ : ∃ s, Hid (Pl.runN Pl.Nt.new ys = s) := ⟨_, hid rfl⟩
 rw [HSS.out] at hset hkept HS5
 have HSET := hid hset
 have HKL := hid hkept.1
 clear hr5 hb5 hS hre hts hl hset hkept HO2 HO3 HI3 HN3 HI4 HB4 HB13 HB12 HB14
 unfold maxLen at hmr hms
 go_wp2_with fail
 refine (Lines_any a1 n c1 xs Pl.settle5 gr m cr ts w5 HI5.out (fun x hx => (HDG.out.2 x hx).2) HTS.out HTL.out hcr (by unfold maxLen; omega) HRE.out hgr).mono ?_
 rintro e w6 ⟨rfl, hb6⟩
 obtain ⟨L, HL⟩ : ∃ L, Hid ((Pl.runN Pl.Nt.new xs).L = L) := ⟨_, hid rfl⟩
 rw [HL.out] at HKL ⊢
 have HB6 : Hid (Below w.heap.size w w6) := hid (HB5.out.trans (hb6.mono HB5.out.size))
 have hgs6 : gs < w6.heap.size := Nat.lt_of_lt_of_le hgs hb6.size
 have HS6 := hid (HS5.out.below hgs hb6)
 clear hb6 HRE HTS HTL HI5 HI1
 have n1 := G5.new w6
 have nb : Below w6.heap.size w6 (w6.alloc (.cells #[.int .i64 0, .int .i64 0, .int .i64 0, .int .i64 0, .int .i64 0, .int .i64 0, .int .i64 0, .int .i64 0, .int .i64 0, .int .i64 0, .int .i64 0, .int .i64 0, .int .i64 0, .int .i64 0, .int .i64 0, .int .i64 0, .int .i64 0, .int .i64 0, .int .i64 0, .int .i64 0, .int .i64 0, .int .i64 0, .int .i64 0, .int .i64 0, .int .i64 0] 61)) := (Below.refl _ _).alloc (Nat.le_refl _) _
 obtain ⟨W7, HW7⟩ : ∃ W, Hid (W = w6.alloc (.cells #[.int .i64 0, .int .i64 0, .int .i64 0, .int .i64 0, .int .i64 0, .int .i64 0, .int .i64 0, .int .i64 0, .int .i64 0, .int .i64 0, .int .i64 0, .int .i64 0, .int .i64 0, .int .i64 0, .int .i64 0, .int .i64 0, .int .i64 0, .int .i64 0, .int .i64 0, .int .i64 0, .int .i64 0, .int .i64 0, .int .i64 0, .int .i64 0, .int .i64 0] 61)) := ⟨_, hid rfl⟩
 rw [← HW7.out] at n1 nb
 have HTH := hid (CellsAt.there n1 0 25 (by omega))
 rw [← cells25_len L] at HTH
 obtain ⟨w8, HX8⟩ : ∃ x, Hid (x = W7.setCells w6.heap.size 0 (cells25 L)) := ⟨_, hid rfl⟩
 have HG8 : Hid (G5 w8 w6.heap.size L) := hid (by rw [HX8.out]; exact G5.fill ⟨_, n1⟩ L rfl)
 have hb8 : Below w6.heap.size w6 w8 := by rw [HX8.out]; exact nb.trans ((But.setCells _ 0 _ (But.refl w6.heap.size W7)).below (Nat.le_refl _) nb.size)
 have HS8 := hid (HS6.out.below hgs6 hb8)
 have hgs8 : gs < w8.heap.size := Nat.lt_of_lt_of_le hgs6 hb8.size
 have HB8 : Hid (Below w.heap.size w w8) := hid (HB6.out.trans (hb8.mono HB6.out.size))
 have hz8 : w6.heap.size < w8.heap.size := CellsAt.lt HG8.out
 clear n1 nb hb8 HS6 HS5
 go_wp2_with (first | rw [← HW7.out] | refine wpList_store_as rfl 61 (.tmp 7) (.tmp 26) rfl w6.heap.size 0 (cells25 L) rfl rfl HTH.out (by rw [cells25_len]; exact info25) (cells25_one _) HX8.out ?_)
 go_loopw [27] (fun i wr => ∃ k : Nat, k ≤ 5 ∧ i = .int .i64 k ∧ Hid (Below w8.heap.size w8 wr)) (fun i _ => 5 - (intOf i).toNat)
 case atStart => exact ⟨0, by omega, rfl, hid (Below.refl _ _)⟩
 case round =>
  obtain ⟨k, hk, rfl, HB⟩ := hrel
  by_cases hk5 : k < 5
  ·have hk5t : decide ((k : Int) < 5) = true := by simp; omega
   have HRA := hid (G5.all (CellsAt.below HG8.out HB.out))
   have HCN := hid (fun (W : World) => Connected_any L k W hk5)
   go_wp2_with (refine wpList_load_mid rfl 61 (.tmp 7) rfl w6.heap.size 0 rfl (cells25 L) _ HRA.out Tryz.underlying61 rfl (by rw [cells25_len]; exact info25) ?_)
   refine (HCN.out _).mono ?_
   rintro e w9 ⟨g, R, rfl, hg9, hr9, hch, hb9⟩
   have HB9 : Hid (Below w8.heap.size w8 w9) := hid (HB.out.trans (hb9.mono HB.out.size))
   have HR9 := hid hr9
   have HCH := hid hch
   clear hr9 hch hb9 HRA HCN
   go_wp2_with fail
   go_loopw [34] (fun i wq => ∃ b : Nat, b ≤ 5 ∧ i = .int .i64 b ∧ Hid (Below w9.heap.size w9 wq)) (fun i _ => 5 - (intOf i).toNat)
   case atStart => exact ⟨0, by omega, rfl, hid (Below.refl _ _)⟩
   case round =>
    obtain ⟨b, hb, rfl, HQ⟩ := hrel
    rename World => wq
    have HBQ : Hid (Below w8.heap.size w8 wq) := hid (HB9.out.trans (HQ.out.mono HB9.out.size))
    by_cases hb5 : b < 5
    ·have hbi : (b : Int) < 5 := by omega
     have ht := CellsAt.cell (CellsAt.below HR9.out HQ.out) b hb5
     have hgq : g < wq.heap.size := Nat.lt_of_lt_of_le hg9 HQ.out.size
     unfold reachB at ht
     have hch := HCH.out b hb5
     obtain ⟨rb, hrb⟩ : ∃ v, R b = v := ⟨_, rfl⟩
     rw [hrb] at ht hch
     cases rb
     ·clear hch
      go_wp2_with fail
      have hne := in_some wq
      refine wp_region_in (by kernel_rfl) (by kernel_rfl) ?_
      repeat (go_big_quiet_step (fail))
      refine wpQuiet_nil ?_
      intro w10 hw'
      have hb10 := in_out hw'
      clear hw' hne
      go_wp2_with fail
      go_roundw
      case rel => exact ⟨b + 1, by omega, by go_num, hid (HQ.out.trans (hb10.mono HQ.out.size))⟩
      case measure => simp [intOf]; omega
     ·have hsame := HSET.out.same k b hk5 (by rw [HKL.out]; exact hch rfl)
      obtain ⟨s0, s1, _⟩ := (HS8.out.below hgs8 HBQ.out) k (by omega)
      obtain ⟨t0, t1, _⟩ := (HS8.out.below hgs8 HBQ.out) b (by omega)
      rw [← hsame] at t0 t1
      have HE1 := hid s1
      have HE2 := hid t1
      clear s1 t1 hsame hch
      generalize s.K k = es at *
      obtain ⟨ne, HNE⟩ : ∃ c, Hid (es.length = c) := ⟨_, hid rfl⟩
      rw [HNE.out] at s0 t0 HE1 HE2
      have l1 : gs < wq.heap.size := Nat.lt_of_lt_of_le hgs8 HBQ.out.size
      have hk12 : (k : Int) < 12 := by omega
      have hb12 : (b : Int) < 12 := by omega
      go_wp2_with fail
      have i0 := in_cell l1 s0
      have j0 := in_cell l1 t0
      have HEQ := hid (fun x : WIn wq => Equal_eq (A k) (A b) ne (C k) (C b) es x.w (HE1.out.below x.h) (HE2.out.below x.h))
      have hne := in_some wq
      clear s0 t0
      refine wp_region_in (by kernel_rfl) (by kernel_rfl) ?_
      repeat (go_big_quiet_step ((go_at_call 21; exact in_call (HEQ.out _))))
      refine wpQuiet_nil ?_
      intro w10 hw'
      have hb10 := in_out hw'
      clear hw' i0 j0 hne
      go_wp2_with fail
      go_roundw
      case rel => exact ⟨b + 1, by omega, by go_num, hid (HQ.out.trans (hb10.mono HQ.out.size))⟩
      case measure => simp [intOf]; omega
    ·obtain rfl : b = 5 := by omega
     go_wp2_with fail
     go_roundw
     case rel => exact ⟨k + 1, by omega, by go_num, HBQ⟩
     case measure => simp [intOf]; omega
  ·obtain rfl : k = 5 := by omega
   go_wp2_with fail
   go_ret
   exact ⟨ret_bool (by simp), HB8.out.trans (HB.out.mono HB8.out.size)⟩
theorem gTab : Tryz.prog.globalNamed "internal/strconv.uint64pow10" = some 0 := by kernel_rfl
theorem gTabType : (Tryz.prog.globals[0]?).map (·.type) = some 231 := by kernel_rfl
theorem cellsTab : Tryz.prog.cellsOf 231 = 20 := by kernel_rfl
theorem laidTab : (Rows.laid_internal_strconv_uint64pow10 : DataW Unit) = Lib.tabData .u64 Lib.pow10Tab := by rfl
theorem table {W : World} (h : laidMetH Tryz.prog Rows.topSameRow.laid W) : Tab W := by
 have h1 : laidMet Tryz.prog Rows.topSameRow.laid W := h
 have h2 := laidMet.filter (fun x => x.1 == "internal/strconv.uint64pow10") h1
 have h3 : laidMet Tryz.prog [("internal/strconv.uint64pow10", (Rows.laid_internal_strconv_uint64pow10 : DataW Unit))] W := h2
 rw [laidTab] at h3
 exact Lib.tabIs_of_head (rest := []) gTab gTabType Tryz.underlying231 Tryz.underlying197 (by kernel_rfl) cellsTab h3
theorem contract (H : Type) (enc : TypeId × Value → H) (W : World) (base : Nat) (args : Array Value) (ds gs : List (DataW H)) (before : List MemPlace)
  (hval : ∀ (j : Nat) t v, Tryz.f6.params[j]? = some t → args[j]? = some v → Value.okWide Tryz.prog W .any base t v)
  (hW : DataW.Whole enc Tryz.prog Tryz.f6.params.toList Rows.topSameSpec.vars false W args.toList ds gs before) (hL : laidMetH Tryz.prog Rows.topSameRow.laid W) :
  Calls Tryz.prog 6 args W fun e W' => ∃ v, e = .returned v ∧ Rows.topSameSpec.post enc Tryz.prog Tryz.f6 false true false false W args v W' := by
 have hW' := hW
 obtain ⟨p, q, hA0, hV, rfl, hfz, hnd⟩ := hW
 have hA : DataW.TrodAll enc Tryz.prog W 0 (fun _ => true) true Tryz.f6.params.toList args.toList ds p := hA0
 rw [Tryz.params6] at hA hval
 obtain ⟨v0, vs0, d0, ds0, p0, q0, hargs, rfl, rfl, h0, r0⟩ := trodAll_cons hA
 obtain ⟨rfl, rfl, rfl⟩ := trodAll_nil r0
 obtain rfl : args = #[v0] := by cases args; simp_all
 obtain ⟨rfl, rfl⟩ := trodVars_none hV
 have k0 := h0
 have lt0 : ∀ x ∈ p0, x.block < W.heap.size := by obtain ⟨m, hm⟩ := k0; exact DataW.trod_lt m _ _ _ hm
 obtain ⟨a0, len0, cap0, rfl, w0⟩ := open_raws (hval 0 45 v0 rfl rfl) h0
 clear hA0
 refine (walk a0 len0 cap0 W w0 (table hL)).mono fun e W' ⟨he, bel⟩ => ?_
 subst he
 exact ⟨_, rfl, _, _, _, [], _, [], hW', trodAll_mk1 (shut_bool Tryz.underlying4 _), (trodAll_cons_mk (Below.trod laidOut (by kernel_rfl) (of_decide_eq_true (by kernel_rfl)) k0 bel lt0) trodAll_mk0), rfl, bel.frame _, fun h => by cases h⟩
def cells_laid_math_bits_deBruijn32tab : Array Value := #[.int .u8 0, .int .u8 1, .int .u8 28, .int .u8 2, .int .u8 29, .int .u8 14, .int .u8 24, .int .u8 3, .int .u8 30, .int .u8 22, .int .u8 20, .int .u8 15, .int .u8 25, .int .u8 17, .int .u8 4, .int .u8 8, .int .u8 31, .int .u8 27, .int .u8 13, .int .u8 23, .int .u8 21, .int .u8 19, .int .u8 16, .int .u8 7, .int .u8 26, .int .u8 12, .int .u8 18, .int .u8 6, .int .u8 11, .int .u8 5, .int .u8 10, .int .u8 9]
def cells_laid_math_bits_deBruijn64tab : Array Value := #[.int .u8 0, .int .u8 1, .int .u8 56, .int .u8 2, .int .u8 57, .int .u8 49, .int .u8 28, .int .u8 3, .int .u8 61, .int .u8 58, .int .u8 42, .int .u8 50, .int .u8 38, .int .u8 29, .int .u8 17, .int .u8 4, .int .u8 62, .int .u8 47, .int .u8 59, .int .u8 36, .int .u8 45, .int .u8 43, .int .u8 51, .int .u8 22, .int .u8 53, .int .u8 39, .int .u8 33, .int .u8 30, .int .u8 24, .int .u8 18, .int .u8 12, .int .u8 5, .int .u8 63, .int .u8 55, .int .u8 48, .int .u8 27, .int .u8 60, .int .u8 41, .int .u8 37, .int .u8 16, .int .u8 46, .int .u8 35, .int .u8 44, .int .u8 21, .int .u8 52, .int .u8 32, .int .u8 23, .int .u8 11, .int .u8 54, .int .u8 26, .int .u8 40, .int .u8 15, .int .u8 34, .int .u8 20, .int .u8 31, .int .u8 10, .int .u8 25, .int .u8 14, .int .u8 19, .int .u8 9, .int .u8 13, .int .u8 8, .int .u8 7, .int .u8 6]
def cells_laid_internal_strconv_uint64pow10 : Array Value := #[.int .u64 1, .int .u64 10, .int .u64 100, .int .u64 1000, .int .u64 10000, .int .u64 100000, .int .u64 1000000, .int .u64 10000000, .int .u64 100000000, .int .u64 1000000000, .int .u64 10000000000, .int .u64 100000000000, .int .u64 1000000000000, .int .u64 10000000000000, .int .u64 100000000000000, .int .u64 1000000000000000, .int .u64 10000000000000000, .int .u64 100000000000000000, .int .u64 1000000000000000000, .int .u64 10000000000000000000]
noncomputable def laidWorld (os : Os) : World := { World.holding Tryz.prog os ⟨#[], #[], []⟩ with heap := ((((World.holding Tryz.prog os ⟨#[], #[], []⟩).heap.modify 2 fun | .cells _ t frozen => .cells cells_laid_math_bits_deBruijn32tab t frozen | o => o).modify 3 fun | .cells _ t frozen => .cells cells_laid_math_bits_deBruijn64tab t frozen | o => o).modify 0 fun | .cells _ t frozen => .cells cells_laid_internal_strconv_uint64pow10 t frozen | o => o) }
set_option maxRecDepth 100000 in
theorem laid_met (os : Os) : laidMet Tryz.prog Rows.topSameRow.laid ((laidWorld os).forCall (fun _ _ => 0) ⟨#[], #[.slice none 0 0], []⟩).memory :=
 laidMet_of_run' 8 (by kernel_rfl) (by kernel_rfl)
set_option maxRecDepth 100000 in
theorem reads (os : Os) {H : Type} (enc : TypeId × Value → H) : ∃ places, DataW.whole enc Tryz.prog ((laidWorld os).forCall (fun _ _ => 0) ⟨#[], #[.slice none 0 0], []⟩).memory Tryz.f6.params.toList Rows.topSameSpec.vars false (#[.slice none 0 0] : Array Value).toList 8 = some ([.nil], [], places) :=
 ⟨[], by kernel_rfl⟩
set_option maxRecDepth 100000 in
theorem lifted (os : Os) (started : os.Started) (H : Type) (enc : TypeId × Value → H) (F : Stop.Interp) :
  ReturnsInHanded {} Tryz.checked os 6 .any ((OpenSpec.ofChange Rows.topSameSpec).preRow enc Tryz.prog Tryz.f6 Rows.topSameRow.domain false Rows.topSameRow.laid) (((OpenSpec.ofChange Rows.topSameSpec).at F).post enc Tryz.prog Tryz.f6 false true false false) := by
 obtain ⟨places, hx⟩ := reads os enc
 refine returnsInHanded_of_row (C := Tryz.checked) (s := OpenSpec.ofChange Rows.topSameSpec) own started (by kernel_rfl) Tryz.func6
  (witness_row_at (enc := enc) (C := Tryz.checked) false (laidWorld os) #[.slice none 0 0] rfl (by kernel_rfl) (by kernel_rfl) (by kernel_rfl)
   (OpenSpec.preRow_of_cond 8 hx (by kernel_rfl) (fun k hk => by cases hk) (by kernel_rfl) (laid_met os))) ?_
 intro W base args ds gs before hval hW _ _ _ hL _ _
 exact contract H enc W base args ds gs before hval hW hL
theorem said : Rows.TopSameSaid :=
 OpenClaim.holds_of_cond 6 Tryz.f6 rfl rfl rfl rfl rfl rfl rfl ⟨rfl, rfl, rfl, rfl, rfl⟩ rfl rfl rfl rfl rfl (by kernel_rfl) Tryz.func6 (by kernel_rfl)
  (of_decide_eq_true (by kernel_rfl)) (by unfold Func.isWrapper; first | (rw [if_pos (by decide +kernel)]; kernel_rfl) | (rw [if_neg (by decide +kernel)]; exact ⟨rfl, rfl⟩))
  (fun os started H enc _ F => by rw [OpenClaim.pre_eq_preRow]; exact lifted os started H enc F)
theorem plain (f : FuncId) (fn : Func) (hf : Tryz.pinned.checked.prog.funcNamed "tollbar/tollbartop.TopSame" = some f) (hfn : Tryz.pinned.checked.prog.funcs[f]? = some fn) :
  false = Tryz.pinned.checked.prog.looks [] ∧ ∀ (j : Nat) t, fn.params[j]? = some t → Tryz.pinned.checked.prog.wantsStandIn t = false := by
 obtain rfl : f = 6 := Option.some.inj ((show Tryz.prog.funcNamed "tollbar/tollbartop.TopSame" = some 6 by kernel_rfl).symm.trans hf) |>.symm
 obtain rfl : fn = Tryz.f6 := (Option.some.inj (Tryz.func6.symm.trans hfn)).symm
 refine ⟨by kernel_rfl, fun j t ht => ?_⟩
 rw [Tryz.params6] at ht
 obtain rfl : t = 45 := by simpa using Array.mem_of_getElem? ht
 exact (show Tryz.prog.wantsStandIn 45 = false by kernel_rfl)
end Go.Proofs.YtjjelkdajdeikaaGreatDoor.topSame
namespace Go.Proofs.YtjjelkdajdeikaaGreatDoor
theorem topSame_card : Rows.TopSameCardSaid :=
 Claim7.holds_tied_plain_at .later [] _ _ _ _ topSame.said (fun _ h => by cases h) (by kernel_rfl) (fun _ h => by cases h) topSame_row_tie rfl ⟨rfl, rfl⟩ (by kernel_rfl) rfl topSame.plain (by kernel_rfl)
#print axioms topSame_card
end Go.Proofs.YtjjelkdajdeikaaGreatDoor
