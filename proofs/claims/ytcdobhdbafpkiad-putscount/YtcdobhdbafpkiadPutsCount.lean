/-
  Proved: what is put into a store of raw things is there, one version more than ahead of it, and nothing else has changed (the law PutsCount returns true and leaves its arguments as they were); no condition.
-/
import Derived.Test.YtcdobhdbafpkiadRows
import Derived.Test.YtcdobhdbafpkiadRaw4
import Derived.Test.YtcdobhdbafpkiadPut
import Derived.Test.YtcdobhdbafpkiadGet
import Derived.Test.YtcdobhdbafpkiadPCP
import Derived.Test.YtcdobhdbafpkiadSl
import Derived.Test.YtcdobhdbafpkiadROpen
import Derived.Laws.EntriesVeiled
import Derived.Shelf.Abstract
namespace Go.Proofs.Ytcdobhdbafpkiad.putsCount
open Go.ChangeShapes Go.WideShapes Go.ChangeAt Go.RowKit
set_option maxRecDepth 20000
set_option linter.unusedVariables false

set_option maxHeartbeats 2000000 in
theorem walk (a : Option Addr) (len cap : Nat) (k0 k1 k2 k3 n : Int) (w : World) (h : IsRaws w a len cap) (hr : (Lit.int .i64 k0).wf = true ∧ (Lit.int .i64 k1).wf = true ∧ (Lit.int .i64 k2).wf = true ∧ (Lit.int .i64 k3).wf = true) (hn : (Lit.int .i64 n).wf = true) :
    Calls Try.prog 3 #[.slice a len cap, .agg #[.int .i64 k0, .int .i64 k1, .int .i64 k2, .int .i64 k3], .int .i64 n] w fun e w' => e = .returned (.bool true) ∧ Below w.heap.size w w' := by
  have hnb := wf_bounds hn
  have HH := hid h
  obtain ⟨f0, f1, f2, f3⟩ := hr
  have HEN := hid (fun W => Entry_any4 k0 k1 k2 k3 W f0 f1 f2 f3)
  have HB0 := hid ((Below.refl w.heap.size w).alloc (Nat.le_refl _) (.cells #[.int .i64 k0, .int .i64 k1, .int .i64 k2, .int .i64 k3] 24))
  have HST := hid (Store_any4 _ _ _ 20 _ (HH.out.below HB0.out) (by omega))
  clear h f0 f1 f2 f3 hn
  obtain ⟨nn, HNN⟩ : ∃ c, Hid (Pl.pk n 12 = c) := ⟨_, hid rfl⟩
  have hnn : 0 ≤ nn ∧ nn ≤ 11 := by have := Pl.pk_range n 12 (by omega); rw [HNN.out] at this; omega
  go_enter Try.func3, Try.ntmps3
  go_wp2_with fail
  refine HST.out.mono ?_
  rintro e w1 ⟨v1, xs, rfl, hox, hgx, hvx, hlx, _, hb1⟩
  have hb1' : Below (w.heap.size + 1) (w.alloc (.cells #[.int .i64 k0, .int .i64 k1, .int .i64 k2, .int .i64 k3] 24)) w1 := by simpa using hb1
  obtain ⟨p0, p1, p2, p3⟩ := box4 hb1'
  obtain ⟨ax, cx, rfl, hEx, hnx, _⟩ := hox.shape hgx.ok
  have HX1 := hid hEx
  have HNX := hid hnx
  have HG := hid hgx
  have HV := hid hvx
  have HB1 := hid (HB0.out.trans (hb1.mono HB0.out.size))
  clear hb1 hb1' hox hEx hnx hgx hvx
  go_wp2_with fail
  refine (HEN.out _).mono ?_
  rintro e w2 ⟨x, rfl, ⟨hxm, _⟩, hb2⟩
  obtain ⟨ek, ev, eo, ex⟩ := x
  simp only
  have hek : Pl.keyB ek = true ∧ ex.size ≤ 120 ∧ ek.size ≤ 8 := by
    unfold Pl.Ent.may Pl.entB Pl.keyB at hxm
    unfold Pl.keyB
    simp only [Bool.and_eq_true, decide_eq_true_eq] at hxm ⊢
    exact ⟨hxm.1.1.1, hxm.2, hxm.1.1.1.1.2⟩
  obtain ⟨hk1, hk2, hk3⟩ := hek
  obtain ⟨pc, ⟨ys, HYS, pf1, pf2, pf3, pf4, pf5, pf6⟩, pf7, pf8, pf9⟩ := Pl.put_facts HG.out HV.out hlx hnn hk1 hk2
  have HX2 := hid (HX1.out.below hb2)
  have HB2 := hid (HB1.out.trans (hb2.mono HB1.out.size))
  clear hb2 hxm HV hk1
  have HA2 := hid ((Below.refl w2.heap.size w2).alloc (Nat.le_refl _) (.cells #[.string ek, .int .i64 ev, .int .i64 eo, .string ex] 28))
  have HPC := hid pc
  have HPF7 := hid pf7
  have HPF5 := hid pf5
  have HPF6 := hid pf6
  have HGY := hid pf1
  have HG3 := hid pf3
  have HG4 := hid pf4
  have HYS' := hid HYS
  clear pc pf7 pf5 pf6 pf1 pf3 pf4 HYS
  obtain ⟨pv, HPV⟩ : ∃ c, Hid (Pl.putV xs ek = c) := ⟨_, hid rfl⟩
  rw [HPV.out] at HPF7 HG4 pf8 pf9
  go_wp2_with fail
  refine (picked_any n 12 _ hnb.1 hnb.2 (by omega) (by omega)).mono ?_
  rw [HNN.out]
  rintro e w3 ⟨rfl, rfl⟩
  go_wp2_with fail
  refine (Put_any _ _ _ xs nn ek ex _ (HX2.out.below HA2.out) HNX.out (by unfold maxLen; omega) (by unfold maxLen; omega)).mono ?_
  rw [HPC.out, HYS'.out]
  rintro e w4 ⟨vy, rfl, hoy, hb4⟩
  obtain ⟨ay, cy, rfl, hEy, hny, _⟩ := hoy.shape HGY.out.ok
  have hE4 : Below (w2.heap.size + 1) (w2.alloc (.cells #[.string ek, .int .i64 ev, .int .i64 eo, .string ex] 28)) w4 := by simpa using hb4
  obtain ⟨d0, d1, d2, d3⟩ := box4 hE4
  have HY4 := hid hEy
  have HX4 := hid ((HX2.out.below HA2.out).below hb4)
  have hW24 := HA2.out.trans (hb4.mono HA2.out.size)
  have HE4 := hid hE4
  have hlt4 : w2.heap.size < w4.heap.size := by have := hE4.size; simp at this; omega
  clear hoy hEy hny hb4 hE4
  go_wp2_with fail
  refine (Get_any _ _ _ xs ek _ HX4.out).mono ?_
  obtain ⟨gx, HGX⟩ : ∃ c, Hid (Pl.gotE xs ek = c) := ⟨_, hid rfl⟩
  obtain ⟨cx0, HCX⟩ : ∃ c, Hid (Pl.gotC xs ek = c) := ⟨_, hid rfl⟩
  rw [HGX.out, HCX.out]
  rw [HGX.out, HCX.out] at HPF7
  rintro e w5 ⟨rfl, hb5⟩
  obtain ⟨gk, gv, go', gw⟩ := gx
  simp only at HPF7
  have e0 := (hb5.cell (p := ⟨w2.heap.size, 0, none⟩) hlt4).trans d0
  have e1 := (hb5.cell (p := ⟨w2.heap.size, 1, none⟩) hlt4).trans d1
  have e2 := (hb5.cell (p := ⟨w2.heap.size, 2, none⟩) hlt4).trans d2
  have e3 := (hb5.cell (p := ⟨w2.heap.size, 3, none⟩) hlt4).trans d3
  have hlt5 : w2.heap.size < w5.heap.size := Nat.lt_of_lt_of_le hlt4 hb5.size
  have HA5 := hid ((Below.refl w5.heap.size w5).alloc (Nat.le_refl _) (.cells #[.string gk, .int .i64 gv, .int .i64 go', .string gw] 28))
  have HX5 := hid (HX4.out.below hb5)
  have HY5 := hid (HY4.out.below hb5)
  have HY5a := hid ((HY4.out.below hb5).below HA5.out)
  have HW5 := hid (hW24.trans (hb5.mono (by omega)))
  clear hb5 d0 d1 d2 d3 hW24 HX4 HY4 HX2 HX1 HE4
  have HF7 := hid HPF7.out
  clear HPF7
  rcases HF7.out with ⟨rfl, rfl⟩ | ⟨rfl, rfl⟩
  · clear HF7
    go_wp2_with fail
    refine (Get_any _ _ _ ys ek _ HY5a.out).mono ?_
    rw [HG3.out, HG4.out]
    rintro e w6 ⟨rfl, hb6⟩
    have hb6' : Below (w5.heap.size + 1) (w5.alloc (.cells #[.string gk, .int .i64 gv, .int .i64 go', .string gw] 28)) w6 := by simpa using hb6
    obtain ⟨m0, m1, m2, m3⟩ := box4 hb6'
    have hb56 := HA5.out.trans (hb6.mono HA5.out.size)
    have n0 := (hb56.cell (p := ⟨w2.heap.size, 0, none⟩) hlt5).trans e0
    have n1 := (hb56.cell (p := ⟨w2.heap.size, 1, none⟩) hlt5).trans e1
    have n2 := (hb56.cell (p := ⟨w2.heap.size, 2, none⟩) hlt5).trans e2
    have n3 := (hb56.cell (p := ⟨w2.heap.size, 3, none⟩) hlt5).trans e3
    have hlt56 : w5.heap.size < w6.heap.size := by have := hb6'.size; simp at this; omega
    have hlt26 : w2.heap.size < w6.heap.size := by omega
    have HB56 := hid hb56
    have E0 := hid e0
    clear hb6 hb6' hb56 e0 e1 e2 e3
    go_wp2_with fail
    obtain ⟨WB, HWB⟩ : ∃ WB, Hid (WB = ((w6.alloc (.cells #[.string ek, .int .i64 (gv + 1), .int .i64 nn, .string ex] 28)).alloc (.cells #[.func (.func 11) #[] #[.pointer (some ⟨w2.heap.size, 0, none⟩)]] 36))) := ⟨_, hid rfl⟩
    have s1 : WB.cell? ⟨w6.heap.size + 1, 0, none⟩ = some (.func (.func 11) #[] #[.pointer (some ⟨w2.heap.size, 0, none⟩)]) := by rw [HWB.out]; exact cell_new1 _ _ _ _ (by simp only [size_new])
    have s3 : w6.heap.size + 1 < WB.heap.size := by rw [HWB.out]; simp only [size_new]; omega
    have s2 : w2.heap.size < WB.heap.size := by omega
    have hB5 : Below w5.heap.size w5 WB := by rw [HWB.out]; exact ((HB56.out.alloc HB56.out.size _).alloc (by simp; omega) _)
    have s0 := (hB5.cell (p := ⟨w2.heap.size, 0, none⟩) hlt5).trans E0.out
    have HX7 := hid (HX5.out.below hB5)
    have HY7 := hid (HY5.out.below hB5)
    have HW7 := hid (HW5.out.trans (hB5.mono HW5.out.size))
    rw [← HWB.out]
    clear hB5
    refine (CloneE_all _ _ _ xs _ HX7.out (by omega)).mono ?_
    rintro e w7 ⟨v7, rfl, ho7, hb7⟩
    have HO7 := hid ho7
    have HB7 := hid hb7
    have hz7 := hb7.size
    have hlt7 : w6.heap.size + 1 < w7.heap.size := by omega
    clear ho7 hb7 n0 n1 n2 n3 m0 m1 m2 m3
    have hP2 := hid (pred2 ek w2.heap.size (w6.heap.size + 1) WB s0 s2 s1 s3)
    go_wp2_with fail
    refine (DeleteFunc_any 15 _ (enters_of Try.func15 (by kernel_rfl) rfl) ek WB.heap.size WB hP2.out v7 xs w7 HO7.out HG.out.ok (by omega) HB7.out hz7).mono ?_
    rintro e w8 ⟨a8, m8, c8, rfl, hE8, hb8⟩
    have hW8 := HB7.out.trans hb8
    have HE8 := hid hE8
    have hz8 := hW8.size
    have r0 := (hW8.cell (p := ⟨w2.heap.size, 0, none⟩) s2).trans s0
    have r1 := (hW8.cell (p := ⟨w6.heap.size + 1, 0, none⟩) s3).trans s1
    have hP3 := hid (pred3 ek w2.heap.size (w6.heap.size + 1) w8 r0 (by omega) r1 (by omega))
    have HX8 := hid (HX7.out.below hW8)
    have HY8 := hid (HY7.out.below hW8)
    have HW8 := hid (HW7.out.trans (hW8.mono HW7.out.size))
    clear hE8 hb8 hW8 HO7 hP2
    go_wp2_with fail
    refine (CloneE_all _ _ _ ys _ HY8.out (by omega)).mono ?_
    rintro e w9 ⟨v9, rfl, ho9, hb9⟩
    have HO9 := hid ho9
    have HB9 := hid hb9
    have hz9 := hb9.size
    clear ho9 hb9
    go_wp2_with fail
    refine (DeleteFunc_any 16 _ (enters_of Try.func16 (by kernel_rfl) rfl) ek w8.heap.size w8 hP3.out v9 ys w9 HO9.out HGY.out.ok (by omega) HB9.out hz9).mono ?_
    rw [HPF5.out]
    rintro e w10 ⟨a10, m10, c10, rfl, hE10, hb10⟩
    have hW10 := HB9.out.trans hb10
    obtain rfl : m10 = m8 := hE10.1.symm.trans HE8.out.1
    have HE10 := hid hE10
    have HF10 := hid (HE8.out.below hW10)
    have HX10 := hid (HX8.out.below hW10)
    have HY10 := hid (HY8.out.below hW10)
    have HW10 := hid (HW8.out.trans (hW10.mono HW8.out.size))
    clear hE10 hb10 hW10 HO9 hP3
    go_wp2_with fail
    refine (Equal_eq _ _ _ _ _ _ _ HF10.out HE10.out).mono ?_
    rintro e w11 ⟨rfl, hb11⟩
    have HX11 := hid (HX10.out.below hb11)
    have HY11 := hid (HY10.out.below hb11)
    have HW11 := hid (HW10.out.trans (hb11.mono HW10.out.size))
    clear hb11
    go_wp2_with fail
    refine (merged_any _ _ _ xs _ _ _ ys _ HX11.out HNX.out HY11.out).mono ?_
    rw [HPF6.out]
    rintro e w12 ⟨vo, rfl, ho12, hb12⟩
    obtain ⟨ao, co, rfl, hE12, _, _⟩ := ho12.shape HGY.out.ok
    have HE12 := hid hE12
    have HY12 := hid (HY11.out.below hb12)
    have HW12 := hid (HW11.out.trans (hb12.mono HW11.out.size))
    clear hb12 ho12 hE12
    go_wp2_with fail
    refine (Equal_eq _ _ _ _ _ _ _ HE12.out HY12.out).mono ?_
    rintro e w13 ⟨rfl, hb13⟩
    go_wp2_with fail
    go_ret
    exact ⟨rfl, HB2.out.trans ((HW12.out.trans (hb13.mono HW12.out.size)).mono HB2.out.size)⟩
  · clear HF7
    go_wp2_with fail
    refine (Get_any _ _ _ ys ek _ HY5a.out).mono ?_
    rw [HG3.out, HG4.out]
    rintro e w6 ⟨rfl, hb6⟩
    have hb6' : Below (w5.heap.size + 1) (w5.alloc (.cells #[.string gk, .int .i64 gv, .int .i64 go', .string gw] 28)) w6 := by simpa using hb6
    obtain ⟨m0, m1, m2, m3⟩ := box4 hb6'
    obtain ⟨y0, y1, y2, y3⟩ := box4f hb6'
    have hb56 := HA5.out.trans (hb6.mono HA5.out.size)
    have n0 := (hb56.cell (p := ⟨w2.heap.size, 0, none⟩) hlt5).trans e0
    have n1 := (hb56.cell (p := ⟨w2.heap.size, 1, none⟩) hlt5).trans e1
    have n2 := (hb56.cell (p := ⟨w2.heap.size, 2, none⟩) hlt5).trans e2
    have n3 := (hb56.cell (p := ⟨w2.heap.size, 3, none⟩) hlt5).trans e3
    have hlt56 : w5.heap.size < w6.heap.size := by have := hb6'.size; simp at this; omega
    have hlt26 : w2.heap.size < w6.heap.size := by omega
    have HB56 := hid hb56
    have E0 := hid e0
    clear hb6 hb6' hb56 e0 e1 e2 e3
    go_wp2_with fail
    obtain ⟨WB, HWB⟩ : ∃ WB, Hid (WB = ((((((w6.setCell ⟨w5.heap.size, 0, none⟩ (.string ⟨#[]⟩)).setCell ⟨w5.heap.size, 1, none⟩ (.int .i64 0)).setCell ⟨w5.heap.size, 2, none⟩ (.int .i64 0)).setCell ⟨w5.heap.size, 3, none⟩ (.string ⟨#[]⟩)).alloc (.cells #[.string ek, .int .i64 (1), .int .i64 nn, .string ex] 28)).alloc (.cells #[.func (.func 11) #[] #[.pointer (some ⟨w2.heap.size, 0, none⟩)]] 36))) := ⟨_, hid rfl⟩
    have s1 : WB.cell? ⟨w6.heap.size + 1, 0, none⟩ = some (.func (.func 11) #[] #[.pointer (some ⟨w2.heap.size, 0, none⟩)]) := by rw [HWB.out]; exact cell_new1 _ _ _ _ (by simp only [size_new, size_set])
    have s3 : w6.heap.size + 1 < WB.heap.size := by rw [HWB.out]; simp only [size_new, size_set]; omega
    have s2 : w2.heap.size < WB.heap.size := by omega
    have hB5 : Below w5.heap.size w5 WB := by
      rw [HWB.out]
      have b4 := rbelow_set (o := 3) (v := .string ⟨#[]⟩) (rbelow_set (o := 2) (v := .int .i64 0) (rbelow_set (o := 1) (v := .int .i64 0) (rbelow_set (o := 0) (v := .string ⟨#[]⟩) HB56.out (Nat.le_refl _)) (Nat.le_refl _)) (Nat.le_refl _)) (Nat.le_refl _)
      have b5 := b4.alloc b4.size (.cells #[.string ek, .int .i64 1, .int .i64 nn, .string ex] 28)
      exact b5.alloc b5.size _
    have s0 := (hB5.cell (p := ⟨w2.heap.size, 0, none⟩) hlt5).trans E0.out
    have HX7 := hid (HX5.out.below hB5)
    have HY7 := hid (HY5.out.below hB5)
    have HW7 := hid (HW5.out.trans (hB5.mono HW5.out.size))
    rw [← HWB.out]
    clear hB5
    refine (CloneE_all _ _ _ xs _ HX7.out (by omega)).mono ?_
    rintro e w7 ⟨v7, rfl, ho7, hb7⟩
    have HO7 := hid ho7
    have HB7 := hid hb7
    have hz7 := hb7.size
    have hlt7 : w6.heap.size + 1 < w7.heap.size := by omega
    clear ho7 hb7 n0 n1 n2 n3 m0 m1 m2 m3
    have hP2 := hid (pred2 ek w2.heap.size (w6.heap.size + 1) WB s0 s2 s1 s3)
    go_wp2_with fail
    refine (DeleteFunc_any 15 _ (enters_of Try.func15 (by kernel_rfl) rfl) ek WB.heap.size WB hP2.out v7 xs w7 HO7.out HG.out.ok (by omega) HB7.out hz7).mono ?_
    rintro e w8 ⟨a8, m8, c8, rfl, hE8, hb8⟩
    have hW8 := HB7.out.trans hb8
    have HE8 := hid hE8
    have hz8 := hW8.size
    have r0 := (hW8.cell (p := ⟨w2.heap.size, 0, none⟩) s2).trans s0
    have r1 := (hW8.cell (p := ⟨w6.heap.size + 1, 0, none⟩) s3).trans s1
    have hP3 := hid (pred3 ek w2.heap.size (w6.heap.size + 1) w8 r0 (by omega) r1 (by omega))
    have HX8 := hid (HX7.out.below hW8)
    have HY8 := hid (HY7.out.below hW8)
    have HW8 := hid (HW7.out.trans (hW8.mono HW7.out.size))
    clear hE8 hb8 hW8 HO7 hP2
    go_wp2_with fail
    refine (CloneE_all _ _ _ ys _ HY8.out (by omega)).mono ?_
    rintro e w9 ⟨v9, rfl, ho9, hb9⟩
    have HO9 := hid ho9
    have HB9 := hid hb9
    have hz9 := hb9.size
    clear ho9 hb9
    go_wp2_with fail
    refine (DeleteFunc_any 16 _ (enters_of Try.func16 (by kernel_rfl) rfl) ek w8.heap.size w8 hP3.out v9 ys w9 HO9.out HGY.out.ok (by omega) HB9.out hz9).mono ?_
    rw [HPF5.out]
    rintro e w10 ⟨a10, m10, c10, rfl, hE10, hb10⟩
    have hW10 := HB9.out.trans hb10
    obtain rfl : m10 = m8 := hE10.1.symm.trans HE8.out.1
    have HE10 := hid hE10
    have HF10 := hid (HE8.out.below hW10)
    have HX10 := hid (HX8.out.below hW10)
    have HY10 := hid (HY8.out.below hW10)
    have HW10 := hid (HW8.out.trans (hW10.mono HW8.out.size))
    clear hE10 hb10 hW10 HO9 hP3
    go_wp2_with fail
    refine (Equal_eq _ _ _ _ _ _ _ HF10.out HE10.out).mono ?_
    rintro e w11 ⟨rfl, hb11⟩
    have HX11 := hid (HX10.out.below hb11)
    have HY11 := hid (HY10.out.below hb11)
    have HW11 := hid (HW10.out.trans (hb11.mono HW10.out.size))
    clear hb11
    go_wp2_with fail
    refine (merged_any _ _ _ xs _ _ _ ys _ HX11.out HNX.out HY11.out).mono ?_
    rw [HPF6.out]
    rintro e w12 ⟨vo, rfl, ho12, hb12⟩
    obtain ⟨ao, co, rfl, hE12, _, _⟩ := ho12.shape HGY.out.ok
    have HE12 := hid hE12
    have HY12 := hid (HY11.out.below hb12)
    have HW12 := hid (HW11.out.trans (hb12.mono HW11.out.size))
    clear hb12 ho12 hE12
    go_wp2_with fail
    refine (Equal_eq _ _ _ _ _ _ _ HE12.out HY12.out).mono ?_
    rintro e w13 ⟨rfl, hb13⟩
    go_wp2_with fail
    go_ret
    exact ⟨rfl, HB2.out.trans ((HW12.out.trans (hb13.mono HW12.out.size)).mono HB2.out.size)⟩
set_option maxRecDepth 100000 in
theorem lifted (os : Os) (started : os.Started) (H : Type) (enc : TypeId × Value → H) :
    ReturnsInHanded {} Try.checked os 3 .any (Rows.putsCountSpec.pre6 enc Try.prog Try.f3 Rows.putsCountRow.domain false) (Rows.putsCountSpec.post enc Try.prog Try.f3 false true false false) := by
  refine returnsInHanded_of_change (C := Try.checked) own started (by kernel_rfl) Try.func3
    (ChangeSpec.witness6 (enc := enc) (C := Try.checked) false ⟨#[], #[.slice none 0 0, .agg #[.int .i64 0, .int .i64 0, .int .i64 0, .int .i64 0], .int .i64 0], []⟩ 8 (by kernel_rfl) (by kernel_rfl) (by kernel_rfl) (by kernel_rfl)) ?_
  intro W base args ds gs before hval0 hW hcnd _
  have hval : ∀ (j : Nat) t v, Try.f3.params[j]? = some t → args[j]? = some v → Value.okWide Try.prog W .any base t v := hval0
  have hW' := hW
  obtain ⟨p, q, hA0, hV, rfl, hfz, hnd⟩ := hW
  have hA : DataW.TrodAll enc Try.prog W 0 (fun _ => true) true Try.f3.params.toList args.toList ds p := hA0
  rw [Try.params3] at hA hval
  obtain ⟨v0, vs0, d0, ds0, p0, q0, hargs, rfl, rfl, h0, r0⟩ := trodAll_cons hA
  obtain ⟨v1, vs1, d1, ds1, p1, q1, rfl, rfl, rfl, h1, r1⟩ := trodAll_cons r0
  obtain ⟨v2, vs2, d2, ds2, p2, q2, rfl, rfl, rfl, h2, r2⟩ := trodAll_cons r1
  obtain ⟨rfl, rfl, rfl⟩ := trodAll_nil r2
  obtain rfl : args = #[v0, v1, v2] := by cases args; simp_all
  obtain ⟨rfl, rfl⟩ := trodVars_none hV
  have k0 := h0
  have lt0 : ∀ x ∈ p0, x.block < W.heap.size := by obtain ⟨m, hm⟩ := k0; exact DataW.trod_lt m _ _ _ hm
  obtain ⟨a0, len0, cap0, rfl, w0⟩ := open_raws (hval 0 22 v0 rfl rfl) h0
  have k1 := h1
  have lt1 : ∀ x ∈ p1, x.block < W.heap.size := by obtain ⟨m, hm⟩ := k1; exact DataW.trod_lt m _ _ _ hm
  obtain ⟨a1, b1, c1, e1, rfl, w1⟩ := open_raw (hval 1 24 v1 rfl rfl) h1
  have k2 := h2
  have lt2 : ∀ x ∈ p2, x.block < W.heap.size := by obtain ⟨m, hm⟩ := k2; exact DataW.trod_lt m _ _ _ hm
  obtain ⟨a2, rfl, _, _, w2⟩ := open_int Try.underlying3 (hval 2 3 v2 rfl rfl) h2
  clear hA0 hval0
  refine (walk a0 len0 cap0 a1 b1 c1 e1 a2 W w0 w1 w2).mono fun e W' ⟨he, bel⟩ => ?_
  subst he
  exact ⟨_, rfl, _, _, _, [], _, [], hW', trodAll_mk1 (shut_bool Try.underlying4 _), (trodAll_cons_mk (Below.trod laidOut (by kernel_rfl) (of_decide_eq_true (by kernel_rfl)) k0 bel lt0) (trodAll_cons_mk (Below.trod laidOut (by kernel_rfl) (of_decide_eq_true (by kernel_rfl)) k1 bel lt1) (trodAll_cons_mk (Below.trod laidOut (by kernel_rfl) (of_decide_eq_true (by kernel_rfl)) k2 bel lt2) trodAll_mk0))), rfl, bel.frame _, fun h => by cases h⟩

theorem over : Rows.putsCountRow.holds Try.pinned (OpenSpec.ofChange Rows.putsCountSpec) :=
  OpenClaim.holds_of_wide 3 Try.f3 rfl rfl rfl rfl rfl rfl rfl ⟨rfl, rfl, rfl, rfl, rfl⟩ rfl rfl rfl rfl rfl (by kernel_rfl) Try.func3 (by kernel_rfl)
    (of_decide_eq_true (by kernel_rfl)) (by unfold Func.isWrapper; first | (rw [if_pos (by decide +kernel)]; kernel_rfl) | (rw [if_neg (by decide +kernel)]; exact ⟨rfl, rfl⟩))
    (fun os started H enc _ => lifted os started H enc)

end Go.Proofs.Ytcdobhdbafpkiad.putsCount
namespace Go.Proofs.Ytcdobhdbafpkiad
theorem putsCount_holds : Rows.PutsCountSaid := putsCount.over
#print axioms putsCount_holds
end Go.Proofs.Ytcdobhdbafpkiad
