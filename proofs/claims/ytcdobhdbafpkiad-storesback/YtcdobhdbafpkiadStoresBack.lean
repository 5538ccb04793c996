/-
  Proved: a store of raw things is read as it was written; with a byte more, or one byte changed, it is refused (the law StoresBack returns true and leaves its arguments as they were); no condition.
-/
import Derived.Test.YtcdobhdbafpkiadRows
import Derived.Test.YtcdobhdbafpkiadDFwd
import Derived.Test.YtcdobhdbafpkiadCloneB
import Derived.Test.YtcdobhdbafpkiadDec6
import Derived.Test.YtcdobhdbafpkiadTells
import Derived.Test.YtcdobhdbafpkiadSl
import Derived.Test.YtcdobhdbafpkiadROpen
namespace Go.Proofs.Ytcdobhdbafpkiad.storesBack
open Go.ChangeShapes Go.WideShapes Go.ChangeAt Go.RowKit
set_option maxRecDepth 20000
set_option linter.unusedVariables false

theorem u8_wrap (x : UInt8) (y : Int) (h0 : 0 ≤ y) (h1 : y ≤ 255) : IntKind.u8.wrap ((x.toNat : Int) + y) = ((x + Pl.u8 y).toNat : Int) := by
  have hy := Pl.u8_val h0 h1
  have hx := x.toNat_lt
  rw [UInt8.toNat_add]
  simp [IntKind.wrap, IntKind.signed, IntKind.bits]
  omega
theorem u8_differs (x : UInt8) (y : Int) (h0 : 0 < y) (h1 : y ≤ 255) : x + Pl.u8 y ≠ x := by
  intro e
  have hy := Pl.u8_val (n := y) (by omega) h1
  have hx := x.toNat_lt
  have e' := congrArg UInt8.toNat e
  rw [UInt8.toNat_add] at e'
  omega

set_option maxHeartbeats 2000000 in
theorem walk (a : Option Addr) (len cap : Nat) (n y : Int) (w : World) (h : IsRaws w a len cap) (hn : (Lit.int .i64 n).wf = true) (hy : (Lit.int .u8 y).wf = true) :
    Calls Try.prog 4 #[.slice a len cap, .int .i64 n, .int .u8 y] w fun e w' => e = .returned (.bool true) ∧ Below w.heap.size w w' := by
  have hnb := wf_bounds hn
  have hyb : 0 ≤ y ∧ y ≤ 255 := by simpa [Lit.wf, IntKind.min, IntKind.max, IntKind.signed, IntKind.bits] using hy
  have HH := hid h
  clear h
  go_enter Try.func4, Try.ntmps4
  go_wp2_with fail
  refine (StoreTells_any _).mono ?_
  rintro e w1 ⟨rfl, hb1⟩
  have HB1 := hid hb1
  have HST := hid (Store_any _ _ _ 20 _ (HH.out.below hb1) (by omega))
  clear hb1
  go_wp2_with fail
  refine HST.out.mono ?_
  rintro e w2 ⟨v2, xs, rfl, hox, hgx, hlx, _, hb2⟩
  obtain ⟨ax, cx, rfl, hEx, hnx, _⟩ := hox.shape hgx.ok
  have HF0 : Hid (Pl.fault xs = 0) := hid ((Pl.good_iff xs).2 hgx)
  have HX := hid hEx
  have HOK := hid hgx.ok
  have HB2 := hid (HB1.out.trans (hb2.mono HB1.out.size))
  clear hox hEx hnx hgx hb2 HST
  have HEN := hid (Pl.enc_len HF0.out)
  have HFW := hid (Pl.dec_fwd HF0.out)
  have HMO := hid (Pl.dec_more HF0.out 0)
  have HFR := hid (Pl.frameC_enc HF0.out)
  have HEO : Hid (Pl.encO xs = Pl.enc xs) := hid (by unfold Pl.encO; rw [if_pos HF0.out])
  go_wp2_with fail
  refine (Encode_any _ _ _ xs _ HX.out).mono ?_
  rw [HF0.out, HEO.out]
  rintro e w3 ⟨v3, rfl, ho3, hb3⟩
  generalize Pl.enc xs = bs at *
  obtain ⟨g3, cap3, rfl, _, hg3, _, _, _, _⟩ := ho3.opened (by have := HEN.out; omega)
  obtain ⟨a3, c3, e3, hI3, _, _⟩ := ho3.shape
  simp only [Value.slice.injEq] at e3
  obtain ⟨rfl, _, rfl⟩ := e3
  have HI3 := hid hI3
  have HX3 := hid (HX.out.below hb3)
  have HB3 := hid (HB2.out.trans (hb3.mono HB2.out.size))
  have hlb := HEN.out
  clear ho3 hI3 hb3
  go_wp2_with fail
  refine (Decode_any _ _ _ bs _ HI3.out).mono ?_
  rw [HFW.out.1, HFW.out.2]
  rintro e w4 ⟨v4, rfl, ho4, hb4⟩
  obtain ⟨a4, c4, rfl, hE4, _, _⟩ := ho4.shape HOK.out
  have HY := hid hE4
  have HX4 := hid (HX3.out.below hb4)
  have HI4 := hid (HI3.out.below hb4)
  have HB4 := hid (HB3.out.trans (hb4.mono HB3.out.size))
  clear ho4 hE4 hb4
  go_wp2_with fail
  refine (CloneB_any _ _ _ bs _ HI4.out (by omega)).mono ?_
  rintro e w5 ⟨v5, rfl, ho5, hb5⟩
  have HO5 := hid ho5
  have HY5 := hid (HY.out.below hb5)
  have HX5 := hid (HX4.out.below hb5)
  have HI5 := hid (HI4.out.below hb5)
  have HB5 := hid (HB4.out.trans (hb5.mono HB4.out.size))
  have hz5 := hb5.size
  clear ho5
  go_wp2_with (at_builtin; refine append_b1 rfl (.tmp 33) (.tmp 34) rfl w4.heap.size v5 bs 0 rfl HO5.out hz5 rfl (by omega) (by omega) (by omega) ?_; intro v6 w6 ho6 hk6)
  obtain ⟨a6, c6, rfl, hI6, _, _⟩ := ho6.shape
  have HI6 := hid hI6
  have hb46 : Below w4.heap.size w4 w6 := (hb5.mono (Nat.le_refl _)).trans hk6.1
  have HY6 := hid (HY.out.below hb46)
  have HX6 := hid (HX4.out.below hb46)
  have HJ6 := hid (HI4.out.below hb46)
  have HB6 := hid (HB4.out.trans (hb46.mono HB4.out.size))
  clear ho6 hI6 hk6 hb46 hb5 HO5 HY5 HX5 HI5 HB5 hz5
  obtain ⟨dm, HDM⟩ : ∃ c, Hid (Pl.decC (bs ++ [Pl.u8 0]) = c) := ⟨_, rfl⟩
  have hdm : (dm == 0) = false := by
    have := HMO.out
    rw [← HDM.out]
    simpa [Pl.u8] using this
  refine (Decode_any _ _ _ _ _ HI6.out).mono ?_
  rw [HDM.out]
  rintro e w7 ⟨v7, rfl, ho7, hb7⟩
  have HY7 := hid (HY6.out.below hb7)
  have HX7 := hid (HX6.out.below hb7)
  have HJ7 := hid (HJ6.out.below hb7)
  have HB7 := hid (HB6.out.trans (hb7.mono HB6.out.size))
  clear ho7 hb7
  go_wp2_with fail
  refine (CloneB_any _ _ _ bs _ HJ7.out (by omega)).mono ?_
  rintro e w8 ⟨v8, rfl, ho8, hb8⟩
  obtain ⟨g8, cap8, rfl, hgb8, hg8, hlc8, hmc8, hcell8, hset8⟩ := ho8.opened (by omega)
  unfold maxLen at hmc8
  have HB8 := hid (HB7.out.trans (hb8.mono HB7.out.size))
  have HY8 := hid (HY7.out.below hb8)
  have HX8 := hid (HX7.out.below hb8)
  clear ho8
  obtain ⟨i, hi⟩ := Int.eq_ofNat_of_zero_le (Pl.pk_range n (bs.length : Int) (by omega)).1
  have hi1 : i < bs.length := by have := (Pl.pk_range n (bs.length : Int) (by omega)).2; omega
  have HI := hid hi
  clear hi
  obtain ⟨k0, k1⟩ := hcell8 i hi1
  have hwr := u8_wrap bs[i] y hyb.1 hyb.2
  have HCB : Hid (y ≠ 0 → Pl.decC (bs.set i (bs[i] + Pl.u8 y)) ≠ 0) := hid fun h => Pl.dec_bad HFR.out hi1 (u8_differs _ _ (by omega) hyb.2)
  obtain ⟨nb, HNB⟩ : ∃ c, Hid (bs[i] + Pl.u8 y = c) := ⟨_, hid rfl⟩
  rw [HNB.out] at hwr HCB
  obtain ⟨nbi, HNBI⟩ : ∃ c, Hid ((nb.toNat : Int) = c) := ⟨_, hid rfl⟩
  rw [HNBI.out] at hwr
  have ho9 := hset8 i nb
  rw [HNBI.out] at ho9
  obtain ⟨a9, c9, e9, hI9, _, _⟩ := ho9.shape
  simp only [Value.slice.injEq, List.length_set] at e9
  obtain ⟨rfl, _, rfl⟩ := e9
  rw [List.length_set] at hI9
  have HI9 := hid hI9
  have HB9 := hid (hb8.setCell (p := ⟨g8, i, none⟩) hgb8 (.int .u8 nbi))
  clear hcell8 hset8 ho9 hI9
  obtain ⟨dc, HDC⟩ : ∃ c, Hid (Pl.decC (bs.set i nb) = c) := ⟨_, hid rfl⟩
  rw [HDC.out] at HCB
  go_wp2_with fail
  refine (picked_any n (bs.length : Int) _ hnb.1 hnb.2 (by omega) (by omega)).mono ?_
  rw [HI.out]
  rintro e w9 ⟨rfl, rfl⟩
  go_wp2_with fail
  refine (Decode_any _ _ _ _ _ HI9.out).mono ?_
  rw [HDC.out]
  rintro e w10 ⟨v10, rfl, ho10, hb10⟩
  have hb710 : Below w7.heap.size w7 w10 := HB9.out.trans (hb10.mono HB9.out.size)
  have HX10 := hid (HX7.out.below hb710)
  have HY10 := hid (HY7.out.below hb710)
  have HB10 := hid (HB7.out.trans (hb710.mono HB7.out.size))
  clear ho10 hb10 hb710 hb8
  have hdm2 : (dm != 0) = true := by simpa [bne] using hdm
  by_cases hy0 : y = 0
  · have by0 : (y == 0) = true := by simpa using hy0
    clear hwr HCB
    go_wp2_with fail
    refine (Equal_eq _ _ _ _ _ xs _ HX10.out HY10.out).mono ?_
    rintro e w11 ⟨rfl, hb11⟩
    go_wp2_with fail
    go_ret
    exact ⟨rfl, HB10.out.trans (hb11.mono HB10.out.size)⟩
  · have by0 : (y == 0) = false := by simpa using hy0
    have hdc : (dc == 0) = false := by simpa using HCB.out hy0
    have hdc2 : (dc != 0) = true := by simpa [bne] using hdc
    clear hwr HCB hy0
    go_wp2_with fail
    refine (Equal_eq _ _ _ _ _ xs _ HX10.out HY10.out).mono ?_
    rintro e w11 ⟨rfl, hb11⟩
    go_wp2_with fail
    go_ret
    exact ⟨rfl, HB10.out.trans (hb11.mono HB10.out.size)⟩

set_option maxRecDepth 100000 in
theorem lifted (os : Os) (started : os.Started) (H : Type) (enc : TypeId × Value → H) :
    ReturnsInHanded {} Try.checked os 4 .any (Rows.storesBackSpec.pre6 enc Try.prog Try.f4 Rows.storesBackRow.domain false) (Rows.storesBackSpec.post enc Try.prog Try.f4 false true false false) := by
  refine returnsInHanded_of_change (C := Try.checked) own started (by kernel_rfl) Try.func4
    (ChangeSpec.witness6 (enc := enc) (C := Try.checked) false ⟨#[], #[.slice none 0 0, .int .i64 0, .int .u8 0], []⟩ 8 (by kernel_rfl) (by kernel_rfl) (by kernel_rfl) (by kernel_rfl)) ?_
  intro W base args ds gs before hval0 hW hcnd _
  have hval : ∀ (j : Nat) t v, Try.f4.params[j]? = some t → args[j]? = some v → Value.okWide Try.prog W .any base t v := hval0
  have hW' := hW
  obtain ⟨p, q, hA0, hV, rfl, hfz, hnd⟩ := hW
  have hA : DataW.TrodAll enc Try.prog W 0 (fun _ => true) true Try.f4.params.toList args.toList ds p := hA0
  rw [Try.params4] at hA hval
  obtain ⟨v0, vs0, d0, ds0, p0, q0, hargs, rfl, rfl, h0, r0⟩ := trodAll_cons hA
  obtain ⟨v1, vs1, d1, ds1, p1, q1, rfl, rfl, rfl, h1, r1⟩ := trodAll_cons r0
  obtain ⟨v2, vs2, d2, ds2, p2, q2, rfl, rfl, rfl, h2, r2⟩ := trodAll_cons r1
  obtain ⟨rfl, rfl, rfl⟩ := trodAll_nil r2
  obtain rfl : args = #[v0, v1, v2] := by cases args; simp_all
  obtain ⟨rfl, rfl⟩ := trodVars_none hV
  have k0 := h0
  have lt0 : ∀ x ∈ p0, x.block < W.heap.size := by obtain ⟨m, hm⟩ := k0; exact DataW.trod_lt m _ _ _ hm
  obtain ⟨a0, len0, cap0, rfl, w0⟩ := open_raws (hval 0 22 v0 rfl rfl) h0
  have k1 := h1
  have lt1 : ∀ x ∈ p1, x.block < W.heap.size := by obtain ⟨m, hm⟩ := k1; exact DataW.trod_lt m _ _ _ hm
  obtain ⟨a1, rfl, _, _, w1⟩ := open_int Try.underlying3 (hval 1 3 v1 rfl rfl) h1
  have k2 := h2
  have lt2 : ∀ x ∈ p2, x.block < W.heap.size := by obtain ⟨m, hm⟩ := k2; exact DataW.trod_lt m _ _ _ hm
  obtain ⟨a2, rfl, _, _, w2⟩ := open_int Try.underlying5 (hval 2 5 v2 rfl rfl) h2
  clear hA0 hval0
  refine (walk a0 len0 cap0 a1 a2 W w0 w1 w2).mono fun e W' ⟨he, bel⟩ => ?_
  subst he
  exact ⟨_, rfl, _, _, _, [], _, [], hW', trodAll_mk1 (shut_bool Try.underlying4 _), (trodAll_cons_mk (Below.trod laidOut (by kernel_rfl) (of_decide_eq_true (by kernel_rfl)) k0 bel lt0) (trodAll_cons_mk (Below.trod laidOut (by kernel_rfl) (of_decide_eq_true (by kernel_rfl)) k1 bel lt1) (trodAll_cons_mk (Below.trod laidOut (by kernel_rfl) (of_decide_eq_true (by kernel_rfl)) k2 bel lt2) trodAll_mk0))), rfl, bel.frame _, fun h => by cases h⟩

theorem over : Rows.storesBackRow.holds Try.pinned (OpenSpec.ofChange Rows.storesBackSpec) :=
  OpenClaim.holds_of_wide 4 Try.f4 rfl rfl rfl rfl rfl rfl rfl ⟨rfl, rfl, rfl, rfl, rfl⟩ rfl rfl rfl rfl rfl (by kernel_rfl) Try.func4 (by kernel_rfl)
    (of_decide_eq_true (by kernel_rfl)) (by unfold Func.isWrapper; first | (rw [if_pos (by decide +kernel)]; kernel_rfl) | (rw [if_neg (by decide +kernel)]; exact ⟨rfl, rfl⟩))
    (fun os started H enc _ => lifted os started H enc)

end Go.Proofs.Ytcdobhdbafpkiad.storesBack
namespace Go.Proofs.Ytcdobhdbafpkiad
theorem storesBack_holds : Rows.StoresBackSaid := storesBack.over
#print axioms storesBack_holds
end Go.Proofs.Ytcdobhdbafpkiad
