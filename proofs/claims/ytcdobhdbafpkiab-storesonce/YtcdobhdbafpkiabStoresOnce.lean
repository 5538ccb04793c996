/-
  Proved: for every slice of bytes, what store.Decode reads is written by store.Encode as the same bytes, and where it refuses it answers an empty list (the law StoresOnce returns true and leaves its argument as it was); no condition.
-/
import Derived.Test.YtcdobhdbafpkiabRows
import Derived.Test.YtcdobhdbafpkiabDec6
import Derived.Test.YtcdobhdbafpkiabDBack
import Derived.Test.YtcdobhdbafpkiabConv
import Derived.Test.YtcdobhdbafpkiabBOpen
namespace Go.Proofs.Ytcdobhdbafpkiab.storesOnce
open Go.ChangeShapes Go.WideShapes Go.ChangeAt Go.RowKit
open Go.ChangeMaps (open_string shut_string)
set_option linter.unusedVariables false

set_option maxHeartbeats 400000 in
theorem walk (a : Option Addr) (len cap : Nat) (bs : List UInt8) (w : World) (h : IsBytes w a len cap bs) :
    Calls Try.prog 5 #[.slice a len cap] w fun e w' => e = .returned (.bool true) ∧ Below w.heap.size w w' := by
  have HH := hid h
  have HD := hid (Decode_any a len cap bs w h)
  clear h
  have HK : Hid (∀ e ∈ Pl.decO bs, e.ok) := by
    show ∀ e ∈ Pl.decO bs, e.ok
    unfold Pl.decO
    split
    · exact Pl.rdL_ok _
    · intro e he; cases he
  by_cases hz : Pl.decC bs = 0
  · have HBK := hid (Pl.dec_back hz)
    rw [hz] at HD
    generalize Pl.decO bs = l at *
    go_enter Try.func5, Try.ntmps5
    go_wp2_with fail
    refine HD.out.mono ?_
    rintro e w1 ⟨v1, rfl, ho1, hb1⟩
    obtain ⟨a1, c1, rfl, hI1, _, _⟩ := ho1.shape HK.out
    have HI1 := hid hI1
    have HB1 := hid hb1
    clear ho1 hI1 hb1
    go_wp2_with fail
    refine (Encode_any _ _ _ l _ HI1.out).mono ?_
    rw [HBK.out.1, HBK.out.2]
    rintro e w2 ⟨v2, rfl, ho2, hb2⟩
    obtain ⟨a2, c2, rfl, hI2, _, _⟩ := ho2.shape
    have hc2 := conv_any hI2
    have hc1 := conv_any (HH.out.below (HB1.out.trans (hb2.mono HB1.out.size)))
    have HB2 := hid hb2
    clear ho2 hI2 hb2
    go_wp2
    go_ret
    exact ⟨ret_bool (by simp), HB1.out.trans (HB2.out.mono HB1.out.size)⟩
  · have HO : Hid (Pl.decO bs = []) := by show _ = _; unfold Pl.decO; rw [if_neg hz]
    rw [HO.out] at HD
    generalize Pl.decC bs = c at *
    go_enter Try.func5, Try.ntmps5
    go_wp2_with fail
    refine HD.out.mono ?_
    rintro e w1 ⟨v1, rfl, ho1, hb1⟩
    obtain ⟨a1, c1, rfl, hI1, _, _⟩ := ho1.shape (by intro e he; cases he)
    have HB1 := hid hb1
    clear ho1 hI1 hb1
    go_wp2
    go_ret
    exact ⟨ret_bool (by simp), HB1.out⟩

set_option maxRecDepth 100000 in
theorem lifted (os : Os) (started : os.Started) (H : Type) (enc : TypeId × Value → H) :
    ReturnsInHanded {} Try.checked os 5 .any (Rows.storesOnceSpec.pre6 enc Try.prog Try.f5 Rows.storesOnceRow.domain false) (Rows.storesOnceSpec.post enc Try.prog Try.f5 false true false false) := by
  refine returnsInHanded_of_change (C := Try.checked) own started (by kernel_rfl) Try.func5
    (ChangeSpec.witness6 (enc := enc) (C := Try.checked) false ⟨#[], #[.slice none 0 0], []⟩ 8 (by kernel_rfl) (by kernel_rfl) (by kernel_rfl) (by kernel_rfl)) ?_
  intro W base args ds gs before hval0 hW hcnd _
  have hval : ∀ (j : Nat) t v, Try.f5.params[j]? = some t → args[j]? = some v → Value.okWide Try.prog W .any base t v := hval0
  have hW' := hW
  obtain ⟨p, q, hA0, hV, rfl, hfz, hnd⟩ := hW
  have hA : DataW.TrodAll enc Try.prog W 0 (fun _ => true) true Try.f5.params.toList args.toList ds p := hA0
  rw [Try.params5] at hA hval
  obtain ⟨v0, vs0, d0, ds0, p0, q0, hargs, rfl, rfl, h0, r0⟩ := trodAll_cons hA
  obtain ⟨rfl, rfl, rfl⟩ := trodAll_nil r0
  obtain rfl : args = #[v0] := by cases args; simp_all
  obtain ⟨rfl, rfl⟩ := trodVars_none hV
  have k0 := h0
  have lt0 : ∀ x ∈ p0, x.block < W.heap.size := by obtain ⟨m, hm⟩ := k0; exact DataW.trod_lt m _ _ _ hm
  obtain ⟨a0, len0, cap0, es0, rfl, w0⟩ := open_bytes (hval 0 23 v0 rfl rfl) h0
  clear hA0 hval0
  refine (walk a0 len0 cap0 es0 W w0).mono fun e W' ⟨he, bel⟩ => ?_
  subst he
  exact ⟨_, rfl, _, _, _, [], _, [], hW', trodAll_mk1 (shut_bool Try.underlying4 _), (trodAll_cons_mk (Below.trod laidOut (by kernel_rfl) (of_decide_eq_true (by kernel_rfl)) k0 bel lt0) trodAll_mk0), rfl, bel.frame _, fun h => by cases h⟩

theorem over : Rows.storesOnceRow.holds Try.pinned (OpenSpec.ofChange Rows.storesOnceSpec) :=
  OpenClaim.holds_of_wide 5 Try.f5 rfl rfl rfl rfl rfl rfl rfl ⟨rfl, rfl, rfl, rfl, rfl⟩ rfl rfl rfl rfl rfl (by kernel_rfl) Try.func5 (by kernel_rfl)
    (of_decide_eq_true (by kernel_rfl)) (by unfold Func.isWrapper; first | (rw [if_pos (by decide +kernel)]; kernel_rfl) | (rw [if_neg (by decide +kernel)]; exact ⟨rfl, rfl⟩))
    (fun os started H enc _ => lifted os started H enc)

end Go.Proofs.Ytcdobhdbafpkiab.storesOnce
namespace Go.Proofs.Ytcdobhdbafpkiab
theorem storesOnce_holds : Rows.StoresOnceSaid := storesOnce.over
#print axioms storesOnce_holds
end Go.Proofs.Ytcdobhdbafpkiab
