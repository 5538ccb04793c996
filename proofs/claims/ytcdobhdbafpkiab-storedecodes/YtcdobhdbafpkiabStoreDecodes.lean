/-
  Proved: for every slice of bytes, store.Decode answers as the document's P1.7 says (the law StoreDecodes returns true and leaves its argument as it was); no condition but the frame's own bound on how much memory the argument takes.
-/
import Derived.Test.YtcdobhdbafpkiabRows
import Derived.Test.YtcdobhdbafpkiabDec6
import Derived.Test.YtcdobhdbafpkiabRef5
import Derived.Test.YtcdobhdbafpkiabSameE
import Derived.Test.YtcdobhdbafpkiabBOpen
namespace Go.Proofs.Ytcdobhdbafpkiab.storeDecodes
open Go.ChangeShapes Go.WideShapes Go.ChangeAt Go.RowKit
open Go.ChangeMaps (open_string shut_string)
set_option linter.unusedVariables false

set_option maxHeartbeats 400000 in
theorem walk (a : Option Addr) (len cap : Nat) (bs : List UInt8) (w : World) (h : IsBytes w a len cap bs) (hn : a = none → cap = 0) (hs : len * 1 ≤ 140737488351232) :
    Calls Try.prog 4 #[.slice a len cap] w fun e w' => e = .returned (.bool true) ∧ Below w.heap.size w w' := by
  have HH := hid h
  have HN := hid hn
  have HS : Hid (0 + len ≤ 140737488355328) := by show _ ≤ _; omega
  clear h hn hs
  have HK : Hid (∀ e ∈ Pl.decO bs, e.ok) := by
    show ∀ e ∈ Pl.decO bs, e.ok
    unfold Pl.decO
    split
    · exact Pl.rdL_ok _
    · intro e he; cases he
  have HDE := hid (fun a len cap W h => Decode_any a len cap bs W h)
  have HSO := hid (fun a len cap W h => StoreOf_any a len cap bs W h)
  generalize Pl.decC bs = c at *
  generalize Pl.decO bs = l at *
  go_enter Try.func4, Try.ntmps4
  go_wp2_with (at_builtin; refine append_bs rfl (.const (.slice none 0 0)) (.tmp 8) rfl w.heap.size _ [] _ _ _ bs rfl (OwnB.nil _ _) (Nat.le_refl _) rfl HH.out HN.out HS.out ?_; intro vo w1 hown hk1)
  rw [List.nil_append] at hown
  obtain ⟨ao, cpo, rfl, hE, _, _⟩ := hown.shape
  have HE := hid hE
  have HB1 := hid hk1.1
  clear hE hown hk1
  go_wp2_with fail
  refine (HDE.out _ _ _ _ HE.out).mono ?_
  rintro e w2 ⟨vx, rfl, hox, hb2⟩
  have HX := hid hox
  have HB2 := hid (HB1.out.trans (hb2.mono HB1.out.size))
  clear hox hb2
  go_wp2_with fail
  refine (HSO.out _ _ _ _ (HH.out.below HB2.out)).mono ?_
  rintro e w3 ⟨vy, rfl, hoy, hb3⟩
  obtain ⟨a1, c1, rfl, hE1, _, _⟩ := (HX.out.below hb3).shape HK.out
  obtain ⟨a2, c2, rfl, hE2, _, _⟩ := hoy.shape HK.out
  have E1 := hid hE1
  have E2 := hid hE2
  have HB3 := hid (HB2.out.trans (hb3.mono HB2.out.size))
  clear hE1 hE2 hoy hb3
  go_wp2_with fail
  refine (sameEntries_eq _ _ _ _ _ _ _ E1.out E2.out).mono ?_
  rintro e w4 ⟨rfl, hb4⟩
  have HB4 := hid (HB3.out.trans (hb4.mono HB3.out.size))
  clear hb4
  go_wp2_with fail
  go_ret
  exact ⟨rfl, HB4.out⟩

set_option maxRecDepth 100000 in
theorem lifted (os : Os) (started : os.Started) (H : Type) (enc : TypeId × Value → H) :
    ReturnsInHanded {} Try.checked os 4 .any (Rows.storeDecodesSpec.pre6 enc Try.prog Try.f4 Rows.storeDecodesRow.domain false) (Rows.storeDecodesSpec.post enc Try.prog Try.f4 false true false false) := by
  refine returnsInHanded_of_change_sized (C := Try.checked) own started (by kernel_rfl) Try.func4
    (ChangeSpec.witness6 (enc := enc) (C := Try.checked) false ⟨#[], #[.slice none 0 0], []⟩ 8 (by kernel_rfl) (by kernel_rfl) (by kernel_rfl) (by kernel_rfl)) ?_
  intro W base args ds gs before hval0 hW hcnd hsz0 _
  have hsz : (DataW.weightsEach Try.prog (Try.f4.params.toList ++ Rows.storeDecodesSpec.plain.varTypes Try.prog) (ds ++ gs)).all (· ≤ reachBytes) = true := hsz0
  have hval : ∀ (j : Nat) t v, Try.f4.params[j]? = some t → args[j]? = some v → Value.okWide Try.prog W .any base t v := hval0
  have hW' := hW
  obtain ⟨p, q, hA0, hV, rfl, hfz, hnd⟩ := hW
  have hA : DataW.TrodAll enc Try.prog W 0 (fun _ => true) true Try.f4.params.toList args.toList ds p := hA0
  rw [Try.params4] at hA hval hsz
  obtain ⟨v0, vs0, d0, ds0, p0, q0, hargs, rfl, rfl, h0, r0⟩ := trodAll_cons hA
  obtain ⟨rfl, rfl, rfl⟩ := trodAll_nil r0
  obtain rfl : args = #[v0] := by cases args; simp_all
  obtain ⟨rfl, rfl⟩ := trodVars_none hV
  have k0 := h0
  have lt0 : ∀ x ∈ p0, x.block < W.heap.size := by obtain ⟨m, hm⟩ := k0; exact DataW.trod_lt m _ _ _ hm
  obtain ⟨a0, len0, cap0, es0, rfl, w0, n0, e0⟩ := open_bytes_sized (hval 0 23 v0 rfl rfl) h0
  have sz0 : len0 * 1 ≤ 140737488351232 := by
    rcases e0 with ⟨_, hz⟩ | ⟨el, sp, hd, hl⟩
    · omega
    · have := sized_slice hsz (j := 0) (t := 23) (e := 5) rfl (by rw [hd]; rfl) Try.underlying23
      rw [show Try.prog.bytesOf 5 = 1 from by kernel_rfl] at this
      simp only [reachBytes] at this
      omega
  clear hA0 hval0
  refine (walk a0 len0 cap0 es0 W w0 n0 sz0).mono fun e W' ⟨he, bel⟩ => ?_
  subst he
  exact ⟨_, rfl, _, _, _, [], _, [], hW', trodAll_mk1 (shut_bool Try.underlying4 _), (trodAll_cons_mk (Below.trod laidOut (by kernel_rfl) (of_decide_eq_true (by kernel_rfl)) k0 bel lt0) trodAll_mk0), rfl, bel.frame _, fun h => by cases h⟩

theorem over : Rows.storeDecodesRow.holds Try.pinned (OpenSpec.ofChange Rows.storeDecodesSpec) :=
  OpenClaim.holds_of_wide 4 Try.f4 rfl rfl rfl rfl rfl rfl rfl ⟨rfl, rfl, rfl, rfl, rfl⟩ rfl rfl rfl rfl rfl (by kernel_rfl) Try.func4 (by kernel_rfl)
    (of_decide_eq_true (by kernel_rfl)) (by unfold Func.isWrapper; first | (rw [if_pos (by decide +kernel)]; kernel_rfl) | (rw [if_neg (by decide +kernel)]; exact ⟨rfl, rfl⟩))
    (fun os started H enc _ => lifted os started H enc)

end Go.Proofs.Ytcdobhdbafpkiab.storeDecodes
namespace Go.Proofs.Ytcdobhdbafpkiab
theorem storeDecodes_holds : Rows.StoreDecodesSaid := storeDecodes.over
#print axioms storeDecodes_holds
end Go.Proofs.Ytcdobhdbafpkiab
