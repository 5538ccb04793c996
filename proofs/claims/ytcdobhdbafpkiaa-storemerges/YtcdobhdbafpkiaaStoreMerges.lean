/-
  Proved: for every two lists of entries, store.Merge answers as the document's P1.4 says (the law StoreMerges returns true and leaves its arguments as they were); no condition.
-/
import Derived.Test.YtcdobhdbafpkiaaRows
import Derived.Test.YtcdobhdbafpkiaaSame
import Derived.Test.YtcdobhdbafpkiaaOpen
namespace Go.Proofs.Ytcdobhdbafpkiaa.storeMerges
open Go.ChangeShapes Go.WideShapes Go.ChangeAt Go.RowKit
open Go.ChangeMaps (open_string shut_string)
set_option linter.unusedVariables false

theorem merged_ok (ea eb : List Pl.Ent) : ∀ e ∈ Pl.mergeO ea eb, e.ok := by
  intro e he
  unfold Pl.mergeO at he
  by_cases hc : Pl.mergeC ea eb = 0
  · rw [if_pos hc] at he
    unfold Pl.mergeC at hc
    by_cases ha : Pl.fault ea = 0
    · rw [if_pos ha] at hc
      exact (Pl.mrg_good eb ea [] ((Pl.good_iff ea).1 ha) ((Pl.good_iff eb).1 hc).2.1).ok e he
    · rw [if_neg ha] at hc; exact absurd hc ha
  · rw [if_neg hc] at he; cases he

set_option maxHeartbeats 400000 in
theorem walk (a : Option Addr) (len cap : Nat) (ea : List Pl.Ent) (b : Option Addr) (lenb capb : Nat) (eb : List Pl.Ent) (w : World) (h : IsEnts w a len cap ea) (hn : a = none → cap = 0) (hs : len * 48 ≤ 140737488351232) (h2 : IsEnts w b lenb capb eb) (hn2 : b = none → capb = 0) (hs2 : lenb * 48 ≤ 140737488351232) :
    Calls Try.prog 7 #[.slice a len cap, .slice b lenb capb] w fun e w' => e = .returned (.bool true) ∧ Below w.heap.size w w' := by
  have HH : Hid (IsEnts w a len cap ea) := h
  have HN : Hid (a = none → cap = 0) := hn
  have HB : Hid (IsEnts w b lenb capb eb) := h2
  have HK : Hid (∀ e ∈ Pl.mergeO ea eb, e.ok) := merged_ok ea eb
  have hok := h.2.2.2.1
  have HOK : Hid (∀ e ∈ ea, e.ok) := hok
  clear h hn h2 hn2 hs2 hok
  go_enter Try.func7, Try.ntmps7
  go_wp2_with (at_builtin; refine append_copy rfl (.const (.slice none 0 0)) (.tmp 12) rfl _ _ _ ea rfl rfl HH.out HN.out hs ?_; intro vo w1 hown hb1)
  obtain ⟨ao, cpo, rfl, hE, hno, _⟩ := hown.shape HOK.out
  have HE : Hid (IsEnts w1 ao ea.length cpo ea) := hE
  have HNO : Hid (ao = none → cpo = 0) := hno
  clear hE hno hown
  go_wp2_with fail
  refine (Merge_any _ _ _ ea _ _ _ eb _ HE.out HNO.out (HB.out.below hb1)).mono ?_
  rintro e w2 ⟨vx, vk, rfl, hox, hok, hb2⟩
  have hb12 := hb1.trans (hb2.mono hb1.size)
  have HX := hid hox
  have HXK := hid hok
  clear hox hok
  go_wp2_with fail
  refine (MergedOf_any _ _ _ ea _ _ _ eb _ (HH.out.below hb12) HN.out (HB.out.below hb12)).mono ?_
  rintro e w3 ⟨vy, vm, rfl, hoy, hom, hb3⟩
  have hb13 := hb12.trans (hb3.mono hb12.size)
  obtain ⟨a1, c1, rfl, hE1, _, _⟩ := (HX.out.below hb3).shape HK.out
  obtain ⟨a2, c2, rfl, hE2, _, _⟩ := hoy.shape HK.out
  obtain ⟨a3, c3, rfl, hE3, _, _⟩ := (HXK.out.below hb3).shape
  obtain ⟨a4, c4, rfl, hE4, _, _⟩ := hom.shape
  have E1 := hid hE1
  have E2 := hid hE2
  have E3 := hid hE3
  have E4 := hid hE4
  clear hE1 hE2 hE3 hE4 hoy hom
  go_wp2_with fail
  refine (sameEntries_eq _ _ _ _ _ _ _ E1.out E2.out).mono ?_
  rintro e w4 ⟨rfl, hb4⟩
  go_wp2_with fail
  refine (sameTexts_eq _ _ _ _ _ _ _ (E3.out.below hb4) (E4.out.below hb4)).mono ?_
  rintro e w5 ⟨rfl, hb5⟩
  go_wp2_with fail
  go_ret
  exact ⟨rfl, (hb13.trans (hb4.mono hb13.size)).trans (hb5.mono (Nat.le_trans hb13.size hb4.size))⟩

set_option maxRecDepth 100000 in
theorem lifted (os : Os) (started : os.Started) (H : Type) (enc : TypeId × Value → H) :
    ReturnsInHanded {} Try.checked os 7 .any (Rows.storeMergesSpec.pre6 enc Try.prog Try.f7 Rows.storeMergesRow.domain false) (Rows.storeMergesSpec.post enc Try.prog Try.f7 false true false false) := by
  refine returnsInHanded_of_change_sized (C := Try.checked) own started (by kernel_rfl) Try.func7
    (ChangeSpec.witness6 (enc := enc) (C := Try.checked) false ⟨#[], #[.slice none 0 0, .slice none 0 0], []⟩ 8 (by kernel_rfl) (by kernel_rfl) (by kernel_rfl) (by kernel_rfl)) ?_
  intro W base args ds gs before hval0 hW hcnd hsz0 _
  have hsz : (DataW.weightsEach Try.prog (Try.f7.params.toList ++ Rows.storeMergesSpec.plain.varTypes Try.prog) (ds ++ gs)).all (· ≤ reachBytes) = true := hsz0
  have hval : ∀ (j : Nat) t v, Try.f7.params[j]? = some t → args[j]? = some v → Value.okWide Try.prog W .any base t v := hval0
  have hW' := hW
  obtain ⟨p, q, hA0, hV, rfl, hfz, hnd⟩ := hW
  have hA : DataW.TrodAll enc Try.prog W 0 (fun _ => true) true Try.f7.params.toList args.toList ds p := hA0
  rw [Try.params7] at hA hval hsz
  obtain ⟨v0, vs0, d0, ds0, p0, q0, hargs, rfl, rfl, h0, r0⟩ := trodAll_cons hA
  obtain ⟨v1, vs1, d1, ds1, p1, q1, rfl, rfl, rfl, h1, r1⟩ := trodAll_cons r0
  obtain ⟨rfl, rfl, rfl⟩ := trodAll_nil r1
  obtain rfl : args = #[v0, v1] := by cases args; simp_all
  obtain ⟨rfl, rfl⟩ := trodVars_none hV
  have k0 := h0
  have lt0 : ∀ x ∈ p0, x.block < W.heap.size := by obtain ⟨m, hm⟩ := k0; exact DataW.trod_lt m _ _ _ hm
  obtain ⟨a0, len0, cap0, es0, rfl, w0, n0, e0⟩ := open_ents_sized (hval 0 23 v0 rfl rfl) h0
  have sz0 : len0 * 48 ≤ 140737488351232 := by
    rcases e0 with ⟨_, hz⟩ | ⟨el, sp, hd, hl⟩
    · omega
    · have := sized_slice hsz (j := 0) (t := 23) (e := 28) rfl (by rw [hd]; rfl) Try.underlying23
      rw [show Try.prog.bytesOf 28 = 48 from by kernel_rfl] at this
      simp only [reachBytes] at this
      omega
  have k1 := h1
  have lt1 : ∀ x ∈ p1, x.block < W.heap.size := by obtain ⟨m, hm⟩ := k1; exact DataW.trod_lt m _ _ _ hm
  obtain ⟨a1, len1, cap1, es1, rfl, w1, n1, e1⟩ := open_ents_sized (hval 1 23 v1 rfl rfl) h1
  have sz1 : len1 * 48 ≤ 140737488351232 := by
    rcases e1 with ⟨_, hz⟩ | ⟨el, sp, hd, hl⟩
    · omega
    · have := sized_slice hsz (j := 1) (t := 23) (e := 28) rfl (by rw [hd]; rfl) Try.underlying23
      rw [show Try.prog.bytesOf 28 = 48 from by kernel_rfl] at this
      simp only [reachBytes] at this
      omega
  clear hA0 hval0
  refine (walk a0 len0 cap0 es0 a1 len1 cap1 es1 W w0 n0 sz0 w1 n1 sz1).mono fun e W' ⟨he, bel⟩ => ?_
  subst he
  exact ⟨_, rfl, _, _, _, [], _, [], hW', trodAll_mk1 (shut_bool Try.underlying4 _), (trodAll_cons_mk (Below.trod laidOut (by kernel_rfl) (of_decide_eq_true (by kernel_rfl)) k0 bel lt0) (trodAll_cons_mk (Below.trod laidOut (by kernel_rfl) (of_decide_eq_true (by kernel_rfl)) k1 bel lt1) trodAll_mk0)), rfl, bel.frame _, fun h => by cases h⟩

theorem over : Rows.storeMergesRow.holds Try.pinned (OpenSpec.ofChange Rows.storeMergesSpec) :=
  OpenClaim.holds_of_wide 7 Try.f7 rfl rfl rfl rfl rfl rfl rfl ⟨rfl, rfl, rfl, rfl, rfl⟩ rfl rfl rfl rfl rfl (by kernel_rfl) Try.func7 (by kernel_rfl)
    (of_decide_eq_true (by kernel_rfl)) (by unfold Func.isWrapper; first | (rw [if_pos (by decide +kernel)]; kernel_rfl) | (rw [if_neg (by decide +kernel)]; exact ⟨rfl, rfl⟩))
    (fun os started H enc _ => lifted os started H enc)

end Go.Proofs.Ytcdobhdbafpkiaa.storeMerges
namespace Go.Proofs.Ytcdobhdbafpkiaa
theorem storeMerges_holds : Rows.StoreMergesSaid := storeMerges.over
#print axioms storeMerges_holds
end Go.Proofs.Ytcdobhdbafpkiaa
