/-
  Proved: for every list of entries, node, key and value, store.Put answers as the document's P1.5 says (the law StorePuts returns true and leaves its arguments as they were); no condition.
-/
import Derived.Test.YtcdobhdbafpkiaaRows
import Derived.Test.YtcdobhdbafpkiaaPut
import Derived.Test.YtcdobhdbafpkiaaSame
import Derived.Test.YtcdobhdbafpkiaaOpen
namespace Go.Proofs.Ytcdobhdbafpkiaa.storePuts
open Go.ChangeShapes Go.WideShapes Go.ChangeAt Go.RowKit
open Go.ChangeMaps (open_string shut_string)
set_option linter.unusedVariables false

theorem put_ok (es : List Pl.Ent) (node : Int) (key val : ByteArray) (hn : (Lit.int .i64 node).wf = true) (hk : key.size ≤ maxLen) (hv : val.size ≤ maxLen) : ∀ e ∈ Pl.putO es node key val, e.ok := by
  intro e he
  unfold Pl.putO at he
  by_cases hc : Pl.putC es node key val = 0
  · rw [if_pos hc] at he
    have hf : Pl.fault es = 0 := by
      unfold Pl.putC at hc
      by_cases h : Pl.fault es = 0
      · exact h
      · rw [if_pos h] at hc; exact hc
    have hg := (Pl.good_iff es).1 hf
    rcases Pl.mem_ins he with rfl | he
    · refine ⟨hk, ?_, hn, hv⟩
      show (Lit.int .i64 (Pl.putV es key)).wf = true
      unfold Pl.putV
      cases ht : Pl.there es key
      · exact Go.WalkArith.wf_i64 (by simp)
      · simp only [if_true]
        unfold Pl.there at ht
        simp only [Bool.and_eq_true, decide_eq_true_eq] at ht
        have := hg.2.1 _ (Pl.ent_mem es (Pl.pos es key) ht.1)
        unfold Pl.Ent.may Pl.entB at this
        simp only [Bool.and_eq_true, decide_eq_true_eq] at this
        exact Go.WalkArith.wf_i64 (by have := this.1.1.2; omega)
    · exact Pl.may_ok (hg.2.1 e he)
  · rw [if_neg hc] at he; cases he

set_option maxHeartbeats 400000 in
theorem walk (a : Option Addr) (len cap : Nat) (es : List Pl.Ent) (node : Int) (key val : ByteArray) (w : World) (h : IsEnts w a len cap es) (hn : a = none → cap = 0) (hs : len * 48 ≤ 140737488351232) (h1 : (Lit.int .i64 node).wf = true) (h2 : key.size ≤ maxLen) (h3 : val.size ≤ maxLen) :
    Calls Try.prog 8 #[.slice a len cap, .int .i64 node, .string key, .string val] w fun e w' => e = .returned (.bool true) ∧ Below w.heap.size w w' := by
  have HH := hid h
  have HN := hid hn
  have HK := hid (put_ok es node key val h1 h2 h3)
  have HOK := hid h.2.2.2.1
  have H2 := hid h2
  have H3 := hid h3
  clear h hn h1 h2 h3
  go_enter Try.func8, Try.ntmps8
  go_wp2_with (at_builtin; refine append_copy rfl (.const (.slice none 0 0)) (.tmp 14) rfl _ _ _ es rfl rfl HH.out HN.out hs ?_; intro vo w1 hown hb1)
  obtain ⟨ao, cpo, rfl, hE, hno, _⟩ := hown.shape HOK.out
  have HE := hid hE
  have HNO := hid hno
  clear hE hno hown
  go_wp2_with fail
  refine (Put_any _ _ _ es _ _ _ _ HE.out HNO.out H2.out H3.out).mono ?_
  rintro e w2 ⟨vx, rfl, hox, hb2⟩
  have hb12 := hb1.trans (hb2.mono hb1.size)
  have HX := hid hox
  clear hox
  go_wp2_with fail
  refine (PutOf_any _ _ _ es _ _ _ _ (HH.out.below hb12) H2.out H3.out).mono ?_
  rintro e w3 ⟨vy, rfl, hoy, hb3⟩
  have hb13 := hb12.trans (hb3.mono hb12.size)
  obtain ⟨a1, c1, rfl, hE1, _, _⟩ := (HX.out.below hb3).shape HK.out
  obtain ⟨a2, c2, rfl, hE2, _, _⟩ := hoy.shape HK.out
  have E1 := hid hE1
  have E2 := hid hE2
  clear hE1 hE2 hoy
  go_wp2_with fail
  refine (sameEntries_eq _ _ _ _ _ _ _ E1.out E2.out).mono ?_
  rintro e w4 ⟨rfl, hb4⟩
  go_wp2_with fail
  go_ret
  exact ⟨rfl, hb13.trans (hb4.mono hb13.size)⟩

set_option maxRecDepth 100000 in
theorem lifted (os : Os) (started : os.Started) (H : Type) (enc : TypeId × Value → H) :
    ReturnsInHanded {} Try.checked os 8 .any (Rows.storePutsSpec.pre6 enc Try.prog Try.f8 Rows.storePutsRow.domain false) (Rows.storePutsSpec.post enc Try.prog Try.f8 false true false false) := by
  refine returnsInHanded_of_change_sized (C := Try.checked) own started (by kernel_rfl) Try.func8
    (ChangeSpec.witness6 (enc := enc) (C := Try.checked) false ⟨#[], #[.slice none 0 0, .int .i64 0, .string ByteArray.empty, .string ByteArray.empty], []⟩ 8 (by kernel_rfl) (by kernel_rfl) (by kernel_rfl) (by kernel_rfl)) ?_
  intro W base args ds gs before hval0 hW hcnd hsz0 _
  have hsz : (DataW.weightsEach Try.prog (Try.f8.params.toList ++ Rows.storePutsSpec.plain.varTypes Try.prog) (ds ++ gs)).all (· ≤ reachBytes) = true := hsz0
  have hval : ∀ (j : Nat) t v, Try.f8.params[j]? = some t → args[j]? = some v → Value.okWide Try.prog W .any base t v := hval0
  have hW' := hW
  obtain ⟨p, q, hA0, hV, rfl, hfz, hnd⟩ := hW
  have hA : DataW.TrodAll enc Try.prog W 0 (fun _ => true) true Try.f8.params.toList args.toList ds p := hA0
  rw [Try.params8] at hA hval hsz
  obtain ⟨v0, vs0, d0, ds0, p0, q0, hargs, rfl, rfl, h0, r0⟩ := trodAll_cons hA
  obtain ⟨v1, vs1, d1, ds1, p1, q1, rfl, rfl, rfl, h1, r1⟩ := trodAll_cons r0
  obtain ⟨v2, vs2, d2, ds2, p2, q2, rfl, rfl, rfl, h2, r2⟩ := trodAll_cons r1
  obtain ⟨v3, vs3, d3, ds3, p3, q3, rfl, rfl, rfl, h3, r3⟩ := trodAll_cons r2
  obtain ⟨rfl, rfl, rfl⟩ := trodAll_nil r3
  obtain rfl : args = #[v0, v1, v2, v3] := by cases args; simp_all
  obtain ⟨rfl, rfl⟩ := trodVars_none hV
  have k0 := h0
  have lt0 : ∀ x ∈ p0, x.block < W.heap.size := by obtain ⟨m, hm⟩ := k0; exact DataW.trod_lt m _ _ _ hm
  obtain ⟨a0, len0, cap0, es0, rfl, w0, n0, e0⟩ := open_ents_sized (hval 0 23 v0 rfl rfl) h0
  have sz0 : len0 * 48 ≤ 140737488351232 := by
    rcases e0 with ⟨_, hz⟩ | ⟨el, sp, hd, hl⟩
    · omega
    · have := sized_slice hsz (j := 0) (t := 23) (e := 28) rfl (by rw [hd]; rfl) Try.underlying23
      rw [show Try.prog.bytesOf 28 = 48 from by kernel_rfl] at this
      simp only [reachBytes] at this
      omega
  have k1 := h1
  have lt1 : ∀ x ∈ p1, x.block < W.heap.size := by obtain ⟨m, hm⟩ := k1; exact DataW.trod_lt m _ _ _ hm
  obtain ⟨a1, rfl, _, _, w1⟩ := open_int Try.underlying3 (hval 1 3 v1 rfl rfl) h1
  have k2 := h2
  have lt2 : ∀ x ∈ p2, x.block < W.heap.size := by obtain ⟨m, hm⟩ := k2; exact DataW.trod_lt m _ _ _ hm
  obtain ⟨a2, rfl, _, _, w2⟩ := open_string Try.underlying9 (hval 2 9 v2 rfl rfl) h2
  have k3 := h3
  have lt3 : ∀ x ∈ p3, x.block < W.heap.size := by obtain ⟨m, hm⟩ := k3; exact DataW.trod_lt m _ _ _ hm
  obtain ⟨a3, rfl, _, _, w3⟩ := open_string Try.underlying9 (hval 3 9 v3 rfl rfl) h3
  clear hA0 hval0
  refine (walk a0 len0 cap0 es0 a1 a2 a3 W w0 n0 sz0 w1 w2 w3).mono fun e W' ⟨he, bel⟩ => ?_
  subst he
  exact ⟨_, rfl, _, _, _, [], _, [], hW', trodAll_mk1 (shut_bool Try.underlying4 _), (trodAll_cons_mk (Below.trod laidOut (by kernel_rfl) (of_decide_eq_true (by kernel_rfl)) k0 bel lt0) (trodAll_cons_mk (Below.trod laidOut (by kernel_rfl) (of_decide_eq_true (by kernel_rfl)) k1 bel lt1) (trodAll_cons_mk (Below.trod laidOut (by kernel_rfl) (of_decide_eq_true (by kernel_rfl)) k2 bel lt2) (trodAll_cons_mk (Below.trod laidOut (by kernel_rfl) (of_decide_eq_true (by kernel_rfl)) k3 bel lt3) trodAll_mk0)))), rfl, bel.frame _, fun h => by cases h⟩

theorem over : Rows.storePutsRow.holds Try.pinned (OpenSpec.ofChange Rows.storePutsSpec) :=
  OpenClaim.holds_of_wide 8 Try.f8 rfl rfl rfl rfl rfl rfl rfl ⟨rfl, rfl, rfl, rfl, rfl⟩ rfl rfl rfl rfl rfl (by kernel_rfl) Try.func8 (by kernel_rfl)
    (of_decide_eq_true (by kernel_rfl)) (by unfold Func.isWrapper; first | (rw [if_pos (by decide +kernel)]; kernel_rfl) | (rw [if_neg (by decide +kernel)]; exact ⟨rfl, rfl⟩))
    (fun os started H enc _ => lifted os started H enc)

end Go.Proofs.Ytcdobhdbafpkiaa.storePuts
namespace Go.Proofs.Ytcdobhdbafpkiaa
theorem storePuts_holds : Rows.StorePutsSaid := storePuts.over
#print axioms storePuts_holds
end Go.Proofs.Ytcdobhdbafpkiaa
