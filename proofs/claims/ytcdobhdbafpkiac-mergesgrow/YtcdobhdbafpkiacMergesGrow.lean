/-
  Proved: for every two lists of raw things, what is merged is never less than it was (the law MergesGrow returns true and leaves its arguments as they were); no condition.
-/
import Derived.Test.YtcdobhdbafpkiacRows
import Derived.Test.YtcdobhdbafpkiacTells
import Derived.Test.YtcdobhdbafpkiacGet
import Derived.Test.YtcdobhdbafpkiacCmp
import Derived.Test.YtcdobhdbafpkiacROpen
namespace Go.Proofs.Ytcdobhdbafpkiac.mergesGrow
open Go.ChangeShapes Go.WideShapes Go.ChangeAt Go.RowKit
open Go.ChangeMaps (open_string shut_string)
set_option linter.unusedVariables false

theorem grows {x y : List Pl.Ent} (hx : Pl.Good x) (hy : Pl.Good y) {e : Pl.Ent} (he : e ∈ x) : Pl.gotC (Pl.mergeO x y) e.key = 0 ∧ Pl.geE (Pl.gotE (Pl.mergeO x y) e.key) e := by
  obtain ⟨_, ho, hg⟩ := Pl.merge_good hx hy
  have hf := (Pl.good_iff _).2 hg
  obtain ⟨g, h1, h2⟩ := Pl.mrg_grow y x [] e.key e e hx.2.2 (Pl.look_mem hx.2.2 he) (Pl.geE_refl e)
  rw [← ho] at h1
  unfold Pl.gotC Pl.gotE
  rw [if_pos hf, if_pos hf]
  rcases Pl.there_look e.key hg.2.2 with ⟨t1, t2⟩ | ⟨t1, t2⟩
  · rw [if_pos t1, if_pos t1]
    rw [h1] at t2
    cases t2
    exact ⟨rfl, h2⟩
  · rw [h1] at t2; cases t2

set_option maxHeartbeats 1000000 in
theorem walk (a : Option Addr) (len cap : Nat) (b : Option Addr) (lenb capb : Nat) (w : World) (h : IsRaws w a len cap) (h2 : IsRaws w b lenb capb) :
    Calls Try.prog 6 #[.slice a len cap, .slice b lenb capb] w fun e w' => e = .returned (.bool true) ∧ Below w.heap.size w w' := by
  have HH := hid h
  have HB := hid h2
  clear h h2
  go_enter Try.func6, Try.ntmps6
  go_wp2_with fail
  refine (StoreTells_any _).mono ?_
  rintro e w1 ⟨rfl, hb1⟩
  have HB1 := hid hb1
  have HST := hid (Store_any _ _ _ 20 _ (HH.out.below hb1) (by omega))
  clear hb1
  go_wp2_with fail
  refine HST.out.mono ?_
  rintro e w2 ⟨v2, xs, rfl, hox, hgx, hlx, _, hb2⟩
  obtain ⟨ax, cx, rfl, hEx, hnx, _⟩ := hox.shape hgx.ok
  have HX := hid hEx
  have HNX := hid hnx
  have HGX := hid hgx
  have HB2 := hid (HB1.out.trans (hb2.mono HB1.out.size))
  have HST2 := hid (Store_any _ _ _ 20 _ (HB.out.below HB2.out) (by omega))
  clear hox hEx hnx hgx hb2
  go_wp2_with fail
  refine HST2.out.mono ?_
  rintro e w3 ⟨v3, ys, rfl, hoy, hgy, hly, _, hb3⟩
  obtain ⟨ay, cy, rfl, hEy, _, _⟩ := hoy.shape hgy.ok
  have HY := hid hEy
  have HGY := hid hgy
  have HX3 := hid (HX.out.below hb3)
  have HB3 := hid (HB2.out.trans (hb3.mono HB2.out.size))
  have HGM := hid (Pl.merge_good HGX.out hgy)
  have HGR := hid (fun e he => grows HGX.out hgy (e := e) he)
  have hml : xs.length ≤ (Pl.mergeO xs ys).length := by rw [HGM.out.2.1]; exact Pl.mrg_len _ _ _
  clear hoy hEy hgy hb3
  go_wp2_with fail
  refine (merged_any _ _ _ xs _ _ _ ys _ HX3.out HNX.out HY.out).mono ?_
  rintro e w4 ⟨v4, rfl, hom, hb4⟩
  obtain ⟨am, cm, rfl, hEm, _, _⟩ := hom.shape HGM.out.2.2.ok
  have HM := hid hEm
  have HX4 := hid (HX3.out.below hb4)
  have HB4 := hid (HB3.out.trans (hb4.mono HB3.out.size))
  clear hom hEm hb4
  generalize Pl.mergeO xs ys = ms at *
  have hcx := HX4.out.2.1
  have hmx := HX4.out.2.2.1
  unfold maxLen at hmx
  go_wp2
  go_loopw [21] (fun i wr => ∃ k : Nat, k ≤ xs.length ∧ i = .int .i64 k ∧ Hid (Below w4.heap.size w4 wr)) (fun i _ => xs.length - (intOf i).toNat)
  case atStart => exact ⟨0, Nat.zero_le _, rfl, Below.refl _ _⟩
  case round =>
    obtain ⟨k, hk, rfl, HBR⟩ := hrel
    by_cases hlt : k < xs.length
    · obtain ⟨bx, ox, rfl, hbx, hrx⟩ : ∃ b0 off, ax = some ⟨b0, off, none⟩ ∧ b0 < w4.heap.size ∧ RowAt w4 b0 off xs := by
        rcases HX4.out.2.2.2.2 with h | h
        · rw [h] at hlt; simp at hlt
        · exact h
      obtain ⟨q0, q1, q2, q3⟩ := hrx.below hbx HBR.out k hlt
      have HGK := hid (HGR.out (Pl.ent xs k) (Pl.ent_mem xs k hlt))
      generalize Pl.ent xs k = x at *
      obtain ⟨xk, xv, xo, xx⟩ := x
      simp only at q0 q1 q2 q3 HGK
      have hz := HBR.out.size
      have HGET := hid (fun W h => Get_any am ms.length cm ms xk W h)
      rw [HGK.out.1] at HGET
      have HGE := hid HGK.out.2
      generalize Pl.gotE ms xk = g at *
      obtain ⟨gk, gv, go, gx⟩ := g
      have HCMP := hid (fun W => Compare_any gk xk gv go xv xo gx xx W)
      have hge : 0 ≤ Pl.cmpE gv go gx xv xo xx := HGE.out
      generalize Pl.cmpE gv go gx xv xo xx = cc at *
      simp only at HGET
      go_wp2_with fail
      refine (HGET.out _ ((HM.out.below HBR.out).below ((Below.refl _ _).alloc (Nat.le_refl _) _))).mono ?_
      rintro e w5 ⟨rfl, hb5⟩
      have hq5 : Below (wr.heap.size + 1) _ w5 := hb5.mono (by simp)
      obtain ⟨x0, x1, x2, x3⟩ := box4 hq5
      have hz5 := hb5.size
      simp at hz5
      have hz5' : wr.heap.size < w5.heap.size := by omega
      have HB5 := hid ((HBR.out.alloc HBR.out.size _).trans (hb5.mono (by simp; omega)))
      clear hb5 hq5 q0 q1 q2 q3
      go_wp2_with fail
      refine (HCMP.out _).mono ?_
      rintro e w6 ⟨rfl, hb6⟩
      have HB6 := hid hb6
      have hncc : ¬ cc < 0 := by omega
      clear hb6
      go_wp2_with fail
      go_roundw
      case rel => exact ⟨k + 1, by omega, by go_num, (HB5.out.alloc HB5.out.size _).trans (HB6.out.mono (by have := HB5.out.size; simp; omega))⟩
      case measure => simp [intOf]; omega
    · obtain rfl : k = xs.length := by omega
      have hmli : (xs.length : Int) ≤ (ms.length : Int) := by omega
      go_wp2
      go_ret
      exact ⟨ret_bool (by simp), HB4.out.trans (HBR.out.mono HB4.out.size)⟩

set_option maxRecDepth 100000 in
theorem lifted (os : Os) (started : os.Started) (H : Type) (enc : TypeId × Value → H) :
    ReturnsInHanded {} Try.checked os 6 .any (Rows.mergesGrowSpec.pre6 enc Try.prog Try.f6 Rows.mergesGrowRow.domain false) (Rows.mergesGrowSpec.post enc Try.prog Try.f6 false true false false) := by
  refine returnsInHanded_of_change (C := Try.checked) own started (by kernel_rfl) Try.func6
    (ChangeSpec.witness6 (enc := enc) (C := Try.checked) false ⟨#[], #[.slice none 0 0, .slice none 0 0], []⟩ 8 (by kernel_rfl) (by kernel_rfl) (by kernel_rfl) (by kernel_rfl)) ?_
  intro W base args ds gs before hval0 hW hcnd _
  have hval : ∀ (j : Nat) t v, Try.f6.params[j]? = some t → args[j]? = some v → Value.okWide Try.prog W .any base t v := hval0
  have hW' := hW
  obtain ⟨p, q, hA0, hV, rfl, hfz, hnd⟩ := hW
  have hA : DataW.TrodAll enc Try.prog W 0 (fun _ => true) true Try.f6.params.toList args.toList ds p := hA0
  rw [Try.params6] at hA hval
  obtain ⟨v0, vs0, d0, ds0, p0, q0, hargs, rfl, rfl, h0, r0⟩ := trodAll_cons hA
  obtain ⟨v1, vs1, d1, ds1, p1, q1, rfl, rfl, rfl, h1, r1⟩ := trodAll_cons r0
  obtain ⟨rfl, rfl, rfl⟩ := trodAll_nil r1
  obtain rfl : args = #[v0, v1] := by cases args; simp_all
  obtain ⟨rfl, rfl⟩ := trodVars_none hV
  have k0 := h0
  have lt0 : ∀ x ∈ p0, x.block < W.heap.size := by obtain ⟨m, hm⟩ := k0; exact DataW.trod_lt m _ _ _ hm
  obtain ⟨a0, len0, cap0, rfl, w0⟩ := open_raws (hval 0 30 v0 rfl rfl) h0
  have k1 := h1
  have lt1 : ∀ x ∈ p1, x.block < W.heap.size := by obtain ⟨m, hm⟩ := k1; exact DataW.trod_lt m _ _ _ hm
  obtain ⟨a1, len1, cap1, rfl, w1⟩ := open_raws (hval 1 30 v1 rfl rfl) h1
  clear hA0 hval0
  refine (walk a0 len0 cap0 a1 len1 cap1 W w0 w1).mono fun e W' ⟨he, bel⟩ => ?_
  subst he
  exact ⟨_, rfl, _, _, _, [], _, [], hW', trodAll_mk1 (shut_bool Try.underlying4 _), (trodAll_cons_mk (Below.trod laidOut (by kernel_rfl) (of_decide_eq_true (by kernel_rfl)) k0 bel lt0) (trodAll_cons_mk (Below.trod laidOut (by kernel_rfl) (of_decide_eq_true (by kernel_rfl)) k1 bel lt1) trodAll_mk0)), rfl, bel.frame _, fun h => by cases h⟩

theorem over : Rows.mergesGrowRow.holds Try.pinned (OpenSpec.ofChange Rows.mergesGrowSpec) :=
  OpenClaim.holds_of_wide 6 Try.f6 rfl rfl rfl rfl rfl rfl rfl ⟨rfl, rfl, rfl, rfl, rfl⟩ rfl rfl rfl rfl rfl (by kernel_rfl) Try.func6 (by kernel_rfl)
    (of_decide_eq_true (by kernel_rfl)) (by unfold Func.isWrapper; first | (rw [if_pos (by decide +kernel)]; kernel_rfl) | (rw [if_neg (by decide +kernel)]; exact ⟨rfl, rfl⟩))
    (fun os started H enc _ => lifted os started H enc)

end Go.Proofs.Ytcdobhdbafpkiac.mergesGrow
namespace Go.Proofs.Ytcdobhdbafpkiac
theorem mergesGrow_holds : Rows.MergesGrowSaid := mergesGrow.over
#print axioms mergesGrow_holds
end Go.Proofs.Ytcdobhdbafpkiac
