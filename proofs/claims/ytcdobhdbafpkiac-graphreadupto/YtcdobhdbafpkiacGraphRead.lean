/-
  Proved: for every text of at most some million letters, graph.ReadPrefixes answers as the document's P2.3 says (the law GraphRead returns true and leaves its argument as it was); the condition: what it reads is of bulk at most 1048576 (the second form).
-/
import Derived.Test.YtcdobhdbafpkiacRows
import Derived.Test.YtcdobhdbafpkiacReadP
import Derived.Test.YtcdobhdbafpkiacOpenB
import Derived.JoinedCond
namespace Go.Proofs.Ytcdobhdbafpkiac.graphRead
open Go.ChangeShapes Go.WideShapes Go.ChangeAt Go.RowKit
open Go.ChangeMaps (open_string shut_string)
set_option linter.unusedVariables false

theorem size_bulk {H : Type} (a : ByteArray) : Rows.uptoBulk (DataW.lit (H := H) (.string a.data.toList)) = a.size + 1 := by
  simp [Rows.uptoBulk]

set_option maxHeartbeats 1000000 in
theorem walk (s : ByteArray) (w : World) (hs : s.size ≤ 1048576) :
    Calls Try.prog 4 #[.string s] w fun e w' => e = .returned (.bool true) ∧ Below w.heap.size w w' := by
  obtain ⟨rc, HRC⟩ : ∃ x, Hid (Pl.rpC s.data.toList = x) := ⟨_, rfl⟩
  obtain ⟨rs, HRS⟩ : ∃ x, Hid (Pl.rpS s.data.toList = x) := ⟨_, rfl⟩
  have HOK : Hid (∀ p ∈ rs, Pl.pairOk p) := hid fun p hp => Pl.rpS_ok s.data.toList p (HRS.out ▸ hp)
  go_enter Try.func4, Try.ntmps4
  go_wp2_with fail
  refine (ReadPrefixes_any s _ (by omega)).mono ?_
  rw [HRC.out, HRS.out]
  rintro e w1 ⟨v1, rfl, ho1, hb1⟩
  obtain ⟨a1, cap1, rfl, hp1, _, _⟩ := OwnP.shape ho1 HOK.out
  have HP1 := hid hp1
  clear hp1 ho1
  go_wp2_with fail
  refine (PrefixesOf_any s _ (by omega)).mono ?_
  rw [HRC.out, HRS.out]
  rintro e w2 ⟨v2, rfl, ho2, hb2⟩
  obtain ⟨a2, cap2, rfl, hp2, _, _⟩ := OwnP.shape ho2 HOK.out
  have HP2 := hid hp2
  clear hp2 ho2
  go_wp2_with fail
  refine (samePrefixes_eq a1 rs.length cap1 rs a2 cap2 _ (HP1.out.below hb2) HP2.out).mono ?_
  rintro e w3 ⟨rfl, hb3⟩
  go_wp2_with fail
  go_ret
  exact ⟨ret_bool (by simp), hb1.trans ((hb2.mono hb1.size).trans (hb3.mono (Nat.le_trans hb1.size hb2.size)))⟩

theorem contract (H : Type) (enc : TypeId × Value → H) (W : World) (base : Nat) (args : Array Value) (ds gs : List (DataW H)) (before : List MemPlace)
    (hval : ∀ (j : Nat) t v, Try.f4.params[j]? = some t → args[j]? = some v → Value.okWide Try.prog W .any base t v)
    (hW : DataW.Whole enc Try.prog Try.f4.params.toList Rows.graphReadSpec.vars false W args.toList ds gs before) (hk : Rows.uptoSmall H (ds ++ gs) = true) :
    Calls Try.prog 4 args W fun e W' => ∃ v, e = .returned v ∧ Rows.graphReadSpec.post enc Try.prog Try.f4 false true false false W args v W' := by
  have hbulk : Rows.uptoBulkAll (ds ++ gs) ≤ 1048576 := of_decide_eq_true hk
  have hW' := hW
  obtain ⟨p, q, hA0, hV, rfl, hfz, hnd⟩ := hW
  have hA : DataW.TrodAll enc Try.prog W 0 (fun _ => true) true Try.f4.params.toList args.toList ds p := hA0
  rw [Try.params4] at hA hval
  obtain ⟨v0, vs0, d0, ds0, p0, q0, hargs, rfl, rfl, h0, r0⟩ := trodAll_cons hA
  obtain ⟨rfl, rfl, rfl⟩ := trodAll_nil r0
  obtain rfl : args = #[v0] := by cases args; simp_all
  obtain ⟨rfl, rfl⟩ := trodVars_none hV
  simp only [List.append_nil, Rows.uptoBulkAll, Nat.add_zero] at hbulk
  have k0 := h0
  have lt0 : ∀ x ∈ p0, x.block < W.heap.size := by obtain ⟨m, hm⟩ := k0; exact DataW.trod_lt m _ _ _ hm
  obtain ⟨a0, rfl, e0, _, w0⟩ := open_string Try.underlying9 (hval 0 9 v0 rfl rfl) h0
  have b0 : a0.size ≤ 1048576 := by
    rw [e0] at hbulk
    have := size_bulk (H := H) a0
    omega
  clear hA0
  refine (walk a0 W b0).mono fun e W' ⟨he, bel⟩ => ?_
  subst he
  exact ⟨_, rfl, _, _, _, [], _, [], hW', trodAll_mk1 (shut_bool Try.underlying4 _), (trodAll_cons_mk (Below.trod laidOut (by kernel_rfl) (of_decide_eq_true (by kernel_rfl)) k0 bel lt0) trodAll_mk0), rfl, bel.frame _, fun h => by cases h⟩

set_option maxRecDepth 100000 in
theorem lifted (os : Os) (started : os.Started) (H : Type) (enc : TypeId × Value → H) (F : Stop.Interp) :
    ReturnsInHanded {} Try.checked os 4 .any ((Rows.OpenSpec.upto Rows.graphReadSpec).pre6 enc Try.prog Try.f4 Rows.graphReadUptoRow.domain false) (((Rows.OpenSpec.upto Rows.graphReadSpec).at F).post enc Try.prog Try.f4 false true false false) := by
  refine returnsInHanded_of_cond (C := Try.checked) (s := Rows.OpenSpec.upto Rows.graphReadSpec) (k := Rows.uptoSmall) rfl own started (by kernel_rfl) Try.func4
    (OpenSpec.witness (enc := enc) (C := Try.checked) (s := Rows.OpenSpec.upto Rows.graphReadSpec) (k := Rows.uptoSmall) rfl false ⟨#[], #[.string ByteArray.empty], []⟩ 8 (by kernel_rfl) (by kernel_rfl) (by kernel_rfl)
      (x := ([.lit (.string [])], [], [])) (by kernel_rfl) rfl (by kernel_rfl)) ?_
  intro W base args ds gs before hval hW _ hk _
  exact contract H enc W base args ds gs before hval hW hk

theorem over : Rows.graphReadUptoRow.holds Try.pinned (Rows.OpenSpec.upto Rows.graphReadSpec) :=
  OpenClaim.holds_of_cond 4 Try.f4 rfl rfl rfl rfl rfl rfl rfl ⟨rfl, rfl, rfl, rfl, rfl⟩ rfl rfl rfl rfl rfl (by kernel_rfl) Try.func4 (by kernel_rfl)
    (of_decide_eq_true (by kernel_rfl)) (by unfold Func.isWrapper; first | (rw [if_pos (by decide +kernel)]; kernel_rfl) | (rw [if_neg (by decide +kernel)]; exact ⟨rfl, rfl⟩))
    (fun os started H enc _ F => lifted os started H enc F)

end Go.Proofs.Ytcdobhdbafpkiac.graphRead
namespace Go.Proofs.Ytcdobhdbafpkiac
theorem graphRead_upto : Rows.GraphReadUptoSaid := graphRead.over
#print axioms graphRead_upto
end Go.Proofs.Ytcdobhdbafpkiac
