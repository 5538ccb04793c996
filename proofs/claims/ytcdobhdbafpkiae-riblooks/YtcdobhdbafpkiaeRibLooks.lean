/-
  Proved: for every list of routes and every number, rib.Lookup answers as the document's P3.3 says (the law RibLooks returns true and leaves its arguments as they were); no condition.
-/
import Derived.Test.YtcdobhdbafpkiaeRows
import Derived.Test.YtcdobhdbafpkiaeRib8
import Derived.Test.YtcdobhdbafpkiaeRib9
import Derived.Test.YtcdobhdbafpkiaeRibOpen
namespace Go.Proofs.Ytcdobhdbafpkiae.ribLooks
open Go.ChangeShapes Go.WideShapes Go.ChangeAt Go.RowKit
open Go.ChangeMaps (open_string shut_string)
set_option linter.unusedVariables false

theorem walk (a : Option Addr) (len cap : Nat) (hs : List Pl.RH) (rs : List Pl.Rt) (addr : Int) (w : World) (h : IsRows w a len cap hs) (hd : ReadsAll w hs rs) (_ : (Lit.int .i64 addr).wf = true) :
    Calls Try.prog 4 #[.slice a len cap, .int .i64 addr] w fun e w' => e = .returned (.bool true) ∧ Below w.heap.size w w' := by
  have HH := hid h
  have HD := hid hd
  clear h hd
  go_enter Try.func4, Try.ntmps4
  go_wp2_with fail
  refine (Lookup_any _ _ _ hs rs addr _ HH.out HD.out).mono ?_
  rintro e w1 ⟨g1, rfl, hr1, hb1⟩
  have HB1 := hid hb1
  have HR1 := hid hr1
  clear hb1 hr1
  go_wp2_with fail
  have HB2 := hid (HB1.out.alloc HB1.out.size (.cells #[.int .i64 g1.p.1, .int .i64 g1.p.2, .bool g1.here, .int .i64 g1.cost, .slice g1.ha g1.hl g1.hc] 30))
  refine (FoundOf_any _ _ _ hs rs addr _ (HH.out.below HB2.out) (HD.out.below HB2.out)).mono ?_
  rintro e w2 ⟨g2, rfl, hr2, hb2⟩
  obtain ⟨⟨x0, x1, x2, x3, x4⟩, hx, hbb⟩ := box5 (by simpa using hb2)
  have HR2 := hid hr2
  have HB3 := hid hbb
  have HB4 := hid (HB1.out.trans (hbb.mono HB1.out.size))
  clear hr2 hb2 hbb
  go_wp2_with (go_at_call 11; refine (sameRoute_law g1 g2 (Pl.lookR rs addr) _ ((HR1.out.below HB3.out).below ((Below.refl _ _).alloc (Nat.le_refl _) _)) (HR2.out.below ((Below.refl _ _).alloc (Nat.le_refl _) _))).mono ?_; rintro e w3 ⟨rfl, hb3⟩)
  go_ret
  exact ⟨rfl, (HB4.out.alloc HB4.out.size _).trans (hb3.mono (by have := HB4.out.size; simp; omega))⟩

set_option maxRecDepth 100000 in
theorem lifted (os : Os) (started : os.Started) (H : Type) (enc : TypeId × Value → H) :
    ReturnsInHanded {} Try.checked os 4 .any (Rows.ribLooksSpec.pre6 enc Try.prog Try.f4 Rows.ribLooksRow.domain false) (Rows.ribLooksSpec.post enc Try.prog Try.f4 false true false false) := by
  refine returnsInHanded_of_change (C := Try.checked) own started (by kernel_rfl) Try.func4
    (ChangeSpec.witness6 (enc := enc) (C := Try.checked) false ⟨#[], #[.slice none 0 0, .int .i64 0], []⟩ 8 (by kernel_rfl) (by kernel_rfl) (by kernel_rfl) (by kernel_rfl)) ?_
  intro W base args ds gs before hval0 hW hcnd _
  have hval : ∀ (j : Nat) t v, Try.f4.params[j]? = some t → args[j]? = some v → Value.okWide Try.prog W .any base t v := hval0
  have hW' := hW
  obtain ⟨p, q, hA0, hV, rfl, hfz, hnd⟩ := hW
  have hA : DataW.TrodAll enc Try.prog W 0 (fun _ => true) true Try.f4.params.toList args.toList ds p := hA0
  rw [Try.params4] at hA hval
  obtain ⟨v0, vs0, d0, ds0, p0, q0, hargs, rfl, rfl, h0, r0⟩ := trodAll_cons hA
  obtain ⟨v1, vs1, d1, ds1, p1, q1, rfl, rfl, rfl, h1, r1⟩ := trodAll_cons r0
  obtain ⟨rfl, rfl, rfl⟩ := trodAll_nil r1
  obtain rfl : args = #[v0, v1] := by cases args; simp_all
  obtain ⟨rfl, rfl⟩ := trodVars_none hV
  have k0 := h0
  have lt0 : ∀ x ∈ p0, x.block < W.heap.size := by obtain ⟨m, hm⟩ := k0; exact DataW.trod_lt m _ _ _ hm
  obtain ⟨a0, len0, cap0, hs0, rs0, rfl, w0, dd0⟩ := open_rts (hval 0 22 v0 rfl rfl) h0
  have k1 := h1
  have lt1 : ∀ x ∈ p1, x.block < W.heap.size := by obtain ⟨m, hm⟩ := k1; exact DataW.trod_lt m _ _ _ hm
  obtain ⟨a1, rfl, _, _, w1⟩ := open_int Try.underlying3 (hval 1 3 v1 rfl rfl) h1
  clear hA0 hval0
  refine (walk a0 len0 cap0 hs0 rs0 a1 W w0 dd0 w1).mono fun e W' ⟨he, bel⟩ => ?_
  subst he
  exact ⟨_, rfl, _, _, _, [], _, [], hW', trodAll_mk1 (shut_bool Try.underlying4 _), (trodAll_cons_mk (Below.trod laidOut (by kernel_rfl) (of_decide_eq_true (by kernel_rfl)) k0 bel lt0) (trodAll_cons_mk (Below.trod laidOut (by kernel_rfl) (of_decide_eq_true (by kernel_rfl)) k1 bel lt1) trodAll_mk0)), rfl, bel.frame _, fun h => by cases h⟩

theorem over : Rows.ribLooksRow.holds Try.pinned (OpenSpec.ofChange Rows.ribLooksSpec) :=
  OpenClaim.holds_of_wide 4 Try.f4 rfl rfl rfl rfl rfl rfl rfl ⟨rfl, rfl, rfl, rfl, rfl⟩ rfl rfl rfl rfl rfl (by kernel_rfl) Try.func4 (by kernel_rfl)
    (of_decide_eq_true (by kernel_rfl)) (by unfold Func.isWrapper; first | (rw [if_pos (by decide +kernel)]; kernel_rfl) | (rw [if_neg (by decide +kernel)]; exact ⟨rfl, rfl⟩))
    (fun os started H enc _ => lifted os started H enc)

end Go.Proofs.Ytcdobhdbafpkiae.ribLooks
namespace Go.Proofs.Ytcdobhdbafpkiae
theorem ribLooks_holds : Rows.RibLooksSaid := ribLooks.over
#print axioms ribLooks_holds
end Go.Proofs.Ytcdobhdbafpkiae
