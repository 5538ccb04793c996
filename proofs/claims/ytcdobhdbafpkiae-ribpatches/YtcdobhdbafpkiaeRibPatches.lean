/-
  Proved: for every two lists of routes and every list of prefixes, rib.Patch answers as the document's P3.4 says (the law RibPatches returns true and leaves its arguments as they were); no condition.
-/
import Derived.Test.YtcdobhdbafpkiaeRows
import Derived.Test.YtcdobhdbafpkiaeRib15
import Derived.Test.YtcdobhdbafpkiaeRib23
import Derived.Test.YtcdobhdbafpkiaeRibOpen
import Derived.Test.YtcdobhdbafpkiaePfxOpen
import Derived.SizedLaws
namespace Go.Proofs.Ytcdobhdbafpkiae.ribPatches
open Go.ChangeShapes Go.WideShapes Go.ChangeAt Go.RowKit
open Go.ChangeMaps (open_string shut_string)
set_option linter.unusedVariables false

set_option maxHeartbeats 2000000 in
theorem walk (a : Option Addr) (la ca : Nat) (hs : List Pl.RH) (rs : List Pl.Rt) (b : Option Addr) (lb cb : Nat) (gs : List Pl.RH) (ss : List Pl.Rt) (d : Option Addr) (gl gc : Nat) (ps : List (Int × Int)) (w : World) (h1 : IsRows w a la ca hs) (d1 : ReadsAll w hs rs) (s1 : la * 56 ≤ 140737488351232) (h2 : IsRows w b lb cb gs) (d2 : ReadsAll w gs ss) (s2 : lb * 56 ≤ 140737488351232) (h3 : IsPairs w d gl gc ps) :
    Calls Try.prog 6 #[.slice a la ca, .slice b lb cb, .slice d gl gc] w fun e w' => e = .returned (.bool true) ∧ Below w.heap.size w w' := by
  have H1 := hid h1
  have D1 := hid d1
  have H2 := hid h2
  have D2 := hid d2
  have H3 := hid h3
  have hlb : lb ≤ 3000000000000 := by omega
  clear h1 d1 h2 d2 h3 s1 s2
  go_enter Try.func6, Try.ntmps6
  go_wp2_with fail
  refine (Patch_any _ _ _ hs rs _ _ _ gs ss _ _ _ ps _ H1.out D1.out H2.out D2.out H3.out).mono ?_
  rintro e w1 ⟨v1, es1, rfl, ho1, hb1⟩
  obtain ⟨a1, cap1, rfl, hrow1, _⟩ := ho1.1.rows
  have HR1 := hid hrow1
  have HD1 := hid ho1.reads
  have HB1 := hid hb1
  have HLE1 := hid ho1.2.1
  clear ho1 hb1 hrow1
  go_wp2_with fail
  refine (PatchedOf_any _ _ _ hs rs _ _ _ gs ss _ _ _ ps _ (H1.out.below HB1.out) (D1.out.below HB1.out) (H2.out.below HB1.out) (D2.out.below HB1.out) (H3.out.below HB1.out) hlb).mono ?_
  rintro e w2 ⟨v2, es2, rfl, ho2, hr2, hb2⟩
  obtain ⟨a2, cap2, rfl, hrow2, _⟩ := ho2.rows
  have HR2 := hid hrow2
  have HD2 := hid (hr2.below hb2)
  have HR1' := hid (HR1.out.below hb2)
  have HD1' := hid (HD1.out.below hb2)
  have HB2 := hid (HB1.out.trans (hb2.mono HB1.out.size))
  have hle : es2.length = es1.length := by rw [hr2.1, HLE1.out]
  rw [hle] at HR2 ⊢
  clear ho2 hr2 hb2 hrow2 hle
  go_wp2_with fail
  refine (sameTable_law _ _ _ es1 _ _ es2 _ _ HR1'.out HD1'.out HR2.out HD2.out).mono ?_
  rintro e w3 ⟨rfl, hb3⟩
  have HB3 := hid (HB2.out.trans (hb3.mono HB2.out.size))
  clear hb3
  go_wp2_with fail
  go_ret
  exact ⟨rfl, HB3.out⟩

set_option maxRecDepth 100000 in
theorem lifted (os : Os) (started : os.Started) (H : Type) (enc : TypeId × Value → H) :
    ReturnsInHanded {} Try.checked os 6 .any (Rows.ribPatchesSpec.pre6 enc Try.prog Try.f6 Rows.ribPatchesRow.domain false) (Rows.ribPatchesSpec.post enc Try.prog Try.f6 false true false false) := by
  refine returnsInHanded_of_change_sized (C := Try.checked) own started (by kernel_rfl) Try.func6
    (ChangeSpec.witness6 (enc := enc) (C := Try.checked) false ⟨#[], #[.slice none 0 0, .slice none 0 0, .slice none 0 0], []⟩ 8 (by kernel_rfl) (by kernel_rfl) (by kernel_rfl) (by kernel_rfl)) ?_
  intro W base args ds gs before hval0 hW hcnd hsz0 _
  have hsz : (DataW.weightsEach Try.prog (Try.f6.params.toList ++ Rows.ribPatchesSpec.plain.varTypes Try.prog) (ds ++ gs)).all (· ≤ reachBytes) = true := hsz0
  have hval : ∀ (j : Nat) t v, Try.f6.params[j]? = some t → args[j]? = some v → Value.okWide Try.prog W .any base t v := hval0
  have hW' := hW
  obtain ⟨p, q, hA0, hV, rfl, hfz, hnd⟩ := hW
  have hA : DataW.TrodAll enc Try.prog W 0 (fun _ => true) true Try.f6.params.toList args.toList ds p := hA0
  rw [Try.params6] at hA hval hsz
  obtain ⟨v0, vs0, d0, ds0, p0, q0, hargs, rfl, rfl, h0, r0⟩ := trodAll_cons hA
  obtain ⟨v1, vs1, d1, ds1, p1, q1, rfl, rfl, rfl, h1, r1⟩ := trodAll_cons r0
  obtain ⟨v2, vs2, d2, ds2, p2, q2, rfl, rfl, rfl, h2, r2⟩ := trodAll_cons r1
  obtain ⟨rfl, rfl, rfl⟩ := trodAll_nil r2
  obtain rfl : args = #[v0, v1, v2] := by cases args; simp_all
  obtain ⟨rfl, rfl⟩ := trodVars_none hV
  have k0 := h0
  have lt0 : ∀ x ∈ p0, x.block < W.heap.size := by obtain ⟨m, hm⟩ := k0; exact DataW.trod_lt m _ _ _ hm
  obtain ⟨a0, len0, cap0, hs0, rs0, rfl, w0, dd0, e0⟩ := open_rts_sized (hval 0 22 v0 rfl rfl) h0
  have sz0 : len0 * 56 ≤ 140737488351232 := by
    rcases e0 with ⟨_, hz⟩ | ⟨el, sp, hd, hl⟩
    · omega
    · have := sized_slice hsz (j := 0) (t := 22) (e := 30) rfl (by rw [hd]; rfl) Try.underlying22
      rw [show Try.prog.bytesOf 30 = 56 from by kernel_rfl] at this
      simp only [reachBytes] at this
      omega
  have k1 := h1
  have lt1 : ∀ x ∈ p1, x.block < W.heap.size := by obtain ⟨m, hm⟩ := k1; exact DataW.trod_lt m _ _ _ hm
  obtain ⟨a1, len1, cap1, hs1, rs1, rfl, w1, dd1, e1⟩ := open_rts_sized (hval 1 22 v1 rfl rfl) h1
  have sz1 : len1 * 56 ≤ 140737488351232 := by
    rcases e1 with ⟨_, hz⟩ | ⟨el, sp, hd, hl⟩
    · omega
    · have := sized_slice hsz (j := 1) (t := 22) (e := 30) rfl (by rw [hd]; rfl) Try.underlying22
      rw [show Try.prog.bytesOf 30 = 56 from by kernel_rfl] at this
      simp only [reachBytes] at this
      omega
  have k2 := h2
  have lt2 : ∀ x ∈ p2, x.block < W.heap.size := by obtain ⟨m, hm⟩ := k2; exact DataW.trod_lt m _ _ _ hm
  obtain ⟨a2, len2, cap2, es2, rfl, w2⟩ := open_pfxs (hval 2 35 v2 rfl rfl) h2
  clear hA0 hval0
  refine (walk a0 len0 cap0 hs0 rs0 a1 len1 cap1 hs1 rs1 a2 len2 cap2 es2 W w0 dd0 sz0 w1 dd1 sz1 w2).mono fun e W' ⟨he, bel⟩ => ?_
  subst he
  exact ⟨_, rfl, _, _, _, [], _, [], hW', trodAll_mk1 (shut_bool Try.underlying4 _), (trodAll_cons_mk (Below.trod laidOut (by kernel_rfl) (of_decide_eq_true (by kernel_rfl)) k0 bel lt0) (trodAll_cons_mk (Below.trod laidOut (by kernel_rfl) (of_decide_eq_true (by kernel_rfl)) k1 bel lt1) (trodAll_cons_mk (Below.trod laidOut (by kernel_rfl) (of_decide_eq_true (by kernel_rfl)) k2 bel lt2) trodAll_mk0))), rfl, bel.frame _, fun h => by cases h⟩

theorem over : Rows.ribPatchesRow.holds Try.pinned (OpenSpec.ofChange Rows.ribPatchesSpec) :=
  OpenClaim.holds_of_wide 6 Try.f6 rfl rfl rfl rfl rfl rfl rfl ⟨rfl, rfl, rfl, rfl, rfl⟩ rfl rfl rfl rfl rfl (by kernel_rfl) Try.func6 (by kernel_rfl)
    (of_decide_eq_true (by kernel_rfl)) (by unfold Func.isWrapper; first | (rw [if_pos (by decide +kernel)]; kernel_rfl) | (rw [if_neg (by decide +kernel)]; exact ⟨rfl, rfl⟩))
    (fun os started H enc _ => lifted os started H enc)

end Go.Proofs.Ytcdobhdbafpkiae.ribPatches
namespace Go.Proofs.Ytcdobhdbafpkiae
theorem ribPatches_holds : Rows.RibPatchesSaid := ribPatches.over
#print axioms ribPatches_holds
end Go.Proofs.Ytcdobhdbafpkiae
