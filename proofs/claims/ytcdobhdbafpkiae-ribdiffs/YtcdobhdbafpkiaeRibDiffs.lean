/-
  Proved: for every two lists of routes, rib.Diff answers as the document's P3.4 says (the law RibDiffs returns true and leaves its arguments as they were); no condition.
-/
import Derived.Test.YtcdobhdbafpkiaeRows
import Derived.Test.YtcdobhdbafpkiaeRib14
import Derived.Test.YtcdobhdbafpkiaeRib15
import Derived.Test.YtcdobhdbafpkiaeRibOpen
namespace Go.Proofs.Ytcdobhdbafpkiae.ribDiffs
open Go.ChangeShapes Go.WideShapes Go.ChangeAt Go.RowKit
open Go.ChangeMaps (open_string shut_string)
set_option linter.unusedVariables false

theorem Pl.diffG_ok {w : World} {hs : List Pl.RH} {rs ss : List Pl.Rt} (h : ReadsAll w hs rs) : ∀ p ∈ Pl.diffG rs ss, Pl.pairOk p := by
  intro p hp
  unfold Pl.diffG at hp
  split at hp
  · unfold Pl.goneL at hp
    simp only [List.mem_map, List.mem_filter] at hp
    obtain ⟨r, ⟨hr, _⟩, rfl⟩ := hp
    obtain ⟨i, hi, rfl⟩ := List.getElem_of_mem hr
    have := (h.2 i (by rw [h.1]; exact hi)).2.2.2.2
    rwa [Pl.rt_eq rs i hi] at this
  · simp at hp

set_option maxHeartbeats 2000000 in
theorem walk (a : Option Addr) (la ca : Nat) (hs : List Pl.RH) (rs : List Pl.Rt) (b : Option Addr) (lb cb : Nat) (gs : List Pl.RH) (ss : List Pl.Rt) (w : World) (h1 : IsRows w a la ca hs) (d1 : ReadsAll w hs rs) (h2 : IsRows w b lb cb gs) (d2 : ReadsAll w gs ss) :
    Calls Try.prog 5 #[.slice a la ca, .slice b lb cb] w fun e w' => e = .returned (.bool true) ∧ Below w.heap.size w w' := by
  have H1 := hid h1
  have D1 := hid d1
  have H2 := hid h2
  have D2 := hid d2
  clear h1 d1 h2 d2
  go_enter Try.func5, Try.ntmps5
  go_wp2_with fail
  refine (Diff_any _ _ _ hs rs _ _ _ gs ss _ H1.out D1.out H2.out D2.out).mono ?_
  rintro e w1 ⟨vs, vg, es, rfl, ho, hp, hb1⟩
  obtain ⟨va, vcap, rfl, hrow1, _⟩ := ho.1.rows
  obtain ⟨ga, gcap, rfl, hpr1, _⟩ := hp.shape (Pl.diffG_ok D1.out)
  have HO := hid ho.reads
  have HR1 := hid hrow1
  have HP1 := hid hpr1
  have HB1 := hid hb1
  have HLE1 := hid ho.2.1
  clear ho hp hrow1 hpr1 hb1
  go_wp2_with fail
  refine (DiffOf_any _ _ _ hs rs _ _ _ gs ss _ (H1.out.below HB1.out) (D1.out.below HB1.out) (H2.out.below HB1.out) (D2.out.below HB1.out)).mono ?_
  rintro e w2 ⟨vs2, vg2, es2, rfl, ⟨ho2, hrd2⟩, hp2, hb2⟩
  obtain ⟨va2, vcap2, rfl, hrow2, _⟩ := ho2.rows
  obtain ⟨ga2, gcap2, rfl, hpr2, _⟩ := hp2.shape (Pl.diffG_ok D1.out)
  have HR2 := hid hrow2
  have HP2 := hid hpr2
  have HD2 := hid (hrd2.below hb2)
  have HR1' := hid (HR1.out.below hb2)
  have HP1' := hid (HP1.out.below hb2)
  have HO' := hid (HO.out.below hb2)
  have HB2 := hid (HB1.out.trans (hb2.mono HB1.out.size))
  have hle : es2.length = es.length := by rw [hrd2.1, HLE1.out]
  rw [hle] at HR2 ⊢
  clear ho2 hrd2 hp2 hb2 hrow2 hpr2 hle
  go_wp2_with fail
  refine (sameTable_law _ _ _ es _ _ es2 _ _ HR1'.out HO'.out HR2.out HD2.out).mono ?_
  rintro e w3 ⟨rfl, hb3⟩
  have HB3 := hid (HB2.out.trans (hb3.mono HB2.out.size))
  have HP1'' := hid (HP1'.out.below hb3)
  have HP2'' := hid (HP2.out.below hb3)
  clear hb3
  go_wp2_with fail
  refine (samePrefixes_law _ _ _ _ _ _ _ HP1''.out HP2''.out).mono ?_
  rintro e w4 ⟨rfl, hb4⟩
  have HB4 := hid (HB3.out.trans (hb4.mono HB3.out.size))
  clear hb4
  go_wp2_with fail
  go_ret
  exact ⟨rfl, HB4.out⟩

set_option maxRecDepth 100000 in
theorem lifted (os : Os) (started : os.Started) (H : Type) (enc : TypeId × Value → H) :
    ReturnsInHanded {} Try.checked os 5 .any (Rows.ribDiffsSpec.pre6 enc Try.prog Try.f5 Rows.ribDiffsRow.domain false) (Rows.ribDiffsSpec.post enc Try.prog Try.f5 false true false false) := by
  refine returnsInHanded_of_change (C := Try.checked) own started (by kernel_rfl) Try.func5
    (ChangeSpec.witness6 (enc := enc) (C := Try.checked) false ⟨#[], #[.slice none 0 0, .slice none 0 0], []⟩ 8 (by kernel_rfl) (by kernel_rfl) (by kernel_rfl) (by kernel_rfl)) ?_
  intro W base args ds gs before hval0 hW hcnd _
  have hval : ∀ (j : Nat) t v, Try.f5.params[j]? = some t → args[j]? = some v → Value.okWide Try.prog W .any base t v := hval0
  have hW' := hW
  obtain ⟨p, q, hA0, hV, rfl, hfz, hnd⟩ := hW
  have hA : DataW.TrodAll enc Try.prog W 0 (fun _ => true) true Try.f5.params.toList args.toList ds p := hA0
  rw [Try.params5] at hA hval
  obtain ⟨v0, vs0, d0, ds0, p0, q0, hargs, rfl, rfl, h0, r0⟩ := trodAll_cons hA
  obtain ⟨v1, vs1, d1, ds1, p1, q1, rfl, rfl, rfl, h1, r1⟩ := trodAll_cons r0
  obtain ⟨rfl, rfl, rfl⟩ := trodAll_nil r1
  obtain rfl : args = #[v0, v1] := by cases args; simp_all
  obtain ⟨rfl, rfl⟩ := trodVars_none hV
  have k0 := h0
  have lt0 : ∀ x ∈ p0, x.block < W.heap.size := by obtain ⟨m, hm⟩ := k0; exact DataW.trod_lt m _ _ _ hm
  obtain ⟨a0, len0, cap0, hs0, rs0, rfl, w0, dd0⟩ := open_rts (hval 0 22 v0 rfl rfl) h0
  have k1 := h1
  have lt1 : ∀ x ∈ p1, x.block < W.heap.size := by obtain ⟨m, hm⟩ := k1; exact DataW.trod_lt m _ _ _ hm
  obtain ⟨a1, len1, cap1, hs1, rs1, rfl, w1, dd1⟩ := open_rts (hval 1 22 v1 rfl rfl) h1
  clear hA0 hval0
  refine (walk a0 len0 cap0 hs0 rs0 a1 len1 cap1 hs1 rs1 W w0 dd0 w1 dd1).mono fun e W' ⟨he, bel⟩ => ?_
  subst he
  exact ⟨_, rfl, _, _, _, [], _, [], hW', trodAll_mk1 (shut_bool Try.underlying4 _), (trodAll_cons_mk (Below.trod laidOut (by kernel_rfl) (of_decide_eq_true (by kernel_rfl)) k0 bel lt0) (trodAll_cons_mk (Below.trod laidOut (by kernel_rfl) (of_decide_eq_true (by kernel_rfl)) k1 bel lt1) trodAll_mk0)), rfl, bel.frame _, fun h => by cases h⟩

theorem over : Rows.ribDiffsRow.holds Try.pinned (OpenSpec.ofChange Rows.ribDiffsSpec) :=
  OpenClaim.holds_of_wide 5 Try.f5 rfl rfl rfl rfl rfl rfl rfl ⟨rfl, rfl, rfl, rfl, rfl⟩ rfl rfl rfl rfl rfl (by kernel_rfl) Try.func5 (by kernel_rfl)
    (of_decide_eq_true (by kernel_rfl)) (by unfold Func.isWrapper; first | (rw [if_pos (by decide +kernel)]; kernel_rfl) | (rw [if_neg (by decide +kernel)]; exact ⟨rfl, rfl⟩))
    (fun os started H enc _ => lifted os started H enc)

end Go.Proofs.Ytcdobhdbafpkiae.ribDiffs
namespace Go.Proofs.Ytcdobhdbafpkiae
theorem ribDiffs_holds : Rows.RibDiffsSaid := ribDiffs.over
#print axioms ribDiffs_holds
end Go.Proofs.Ytcdobhdbafpkiae
