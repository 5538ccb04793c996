/-
  Proved: for every three lists of raw things, it does not matter in what order the stores made of them are merged, nor how often (the law MergesAgree returns true and leaves its arguments as they were); no condition.
-/
import Derived.Test.YtcdobhdbafpkiacRows
import Derived.Test.YtcdobhdbafpkiacTells
import Derived.Test.YtcdobhdbafpkiacGet
import Derived.Test.YtcdobhdbafpkiacSl
import Derived.Test.YtcdobhdbafpkiacSame
import Derived.Test.YtcdobhdbafpkiacMPlain3
import Derived.Test.YtcdobhdbafpkiacROpen
namespace Go.Proofs.Ytcdobhdbafpkiac.mergesAgree
open Go.ChangeShapes Go.WideShapes Go.ChangeAt Go.RowKit
open Go.ChangeMaps (open_string shut_string)
set_option linter.unusedVariables false

theorem merge_mg {a b : List Pl.Ent} (ha : Pl.Good a) (hb : Pl.Good b) : Pl.mergeC a b = 0 ∧ Pl.mergeO a b = Pl.mg a b ∧ Pl.mergeK a b = (Pl.mrg a [] b).2 := by
  obtain ⟨h1, h2, _⟩ := Pl.merge_good ha hb
  exact ⟨h1, h2, by unfold Pl.mergeK; rw [if_pos h1]⟩
theorem got {m : List Pl.Ent} (hm : Pl.Good m) {k : ByteArray} {p : Pl.Ent} (h : Pl.look m k = some p) : Pl.gotC m k = 0 ∧ Pl.gotE m k = p := by
  have hf := (Pl.good_iff _).2 hm
  unfold Pl.gotC Pl.gotE
  rw [if_pos hf, if_pos hf]
  rcases Pl.there_look k hm.2.2 with ⟨t1, t2⟩ | ⟨t1, t2⟩
  · rw [if_pos t1, if_pos t1]
    rw [h] at t2
    cases t2
    exact ⟨rfl, rfl⟩
  · rw [h] at t2; cases t2
theorem Merge_mg (a : Option Addr) (len cap : Nat) (ea : List Pl.Ent) (b : Option Addr) (lenb capb : Nat) (eb : List Pl.Ent) (w : World) (h : IsEnts w a len cap ea) (hnil : a = none → cap = 0) (hB : IsEnts w b lenb capb eb) (ha : Pl.Good ea) (hb : Pl.Good eb) :
    Calls Try.prog 14 #[.slice a len cap, .slice b lenb capb] w fun e w' => ∃ am cm ak ck, e = .returned (.tuple #[.slice am (Pl.mg ea eb).length cm, .slice ak (Pl.mrg ea [] eb).2.length ck, .int .i64 0]) ∧
      IsEnts w' am (Pl.mg ea eb).length cm (Pl.mg ea eb) ∧ (am = none → cm = 0) ∧ IsTexts w' ak (Pl.mrg ea [] eb).2.length ck (Pl.mrg ea [] eb).2 ∧ Below w.heap.size w w' := by
  obtain ⟨h1, h2, h3⟩ := merge_mg ha hb
  refine (Merge_any a len cap ea b lenb capb eb w h hnil hB).mono ?_
  rw [h1, h2, h3]
  rintro e w' ⟨vo, vk, rfl, ho, hk, hbw⟩
  obtain ⟨am, cm, rfl, hE, hn, _⟩ := ho.shape (Pl.mg_srt ha hb).ok
  obtain ⟨ak, ck, rfl, hT, _, _⟩ := hk.shape
  exact ⟨am, cm, ak, ck, rfl, hE, hn, hT, hbw⟩
theorem merged_mg (a : Option Addr) (len cap : Nat) (ea : List Pl.Ent) (b : Option Addr) (lenb capb : Nat) (eb : List Pl.Ent) (w : World) (h : IsEnts w a len cap ea) (hnil : a = none → cap = 0) (hB : IsEnts w b lenb capb eb) (ha : Pl.Good ea) (hb : Pl.Good eb) :
    Calls Try.prog 18 #[.slice a len cap, .slice b lenb capb] w fun e w' => ∃ am cm, e = .returned (.slice am (Pl.mg ea eb).length cm) ∧ IsEnts w' am (Pl.mg ea eb).length cm (Pl.mg ea eb) ∧ (am = none → cm = 0) ∧ Below w.heap.size w w' := by
  refine (merged_any a len cap ea b lenb capb eb w h hnil hB).mono ?_
  rw [(merge_mg ha hb).2.1]
  rintro e w' ⟨vo, rfl, ho, hbw⟩
  obtain ⟨am, cm, rfl, hE, hn, _⟩ := ho.shape (Pl.mg_srt ha hb).ok
  exact ⟨am, cm, rfl, hE, hn, hbw⟩
theorem Store_mg (a : Option Addr) (len cap : Nat) (w : World) (h : IsRaws w a len cap) :
    Calls Try.prog 13 #[.slice a len cap, .int .i64 12] w fun e w' => ∃ es am cm, e = .returned (.slice am es.length cm) ∧ IsEnts w' am es.length cm es ∧ (am = none → cm = 0) ∧ Pl.Good es ∧ es.length ≤ 12 ∧ Below w.heap.size w w' := by
  refine (Store_any a len cap 12 w h (by omega)).mono ?_
  rintro e w' ⟨v, es, rfl, ho, hg, hl, _, hb⟩
  obtain ⟨am, cm, rfl, hE, hn, _⟩ := ho.shape hg.ok
  exact ⟨es, am, cm, rfl, hE, hn, hg, hl, hb⟩

set_option maxHeartbeats 2000000 in
theorem walk (a : Option Addr) (len cap : Nat) (b : Option Addr) (lenb capb : Nat) (c : Option Addr) (lenc capc : Nat) (w : World) (h : IsRaws w a len cap) (h2 : IsRaws w b lenb capb) (h3 : IsRaws w c lenc capc) :
    Calls Try.prog 5 #[.slice a len cap, .slice b lenb capb, .slice c lenc capc] w fun e w' => e = .returned (.bool true) ∧ Below w.heap.size w w' := by
  have HA := hid h
  have HB := hid h2
  have HC := hid h3
  clear h h2 h3
  go_enter Try.func5, Try.ntmps5
  go_wp2_with fail
  refine (StoreTells_any _).mono ?_
  rintro e w1 ⟨rfl, hb1⟩
  have B1 := hid hb1
  clear hb1
  go_wp2_with fail
  refine (Store_mg _ _ _ _ (HA.out.below B1.out)).mono ?_
  rintro e w2 ⟨xs, ax, cx, rfl, hx, hnx, hgx, hlx, hb2⟩
  have X2 := hid hx
  have NX := hid hnx
  have GX := hid hgx
  have B2 := hid (B1.out.trans (hb2.mono B1.out.size))
  clear hx hnx hgx hb2
  go_wp2_with fail
  refine (Store_mg _ _ _ _ (HB.out.below B2.out)).mono ?_
  rintro e w3 ⟨ys, ay, cy, rfl, hy, hny, hgy, hly, hb3⟩
  have X3 := hid (X2.out.below hb3)
  have Y3 := hid hy
  have NY := hid hny
  have GY := hid hgy
  have B3 := hid (B2.out.trans (hb3.mono B2.out.size))
  clear hy hny hgy hb3
  go_wp2_with fail
  refine (Store_mg _ _ _ _ (HC.out.below B3.out)).mono ?_
  rintro e w4 ⟨zs, az, cz, rfl, hzz, hnz, hgz, hlz, hb4⟩
  have X4 := hid (X3.out.below hb4)
  have Y4 := hid (Y3.out.below hb4)
  have Z4 := hid hzz
  have NZ := hid hnz
  have GZ := hid hgz
  have B4 := hid (B3.out.trans (hb4.mono B3.out.size))
  clear hzz hnz hgz hb4
  go_wp2_with fail
  refine (Merge_mg _ _ _ xs _ _ _ ys _ X4.out NX.out Y4.out GX.out GY.out).mono ?_
  rintro e w5 ⟨am, cm, ak, ck, rfl, hm, hnm, hk, hb5⟩
  have X5 := hid (X4.out.below hb5)
  have Y5 := hid (Y4.out.below hb5)
  have Z5 := hid (Z4.out.below hb5)
  have M5 := hid hm
  have NM := hid hnm
  have GM := hid (Pl.mg_srt GX.out GY.out)
  have K5 := hid hk
  have B5 := hid (B4.out.trans (hb5.mono B4.out.size))
  have TOLD := hid (fun k h => Pl.mg_told GX.out GY.out (by omega) (k := k) h)
  clear hm hnm hk hb5
  have hck := K5.out.2.1
  have hmk := K5.out.2.2.1
  unfold maxLen at hmk
  have COMM := hid (Pl.mg_comm GX.out GY.out (by omega))
  have ASSO := hid (Pl.mg_assoc GX.out GY.out GZ.out (by omega))
  have IDEM := hid (Pl.mg_idem GX.out (by omega))
  have AGAIN := hid (Pl.mg_again GX.out GY.out (by omega))
  have NONE := hid (Pl.mg_none GX.out GY.out (by omega))
  have GYZ := hid (Pl.mg_srt GY.out GZ.out)
  have FM := hid ((Pl.good_iff _).2 GM.out)
  obtain ⟨ms, HMS⟩ : ∃ ms, Hid (Pl.mg xs ys = ms) := ⟨_, rfl⟩
  rw [HMS.out] at M5 GM TOLD COMM ASSO AGAIN NONE FM ⊢
  generalize (Pl.mrg xs [] ys).2 = ks at *
  go_wp2
  go_loopw [37] (fun i wr => ∃ k : Nat, k ≤ ks.length ∧ i = .int .i64 k ∧ Hid (Below w5.heap.size w5 wr)) (fun i _ => ks.length - (intOf i).toNat)
  case atStart => exact ⟨0, Nat.zero_le _, rfl, Below.refl _ _⟩
  case round =>
    obtain ⟨k, hk, rfl, BR⟩ := hrel
    have BW := hid (B5.out.trans (BR.out.mono B5.out.size))
    by_cases hlt : k < ks.length
    · obtain ⟨bk, ok, rfl, hbk, hrk⟩ : ∃ b0 off, ak = some ⟨b0, off, none⟩ ∧ b0 < w5.heap.size ∧ ∀ i, i < ks.length → w5.cell? ⟨b0, off + i, none⟩ = some (.string (ks.getD i ⟨#[]⟩)) := by
        rcases K5.out.2.2.2 with h | h
        · rw [h] at hlt; simp at hlt
        · exact h
      have q0 := ((bcell BR.out).1 bk (ok + k) hbk).trans (hrk k hlt)
      have hmem : ks.getD k ⟨#[]⟩ ∈ ks := by
        rw [List.getD_eq_getElem?_getD, List.getElem?_eq_getElem hlt]
        exact List.getElem_mem hlt
      obtain ⟨p, hp1, hp2⟩ := TOLD.out _ hmem
      generalize ks.getD k ⟨#[]⟩ = key at *
      obtain ⟨g1, g2⟩ := got GM.out hp1
      have HGET := hid (Get_any _ _ _ ms key _ (M5.out.below BR.out))
      rw [g1, g2] at HGET
      have HCON := hid (fun W hW => Contains_none ax xs.length cx xs p W hW hp2)
      clear hrk hmem hp1 hp2 g1 g2
      obtain ⟨pk, pv, po, px⟩ := p
      simp only at HGET HCON
      go_wp2_with fail
      refine HGET.out.mono ?_
      rintro e w6 ⟨rfl, hb6⟩
      have B6 := hid (BR.out.trans (hb6.mono BR.out.size))
      have XA := hid ((X5.out.below B6.out).below ((Below.refl _ _).alloc (Nat.le_refl _) (.cells #[.string pk, .int .i64 pv, .int .i64 po, .string px] 38)))
      clear hb6
      go_wp2_with fail
      refine (HCON.out _ XA.out).mono ?_
      rintro e w7 ⟨rfl, hb7⟩
      have B7 := hid ((B6.out.alloc B6.out.size _).trans (hb7.mono (by have := B6.out.size; simp; omega)))
      clear hb7
      go_wp2_with fail
      go_roundw
      case rel => exact ⟨k + 1, by omega, by go_num, B7⟩
      case measure => simp [intOf]; omega
    · obtain rfl : k = ks.length := by omega
      have X6 := hid (X5.out.below BR.out)
      have Y6 := hid (Y5.out.below BR.out)
      have Z6 := hid (Z5.out.below BR.out)
      have M6 := hid (M5.out.below BR.out)
      have hag := Merge_mg _ _ _ ms _ _ _ ys _ M6.out NM.out Y6.out GM.out GY.out
      rw [AGAIN.out, NONE.out] at hag
      have HAG := hid hag
      clear hag
      go_wp2_with fail
      refine HAG.out.mono ?_
      rintro e w7 ⟨aa, ca, an, cn, rfl, ha, _, _, hb7⟩
      have X7 := hid (X6.out.below hb7)
      have Y7 := hid (Y6.out.below hb7)
      have Z7 := hid (Z6.out.below hb7)
      have M7 := hid (M6.out.below hb7)
      have A7 := hid ha
      have B7 := hid (BW.out.trans (hb7.mono BW.out.size))
      clear ha hb7
      have h8 := merged_mg _ _ _ ys _ _ _ xs _ Y7.out NY.out X7.out GY.out GX.out
      rw [← COMM.out] at h8
      have H8 := hid h8
      clear h8
      go_wp2_with fail
      refine H8.out.mono ?_
      rintro e w8 ⟨a8, c8, rfl, hm8, _, hb8⟩
      have X8 := hid (X7.out.below hb8)
      have Y8 := hid (Y7.out.below hb8)
      have Z8 := hid (Z7.out.below hb8)
      have M8 := hid (M7.out.below hb8)
      have A8 := hid (A7.out.below hb8)
      have E8 := hid hm8
      have B8 := hid (B7.out.trans (hb8.mono B7.out.size))
      clear hm8 hb8
      go_wp2_with fail
      refine (Equal_eq _ _ _ _ _ ms _ M8.out E8.out).mono ?_
      rintro e w9 ⟨rfl, hb9⟩
      have X9 := hid (X8.out.below hb9)
      have Y9 := hid (Y8.out.below hb9)
      have Z9 := hid (Z8.out.below hb9)
      have M9 := hid (M8.out.below hb9)
      have A9 := hid (A8.out.below hb9)
      have B9 := hid (B8.out.trans (hb9.mono B8.out.size))
      clear hb9
      have h10 := merged_mg _ _ _ ms _ _ _ zs _ M9.out NM.out Z9.out GM.out GZ.out
      rw [ASSO.out] at h10
      have H10 := hid h10
      clear h10
      go_wp2_with fail
      refine H10.out.mono ?_
      rintro e v1 ⟨a10, c10, rfl, hm10, _, hb10⟩
      have X10 := hid (X9.out.below hb10)
      have Y10 := hid (Y9.out.below hb10)
      have Z10 := hid (Z9.out.below hb10)
      have M10 := hid (M9.out.below hb10)
      have A10 := hid (A9.out.below hb10)
      have L10 := hid hm10
      have B10 := hid (B9.out.trans (hb10.mono B9.out.size))
      clear hm10 hb10
      go_wp2_with fail
      refine (merged_mg _ _ _ ys _ _ _ zs _ Y10.out NY.out Z10.out GY.out GZ.out).mono ?_
      rintro e v2 ⟨a11, c11, rfl, hm11, _, hb11⟩
      have X11 := hid (X10.out.below hb11)
      have M11 := hid (M10.out.below hb11)
      have A11 := hid (A10.out.below hb11)
      have L11 := hid (L10.out.below hb11)
      have YZ := hid hm11
      have B11 := hid (B10.out.trans (hb11.mono B10.out.size))
      clear hm11 hb11
      go_wp2_with fail
      refine (merged_mg _ _ _ xs _ _ _ (Pl.mg ys zs) _ X11.out NX.out YZ.out GX.out GYZ.out).mono ?_
      rintro e v3 ⟨a12, c12, rfl, hm12, _, hb12⟩
      have X12 := hid (X11.out.below hb12)
      have M12 := hid (M11.out.below hb12)
      have A12 := hid (A11.out.below hb12)
      have L12 := hid (L11.out.below hb12)
      have R12 := hid hm12
      have B12 := hid (B11.out.trans (hb12.mono B11.out.size))
      clear hm12 hb12
      go_wp2_with fail
      refine (Equal_eq _ _ _ _ _ _ _ L12.out R12.out).mono ?_
      rintro e v4 ⟨rfl, hb13⟩
      have X13 := hid (X12.out.below hb13)
      have M13 := hid (M12.out.below hb13)
      have A13 := hid (A12.out.below hb13)
      have B13 := hid (B12.out.trans (hb13.mono B12.out.size))
      clear hb13
      go_wp2_with fail
      refine (Equal_eq _ _ _ _ _ _ _ A13.out M13.out).mono ?_
      rintro e v5 ⟨rfl, hb14⟩
      have X14 := hid (X13.out.below hb14)
      have M14 := hid (M13.out.below hb14)
      have B14 := hid (B13.out.trans (hb14.mono B13.out.size))
      clear hb14
      have h15 := merged_mg _ _ _ xs _ _ _ xs _ X14.out NX.out X14.out GX.out GX.out
      rw [IDEM.out] at h15
      have H15 := hid h15
      clear h15
      go_wp2_with fail
      refine H15.out.mono ?_
      rintro e v6 ⟨a15, c15, rfl, hm15, _, hb15⟩
      have X15 := hid (X14.out.below hb15)
      have M15 := hid (M14.out.below hb15)
      have R15 := hid hm15
      have B15 := hid (B14.out.trans (hb15.mono B14.out.size))
      clear hm15 hb15
      go_wp2_with fail
      refine (Equal_eq _ _ _ _ _ _ _ R15.out X15.out).mono ?_
      rintro e v7 ⟨rfl, hb16⟩
      have M16 := hid (M15.out.below hb16)
      have B16 := hid (B15.out.trans (hb16.mono B15.out.size))
      clear hb16
      go_wp2_with fail
      refine (Check_any _ _ _ _ _ M16.out).mono ?_
      rw [FM.out]
      rintro e v8 ⟨rfl, hb17⟩
      have B17 := hid (B16.out.trans (hb17.mono B16.out.size))
      clear hb17
      go_wp2
      go_ret
      exact ⟨rfl, B17.out⟩

set_option maxRecDepth 100000 in
theorem lifted (os : Os) (started : os.Started) (H : Type) (enc : TypeId × Value → H) :
    ReturnsInHanded {} Try.checked os 5 .any (Rows.mergesAgreeSpec.pre6 enc Try.prog Try.f5 Rows.mergesAgreeRow.domain false) (Rows.mergesAgreeSpec.post enc Try.prog Try.f5 false true false false) := by
  refine returnsInHanded_of_change (C := Try.checked) own started (by kernel_rfl) Try.func5
    (ChangeSpec.witness6 (enc := enc) (C := Try.checked) false ⟨#[], #[.slice none 0 0, .slice none 0 0, .slice none 0 0], []⟩ 8 (by kernel_rfl) (by kernel_rfl) (by kernel_rfl) (by kernel_rfl)) ?_
  intro W base args ds gs before hval0 hW hcnd _
  have hval : ∀ (j : Nat) t v, Try.f5.params[j]? = some t → args[j]? = some v → Value.okWide Try.prog W .any base t v := hval0
  have hW' := hW
  obtain ⟨p, q, hA0, hV, rfl, hfz, hnd⟩ := hW
  have hA : DataW.TrodAll enc Try.prog W 0 (fun _ => true) true Try.f5.params.toList args.toList ds p := hA0
  rw [Try.params5] at hA hval
  obtain ⟨v0, vs0, d0, ds0, p0, q0, hargs, rfl, rfl, h0, r0⟩ := trodAll_cons hA
  obtain ⟨v1, vs1, d1, ds1, p1, q1, rfl, rfl, rfl, h1, r1⟩ := trodAll_cons r0
  obtain ⟨v2, vs2, d2, ds2, p2, q2, rfl, rfl, rfl, h2, r2⟩ := trodAll_cons r1
  obtain ⟨rfl, rfl, rfl⟩ := trodAll_nil r2
  obtain rfl : args = #[v0, v1, v2] := by cases args; simp_all
  obtain ⟨rfl, rfl⟩ := trodVars_none hV
  have k0 := h0
  have lt0 : ∀ x ∈ p0, x.block < W.heap.size := by obtain ⟨m, hm⟩ := k0; exact DataW.trod_lt m _ _ _ hm
  obtain ⟨a0, len0, cap0, rfl, w0⟩ := open_raws (hval 0 30 v0 rfl rfl) h0
  have k1 := h1
  have lt1 : ∀ x ∈ p1, x.block < W.heap.size := by obtain ⟨m, hm⟩ := k1; exact DataW.trod_lt m _ _ _ hm
  obtain ⟨a1, len1, cap1, rfl, w1⟩ := open_raws (hval 1 30 v1 rfl rfl) h1
  have k2 := h2
  have lt2 : ∀ x ∈ p2, x.block < W.heap.size := by obtain ⟨m, hm⟩ := k2; exact DataW.trod_lt m _ _ _ hm
  obtain ⟨a2, len2, cap2, rfl, w2⟩ := open_raws (hval 2 30 v2 rfl rfl) h2
  clear hA0 hval0
  refine (walk a0 len0 cap0 a1 len1 cap1 a2 len2 cap2 W w0 w1 w2).mono fun e W' ⟨he, bel⟩ => ?_
  subst he
  exact ⟨_, rfl, _, _, _, [], _, [], hW', trodAll_mk1 (shut_bool Try.underlying4 _), (trodAll_cons_mk (Below.trod laidOut (by kernel_rfl) (of_decide_eq_true (by kernel_rfl)) k0 bel lt0) (trodAll_cons_mk (Below.trod laidOut (by kernel_rfl) (of_decide_eq_true (by kernel_rfl)) k1 bel lt1) (trodAll_cons_mk (Below.trod laidOut (by kernel_rfl) (of_decide_eq_true (by kernel_rfl)) k2 bel lt2) trodAll_mk0))), rfl, bel.frame _, fun h => by cases h⟩

theorem over : Rows.mergesAgreeRow.holds Try.pinned (OpenSpec.ofChange Rows.mergesAgreeSpec) :=
  OpenClaim.holds_of_wide 5 Try.f5 rfl rfl rfl rfl rfl rfl rfl ⟨rfl, rfl, rfl, rfl, rfl⟩ rfl rfl rfl rfl rfl (by kernel_rfl) Try.func5 (by kernel_rfl)
    (of_decide_eq_true (by kernel_rfl)) (by unfold Func.isWrapper; first | (rw [if_pos (by decide +kernel)]; kernel_rfl) | (rw [if_neg (by decide +kernel)]; exact ⟨rfl, rfl⟩))
    (fun os started H enc _ => lifted os started H enc)

end Go.Proofs.Ytcdobhdbafpkiac.mergesAgree
namespace Go.Proofs.Ytcdobhdbafpkiac
theorem mergesAgree_holds : Rows.MergesAgreeSaid := mergesAgree.over
#print axioms mergesAgree_holds
end Go.Proofs.Ytcdobhdbafpkiac
