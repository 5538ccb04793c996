/-
  Contract: what the document's MergedOf answers at every two lists of entries.
-/
import Derived.Test.YtcdobhdbafpkiaaMerge
import Derived.Test.YtcdobhdbafpkiaaWith
import Derived.Test.YtcdobhdbafpkiaaFault
import Derived.Test.YtcdobhdbafpkiaaQuiet
namespace Go.Proofs.Ytcdobhdbafpkiaa
open Go.RowKit

set_option maxHeartbeats 2000000 in
theorem MergedOf_any (a : Option Addr) (len cap : Nat) (ea : List Pl.Ent) (b : Option Addr) (lenb capb : Nat) (eb : List Pl.Ent) (w : World) (h : IsEnts w a len cap ea) (hnil : a = none → cap = 0) (hB : IsEnts w b lenb capb eb) :
    Calls Try.prog 18 #[.slice a len cap, .slice b lenb capb] w fun e w' => ∃ vo vk, e = .returned (.tuple #[vo, vk, .int .i64 (Pl.mergeC ea eb)]) ∧
      Own w' w.heap.size vo (Pl.mergeO ea eb) ∧ OwnS w' w.heap.size vk (Pl.mergeK ea eb) ∧ Below w.heap.size w w' := by
  have HH : Hid (IsEnts w a len cap ea) := h
  have HN : Hid (a = none → cap = 0) := hnil
  have HB : Hid (IsEnts w b lenb capb eb) := hB
  clear h hnil hB
  obtain ⟨ca, HCA⟩ : ∃ c, Hid (Pl.fault ea = c) := ⟨_, rfl⟩
  obtain ⟨cb, HCB⟩ : ∃ c, Hid (Pl.fault eb = c) := ⟨_, rfl⟩
  by_cases hca : ca = 0
  · by_cases hcb : cb = 0
    · subst hca hcb
      have HGA : Hid (Pl.Good ea) := (Pl.good_iff ea).1 HCA.out
      have HGB : Hid (Pl.Good eb) := (Pl.good_iff eb).1 HCB.out
      have HM : Hid (Pl.mergeC ea eb = 0 ∧ Pl.mergeO ea eb = (Pl.mrg ea [] eb).1 ∧ Pl.mergeK ea eb = (Pl.mrg ea [] eb).2) := by
        have : Pl.mergeC ea eb = 0 := by unfold Pl.mergeC; rw [HCA.out, HCB.out]; rfl
        refine ⟨this, ?_, ?_⟩
        · unfold Pl.mergeO; rw [if_pos this]
        · unfold Pl.mergeK; rw [if_pos this]
      have hlen : len ≤ 60 := by have := HH.out.1; have := HGA.out.1; omega
      have hlenb : lenb ≤ 60 := by have := HB.out.1; have := HGB.out.1; omega
      have hlb : eb.length = lenb := HB.out.1
      have hcapb := HB.out.2.1
      have hmb := HB.out.2.2.1
      unfold maxLen at hmb
      go_enter Try.func18, Try.ntmps18
      go_wp2_with fail
      refine (StoreFault_any _ _ _ ea _ HH.out).mono ?_
      rw [HCA.out]
      rintro e w1 ⟨rfl, hb1⟩
      go_wp2_with fail
      refine (StoreFault_any _ _ _ eb _ (HB.out.below hb1)).mono ?_
      rw [HCB.out]
      rintro e w2 ⟨rfl, hb2⟩
      have hbl2 : Below w.heap.size w w2 := hb1.trans (hb2.mono hb1.size)
      clear hb1 hb2
      go_wp2_with (at_builtin; refine append_copy rfl (.const (.slice none 0 0)) (.tmp 21) rfl _ _ _ ea rfl rfl (HH.out.below hbl2) HN.out (by omega) ?_; intro vo w3 hown hb3)
      have hbl3 : Below w.heap.size w w3 := hbl2.trans (hb3.mono hbl2.size)
      have HO : Hid (Own w3 w.heap.size vo ea) := hown.mono hbl2.size
      clear hown hb3
      go_loopw [8, 9, 10] (fun vo vk i wr => ∃ (k : Nat) (ol : List Pl.Ent) (ks : List ByteArray) (vkk : Value), vkk = vk ∧ k ≤ lenb ∧ i = .int .i64 k ∧ Hid (Own wr w.heap.size vo ol) ∧ Hid (OwnS wr w.heap.size vkk ks) ∧ ks.length ≤ k ∧ Hid (Pl.mrg ea [] eb = Pl.mrg ol ks (eb.drop k)) ∧ Hid (Pl.Good ol) ∧ Below w.heap.size w wr) (fun _ _ i _ => lenb - (intOf i).toNat)
      case atStart => exact ⟨0, ea, [], _, rfl, Nat.zero_le _, rfl, HO, OwnS.nil _ _, Nat.le_refl _, rfl, HGA, hbl3⟩
      case round =>
        obtain ⟨k, ol, ks, vk, rfl, hk, rfl, HOR, HKR, hks, HMR, HGR, hbr⟩ := hrel
        by_cases hlt : k < lenb
        · obtain ⟨bb, boff, rfl, hbw, hrw⟩ : ∃ b0 off, b = some ⟨b0, off, none⟩ ∧ b0 < w.heap.size ∧ RowAt w b0 off eb := by
            rcases HB.out.2.2.2.2 with h | h
            · rw [h] at hlb; simp at hlb; omega
            · exact h
          obtain ⟨q0, q1, q2, q3⟩ := hrw.below hbw hbr k (by omega)
          have HX : Hid ((Pl.ent eb k).may = true) := HGB.out.2.1 _ (Pl.ent_mem eb k (by omega))
          have HD : Hid (eb.drop k = Pl.ent eb k :: eb.drop (k + 1)) := Pl.drop_ent eb k (by omega)
          have HA : Hid (Pl.Asc ol) := (Pl.asc_iff ol).2 HGR.out.2.2
          have HLT : Hid (k < eb.length) := by show _ < _; omega
          have HRW : Hid (RowAt w bb boff eb) := hrw
          obtain ⟨ao, cp, rfl, hE, hn, hpl⟩ := HOR.out.shape HGR.out.ok
          have HE : Hid (IsEnts wr ao ol.length cp ol) := hE
          have HL : Hid (ol.length ≤ 60) := HGR.out.1
          clear hE hn hrw hpl
          have hz := hbr.size
          obtain ⟨y, HY⟩ : ∃ y, Hid (Pl.ent eb k = y) := ⟨_, rfl⟩
          rw [HY.out] at q0 q1 q2 q3 HX HD
          obtain ⟨xk, xv, xo, xx⟩ := y
          simp only at q0 q1 q2 q3
          obtain ⟨tt, HT⟩ : ∃ t, Hid (Pl.there ol xk = t) := ⟨_, rfl⟩
          cases tt
          · have HC : Hid (Pl.comesB ol ⟨xk, xv, xo, xx⟩ = decide ((ol.length : Int) < 60)) := by
              show _ = _
              unfold Pl.comesB
              rw [HT.out, Bool.eq_iff_iff]; simp; omega
            obtain ⟨cc, HCC⟩ : ∃ cc, Hid (Pl.comesB ol ⟨xk, xv, xo, xx⟩ = cc) := ⟨_, rfl⟩
            have hlc : decide ((ol.length : Int) < 60) = cc := by rw [← HC.out, HCC.out]
            have hcp := HE.out.2.1
            have hmp := HE.out.2.2.1
            unfold maxLen at hmp
            have HLL : Hid (ol.length ≤ 60) := HL
            cases cc
            · have hlc' : ¬ ((ol.length : Int) < 60) := by simpa using hlc
              go_wp2_with fail
              refine (placeOf_any _ _ _ ol _ _ HE.out).mono ?_
              rw [Pl.idxI_asc HA.out, HT.out]
              rintro e w4 ⟨rfl, rfl⟩
              go_wp2_with fail
              have hne := in_some w4
              refine wp_region_in (by kernel_rfl) (by kernel_rfl) ?_
              repeat (go_big_quiet_step (fail))
              refine wpQuiet_nil ?_
              intro w5 hw'
              have hb5 := in_out hw'
              clear hw'
              clear hne
              go_wp2_with fail
              go_roundw
              case rel => exact ⟨k + 1, ol, ks, _, rfl, by omega, by go_num, HOR.out.below hb5, HKR.out.below hb5, by omega, by show _ = _; rw [HMR.out, HD.out]; simp [Pl.mrg, HCC.out], HGR, hbr.trans (hb5.mono hz)⟩
              case measure => simp [intOf]; omega
            · have hlc' : (ol.length : Int) < 60 := by simpa using hlc
              go_wp2_with fail
              refine (placeOf_any _ _ _ ol _ _ HE.out).mono ?_
              rw [Pl.idxI_asc HA.out, HT.out]
              rintro e w4 ⟨rfl, rfl⟩
              go_wp2_with fail
              have hne := in_some w4
              refine wp_region_in (by kernel_rfl) (by kernel_rfl) ?_
              repeat (go_big_quiet_step (fail))
              refine wpQuiet_nil ?_
              intro w5 hw'
              have hb5 := in_out hw'
              clear hw'
              clear hne
              obtain ⟨j0, j1, j2, j3⟩ := row_at HRW.out hbw (hbr.trans (hb5.mono hz)) HY.out HLT.out
              have hz5 := hb5.size
              go_wp2_with fail
              refine (withEntry_any _ _ _ ol ⟨xk, xv, xo, xx⟩ _ (HE.out.below hb5) HL.out).mono ?_
              rintro e w6 ⟨v6, rfl, hown6, hb6⟩
              have hz6 := hb6.size
              have hb56 := hb5.trans (hb6.mono hz5)
              clear j0 j1 j2 j3
              obtain ⟨j0, j1, j2, j3⟩ := row_at HRW.out hbw (hbr.trans (hb56.mono hz)) HY.out HLT.out
              have HK6 : Hid (OwnS w6 w.heap.size vk ks) := HKR.out.below hb56
              have HO6 : Hid (Own w6 w5.heap.size v6 (Pl.ins ol ⟨xk, xv, xo, xx⟩)) := by
                have := hown6
                rwa [Pl.wE_ins ol _ HGR.out.2.2] at this
              clear hown6
              go_wp2_with (at_builtin; refine append_key rfl (.tmp 64) (.tmp 70) rfl w.heap.size vk ks xk rfl HK6.out (by omega) rfl (by omega) ?_; intro vk7 w7 hk7 hg7 hb7)
              have HO7 : Hid (Own w7 w.heap.size v6 (Pl.ins ol ⟨xk, xv, xo, xx⟩)) := by
                have ha := Own.below HO6.out ((Below.refl _ _).alloc (Nat.le_refl _) (.cells #[.string xk] 9))
                refine (Own.kept ha hg7 ?_).mono (by omega)
                have l1 := World.ownsRow.lt HO6.out
                have l2 := World.ownsRow.lt HKR.out
                cases e1 : v6.ownBlock with
                | none => exact .inl rfl
                | some g =>
                  right
                  intro e2
                  have a1 := (l1 g e1).1
                  have a2 := (l2 g e2.symm).2
                  omega
              have HG7 : Hid (Pl.Good (Pl.ins ol ⟨xk, xv, xo, xx⟩)) := Pl.ins_good HGR.out HX.out HCC.out
              have hbr7 : Below w.heap.size w w7 := (hbr.trans (hb56.mono hz)).trans hb7
              clear hg7 hb7
              go_wp2_with fail
              go_roundw
              case rel => exact ⟨k + 1, _, ks ++ [xk], _, rfl, by omega, by go_num, HO7, hk7, by simp; omega, by show _ = _; rw [HMR.out, HD.out]; simp [Pl.mrg, HCC.out], HG7, hbr7⟩
              case measure => simp [intOf]; omega
          · have hpos : Pl.pos ol xk < ol.length := by
              have := HT.out
              unfold Pl.there at this
              simp only [Bool.and_eq_true, decide_eq_true_eq] at this
              exact this.1
            have HC : Hid (Pl.comesB ol ⟨xk, xv, xo, xx⟩ = Pl.aboveB xv xo xx (Pl.ent ol (Pl.pos ol xk)).ver (Pl.ent ol (Pl.pos ol xk)).org (Pl.ent ol (Pl.pos ol xk)).val) := by
              show _ = _
              unfold Pl.comesB Pl.aboveB
              rw [HT.out]
              have := Pl.cmpE_vals xv xo xx (Pl.ent ol (Pl.pos ol xk)).ver (Pl.ent ol (Pl.pos ol xk)).org (Pl.ent ol (Pl.pos ol xk)).val
              simp only [if_true]
              rw [Bool.eq_iff_iff]; simp; omega
            obtain ⟨ab, aoff, rfl, hab, har⟩ : ∃ b off, ao = some ⟨b, off, none⟩ ∧ b < wr.heap.size ∧ RowAt wr b off ol := by
              rcases HE.out.2.2.2.2 with h | h
              · rw [h] at hpos; simp at hpos
              · exact h
            obtain ⟨z0, z1, z2, z3⟩ := har _ hpos
            have hcp := HE.out.2.1
            have hmp := HE.out.2.2.1
            unfold maxLen at hmp
            obtain ⟨p, HP⟩ : ∃ p, Hid (Pl.pos ol xk = p) := ⟨_, rfl⟩
            rw [HP.out] at hpos z0 z1 z2 z3 HC
            generalize Pl.ent ol p = y at *
            obtain ⟨yk, yv, yo, yx⟩ := y
            simp only at z0 z1 z2 z3
            have hp1 : (p : Int) < (ol.length : Int) := by omega
            have hpd : decide ((p : Int) < 0) = false := decide_eq_false (by omega)
            have hpe : decide ((0 : Int) ≤ (p : Int)) = true := decide_eq_true (by omega)
            obtain ⟨cc, HCC⟩ : ∃ cc, Hid (Pl.comesB ol ⟨xk, xv, xo, xx⟩ = cc) := ⟨_, rfl⟩
            have HAA : Hid (∀ W, Calls Try.prog 28 #[.agg #[.string xk, .int .i64 xv, .int .i64 xo, .string xx], .agg #[.string yk, .int .i64 yv, .int .i64 yo, .string yx]] W fun e w' => e = .returned (.bool cc) ∧ Below W.heap.size W w') := by
              intro W
              have := Above_any xk yk xv xo yv yo xx yx W
              rwa [← HC.out, HCC.out] at this
            cases cc
            · go_wp2_with fail
              refine (placeOf_any _ _ _ ol _ _ HE.out).mono ?_
              rw [Pl.idxI_asc HA.out, HT.out, HP.out]
              rintro e w4 ⟨rfl, rfl⟩
              go_wp2_with fail
              have hbb : bb < w4.heap.size := by omega
              have i0 := in_cell hbb q0
              have i1 := in_cell hbb q1
              have i2 := in_cell hbb q2
              have i3 := in_cell hbb q3
              have i4 := in_cell hab z0
              have i5 := in_cell hab z1
              have i6 := in_cell hab z2
              have i7 := in_cell hab z3
              have hne := in_some w4
              refine wp_region_in (by kernel_rfl) (by kernel_rfl) ?_
              repeat (go_big_quiet_step ((go_at_call 28; exact in_call (HAA.out _))))
              refine wpQuiet_nil ?_
              intro w5 hw'
              have hb5 := in_out hw'
              clear hw'
              clear i0 i1 i2 i3 i4 i5 i6 i7 z0 z1 z2 z3 hne
              go_wp2_with fail
              go_roundw
              case rel => exact ⟨k + 1, ol, ks, _, rfl, by omega, by go_num, HOR.out.below hb5, HKR.out.below hb5, by omega, by show _ = _; rw [HMR.out, HD.out]; simp [Pl.mrg, HCC.out], HGR, hbr.trans (hb5.mono hz)⟩
              case measure => simp [intOf]; omega
            · go_wp2_with fail
              refine (placeOf_any _ _ _ ol _ _ HE.out).mono ?_
              rw [Pl.idxI_asc HA.out, HT.out, HP.out]
              rintro e w4 ⟨rfl, rfl⟩
              go_wp2_with fail
              have hbb : bb < w4.heap.size := by omega
              have i0 := in_cell hbb q0
              have i1 := in_cell hbb q1
              have i2 := in_cell hbb q2
              have i3 := in_cell hbb q3
              have i4 := in_cell hab z0
              have i5 := in_cell hab z1
              have i6 := in_cell hab z2
              have i7 := in_cell hab z3
              have hne := in_some w4
              refine wp_region_in (by kernel_rfl) (by kernel_rfl) ?_
              repeat (go_big_quiet_step ((go_at_call 28; exact in_call (HAA.out _))))
              refine wpQuiet_nil ?_
              intro w5 hw'
              have hb5 := in_out hw'
              clear hw'
              clear i0 i1 i2 i3 i4 i5 i6 i7 z0 z1 z2 z3 hne
              obtain ⟨j0, j1, j2, j3⟩ := row_at HRW.out hbw (hbr.trans (hb5.mono hz)) HY.out HLT.out
              have hz5 := hb5.size
              go_wp2_with fail
              refine (withEntry_any _ _ _ ol ⟨xk, xv, xo, xx⟩ _ (HE.out.below hb5) HL.out).mono ?_
              rintro e w6 ⟨v6, rfl, hown6, hb6⟩
              have hz6 := hb6.size
              have hb56 := hb5.trans (hb6.mono hz5)
              clear j0 j1 j2 j3
              obtain ⟨j0, j1, j2, j3⟩ := row_at HRW.out hbw (hbr.trans (hb56.mono hz)) HY.out HLT.out
              have HK6 : Hid (OwnS w6 w.heap.size vk ks) := HKR.out.below hb56
              have HO6 : Hid (Own w6 w5.heap.size v6 (Pl.ins ol ⟨xk, xv, xo, xx⟩)) := by
                have := hown6
                rwa [Pl.wE_ins ol _ HGR.out.2.2] at this
              clear hown6
              go_wp2_with (at_builtin; refine append_key rfl (.tmp 64) (.tmp 70) rfl w.heap.size vk ks xk rfl HK6.out (by omega) rfl (by omega) ?_; intro vk7 w7 hk7 hg7 hb7)
              have HO7 : Hid (Own w7 w.heap.size v6 (Pl.ins ol ⟨xk, xv, xo, xx⟩)) := by
                have ha := Own.below HO6.out ((Below.refl _ _).alloc (Nat.le_refl _) (.cells #[.string xk] 9))
                refine (Own.kept ha hg7 ?_).mono (by omega)
                have l1 := World.ownsRow.lt HO6.out
                have l2 := World.ownsRow.lt HKR.out
                cases e1 : v6.ownBlock with
                | none => exact .inl rfl
                | some g =>
                  right
                  intro e2
                  have a1 := (l1 g e1).1
                  have a2 := (l2 g e2.symm).2
                  omega
              have HG7 : Hid (Pl.Good (Pl.ins ol ⟨xk, xv, xo, xx⟩)) := Pl.ins_good HGR.out HX.out HCC.out
              have hbr7 : Below w.heap.size w w7 := (hbr.trans (hb56.mono hz)).trans hb7
              clear hg7 hb7
              go_wp2_with fail
              go_roundw
              case rel => exact ⟨k + 1, _, ks ++ [xk], _, rfl, by omega, by go_num, HO7, hk7, by simp; omega, by show _ = _; rw [HMR.out, HD.out]; simp [Pl.mrg, HCC.out], HG7, hbr7⟩
              case measure => simp [intOf]; omega
        · obtain rfl : k = lenb := by omega
          go_wp2_with fail
          go_ret3
          have hmm : Pl.mrg ea [] eb = (ol, ks) := by
            rw [HMR.out, List.drop_eq_nil_of_le (by omega)]; rfl
          exact ⟨_, _, by rw [HM.out.1]; rfl, by rw [HM.out.2.1, hmm]; exact HOR.out, by rw [HM.out.2.2, hmm]; exact HKR.out, hbr⟩
    · subst hca
      have hcn : (cb != 0) = true := by simp [hcb]
      have hce : (cb == 0) = false := by simp [hcb]
      have HM : Hid (Pl.mergeC ea eb = cb ∧ Pl.mergeO ea eb = [] ∧ Pl.mergeK ea eb = []) := by
        have : Pl.mergeC ea eb = cb := by unfold Pl.mergeC; rw [HCA.out, HCB.out]; rfl
        refine ⟨this, ?_, ?_⟩
        · unfold Pl.mergeO; rw [this, if_neg hcb]
        · unfold Pl.mergeK; rw [this, if_neg hcb]
      clear hcb
      go_enter Try.func18, Try.ntmps18
      go_wp2_with fail
      refine (StoreFault_any _ _ _ ea _ HH.out).mono ?_
      rw [HCA.out]
      rintro e w1 ⟨rfl, hb1⟩
      go_wp2_with fail
      refine (StoreFault_any _ _ _ eb _ (HB.out.below hb1)).mono ?_
      rw [HCB.out]
      rintro e w2 ⟨rfl, hb2⟩
      go_wp2_with fail
      go_ret3
      exact ⟨_, _, by rw [HM.out.1]; rfl, by rw [HM.out.2.1]; exact Own.nil _ _, by rw [HM.out.2.2]; exact OwnS.nil _ _, hb1.trans (hb2.mono hb1.size)⟩
  · have hcn : (ca != 0) = true := by simp [hca]
    have hce : (ca == 0) = false := by simp [hca]
    have HM : Hid (Pl.mergeC ea eb = ca ∧ Pl.mergeO ea eb = [] ∧ Pl.mergeK ea eb = []) := by
      have : Pl.mergeC ea eb = ca := by unfold Pl.mergeC; rw [HCA.out, if_neg hca]
      refine ⟨this, ?_, ?_⟩
      · unfold Pl.mergeO; rw [this, if_neg hca]
      · unfold Pl.mergeK; rw [this, if_neg hca]
    clear hca
    go_enter Try.func18, Try.ntmps18
    go_wp2_with fail
    refine (StoreFault_any _ _ _ ea _ HH.out).mono ?_
    rw [HCA.out]
    rintro e w1 ⟨rfl, hb1⟩
    go_wp2_with fail
    go_ret3
    exact ⟨_, _, by rw [HM.out.1]; rfl, by rw [HM.out.2.1]; exact Own.nil _ _, by rw [HM.out.2.2]; exact OwnS.nil _ _, hb1⟩
end Go.Proofs.Ytcdobhdbafpkiaa
