/-
  Contract: what Merge answers at every two lists of entries.
-/
import Derived.Test.YtcdobhdbafpkiadDoorComes
import Derived.Test.YtcdobhdbafpkiadDoorApp
namespace Go.Proofs.YtcdobhdbafpkiadDoor
open Go.RowKit
set_option maxRecDepth 20000

def Pl.mergeC (a b : List Pl.Ent) : Int := if Pl.fault a = 0 then Pl.fault b else Pl.fault a
def Pl.mergeO (a b : List Pl.Ent) : List Pl.Ent := if Pl.mergeC a b = 0 then (Pl.mrg a [] b).1 else []
def Pl.mergeK (a b : List Pl.Ent) : List ByteArray := if Pl.mergeC a b = 0 then (Pl.mrg a [] b).2 else []

theorem Pl.Good.ok {es : List Pl.Ent} (h : Pl.Good es) : ∀ e ∈ es, e.ok := fun e he => Pl.may_ok (h.2.1 e he)

set_option maxHeartbeats 2000000 in
theorem Merge_any (a : Option Addr) (len cap : Nat) (ea : List Pl.Ent) (b : Option Addr) (lenb capb : Nat) (eb : List Pl.Ent) (w : World) (h : IsEnts w a len cap ea) (hnil : a = none → cap = 0) (hB : IsEnts w b lenb capb eb) :
    Calls Tryd.prog 25 #[.slice a len cap, .slice b lenb capb] w fun e w' => ∃ vo vk, e = .returned (.tuple #[vo, vk, .int .i64 (Pl.mergeC ea eb)]) ∧
      Own w' w.heap.size vo (Pl.mergeO ea eb) ∧ OwnS w' w.heap.size vk (Pl.mergeK ea eb) ∧ Below w.heap.size w w' := by
  have HH : Hid (IsEnts w a len cap ea) := h
  have HN : Hid (a = none → cap = 0) := hnil
  have HB : Hid (IsEnts w b lenb capb eb) := hB
  clear h hnil hB
  obtain ⟨ca, HCA⟩ : ∃ c, Hid (Pl.fault ea = c) := ⟨_, rfl⟩
  obtain ⟨cb, HCB⟩ : ∃ c, Hid (Pl.fault eb = c) := ⟨_, rfl⟩
  by_cases hca : ca = 0
  · by_cases hcb : cb = 0
    · subst hca hcb
      have HGA : Hid (Pl.Good ea) := (Pl.good_iff ea).1 HCA.out
      have HGB : Hid (Pl.Good eb) := (Pl.good_iff eb).1 HCB.out
      have HM : Hid (Pl.mergeC ea eb = 0 ∧ Pl.mergeO ea eb = (Pl.mrg ea [] eb).1 ∧ Pl.mergeK ea eb = (Pl.mrg ea [] eb).2) := by
        have : Pl.mergeC ea eb = 0 := by unfold Pl.mergeC; rw [HCA.out, HCB.out]; rfl
        refine ⟨this, ?_, ?_⟩
        · unfold Pl.mergeO; rw [if_pos this]
        · unfold Pl.mergeK; rw [if_pos this]
      have hlen : len ≤ 60 := by have := HH.out.1; have := HGA.out.1; omega
      have hlenb : lenb ≤ 60 := by have := HB.out.1; have := HGB.out.1; omega
      have hlb : eb.length = lenb := HB.out.1
      have hcapb := HB.out.2.1
      have hmb := HB.out.2.2.1
      unfold maxLen at hmb
      go_enter Tryd.func25, Tryd.ntmps25
      go_wp2_with fail
      refine (Check_any _ _ _ ea _ HH.out).mono ?_
      rw [HCA.out]
      rintro e w1 ⟨rfl, hb1⟩
      go_wp2_with fail
      refine (Check_any _ _ _ eb _ (HB.out.below hb1)).mono ?_
      rw [HCB.out]
      rintro e w2 ⟨rfl, hb2⟩
      have hbl2 : Below w.heap.size w w2 := hb1.trans (hb2.mono hb1.size)
      clear hb1 hb2
      go_wp2_with (at_builtin; refine append_copy rfl (.const (.slice none 0 0)) (.tmp 25) rfl _ _ _ ea rfl rfl (HH.out.below hbl2) HN.out (by omega) ?_; intro vo w3 hown hb3)
      have hbl3 : Below w.heap.size w w3 := hbl2.trans (hb3.mono hbl2.size)
      have HO : Hid (Own w3 w.heap.size vo ea) := hown.mono hbl2.size
      clear hown hb3
      go_loopw [9, 10, 29] (fun vo vk i wr => ∃ (k : Nat) (ol : List Pl.Ent) (ks : List ByteArray) (vkk : Value), vkk = vk ∧ k ≤ lenb ∧ i = .int .i64 k ∧ Hid (Own wr w.heap.size vo ol) ∧ Hid (OwnS wr w.heap.size vkk ks) ∧ ks.length ≤ k ∧ Hid (Pl.mrg ea [] eb = Pl.mrg ol ks (eb.drop k)) ∧ Hid (Pl.Good ol) ∧ Below w.heap.size w wr) (fun _ _ i _ => lenb - (intOf i).toNat)
      case atStart => exact ⟨0, ea, [], _, rfl, Nat.zero_le _, rfl, HO, OwnS.nil _ _, Nat.le_refl _, rfl, HGA, hbl3⟩
      case round =>
        obtain ⟨k, ol, ks, vk, rfl, hk, rfl, HOR, HKR, hks, HMR, HGR, hbr⟩ := hrel
        by_cases hlt : k < lenb
        · obtain ⟨bb, boff, rfl, hbw, hrw⟩ : ∃ b0 off, b = some ⟨b0, off, none⟩ ∧ b0 < w.heap.size ∧ RowAt w b0 off eb := by
            rcases HB.out.2.2.2.2 with h | h
            · rw [h] at hlb; simp at hlb; omega
            · exact h
          obtain ⟨q0, q1, q2, q3⟩ := hrw.below hbw hbr k (by omega)
          have HX : Hid ((Pl.ent eb k).may = true) := HGB.out.2.1 _ (Pl.ent_mem eb k (by omega))
          have HD : Hid (eb.drop k = Pl.ent eb k :: eb.drop (k + 1)) := Pl.drop_ent eb k (by omega)
          have HA : Hid (Pl.Asc ol) := (Pl.asc_iff ol).2 HGR.out.2.2
          obtain ⟨ao, cp, rfl, hE, hn, hpl⟩ := HOR.out.shape HGR.out.ok
          have HE : Hid (IsEnts wr ao ol.length cp ol) := hE
          have HN2 : Hid (ao = none → cp = 0) := hn
          have HL : Hid (ol.length ≤ 60) := HGR.out.1
          clear hE hn hrw hpl
          have hz := hbr.size
          generalize Pl.ent eb k = x at *
          obtain ⟨xk, xv, xo, xx⟩ := x
          simp only at q0 q1 q2 q3
          go_wp2_with fail
          refine (find_any _ _ _ ol _ _ (HE.out.below ((Below.refl _ _).alloc (Nat.le_refl _) _)) HA.out HL.out).mono ?_
          rintro e w4 ⟨rfl, hb4⟩
          have hq4 : Below (wr.heap.size + 1) _ w4 := hb4.mono (by simp)
          obtain ⟨x0, x1, x2, x3⟩ := box4 hq4
          have hz4 := hb4.size
          simp at hz4
          go_wp2_with fail
          refine (comes_any _ _ _ ol ⟨xk, xv, xo, xx⟩ _ (HE.out.below (((Below.refl _ _).alloc (Nat.le_refl _) _).trans (hb4.mono (by simp))))).mono ?_
          rintro e w5 ⟨rfl, hb5⟩
          have hq5 : Below (wr.heap.size + 1) _ w5 := hq4.trans (hb5.mono (by omega))
          have hz5 := hb5.size
          clear x0 x1 x2 x3
          obtain ⟨x0, x1, x2, x3⟩ := box4 hq5
          have hbr5 : Below w.heap.size w w5 := (hbr.alloc hz _).trans (hq5.mono (by omega))
          have hwr5 : Below wr.heap.size wr w5 := ((Below.refl _ _).alloc (Nat.le_refl _) _).trans (hq5.mono (by omega))
          obtain ⟨cc, HCC⟩ : ∃ cc, Hid (Pl.comesB ol ⟨xk, xv, xo, xx⟩ = cc) := ⟨_, rfl⟩
          rw [HCC.out]
          cases cc
          · go_wp2_with fail
            go_roundw
            case rel => exact ⟨k + 1, ol, ks, _, rfl, by omega, by go_num, HOR.out.below hwr5, HKR.out.below hwr5, by omega, by show _ = _; rw [HMR.out, HD.out]; simp [Pl.mrg, HCC.out], HGR, hbr5⟩
            case measure => simp [intOf]; omega
          · have HT : Hid (Pl.there ol xk = true → Pl.pos ol xk < ol.length) := by
              intro ht
              unfold Pl.there at ht
              simp only [Bool.and_eq_true, decide_eq_true_eq] at ht
              exact ht.1
            go_wp2_with fail
            refine (lay_any _ _ _ ol (Pl.pos ol xk) (Pl.there ol xk) ⟨xk, xv, xo, xx⟩ _ (HE.out.below hwr5) HN2.out HL.out (Pl.pos_le _ _) HT.out).mono ?_
            rintro e w6 ⟨v6, rfl, hown6, hb6⟩
            have hq6 : Below (wr.heap.size + 1) _ w6 := hq5.trans (hb6.mono (by omega))
            have hz6 := hb6.size
            clear x0 x1 x2 x3
            obtain ⟨x0, x1, x2, x3⟩ := box4 hq6
            have hwr6 : Below wr.heap.size wr w6 := hwr5.trans (hb6.mono (by omega))
            have HK6 : Hid (OwnS w6 w.heap.size vk ks) := HKR.out.below hwr6
            have HO6 : Hid (Own w6 w5.heap.size v6 (Pl.layL ol (Pl.pos ol xk) (Pl.there ol xk) ⟨xk, xv, xo, xx⟩)) := hown6
            clear hown6
            go_wp2_with (at_builtin; refine append_key rfl (.tmp 50) (.tmp 53) rfl w.heap.size vk ks xk rfl HK6.out (by omega) rfl (by omega) ?_; intro vk7 w7 hk7 hg7 hb7)
            have HO7 : Hid (Own w7 w.heap.size v6 (Pl.ins ol ⟨xk, xv, xo, xx⟩)) := by
              have h6 := HO6.out
              rw [Pl.lay_ins ol ⟨xk, xv, xo, xx⟩] at h6
              have ha := Own.below h6 ((Below.refl _ _).alloc (Nat.le_refl _) (.cells #[.string xk] 9))
              refine (Own.kept ha hg7 ?_).mono (by omega)
              have l1 := World.ownsRow.lt h6
              have l2 := World.ownsRow.lt HKR.out
              cases e1 : v6.ownBlock with
              | none => exact .inl rfl
              | some g =>
                right
                intro e2
                have a1 := (l1 g e1).1
                have a2 := (l2 g e2.symm).2
                omega
            have HG7 : Hid (Pl.Good (Pl.ins ol ⟨xk, xv, xo, xx⟩)) := Pl.ins_good HGR.out HX.out HCC.out
            have hbr7 : Below w.heap.size w w7 := (hbr5.trans (hb6.mono (by omega))).trans hb7
            clear hg7 hb7
            go_wp2_with fail
            go_roundw
            case rel => exact ⟨k + 1, _, ks ++ [xk], _, rfl, by omega, by go_num, HO7, hk7, by simp; omega, by show _ = _; rw [HMR.out, HD.out]; simp [Pl.mrg, HCC.out], HG7, hbr7⟩
            case measure => simp [intOf]; omega
        · obtain rfl : k = lenb := by omega
          go_wp2_with fail
          go_ret3
          have hmm : Pl.mrg ea [] eb = (ol, ks) := by
            rw [HMR.out, List.drop_eq_nil_of_le (by omega)]; rfl
          exact ⟨_, _, by rw [HM.out.1]; rfl, by rw [HM.out.2.1, hmm]; exact HOR.out, by rw [HM.out.2.2, hmm]; exact HKR.out, hbr⟩
    · subst hca
      have hcn : (cb != 0) = true := by simp [hcb]
      have HM : Hid (Pl.mergeC ea eb = cb ∧ Pl.mergeO ea eb = [] ∧ Pl.mergeK ea eb = []) := by
        have : Pl.mergeC ea eb = cb := by unfold Pl.mergeC; rw [HCA.out, HCB.out]; rfl
        refine ⟨this, ?_, ?_⟩
        · unfold Pl.mergeO; rw [this, if_neg hcb]
        · unfold Pl.mergeK; rw [this, if_neg hcb]
      clear hcb
      go_enter Tryd.func25, Tryd.ntmps25
      go_wp2_with fail
      refine (Check_any _ _ _ ea _ HH.out).mono ?_
      rw [HCA.out]
      rintro e w1 ⟨rfl, hb1⟩
      go_wp2_with fail
      refine (Check_any _ _ _ eb _ (HB.out.below hb1)).mono ?_
      rw [HCB.out]
      rintro e w2 ⟨rfl, hb2⟩
      go_wp2_with fail
      go_ret3
      exact ⟨_, _, by rw [HM.out.1]; rfl, by rw [HM.out.2.1]; exact Own.nil _ _, by rw [HM.out.2.2]; exact OwnS.nil _ _, hb1.trans (hb2.mono hb1.size)⟩
  · have hcn : (ca != 0) = true := by simp [hca]
    have HM : Hid (Pl.mergeC ea eb = ca ∧ Pl.mergeO ea eb = [] ∧ Pl.mergeK ea eb = []) := by
      have : Pl.mergeC ea eb = ca := by unfold Pl.mergeC; rw [HCA.out, if_neg hca]
      refine ⟨this, ?_, ?_⟩
      · unfold Pl.mergeO; rw [this, if_neg hca]
      · unfold Pl.mergeK; rw [this, if_neg hca]
    clear hca
    go_enter Tryd.func25, Tryd.ntmps25
    go_wp2_with fail
    refine (Check_any _ _ _ ea _ HH.out).mono ?_
    rw [HCA.out]
    rintro e w1 ⟨rfl, hb1⟩
    go_wp2_with fail
    go_ret3
    exact ⟨_, _, by rw [HM.out.1]; rfl, by rw [HM.out.2.1]; exact Own.nil _ _, by rw [HM.out.2.2]; exact OwnS.nil _ _, hb1⟩
end Go.Proofs.YtcdobhdbafpkiadDoor
