/-
  Contract: what the document's TableFault answers at every list of routes.
-/
import Derived.Test.YtcdobhdbafpkiaeRib3
namespace Go.Proofs.Ytcdobhdbafpkiae
open Go.RowKit

theorem box5' {w w3 : World} {k : Nat} {c0 c1 c2 c3 c4 : Value} {T : TypeId} {o : Obj} (hb : Below (w.heap.size + 1 + k) ((w.alloc (.cells #[c0, c1, c2, c3, c4] T)).alloc o) w3) :
    w3.cell? ⟨w.heap.size, 0, none⟩ = some c0 ∧ w3.cell? ⟨w.heap.size, 1, none⟩ = some c1 ∧ w3.cell? ⟨w.heap.size, 2, none⟩ = some c2 ∧ w3.cell? ⟨w.heap.size, 3, none⟩ = some c3 ∧ w3.cell? ⟨w.heap.size, 4, none⟩ = some c4 := by
  refine ⟨?_, ?_, ?_, ?_, ?_⟩
  all_goals
    rw [hb.cell (show w.heap.size < _ by omega)]
    simp
theorem below_box5 {B : Nat} {w w3 : World} {k : Nat} {o o' : Obj} (hb : Below (w.heap.size + 1 + k) ((w.alloc o).alloc o') w3) (h : B ≤ w.heap.size) : Below B w w3 :=
  (((Below.refl _ _).alloc h _).alloc (by simp; omega) _).trans (hb.mono (by omega))

theorem Pl.head_iff (c cost : Int) (oc here : Bool) (hl : Nat) : (decide (c = 0) && oc && !(here && decide (0 < cost)) && !(here == decide (0 < hl))) = true ↔ (c = 0 ∧ oc = true ∧ (¬ (here = true ∧ 0 < cost)) ∧ here = !decide (0 < hl)) := by
  generalize decide (0 < hl) = x
  cases oc <;> cases here <;> cases x <;> simp

set_option maxRecDepth 20000 in
set_option maxHeartbeats 4000000 in
theorem TableFault_any (a : Option Addr) (len cap : Nat) (hs : List Pl.RH) (rs : List Pl.Rt) (w : World) (h : IsRows w a len cap hs) (hrd : ReadsAll w hs rs) :
    Calls Try.prog 8 #[.slice a len cap] w fun e w' => e = .returned (.int .i64 (Pl.tabF rs)) ∧ Below w.heap.size w w' := by
  have HH := hid h
  have HD := hid hrd
  have HLR : Hid (rs.length = len) := hid (by rw [← hrd.1]; exact h.1)
  have HLH : Hid (hs.length = len) := hid h.1
  have hc := h.2.1
  have hm := h.2.2.1
  unfold maxLen at hm
  clear h hrd
  obtain ⟨R, HR⟩ : ∃ R, Hid (Pl.tabF rs = R) := ⟨_, rfl⟩
  rw [HR.out]
  by_cases h200 : 200 < len
  · have HS : Hid (R = 1) := hid (by rw [← HR.out]; exact Pl.tabF_size (by rw [HLR.out]; exact h200))
    go_enter Try.func8, Try.ntmps8
    go_wp2
    go_ret
    exact ⟨ret_int HS.out.symm, Below.refl _ _⟩
  go_enter Try.func8, Try.ntmps8
  go_wp2
  go_loopw [3] (fun i wr => ∃ k : Nat, k ≤ len ∧ i = .int .i64 k ∧ Hid (R = Pl.tabN rs (len - k) k) ∧ Hid (Below w.heap.size w wr)) (fun i _ => len - (intOf i).toNat)
  case atStart => exact ⟨0, Nat.zero_le _, rfl, hid (by rw [← HR.out, Pl.tabF_from (by rw [HLR.out]; omega), HLR.out]; rfl), hid (Below.refl _ _)⟩
  case round =>
    obtain ⟨k, hk, rfl, HF, HB⟩ := hrel
    by_cases hlt : k < len
    · obtain ⟨b, off, rfl, hbw, hr⟩ := HH.out.at hlt
      have hb := HB.out
      have hr' := hr.below hbw hb
      have hz := hb.size
      have hbr : b < wr.heap.size := by omega
      obtain ⟨c0, c1, c2, c3, c4⟩ := hr' k (by rw [HLH.out]; exact hlt)
      have HRE := hid ((HD.out.2 k (by rw [HLH.out]; exact hlt)).below hb)
      obtain ⟨n, hn⟩ : ∃ n, len - k = n + 1 := ⟨len - k - 1, by omega⟩
      have HN := hid hn
      clear hn
      obtain ⟨hh, HE⟩ : ∃ x, Hid (Pl.rh hs k = x) := ⟨_, rfl⟩
      rw [HE.out] at c0 c1 c2 c3 c4 HRE
      obtain ⟨⟨p1, p2⟩, here, cost, ha, hl, hcc⟩ := hh
      simp only at c0 c1 c2 c3 c4
      obtain ⟨zs, HZ⟩ : ∃ zs, Hid ((Pl.rt rs k).hops = zs) := ⟨_, rfl⟩
      have HPK : Hid ((p1, p2) = (Pl.rt rs k).p) := hid HRE.out.1
      have HI : Hid (IsInts wr ha hl hcc zs) := hid (by rw [← HZ.out]; exact HRE.out.2.2.2.1)
      have HP : Hid (Pl.pairOk (p1, p2)) := hid (by rw [HPK.out]; exact HRE.out.2.2.2.2)
      have HLZ : Hid (zs.length = hl) := hid HI.out.1
      have hlc := HI.out.2.1
      have hcm := HI.out.2.2.1
      unfold maxLen at hcm
      obtain ⟨c, HC⟩ : ∃ c, Hid (Pl.pfxF [(p1, p2)] = c) := ⟨_, rfl⟩
      obtain ⟨oc, HO⟩ : ∃ c, Hid (decide (0 ≤ cost ∧ cost ≤ 1048576) = c) := ⟨_, rfl⟩
      have HHD : Hid (Pl.headR (Pl.rt rs k) = (decide (c = 0) && oc && !(here && decide (0 < cost)) && !(here == decide (0 < hl)))) := by
        refine hid ?_
        unfold Pl.headR
        rw [← HRE.out.2.1, ← HRE.out.2.2.1, HZ.out, HLZ.out, ← HPK.out, ← Pl.pfxF_one, HC.out, HO.out]
      have HPF : Hid (∀ (W : World) (n : Nat), W.heap.size = n → Calls Try.prog 20 #[.slice (some ⟨n, 0, none⟩) 1 1] (W.alloc (.cells #[.int .i64 p1, .int .i64 p2] 27)) fun e w' => e = .returned (.int .i64 c) ∧ Below (n + 1) (W.alloc (.cells #[.int .i64 p1, .int .i64 p2] 27)) w') := by
        refine hid fun W n hn => ?_
        have := PrefixesFault_any _ _ _ _ _ (onePair W n p1 p2 27 HP.out hn)
        rw [HC.out] at this
        simpa [hn] using this
      have HIN : Hid (∀ W, Calls Try.prog 21 #[.int .i64 cost, .int .i64 0, .int .i64 1048576] W fun e w' => e = .returned (.bool oc) ∧ w' = W) := by
        refine hid fun W => ?_
        have := In_any cost 0 1048576 W
        rwa [HO.out] at this
      clear hr HRE
      obtain ⟨hd, HHE⟩ : ∃ c, Hid (Pl.headR (Pl.rt rs k) = c) := ⟨_, rfl⟩
      have HBAD : Hid (hd = false → R = 4) := hid fun e => by
        rw [HF.out, HN.out, Pl.tabN_form (by rw [Pl.routeB_head, HHE.out, e]; rfl)]
      rw [HHE.out] at HHD
      by_cases hgood : c = 0 ∧ oc = true ∧ (¬ (here = true ∧ 0 < cost)) ∧ here = !decide (0 < hl)
      · obtain ⟨rfl, rfl, hg1, hg2⟩ := hgood
        have HOK : Hid (hd = true) := hid (by rw [HHD.out]; exact (Pl.head_iff _ _ _ _ _).2 ⟨rfl, rfl, hg1, hg2⟩)
        have HRB : Hid (Pl.routeB (Pl.rt rs k) = Pl.hopsB zs) := hid (by rw [Pl.routeB_head, HHE.out, HOK.out, HZ.out]; rfl)
        have HBAD : Hid (Pl.hopsB zs = false → R = 4) := hid fun e => by
          rw [HF.out, HN.out, Pl.tabN_form (by rw [HRB.out, e])]
        clear HHD
        have g3 : (here = true ∧ ¬ 0 < hl) ∨ (here = false ∧ 0 < hl) := by
          rw [hg2]; by_cases q : 0 < hl <;> simp [q]
        have g4 : here = true → ¬ 0 < cost := fun e q => hg1 ⟨e, q⟩
        clear hg1 hg2
        rcases g3 with ⟨rfl, g3⟩ | ⟨rfl, g3⟩
        all_goals (try have g4' := g4 rfl)
        all_goals
          clear g4
          go_wp2_with fail
          refine (HPF.out _ _ (by simp)).mono ?_
          rintro e w1 ⟨rfl, hb1⟩
          obtain ⟨x0, x1, x2, x3, x4⟩ := box5' hb1
          have hbb := below_box5 hb1 (Nat.le_refl _)
          have hbx : wr.heap.size < w1.heap.size := by have := hb1.size; simp at this; omega
          have HBB := hid (hb.trans (hbb.mono hz))
          have HI1 := hid (HI.out.below hbb)
          have HR1 := hid (hr'.below hbr hbb)
          have hb1w : b < w1.heap.size := by omega
          obtain ⟨B, HBX⟩ : ∃ B, Hid (wr.heap.size = B) := ⟨_, rfl⟩
          clear hb1 c0 c1 c2 c3 c4 hr'
          go_wp2_with (go_at_call 21; refine (HIN.out _).mono ?_; rintro e w1 ⟨rfl, rfl⟩)
          rw [HBX.out] at x0 x1 x2 x3 x4 hbx ⊢
          clear HIN HPF g3
          go_loopw [5] (fun i wq => ∃ j : Nat, j ≤ hl ∧ i = .int .i64 j ∧ Hid (∀ t, t < j → Pl.hopB zs t = true) ∧ Hid (Below w1.heap.size w1 wq)) (fun i _ => hl - (intOf i).toNat)
          case atStart => exact ⟨0, Nat.zero_le _, rfl, hid (by intro t ht; omega), hid (Below.refl _ _)⟩
          case round =>
            obtain ⟨j, hj, rfl, HJ, HBJ⟩ := hrel
            have hbj := HBJ.out
            have hzj := hbj.size
            have y4 := (hbj.cell (p := ⟨B, 4, none⟩) hbx).trans x4
            have hbq : B < wr.heap.size := by omega
            by_cases hlt2 : j < hl
            · obtain ⟨b2, off2, rfl, hb2, hr2⟩ := HI1.out.at hlt2
              have k0 := (hbj.cell (p := ⟨b2, off2 + j, none⟩) hb2).trans (hr2 j (by rw [HLZ.out]; exact hlt2))
              obtain ⟨z, HZZ⟩ : ∃ z, Hid (Pl.nm zs j = z) := ⟨_, rfl⟩
              rw [HZZ.out] at k0
              obtain ⟨ob, HOB⟩ : ∃ c, Hid (decide (0 ≤ z ∧ z ≤ 11) = c) := ⟨_, rfl⟩
              have HN2 : Hid (∀ W, Calls Try.prog 21 #[.int .i64 z, .int .i64 0, .int .i64 11] W fun e w' => e = .returned (.bool ob) ∧ Below W.heap.size W w') := by
                refine hid fun W => ?_
                have := In_any z 0 11 W
                rw [HOB.out] at this
                exact this.mono fun e w' ⟨h1, h2⟩ => ⟨h1, h2 ▸ Below.refl _ _⟩
              have HF2 : Hid (Pl.hopB zs j = false → Pl.hopsB zs = false) := hid fun hh => Pl.hopsB_false (by rw [HLZ.out]; exact hlt2) hh
              have hb2q : b2 < wr.heap.size := by omega
              have hlt2' : (j : Int) < (hl : Int) := by omega
              cases ob
              · have HBB2 : Hid (Pl.hopB zs j = false) := hid (by unfold Pl.hopB; rw [HZZ.out, HOB.out]; rfl)
                go_wp2_with fail
                have i0 := in_cell hbq y4
                have i1 := in_cell hb2q k0
                have hne := in_some wr
                refine wp_region_in (by kernel_rfl) (by kernel_rfl) ?_
                repeat (go_big_quiet_step ((go_at_call 21; exact in_call (HN2.out _))))
                refine wpQuiet_nil ?_
                intro w5 hw'
                have hb5 := in_out hw'
                clear hw' i0 i1 hne
                go_wp2_with fail
                go_ret
                exact ⟨ret_int (HBAD.out (HF2.out HBB2.out)).symm, (HBB.out.trans (hbj.mono HBB.out.size)).trans (hb5.mono (Nat.le_trans HBB.out.size hzj))⟩
              · rcases Nat.eq_zero_or_pos j with hj0 | hj0
                · have hd : decide (0 < j) = false := by simp; omega
                  have HB1 : Hid (Pl.hopB zs j = true) := hid (by rw [hj0, Pl.hopB_zero, ← hj0, HZZ.out, HOB.out])
                  have HJ0 := hid hj0
                  clear hj0
                  go_wp2_with fail
                  have i0 := in_cell hbq y4
                  have i1 := in_cell hb2q k0
                  have hne := in_some wr
                  refine wp_region_in (by kernel_rfl) (by kernel_rfl) ?_
                  repeat (go_big_quiet_step ((go_at_call 21; exact in_call (HN2.out _))))
                  refine wpQuiet_nil ?_
                  intro w5 hw'
                  have hb5 := in_out hw'
                  clear hw' i0 i1 hne
                  go_wp2_with fail
                  go_roundw
                  case rel => exact ⟨j + 1, by omega, by go_num, hid fun t ht => by have := HJ0.out; obtain rfl : t = j := (by omega); exact HB1.out, hid (hbj.trans (hb5.mono hzj))⟩
                  case measure => simp [intOf]; omega
                · obtain ⟨m, rfl⟩ : ∃ m, j = m + 1 := ⟨j - 1, by omega⟩
                  have k1 := (hbj.cell (p := ⟨b2, off2 + m, none⟩) hb2).trans (hr2 m (by rw [HLZ.out]; omega))
                  obtain ⟨y, HY⟩ : ∃ z, Hid (Pl.nm zs m = z) := ⟨_, rfl⟩
                  rw [HY.out] at k1
                  have HBE : Hid (Pl.hopB zs (m + 1) = decide (y < z)) := hid (by rw [Pl.hopB_succ, HZZ.out, HY.out, HOB.out]; rfl)
                  by_cases hle : z ≤ y
                  · have HBB2 : Hid (Pl.hopB zs (m + 1) = false) := hid (by rw [HBE.out]; simp; omega)
                    go_wp2_with fail
                    have i0 := in_cell hbq y4
                    have i1 := in_cell hb2q k0
                    have i2 := in_cell hb2q k1
                    have hne := in_some wr
                    refine wp_region_in (by kernel_rfl) (by kernel_rfl) ?_
                    repeat (go_big_quiet_step ((go_at_call 21; exact in_call (HN2.out _))))
                    refine wpQuiet_nil ?_
                    intro w5 hw'
                    have hb5 := in_out hw'
                    clear hw' i0 i1 i2 hne
                    go_wp2_with fail
                    go_ret
                    exact ⟨ret_int (HBAD.out (HF2.out HBB2.out)).symm, (HBB.out.trans (hbj.mono HBB.out.size)).trans (hb5.mono (Nat.le_trans HBB.out.size hzj))⟩
                  · have HB1 : Hid (Pl.hopB zs (m + 1) = true) := hid (by rw [HBE.out]; simp; omega)
                    go_wp2_with fail
                    have i0 := in_cell hbq y4
                    have i1 := in_cell hb2q k0
                    have i2 := in_cell hb2q k1
                    have hne := in_some wr
                    refine wp_region_in (by kernel_rfl) (by kernel_rfl) ?_
                    repeat (go_big_quiet_step ((go_at_call 21; exact in_call (HN2.out _))))
                    refine wpQuiet_nil ?_
                    intro w5 hw'
                    have hb5 := in_out hw'
                    clear hw' i0 i1 i2 hne
                    go_wp2_with fail
                    go_roundw
                    case rel => exact ⟨m + 1 + 1, by omega, by go_num, hid fun t ht => by rcases Nat.lt_or_ge t (m + 1) with q | q; exact HJ.out t q; obtain rfl : t = m + 1 := (by omega); exact HB1.out, hid (hbj.trans (hb5.mono hzj))⟩
                    case measure => simp [intOf]; omega
            · have hjl : j = hl := by omega
              have HTR : Hid (Pl.routeB (Pl.rt rs k) = true) := hid (by rw [HRB.out]; exact Pl.hopsB_true (by rw [HLZ.out, ← hjl]; exact HJ.out))
              have hnl : ¬ ((j : Int) < (hl : Int)) := by omega
              clear hjl hj
              have HBQ := hid (HBB.out.trans (hbj.mono HBB.out.size))
              have hzq := HBQ.out.size
              have y0 := (hbj.cell (p := ⟨B, 0, none⟩) hbx).trans x0
              have y1 := (hbj.cell (p := ⟨B, 1, none⟩) hbx).trans x1
              have hbrq : b < wr.heap.size := by omega
              rcases Nat.eq_zero_or_pos k with hk0 | hk0
              · have hd : decide (0 < k) = false := by simp; omega
                have HLW : Hid (Pl.lowR rs k = false) := hid (by rw [hk0]; exact Pl.lowR_zero rs)
                clear hk0
                go_wp2_with fail
                go_quiet (fail)
                go_wp2_with fail
                go_roundw
                case rel => exact ⟨k + 1, by omega, by go_num, hid (by rw [HF.out, HN.out, Pl.tabN_on HTR.out HLW.out]; congr 1; have := HN.out; omega), hid (below_drew HBQ.out _)⟩
                case measure => simp [intOf]; omega
              · obtain ⟨m, rfl⟩ : ∃ m, k = m + 1 := ⟨k - 1, by omega⟩
                obtain ⟨d0, d1, _, _, _⟩ := HR1.out m (by rw [HLH.out]; omega)
                obtain ⟨gg, HG⟩ : ∃ x, Hid ((Pl.rh hs m).p = x) := ⟨_, rfl⟩
                rw [HG.out] at d0 d1
                have HPM : Hid (gg = (Pl.rt rs m).p) := hid (by rw [← HG.out]; exact (HD.out.2 m (by rw [HLH.out]; omega)).1)
                obtain ⟨q1, q2⟩ := gg
                simp only at d0 d1
                have e0 := (hbj.cell (p := ⟨b, off + m * 5, none⟩) hb1w).trans d0
                have e1 := (hbj.cell (p := ⟨b, off + m * 5 + 1, none⟩) hb1w).trans d1
                obtain ⟨cq, HCQ⟩ : ∃ c, Hid (Pl.pltB (q1, q2) (p1, p2) = c) := ⟨_, rfl⟩
                have HLW : Hid (Pl.lowR rs (m + 1) = !cq) := by
                  refine hid ?_
                  rw [← HCQ.out, Pl.lowR_succ, ← HPM.out, ← HPK.out]
                have HCP : Hid (∀ W, Calls Try.prog 22 #[.agg #[.int .i64 p1, .int .i64 p2], .agg #[.int .i64 q1, .int .i64 q2]] W fun e w' => e = .returned (.bool cq) ∧ Below W.heap.size W w') := by
                  refine hid fun W => ?_
                  have := behind_any p1 p2 q1 q2 W
                  rwa [HCQ.out] at this
                clear d0 d1
                cases cq
                all_goals
                  go_wp2_with fail
                  have i0 := in_cell hbq y0
                  have i1 := in_cell hbq y1
                  have i2 := in_cell hbrq e0
                  have i3 := in_cell hbrq e1
                  have hne := in_some wr
                  refine wp_region_in (by kernel_rfl) (by kernel_rfl) ?_
                  repeat (go_big_quiet_step ((go_at_call 22; exact in_call (HCP.out _))))
                  refine wpQuiet_nil ?_
                  intro w5 hw'
                  have hb5 := in_out hw'
                  clear hw' i0 i1 i2 i3 hne
                  go_wp2_with fail
                · go_ret
                  exact ⟨ret_int (by rw [HF.out, HN.out, Pl.tabN_low HTR.out HLW.out]), HBQ.out.trans (hb5.mono hzq)⟩
                · go_roundw
                  case rel => exact ⟨m + 1 + 1, by omega, by go_num, hid (by rw [HF.out, HN.out, Pl.tabN_on HTR.out HLW.out]; congr 1; have := HN.out; omega), hid (HBQ.out.trans (hb5.mono hzq))⟩
                  case measure => simp [intOf]; omega
      · have HS : Hid (R = 4) := hid (HBAD.out (by rw [HHD.out]; exact Bool.eq_false_iff.2 fun e => hgood ((Pl.head_iff _ _ _ _ _).1 e)))
        clear HBAD HHD
        by_cases hc0 : c = 0
        · subst hc0
          by_cases g1 : 0 < cost
          all_goals by_cases g3 : 0 < hl
          all_goals cases oc
          all_goals cases here
          all_goals first | (exfalso; apply hgood; simp; omega) | skip
          all_goals
            clear hgood
            go_wp2_with fail
            refine (HPF.out _ _ (by simp)).mono ?_
            rintro e w1 ⟨rfl, hb1⟩
            obtain ⟨x0, x1, x2, x3, x4⟩ := box5' hb1
            have hbb := hb.trans (below_box5 hb1 hz)
            clear hb1
            go_wp2_with (go_at_call 21; refine (HIN.out _).mono ?_; rintro e w' ⟨rfl, rfl⟩)
            go_ret
            exact ⟨ret_int HS.out.symm, hbb⟩
        · have hd0 : (c != 0) = true := by simpa using hc0
          clear hgood hc0
          go_wp2_with fail
          refine (HPF.out _ _ (by simp)).mono ?_
          rintro e w1 ⟨rfl, hb1⟩
          have hbb := hb.trans (below_box5 hb1 hz)
          clear hb1
          go_wp2_with fail
          go_ret
          exact ⟨ret_int HS.out.symm, hbb⟩
    · obtain rfl : k = len := by omega
      go_wp2
      go_ret
      exact ⟨ret_int (by rw [HF.out]; simp [Pl.tabN]), HB.out⟩
end Go.Proofs.Ytcdobhdbafpkiae
