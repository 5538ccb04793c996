/-
  Contract: what rib.Check answers at every list of routes.
-/
import Derived.Test.YtcdobhdbafpkiaeRib1
namespace Go.Proofs.Ytcdobhdbafpkiae
open Go.RowKit

theorem box5 {w w3 : World} {c0 c1 c2 c3 c4 : Value} {T : TypeId} (hb : Below (w.heap.size + 1) (w.alloc (.cells #[c0, c1, c2, c3, c4] T)) w3) :
    (w3.cell? ⟨w.heap.size, 0, none⟩ = some c0 ∧ w3.cell? ⟨w.heap.size, 1, none⟩ = some c1 ∧ w3.cell? ⟨w.heap.size, 2, none⟩ = some c2 ∧ w3.cell? ⟨w.heap.size, 3, none⟩ = some c3 ∧ w3.cell? ⟨w.heap.size, 4, none⟩ = some c4) ∧ w.heap.size < w3.heap.size ∧ Below w.heap.size w w3 := by
  have hz := hb.size
  simp only [World.alloc, Array.size_push] at hz
  refine ⟨⟨?_, ?_, ?_, ?_, ?_⟩, by omega, ((Below.refl _ _).alloc (Nat.le_refl _) _).trans (hb.mono (by omega))⟩
  all_goals
    rw [hb.cell (by simp)]
    simp

set_option maxHeartbeats 2000000 in
theorem Check_rib (a : Option Addr) (len cap : Nat) (hs : List Pl.RH) (rs : List Pl.Rt) (w : World) (h : IsRows w a len cap hs) (hrd : ReadsAll w hs rs) :
    Calls Try.prog 7 #[.slice a len cap] w fun e w' => e = .returned (.int .i64 (Pl.tabF rs)) ∧ Below w.heap.size w w' := by
  have HH := hid h
  have HD := hid hrd
  have hlr : rs.length = len := by rw [← hrd.1]; exact h.1
  have hlh : hs.length = len := h.1
  have hc := h.2.1
  have hm := h.2.2.1
  unfold maxLen at hm
  clear h hrd
  obtain ⟨R, HR⟩ : ∃ R, Hid (Pl.tabF rs = R) := ⟨_, rfl⟩
  rw [HR.out]
  have HLR := hid hlr
  have HLH := hid hlh
  clear hlr hlh
  by_cases h200 : 200 < len
  · have HS : Hid (R = 1) := hid (by rw [← HR.out]; exact Pl.tabF_size (by rw [HLR.out]; exact h200))
    go_enter Try.func7, Try.ntmps7
    go_wp2
    go_ret
    exact ⟨ret_int HS.out.symm, Below.refl _ _⟩
  go_enter Try.func7, Try.ntmps7
  go_wp2
  go_loopw [10] (fun i wr => ∃ k : Nat, k ≤ len ∧ i = .int .i64 k ∧ Hid (R = Pl.tabN rs (len - k) k) ∧ Hid (Below w.heap.size w wr)) (fun i _ => len - (intOf i).toNat)
  case atStart => exact ⟨0, Nat.zero_le _, rfl, hid (by rw [← HR.out, Pl.tabF_from (by rw [HLR.out]; omega), HLR.out]; rfl), hid (Below.refl _ _)⟩
  case round =>
    obtain ⟨k, hk, rfl, HF, HB⟩ := hrel
    by_cases hlt : k < len
    · obtain ⟨b, off, rfl, hbw, hr⟩ := HH.out.at hlt
      have hb := HB.out
      have hr' := hr.below hbw hb
      have hz := hb.size
      have hbr : b < wr.heap.size := by omega
      obtain ⟨c0, c1, c2, c3, c4⟩ := hr' k (by rw [HLH.out]; exact hlt)
      have HRD := hid ((HD.out.2 k (by rw [HLH.out]; exact hlt)).below hb)
      obtain ⟨n, hn⟩ : ∃ n, len - k = n + 1 := ⟨len - k - 1, by omega⟩
      have HN := hid hn
      clear hn
      obtain ⟨mm, HM⟩ : ∃ mm, Hid (Pl.routeB (Pl.rt rs k) = mm) := ⟨_, rfl⟩
      obtain ⟨hh, HE⟩ : ∃ x, Hid (Pl.rh hs k = x) := ⟨_, rfl⟩
      rw [HE.out] at c0 c1 c2 c3 c4
      have HRE := hid HRD.out
      rw [HE.out] at HRE
      have hpk : Hid (hh.p = (Pl.rt rs k).p) := hid HRE.out.1
      obtain ⟨⟨p1, p2⟩, here, cost, ha, hl, hcc⟩ := hh
      simp only at c0 c1 c2 c3 c4
      have HIS : Hid (∀ W, Below wr.heap.size wr W → Calls Try.prog 18 #[.agg #[.int .i64 p1, .int .i64 p2, .bool here, .int .i64 cost, .slice ha hl hcc]] W fun e w' => e = .returned (.bool mm) ∧ Below W.heap.size W w') := by
        refine hid fun W hW => ?_
        have := isRoute_any ⟨(p1, p2), here, cost, ha, hl, hcc⟩ (Pl.rt rs k) W (HRE.out.below hW)
        rwa [HM.out] at this
      clear HRD HRE hr
      cases mm
      · go_wp2_with fail
        refine (HIS.out _ ((Below.refl _ _).alloc (Nat.le_refl _) _)).mono ?_
        rintro e w1 ⟨rfl, hb1⟩
        go_wp2_with fail
        go_ret
        exact ⟨ret_int (by rw [HF.out, HN.out, Pl.tabN_form HM.out]), (hb.alloc hz _).trans (hb1.mono (by simp; omega))⟩
      · rcases Nat.eq_zero_or_pos k with hk0 | hk0
        · have hd : decide (0 < k) = false := by simp; omega
          have HLW : Hid (Pl.lowR rs k = false) := hid (by rw [hk0]; exact Pl.lowR_zero rs)
          clear hk0
          go_wp2_with fail
          refine (HIS.out _ ((Below.refl _ _).alloc (Nat.le_refl _) _)).mono ?_
          rintro e w1 ⟨rfl, hb1⟩
          go_wp2_with fail
          go_quiet (fail)
          go_wp2_with fail
          go_roundw
          case rel => exact ⟨k + 1, by omega, by go_num, hid (by rw [HF.out, HN.out, Pl.tabN_on HM.out HLW.out]; congr 1; have := HN.out; omega), hid (below_drew ((hb.alloc hz _).trans (hb1.mono (by simp; omega))) _)⟩
          case measure => simp [intOf]; omega
        · obtain ⟨m, rfl⟩ : ∃ m, k = m + 1 := ⟨k - 1, by omega⟩
          obtain ⟨d0, d1, _, _, _⟩ := hr' m (by rw [HLH.out]; omega)
          obtain ⟨gg, HG⟩ : ∃ x, Hid ((Pl.rh hs m).p = x) := ⟨_, rfl⟩
          rw [HG.out] at d0 d1
          have hpm : Hid (gg = (Pl.rt rs m).p) := hid (by rw [← HG.out]; exact (HD.out.2 m (by rw [HLH.out]; omega)).1)
          obtain ⟨q1, q2⟩ := gg
          simp only at d0 d1
          obtain ⟨cq, HCQ⟩ : ∃ c, Hid (Pl.pfxC (q1, q2) (p1, p2) = c) := ⟨_, rfl⟩
          have HLW : Hid (Pl.lowR rs (m + 1) = decide (0 ≤ cq)) := by
            refine hid ?_
            rw [← HCQ.out, Pl.pfxC_ge, Pl.lowR_succ, ← hpm.out, ← hpk.out]
          have HCP : Hid (∀ W, Calls Try.prog 19 #[.agg #[.int .i64 q1, .int .i64 q2], .agg #[.int .i64 p1, .int .i64 p2]] W fun e w' => e = .returned (.int .i64 cq) ∧ Below W.heap.size W w') := by
            refine hid fun W => ?_
            have := comparePrefixes_any (q1, q2) (p1, p2) W
            rwa [HCQ.out] at this
          clear hr'
          by_cases hle : 0 ≤ cq
          all_goals
            go_wp2_with fail
            refine (HIS.out _ ((Below.refl _ _).alloc (Nat.le_refl _) _)).mono ?_
            rintro e w1 ⟨rfl, hb1⟩
            obtain ⟨⟨x0, x1, _, _, _⟩, xs, hbb⟩ := box5 (by simpa using hb1)
            have d0' := (hbb.cell (p := ⟨b, off + m * 5, none⟩) hbr).trans d0
            have d1' := (hbb.cell (p := ⟨b, off + m * 5 + 1, none⟩) hbr).trans d1
            clear hb1
            have hbw1 : b < w1.heap.size := by omega
            go_wp2_with fail
            have i0 := in_cell xs x0
            have i1 := in_cell xs x1
            have i2 := in_cell hbw1 d0'
            have i3 := in_cell hbw1 d1'
            have hne := in_some w1
            refine wp_region_in (by kernel_rfl) (by kernel_rfl) ?_
            repeat (go_big_quiet_step ((go_at_call 19; exact in_call (HCP.out _))))
            refine wpQuiet_nil ?_
            intro w5 hw'
            have hb5 := in_out hw'
            clear hw' i0 i1 i2 i3 hne x0 x1 d0' d1'
            go_wp2_with fail
          · go_ret
            exact ⟨ret_int (by rw [HF.out, HN.out, Pl.tabN_low HM.out (by rw [HLW.out]; simpa using hle)]), hb.trans ((hbb.mono hz).trans (hb5.mono (Nat.le_trans hz hbb.size)))⟩
          · go_roundw
            case rel => exact ⟨m + 1 + 1, by omega, by go_num, hid (by rw [HF.out, HN.out, Pl.tabN_on HM.out (by rw [HLW.out]; simpa using hle)]; congr 1; have := HN.out; omega), hid (hb.trans ((hbb.mono hz).trans (hb5.mono (Nat.le_trans hz hbb.size))))⟩
            case measure => simp [intOf]; omega
    · obtain rfl : k = len := by omega
      go_wp2
      go_ret
      exact ⟨ret_int (by rw [HF.out]; simp [Pl.tabN]), HB.out⟩
end Go.Proofs.Ytcdobhdbafpkiae
