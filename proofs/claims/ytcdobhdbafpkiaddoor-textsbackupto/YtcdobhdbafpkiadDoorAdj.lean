/-
  Contracts: what CheckAdj and AdjFault answer at every list of sides.
-/
import Derived.Test.YtcdobhdbafpkiadDoorPair
namespace Go.Proofs.YtcdobhdbafpkiadDoor
open Go.RowKit
set_option maxRecDepth 20000

set_option maxHeartbeats 1000000 in
theorem CheckAdj_any (d : Bool) (a : Option Addr) (len cap : Nat) (ps : List (Int × Int)) (w : World) (h : IsPairs w a len cap ps) :
    Calls Tryd.prog 18 #[.agg #[.bool d, .slice a len cap]] w fun e w' => e = .returned (.int .i64 (Pl.adjF ps)) ∧ Below w.heap.size w w' := by
  obtain ⟨hl, hc, hm, hok, hrow⟩ := h
  unfold maxLen at hm
  go_enter Tryd.func18, Tryd.ntmps18
  go_wp2
  go_loopw [8] (fun i wr => ∃ k : Nat, k ≤ len ∧ i = .int .i64 k ∧ Hid (Pl.adjF ps = Pl.adjN ps (len - k) k) ∧ Below (w.heap.size + 1) (w.alloc (.cells #[.bool d, .slice a len cap] 25)) wr) (fun i _ => len - (intOf i).toNat)
  case atStart => exact ⟨0, Nat.zero_le _, rfl, by show _ = _; rw [← hl]; rfl, Below.refl _ _⟩
  case round =>
    obtain ⟨k, hk, rfl, HF, hb⟩ := hrel
    obtain ⟨x0, x1, xs, hbb⟩ := box2 hb
    by_cases hlt : k < len
    · obtain ⟨b, off, rfl, hbw, hr⟩ : ∃ b off, a = some ⟨b, off, none⟩ ∧ b < w.heap.size ∧ PairsAt w b off ps := by
        rcases hrow with rfl | h
        · simp at hl; omega
        · exact h
      clear hrow
      have hr' := hr.below hbw hbb
      obtain ⟨c0, c1⟩ := hr' k (by omega)
      obtain ⟨n, hn⟩ : ∃ n, len - k = n + 1 := ⟨len - k - 1, by omega⟩
      have HN : Hid (len - k = n + 1) := hn
      clear hn
      have hbr : b < wr.heap.size := by omega
      obtain ⟨q0, HQ0⟩ : ∃ q0, Hid ((Pl.pr ps k).1 = q0) := ⟨_, rfl⟩
      obtain ⟨q1, HQ1⟩ : ∃ q1, Hid ((Pl.pr ps k).2 = q1) := ⟨_, rfl⟩
      rw [HQ0.out] at c0
      rw [HQ1.out] at c1
      obtain ⟨oo, HO⟩ : ∃ oo, Hid (decide (0 ≤ q0 ∧ q0 ≤ 11) = oo) := ⟨_, rfl⟩
      have HS : Hid (Pl.sideB (Pl.pr ps k).1 (Pl.pr ps k).2 = (oo && decide (1 ≤ q1 ∧ q1 ≤ 1000))) := by
        show _ = _
        unfold Pl.sideB
        rw [HQ0.out, HQ1.out, HO.out]
      by_cases hg : oo = true ∧ 1 ≤ q1 ∧ q1 ≤ 1000
      · obtain ⟨rfl, h1, h2⟩ := hg
        have HM : Hid (Pl.sideB (Pl.pr ps k).1 (Pl.pr ps k).2 = true) := by show _ = _; rw [HS.out]; simp [h1, h2]
        rcases Nat.eq_zero_or_pos k with hk0 | hk0
        · have hd : decide (0 < k) = false := by simp; omega
          have HK0 : Hid (k = 0) := hk0
          clear hk0
          go_wp2_with (go_at_call 27; refine (isNode_any _ _).mono ?_; rw [HO.out]; rintro e w' ⟨rfl, rfl⟩)
          go_quiet (fail)
          go_wp2
          go_roundw
          case rel => exact ⟨k + 1, by omega, by go_num, by show _ = _; have h := HN.out; rw [HF.out, h]; have hm := HM.out; rw [HK0.out] at hm ⊢; rw [Pl.adjN_first hm]; congr 1; have h0 := HK0.out; omega, below_drew (hb.alloc (by omega) _) _⟩
          case measure => simp [intOf]; omega
        · obtain ⟨m, rfl⟩ : ∃ m, k = m + 1 := ⟨k - 1, by omega⟩
          obtain ⟨d0, d1⟩ := hr' m (by omega)
          obtain ⟨r0, HR0⟩ : ∃ r0, Hid ((Pl.pr ps m).1 = r0) := ⟨_, rfl⟩
          rw [HR0.out] at d0
          by_cases hle : q0 ≤ r0
          · go_wp2_with (go_at_call 27; refine (isNode_any _ _).mono ?_; rw [HO.out]; rintro e w' ⟨rfl, rfl⟩)
            go_quiet (fail)
            go_wp2
            go_ret
            exact ⟨ret_int (by rw [HF.out, HN.out, Pl.adjN_low HM.out (by rw [HQ0.out, HR0.out]; omega)]), below_drew (hbb.alloc (by omega) _) _⟩
          · go_wp2_with (go_at_call 27; refine (isNode_any _ _).mono ?_; rw [HO.out]; rintro e w' ⟨rfl, rfl⟩)
            go_quiet (fail)
            go_wp2
            go_roundw
            case rel => exact ⟨m + 1 + 1, by omega, by go_num, by show _ = _; rw [HF.out, HN.out, Pl.adjN_on HM.out (by rw [HQ0.out, HR0.out]; omega)]; congr 1; have := HN.out; omega, below_drew (hb.alloc (by omega) _) _⟩
            case measure => simp [intOf]; omega
      · have HR : Hid (Pl.adjF ps = 2) := by
          show _ = _
          rw [HF.out, HN.out, Pl.adjN_range]
          rw [HS.out]
          cases oo
          · rfl
          · simp at hg ⊢; omega
        cases oo
        all_goals rcases Int.lt_or_le q1 1 with h1 | h1
        all_goals rcases Int.lt_or_le 1000 q1 with h2 | h2
        all_goals first | (exfalso; omega) | skip
        all_goals first | (exfalso; apply hg; refine ⟨rfl, ?_, ?_⟩ <;> assumption) | skip
        all_goals
          go_wp2_with (go_at_call 27; refine (isNode_any _ _).mono ?_; rw [HO.out]; rintro e w' ⟨rfl, rfl⟩)
          go_ret
          exact ⟨ret_int HR.out.symm, hbb.alloc (by omega) _⟩
    · obtain rfl : k = len := by omega
      go_wp2
      go_ret
      exact ⟨ret_int (by rw [HF.out]; simp [Pl.adjN]), hbb⟩

end Go.Proofs.YtcdobhdbafpkiadDoor
