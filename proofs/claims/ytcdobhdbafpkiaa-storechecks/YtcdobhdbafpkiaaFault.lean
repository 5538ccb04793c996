/-
  Contract: what StoreFault, the document's answer to Check, answers at every list of entries.
-/
import Derived.Test.YtcdobhdbafpkiaaCheck
namespace Go.Proofs.Ytcdobhdbafpkiaa
open Go.RowKit

set_option maxHeartbeats 1000000 in
theorem StoreFault_any (a : Option Addr) (len cap : Nat) (es : List Pl.Ent) (w : World) (h : IsEnts w a len cap es) :
    Calls Try.prog 12 #[.slice a len cap] w fun e w' => e = .returned (.int .i64 (Pl.fault es)) ∧ Below w.heap.size w w' := by
  obtain ⟨hl, hc, hm, hok, hrow⟩ := h
  unfold maxLen at hm
  by_cases h60 : 60 < len
  · go_enter Try.func12, Try.ntmps12
    go_wp2
    go_ret
    exact ⟨ret_int (Pl.fault_size (by omega)).symm, Below.refl _ _⟩
  go_enter Try.func12, Try.ntmps12
  go_wp2
  go_loopw [3] (fun i wr => ∃ k : Nat, k ≤ len ∧ i = .int .i64 k ∧ Hid (Pl.fault es = Pl.faultN es (len - k) k) ∧ Below w.heap.size w wr) (fun i _ => len - (intOf i).toNat)
  case atStart => exact ⟨0, Nat.zero_le _, rfl, by show _ = _; rw [Pl.fault_from (by omega), hl]; rfl, Below.refl _ _⟩
  case round =>
    obtain ⟨k, hk, rfl, HF, hb⟩ := hrel
    by_cases hlt : k < len
    · obtain ⟨b, off, rfl, hbw, hr⟩ : ∃ b off, a = some ⟨b, off, none⟩ ∧ b < w.heap.size ∧ RowAt w b off es := by
        rcases hrow with rfl | h
        · simp at hl; omega
        · exact h
      clear hrow
      have hr' := hr.below hbw hb
      obtain ⟨c0, c1, c2, c3⟩ := hr' k (by omega)
      have hoke := hok _ (Pl.ent_mem es k (by omega))
      obtain ⟨hok0, _, _, hok3⟩ := hoke
      have hz := hb.size
      obtain ⟨n, hn⟩ : ∃ n, len - k = n + 1 := ⟨len - k - 1, by omega⟩
      have HN : Hid (len - k = n + 1) := hn
      clear hn
      obtain ⟨kk, HK⟩ : ∃ kk, Hid (Pl.keyB (Pl.ent es k).key = kk) := ⟨_, rfl⟩
      obtain ⟨vv, HV⟩ : ∃ vv, Hid (decide (1 ≤ (Pl.ent es k).ver ∧ (Pl.ent es k).ver ≤ 1099511627776) = vv) := ⟨_, rfl⟩
      obtain ⟨oo, HO⟩ : ∃ oo, Hid (decide (0 ≤ (Pl.ent es k).org ∧ (Pl.ent es k).org ≤ 11) = oo) := ⟨_, rfl⟩
      obtain ⟨xx, HX⟩ : ∃ xx, Hid (decide ((Pl.ent es k).val.size ≤ 120) = xx) := ⟨_, rfl⟩
      have HM : Hid ((Pl.ent es k).may = (kk && vv && oo && xx)) := by
        show _ = _
        unfold Pl.Ent.may Pl.entB
        rw [HK.out, HV.out, HO.out, HX.out]
      have hx120 : ((120 : Int) < ((Pl.ent es k).val.size : Int)) = (xx = false) := by
        have := HX.out
        cases xx
        · simp at this ⊢; omega
        · simp at this ⊢; omega
      by_cases hall : (kk && vv && oo && xx) = true
      · simp only [Bool.and_eq_true] at hall
        obtain ⟨⟨⟨rfl, rfl⟩, rfl⟩, rfl⟩ := hall
        have HM' : Hid ((Pl.ent es k).may = true) := HM.out
        clear HM
        rcases Nat.eq_zero_or_pos k with hk0 | hk0
        · have hd : decide (0 < k) = false := by simp; omega
          have HK0 : Hid (k = 0) := hk0
          clear hk0
          go_wp2_with (first | (go_at_call 10; refine (KeyMay_any _ _ hok0).mono ?_; rw [HK.out]; rintro e w' ⟨rfl, rfl⟩) | (go_at_call 24; refine (In_any _ _ _ _).mono ?_; (first | rw [HV.out] | rw [HO.out]); rintro e w' ⟨rfl, rfl⟩))
          go_quiet (fail)
          go_wp2
          go_roundw
          case rel => exact ⟨k + 1, by omega, by go_num, by show _ = _; rw [HF.out, HN.out, Pl.faultN_on HM'.out (by simp [Pl.lowB, HK0.out])]; congr 1; have := HN.out; omega, below_drewN (hb.alloc hz _) _⟩
          case measure => simp [intOf]; omega
        · obtain ⟨m, rfl⟩ : ∃ m, k = m + 1 := ⟨k - 1, by omega⟩
          obtain ⟨d0, d1, d2, d3⟩ := hr' m (by omega)
          have hbr : b < wr.heap.size := by omega
          go_wp2_with (first | (go_at_call 10; refine (KeyMay_any _ _ hok0).mono ?_; rw [HK.out]; rintro e w' ⟨rfl, rfl⟩) | (go_at_call 24; refine (In_any _ _ _ _).mono ?_; (first | rw [HV.out] | rw [HO.out]); rintro e w' ⟨rfl, rfl⟩))
          go_quiet (fail)
          go_wp2
          · go_ret
            exact ⟨ret_int (by rw [HF.out, HN.out, Pl.faultN_low HM'.out (Pl.lowB_true ‹_›)]), below_drewN (hb.alloc hz _) _⟩
          · go_roundw
            case rel => exact ⟨m + 1 + 1, by omega, by go_num, by show _ = _; rw [HF.out, HN.out, Pl.faultN_on HM'.out (Pl.lowB_false ‹_›)]; congr 1; have := HN.out; omega, below_drewN (hb.alloc hz _) _⟩
            case measure => simp [intOf]; omega
      · have HM' : Hid ((Pl.ent es k).may = false) := by
          show _ = _
          rw [HM.out]; simpa using hall
        have HR : Hid (Pl.fault es = 4) := by
          show _ = _
          rw [HF.out, HN.out, Pl.faultN_form HM'.out]
        cases kk
        all_goals cases vv
        all_goals cases oo
        all_goals cases xx
        all_goals first | (exact absurd rfl hall) | skip
        all_goals
          go_wp2_with (first | (go_at_call 10; refine (KeyMay_any _ _ hok0).mono ?_; rw [HK.out]; rintro e w' ⟨rfl, rfl⟩) | (go_at_call 24; refine (In_any _ _ _ _).mono ?_; (first | rw [HV.out] | rw [HO.out]); rintro e w' ⟨rfl, rfl⟩))
          go_ret
          exact ⟨ret_int HR.out.symm, hb.alloc hz _⟩
    · obtain rfl : k = len := by omega
      go_wp2
      go_ret
      exact ⟨ret_int (by rw [HF.out]; simp [Pl.faultN]), hb⟩
end Go.Proofs.Ytcdobhdbafpkiaa
