/-
  Contract: what the document's PrefixesFault answers at every list of prefixes.
-/
import Derived.Test.YtcdobhdbafpkiaePfx4
namespace Go.Proofs.Ytcdobhdbafpkiae
open Go.RowKit

theorem Pl.span_pos {b : Int} (h : 0 ≤ b ∧ b ≤ 8) : 1 ≤ Pl.span b ∧ Pl.span b ≤ 256 := by
  rcases Pl.bits_cases h with rfl | rfl | rfl | rfl | rfl | rfl | rfl | rfl | rfl <;> decide

set_option maxHeartbeats 1000000 in
theorem PrefixesFault_any (a : Option Addr) (len cap : Nat) (ps : List (Int × Int)) (w : World) (h : IsPairs w a len cap ps) :
    Calls Try.prog 20 #[.slice a len cap] w fun e w' => e = .returned (.int .i64 (Pl.pfxF ps)) ∧ Below w.heap.size w w' := by
  obtain ⟨hl, hc, hm, hok, hrow⟩ := h
  unfold maxLen at hm
  by_cases h6 : 6 < len
  · have HR := hid (Pl.pfxF_size (ps := ps) (by omega))
    go_enter Try.func20, Try.ntmps20
    go_wp2
    go_ret
    exact ⟨ret_int HR.out.symm, Below.refl _ _⟩
  go_enter Try.func20, Try.ntmps20
  go_wp2
  go_loopw [3] (fun i wr => ∃ k : Nat, k ≤ len ∧ i = .int .i64 k ∧ Hid (Pl.pfxF ps = Pl.pfxN ps (len - k) k) ∧ Hid (∀ j, j < k → Pl.pfx1 (Pl.pr ps j) = 0) ∧ Below w.heap.size w wr) (fun i _ => len - (intOf i).toNat)
  case atStart => exact ⟨0, Nat.zero_le _, rfl, by show _ = _; rw [Pl.pfxF_from (by omega), hl]; rfl, hid (by intro j hj; omega), Below.refl _ _⟩
  case round =>
    obtain ⟨k, hk, rfl, HF, HV, hb⟩ := hrel
    by_cases hlt : k < len
    · obtain ⟨b, off, rfl, hbw, hr⟩ : ∃ b off, a = some ⟨b, off, none⟩ ∧ b < w.heap.size ∧ PairsAt w b off ps := by
        rcases hrow with rfl | h
        · simp at hl; omega
        · exact h
      clear hrow
      have hr' := hr.below hbw hb
      obtain ⟨c0, c1⟩ := hr' k (by omega)
      have hz := hb.size
      obtain ⟨n, hn⟩ : ∃ n, len - k = n + 1 := ⟨len - k - 1, by omega⟩
      have HN : Hid (len - k = n + 1) := hn
      clear hn
      have hbr : b < wr.heap.size := by omega
      obtain ⟨pp, HP⟩ : ∃ pp, Hid (Pl.pr ps k = pp) := ⟨_, rfl⟩
      rw [HP.out] at c0 c1
      obtain ⟨p1, p2⟩ := pp
      simp only at c0 c1
      obtain ⟨ob, HOB⟩ : ∃ c, Hid (decide (0 ≤ p2 ∧ p2 ≤ 8) = c) := ⟨_, rfl⟩
      obtain ⟨oa, HOA⟩ : ∃ c, Hid (decide (0 ≤ p1 ∧ p1 ≤ 255) = c) := ⟨_, rfl⟩
      by_cases hin : (ob && oa) = true
      · simp only [Bool.and_eq_true] at hin
        obtain ⟨rfl, rfl⟩ := hin
        have hbb := of_decide_eq_true HOB.out
        have haa := of_decide_eq_true HOA.out
        obtain ⟨sp, HSP⟩ : ∃ c, Hid (Pl.span p2 = c) := ⟨_, rfl⟩
        have hsp := Pl.span_pos hbb
        rw [HSP.out] at hsp
        have HCS : Hid (∀ W, Calls Try.prog 26 #[.int .i64 p2] W fun e w' => e = .returned (.int .i64 sp) ∧ Below W.heap.size W w') := by
          refine hid fun W => ?_
          have := spanOf_any p2 W hbb
          rw [HSP.out] at this
          exact this.mono fun e w' ⟨h1, h2⟩ => ⟨h1, h2 ▸ Below.refl _ _⟩
        have HPF : Hid (Pl.pfx1 (Pl.pr ps k) = if p1 % sp = 0 then 0 else 4) := hid (by rw [HP.out, Pl.pfx1_in hbb haa]; simp only; rw [HSP.out])
        obtain ⟨hb0, hb8⟩ := hbb
        obtain ⟨ha0, ha8⟩ := haa
        obtain ⟨hs1, hs2⟩ := hsp
        have htm : p1.tmod sp = p1 % sp := Int.tmod_eq_emod_of_nonneg ha0
        have hs0 : (sp == 0) = false := by simp; omega
        have hrm := Int.emod_nonneg p1 (show sp ≠ 0 by omega)
        have hrl := Int.emod_lt_of_pos p1 (show 0 < sp by omega)
        obtain ⟨rm, HRM⟩ : ∃ c, Hid (p1 % sp = c) := ⟨_, rfl⟩
        rw [HRM.out] at htm hrm hrl
        by_cases hrz : rm = 0
        · subst hrz
          have HM : Hid (Pl.pfx1 (Pl.pr ps k) = 0) := hid (by rw [HPF.out, HRM.out]; rfl)
          have HV' : Hid (∀ j, j < k + 1 → Pl.pfx1 (Pl.pr ps j) = 0) := by
            refine hid fun j hj => ?_
            rcases Nat.lt_or_ge j k with h | h
            · exact HV.out j h
            · obtain rfl : j = k := by omega
              exact HM.out
          rcases Nat.eq_zero_or_pos k with hk0 | hk0
          · have hd : decide (0 < k) = false := by simp; omega
            have HK0 : Hid (k = 0) := hk0
            clear hk0
            go_wp2_with (go_at_call 21; refine (In_any _ _ _ _).mono ?_; (first | rw [HOB.out] | rw [HOA.out]); rintro e w' ⟨rfl, rfl⟩)
            obtain ⟨W1, hW1⟩ : ∃ W1, W1 = wr.alloc (.cells #[.int .i64 p1, .int .i64 p2] 27) := ⟨_, rfl⟩
            have x0 : W1.cell? ⟨wr.heap.size, 0, none⟩ = some (.int .i64 p1) := by rw [hW1]; simp
            have x1 : W1.cell? ⟨wr.heap.size, 1, none⟩ = some (.int .i64 p2) := by rw [hW1]; simp
            have xs : wr.heap.size < W1.heap.size := by rw [hW1]; simp
            have hbW : Below w.heap.size w W1 := by rw [hW1]; exact hb.alloc hz _
            rw [← hW1]
            clear hW1
            have i0 := in_cell xs x0
            have i1 := in_cell xs x1
            have hne := in_some W1
            refine wp_region_in (by kernel_rfl) (by kernel_rfl) ?_
            repeat (go_big_quiet_step ((go_at_call 26; exact in_call (HCS.out _))))
            refine wpQuiet_nil ?_
            intro w5 hw'
            have hb5 := in_out hw'
            clear hw' i0 i1 hne
            go_wp2_with fail
            go_quiet (fail)
            go_wp2_with fail
            go_roundw
            case rel => exact ⟨k + 1, by omega, by go_num, by show _ = _; have h := HN.out; rw [HF.out, h]; have hm := HM.out; rw [HK0.out] at hm ⊢; rw [Pl.pfxN_first hm]; congr 1; have h0 := HK0.out; omega, HV', below_drew (hbW.trans (hb5.mono hbW.size)) _⟩
            case measure => simp [intOf]; omega
          · obtain ⟨m, rfl⟩ : ∃ m, k = m + 1 := ⟨k - 1, by omega⟩
            obtain ⟨d0, d1⟩ := hr' m (by omega)
            obtain ⟨qq, HQ⟩ : ∃ pp, Hid (Pl.pr ps m = pp) := ⟨_, rfl⟩
            have hqv := Pl.pfx1_zero (HV.out m (by omega))
            rw [HQ.out] at d0 d1 hqv
            obtain ⟨q1, q2⟩ := qq
            simp only at d0 d1 hqv
            obtain ⟨⟨hq0, hq8⟩, hq1, hq2⟩ := hqv
            have HLW : Hid (Pl.pfxLow (Pl.pr ps m) (Pl.pr ps (m + 1)) = decide (10 * p1 + p2 ≤ 10 * q1 + q2)) := hid (by rw [HQ.out, HP.out]; rfl)
            by_cases hle : 10 * p1 + p2 ≤ 10 * q1 + q2
            all_goals
              go_wp2_with (go_at_call 21; refine (In_any _ _ _ _).mono ?_; (first | rw [HOB.out] | rw [HOA.out]); rintro e w' ⟨rfl, rfl⟩)
              obtain ⟨W1, hW1⟩ : ∃ W1, W1 = wr.alloc (.cells #[.int .i64 p1, .int .i64 p2] 27) := ⟨_, rfl⟩
              have x0 : W1.cell? ⟨wr.heap.size, 0, none⟩ = some (.int .i64 p1) := by rw [hW1]; simp
              have x1 : W1.cell? ⟨wr.heap.size, 1, none⟩ = some (.int .i64 p2) := by rw [hW1]; simp
              have xs : wr.heap.size < W1.heap.size := by rw [hW1]; simp
              have hbR : Below wr.heap.size wr W1 := by rw [hW1]; exact (Below.refl _ _).alloc (Nat.le_refl _) _
              have hbW : Below w.heap.size w W1 := by rw [hW1]; exact hb.alloc hz _
              rw [← hW1]
              clear hW1
              have i0 := in_cell xs x0
              have i1 := in_cell xs x1
              have hne := in_some W1
              refine wp_region_in (by kernel_rfl) (by kernel_rfl) ?_
              repeat (go_big_quiet_step ((go_at_call 26; exact in_call (HCS.out _))))
              refine wpQuiet_nil ?_
              intro w5 hw'
              have hb5 := in_out hw'
              clear hw' i0 i1 hne
              have y0 := (hb5.cell (p := ⟨wr.heap.size, 0, none⟩) xs).trans x0
              have y1 := (hb5.cell (p := ⟨wr.heap.size, 1, none⟩) xs).trans x1
              have e0 := (hb5.cell (p := ⟨b, off + m * 2, none⟩) (show b < W1.heap.size by omega)).trans ((hbR.cell (p := ⟨b, off + m * 2, none⟩) hbr).trans d0)
              have e1 := (hb5.cell (p := ⟨b, off + m * 2 + 1, none⟩) (show b < W1.heap.size by omega)).trans ((hbR.cell (p := ⟨b, off + m * 2 + 1, none⟩) hbr).trans d1)
              have hz5 := hb5.size
              clear x0 x1 d0 d1
              go_wp2_with fail
              go_quiet (fail)
              go_wp2_with fail
            · go_ret
              exact ⟨ret_int (by rw [HF.out, HN.out, Pl.pfxN_low HM.out (by rw [HLW.out]; simpa using hle)]), below_drew (hbW.trans (hb5.mono hbW.size)) _⟩
            · go_roundw
              case rel => exact ⟨m + 1 + 1, by omega, by go_num, by show _ = _; rw [HF.out, HN.out, Pl.pfxN_on HM.out (by rw [HLW.out]; simpa using hle)]; congr 1; have := HN.out; omega, HV', below_drew (hbW.trans (hb5.mono hbW.size)) _⟩
              case measure => simp [intOf]; omega
        · have HR : Hid (Pl.pfxF ps = 4) := by
            refine hid ?_
            have h4 : Pl.pfx1 (Pl.pr ps k) = 4 := by rw [HPF.out, HRM.out, if_neg hrz]
            rw [HF.out, HN.out, Pl.pfxN_bad (by rw [h4]; decide), h4]
          have hd0 : (rm == 0) = false := by simpa using hrz
          clear hrz
          go_wp2_with (go_at_call 21; refine (In_any _ _ _ _).mono ?_; (first | rw [HOB.out] | rw [HOA.out]); rintro e w' ⟨rfl, rfl⟩)
          obtain ⟨W1, hW1⟩ : ∃ W1, W1 = wr.alloc (.cells #[.int .i64 p1, .int .i64 p2] 27) := ⟨_, rfl⟩
          have x0 : W1.cell? ⟨wr.heap.size, 0, none⟩ = some (.int .i64 p1) := by rw [hW1]; simp
          have x1 : W1.cell? ⟨wr.heap.size, 1, none⟩ = some (.int .i64 p2) := by rw [hW1]; simp
          have xs : wr.heap.size < W1.heap.size := by rw [hW1]; simp
          have hbW : Below w.heap.size w W1 := by rw [hW1]; exact hb.alloc hz _
          rw [← hW1]
          clear hW1
          have i0 := in_cell xs x0
          have i1 := in_cell xs x1
          have hne := in_some W1
          refine wp_region_in (by kernel_rfl) (by kernel_rfl) ?_
          repeat (go_big_quiet_step ((go_at_call 26; exact in_call (HCS.out _))))
          refine wpQuiet_nil ?_
          intro w5 hw'
          have hb5 := in_out hw'
          clear hw' i0 i1 hne
          go_wp2_with fail
          go_ret
          exact ⟨ret_int HR.out.symm, hbW.trans (hb5.mono hbW.size)⟩
      · have HR : Hid (Pl.pfxF ps = 2) := by
          refine hid ?_
          have h2 : Pl.pfx1 (Pl.pr ps k) = 2 := by
            rw [HP.out]; apply Pl.pfx1_out
            have h1 := HOB.out
            have h2 := HOA.out
            cases ob <;> cases oa <;> simp at hin h1 h2 ⊢ <;> omega
          rw [HF.out, HN.out, Pl.pfxN_bad (by rw [h2]; decide), h2]
        cases ob
        all_goals cases oa
        all_goals first | (exact absurd rfl hin) | skip
        all_goals
          go_wp2_with (go_at_call 21; refine (In_any _ _ _ _).mono ?_; (first | rw [HOB.out] | rw [HOA.out]); rintro e w' ⟨rfl, rfl⟩)
          go_ret
          exact ⟨ret_int HR.out.symm, hb.alloc hz _⟩
    · obtain rfl : k = len := by omega
      go_wp2
      go_ret
      exact ⟨ret_int (by rw [HF.out]; simp [Pl.pfxN]), hb⟩
end Go.Proofs.Ytcdobhdbafpkiae
