/-
  Contracts: what CheckPrefixes and the document's PrefixesFault answer at every list of prefixes.
-/
import Derived.Test.YtcdobhdbafpkiadDoorPfx3
namespace Go.Proofs.YtcdobhdbafpkiadDoor
open Go.RowKit
set_option maxRecDepth 20000

set_option maxHeartbeats 1000000 in
theorem CheckPrefixes_any (a : Option Addr) (len cap : Nat) (ps : List (Int × Int)) (w : World) (h : IsPairs w a len cap ps) :
    Calls Tryd.prog 22 #[.slice a len cap] w fun e w' => e = .returned (.int .i64 (Pl.pfxF ps)) ∧ Below w.heap.size w w' := by
  obtain ⟨hl, hc, hm, hok, hrow⟩ := h
  unfold maxLen at hm
  by_cases h6 : 6 < len
  · have HR := hid (Pl.pfxF_size (ps := ps) (by omega))
    go_enter Tryd.func22, Tryd.ntmps22
    go_wp2
    go_ret
    exact ⟨ret_int HR.out.symm, Below.refl _ _⟩
  go_enter Tryd.func22, Tryd.ntmps22
  go_wp2
  go_loopw [11] (fun i wr => ∃ k : Nat, k ≤ len ∧ i = .int .i64 k ∧ Hid (Pl.pfxF ps = Pl.pfxN ps (len - k) k) ∧ Hid (∀ j, j < k → Pl.pfx1 (Pl.pr ps j) = 0) ∧ Below w.heap.size w wr) (fun i _ => len - (intOf i).toNat)
  case atStart => exact ⟨0, Nat.zero_le _, rfl, by show _ = _; rw [Pl.pfxF_from (by omega), hl]; rfl, hid (by intro j hj; omega), Below.refl _ _⟩
  case round =>
    obtain ⟨k, hk, rfl, HF, HV, hb⟩ := hrel
    by_cases hlt : k < len
    · obtain ⟨b, off, rfl, hbw, hr⟩ : ∃ b off, a = some ⟨b, off, none⟩ ∧ b < w.heap.size ∧ PairsAt w b off ps := by
        rcases hrow with rfl | h
        · simp at hl; omega
        · exact h
      clear hrow
      have hr' := hr.below hbw hb
      obtain ⟨c0, c1⟩ := hr' k (by omega)
      have hz := hb.size
      obtain ⟨n, hn⟩ : ∃ n, len - k = n + 1 := ⟨len - k - 1, by omega⟩
      have HN : Hid (len - k = n + 1) := hn
      clear hn
      have hbr : b < wr.heap.size := by omega
      obtain ⟨pp, HP⟩ : ∃ pp, Hid (Pl.pr ps k = pp) := ⟨_, rfl⟩
      rw [HP.out] at c0 c1
      obtain ⟨cc, HCC⟩ : ∃ cc, Hid (Pl.pfx1 pp = cc) := ⟨_, rfl⟩
      by_cases hc0 : cc = 0
      · subst hc0
        have HM : Hid (Pl.pfx1 (Pl.pr ps k) = 0) := hid (by rw [HP.out, HCC.out])
        have HV' : Hid (∀ j, j < k + 1 → Pl.pfx1 (Pl.pr ps j) = 0) := by
          refine hid fun j hj => ?_
          rcases Nat.lt_or_ge j k with h | h
          · exact HV.out j h
          · obtain rfl : j = k := by omega
            exact HM.out
        rcases Nat.eq_zero_or_pos k with hk0 | hk0
        · have hd : decide (0 < k) = false := by simp; omega
          have HK0 : Hid (k = 0) := hk0
          clear hk0
          go_wp2_with fail
          refine (checkPrefix_any pp _).mono ?_
          rw [HCC.out]
          rintro e w1 ⟨rfl, hb1⟩
          go_wp2_with fail
          go_quiet (fail)
          go_wp2_with fail
          go_roundw
          case rel => exact ⟨k + 1, by omega, by go_num, by show _ = _; have h := HN.out; rw [HF.out, h]; have hm := HM.out; rw [HK0.out] at hm ⊢; rw [Pl.pfxN_first hm]; congr 1; have h0 := HK0.out; omega, HV', below_drew ((hb.alloc hz _).trans (hb1.mono (by simp; omega))) _⟩
          case measure => simp [intOf]; omega
        · obtain ⟨m, rfl⟩ : ∃ m, k = m + 1 := ⟨k - 1, by omega⟩
          obtain ⟨d0, d1⟩ := hr' m (by omega)
          obtain ⟨qq, HQ⟩ : ∃ pp, Hid (Pl.pr ps m = pp) := ⟨_, rfl⟩
          rw [HQ.out] at d0 d1
          obtain ⟨cq, HCQ⟩ : ∃ c, Hid (Pl.pfxC qq pp = c) := ⟨_, rfl⟩
          have HLW : Hid (decide (0 ≤ cq) = Pl.pfxLow (Pl.pr ps m) (Pl.pr ps (m + 1))) := by
            refine hid ?_
            rw [← HCQ.out, ← HP.out, ← HQ.out]
            exact Pl.pfxC_low (Pl.pfx1_zero (HV.out m (by omega))) (Pl.pfx1_zero HM.out)
          have HCP : Hid (∀ W, Calls Tryd.prog 40 #[.agg #[.int .i64 qq.1, .int .i64 qq.2], .agg #[.int .i64 pp.1, .int .i64 pp.2]] W fun e w' => e = .returned (.int .i64 cq) ∧ Below W.heap.size W w') := by
            refine hid fun W => ?_
            have := comparePrefixes_any qq pp W
            rwa [HCQ.out] at this
          by_cases hle : 0 ≤ cq
          all_goals
            go_wp2_with fail
            refine (checkPrefix_any pp _).mono ?_
            rw [HCC.out]
            rintro e w1 ⟨rfl, hb1⟩
            have hbA : Below (wr.heap.size + 1) (wr.alloc (.cells #[.int .i64 pp.1, .int .i64 pp.2] 33)) w1 := by simpa using hb1
            obtain ⟨x0, x1, xs, hbb⟩ := box2 hbA
            have d0' := (hbb.cell (p := ⟨b, off + m * 2, none⟩) hbr).trans d0
            have d1' := (hbb.cell (p := ⟨b, off + m * 2 + 1, none⟩) hbr).trans d1
            clear hb1 hbA
            have hbw1 : b < w1.heap.size := by omega
            go_wp2_with fail
            have i0 := in_cell xs x0
            have i1 := in_cell xs x1
            have i2 := in_cell hbw1 d0'
            have i3 := in_cell hbw1 d1'
            have hne := in_some w1
            refine wp_region_in (by kernel_rfl) (by kernel_rfl) ?_
            repeat (go_big_quiet_step ((go_at_call 40; exact in_call (HCP.out _))))
            refine wpQuiet_nil ?_
            intro w5 hw'
            have hb5 := in_out hw'
            clear hw' i0 i1 i2 i3 hne x0 x1 d0' d1'
            go_wp2_with fail
          · go_ret
            exact ⟨ret_int (by rw [HF.out, HN.out, Pl.pfxN_low HM.out (by rw [← HLW.out]; simpa using hle)]), hb.trans ((hbb.mono hz).trans (hb5.mono (Nat.le_trans hz hbb.size)))⟩
          · go_roundw
            case rel => exact ⟨m + 1 + 1, by omega, by go_num, by show _ = _; rw [HF.out, HN.out, Pl.pfxN_on HM.out (by rw [← HLW.out]; simpa using hle)]; congr 1; have := HN.out; omega, HV', hb.trans ((hbb.mono hz).trans (hb5.mono (Nat.le_trans hz hbb.size)))⟩
            case measure => simp [intOf]; omega
      · have HR : Hid (Pl.pfxF ps = cc) := by
          refine hid ?_
          rw [HF.out, HN.out, Pl.pfxN_bad (by rw [HP.out, HCC.out]; exact hc0), HP.out, HCC.out]
        have hd0 : (cc == 0) = false := by simpa using hc0
        clear hc0
        go_wp2_with fail
        refine (checkPrefix_any pp _).mono ?_
        rw [HCC.out]
        rintro e w1 ⟨rfl, hb1⟩
        go_wp2_with fail
        go_ret
        exact ⟨ret_int HR.out.symm, (hb.alloc hz _).trans (hb1.mono (by simp; omega))⟩
    · obtain rfl : k = len := by omega
      go_wp2
      go_ret
      exact ⟨ret_int (by rw [HF.out]; simp [Pl.pfxN]), hb⟩
end Go.Proofs.YtcdobhdbafpkiadDoor
