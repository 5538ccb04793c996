/-
  Contracts: the document's reader: a number in sevens.
-/
import Derived.Test.YtcdobhdbafpkiabRef1
namespace Go.Proofs.Ytcdobhdbafpkiab
open Go.RowKit

theorem pow_next (k : Nat) : (128 : Int) * 128 ^ k = 128 ^ (k + 1) := by rw [Int.pow_succ, Int.mul_comm]
theorem pow_six {k : Nat} (h : k ≤ 6) : (1 : Int) ≤ 128 ^ k ∧ (128 : Int) ^ k ≤ 4398046511104 := by
  have hk : k = 0 ∨ k = 1 ∨ k = 2 ∨ k = 3 ∨ k = 4 ∨ k = 5 ∨ k = 6 := by omega
  rcases hk with rfl | rfl | rfl | rfl | rfl | rfl | rfl <;> decide

set_option maxHeartbeats 2000000 in
theorem next_any (B R : Nat) (c : Int) (rs : List UInt8) (w : World) (h : SpAt w B R c rs) :
    Calls Try.prog 29 #[.pointer (some ⟨R, 0, none⟩)] w fun e w' => e = .returned (.int .i64 (Pl.ver c rs).1) ∧ SpAt w' B R (Pl.ver c rs).2.1 (Pl.ver c rs).2.2 ∧ Only R w w' := by
  have HD := hid h
  clear h
  go_enter Try.func29, Try.ntmps29
  go_wp2
  go_loopw [3, 4, 5] (fun nn uu i wr => ∃ (k f : Nat) (v u c1 : Int) (r1 : List UInt8), f + k = 8 ∧ 1 ≤ f ∧ i = .int .i64 k ∧ nn = .int .i64 v ∧ uu = .int .i64 u ∧ 0 ≤ v ∧ Hid (v < 128 ^ k) ∧ Hid (u = 128 ^ k) ∧ Hid (SpAt wr B R c1 r1) ∧ Hid (Pl.ver c rs = Pl.verF f k v c1 r1) ∧ Hid (Only R w wr) ∧ Hid (¬ c1 = 0 → v = 0)) (fun _ _ i _ => 8 - (intOf i).toNat)
  case atStart => exact ⟨0, 8, 0, 1, c, rs, rfl, by omega, rfl, rfl, rfl, by omega, by show _ < _; omega, rfl, HD, rfl, Only.refl _ _, fun _ => rfl⟩
  case round =>
    obtain ⟨k, f, v, u, c1, r1, hfk, hf1, rfl, rfl, rfl, hv0, HV, HU, HR, HE, HO, HCV⟩ := hrel
    obtain ⟨g, rfl⟩ : ∃ g, f = g + 1 := ⟨f - 1, by omega⟩
    obtain ⟨a, len, cap, bs, i, h0, h1, h2, f0, f1, f2, hI, hx, hB, hR, hi, hrs, hbs, hll⟩ := HR.out
    clear hI hx hrs hbs hi hll
    by_cases hc1 : c1 = 0
    · subst hc1
      have hnr := Pl.num_range 0 r1
      have HNU := hid (one_any B R 0 r1 wr HR.out)
      obtain ⟨n, c2, r2, HN⟩ : ∃ n c2 r2, Hid (Pl.num 0 r1 = (n, c2, r2)) := ⟨_, _, _, rfl⟩
      rw [HN.out] at hnr HNU
      simp only at hnr HNU
      obtain ⟨hn0, hn1⟩ := hnr
      have HS : Hid (Pl.ver c rs = if c2 = 0 then (if k = 7 ∨ (0 < k ∧ n = 0) then (0, 4, []) else if n < 128 then (v + n % 128 * 128 ^ k, 0, r2) else Pl.verF g (k + 1) (v + n % 128 * 128 ^ k) 0 r2) else (0, c2, [])) := by
        show _ = _
        rw [HE.out, Pl.verF, HN.out]
      clear HE
      go_wp2_with fail
      refine HNU.out.mono ?_
      rintro e w1 ⟨rfl, hr1, ho1⟩
      have HR1 := hid hr1
      have HO1 := hid (HO.out.trans ho1)
      clear h0 h1 h2 f0 f1 f2
      obtain ⟨a1, len1, cap1, bs1, i1, h0, h1, h2, f0, f1, f2, hI, hx, hB, hR, hi, hrs, hbs, hll⟩ := hr1
      clear hI hx hrs hbs hi hll ho1
      by_cases hc2 : c2 = 0
      · subst hc2
        simp only [if_true] at HS
        by_cases hk7 : k = 7
        · subst hk7
          have HF : Hid (Pl.ver c rs = (0, 4, [])) := by show _ = _; rw [HS.out, if_pos (.inl rfl)]
          have HER := hid (HR1.out.err (n := 4) (by omega) [])
          clear HS
          go_wp2
          go_ret
          refine ⟨ret_int (by rw [HF.out]), ?_, HO1.out.trans (Only.set R 2 _ _)⟩
          rw [HF.out]
          exact HER.out
        · have hkb : ((k : Int) == 7) = false := by simp; omega
          by_cases hkn : 0 < k ∧ n = 0
          · obtain ⟨hk0, rfl⟩ := hkn
            have hk0' : (0 : Int) < (k : Int) := by omega
            have HF : Hid (Pl.ver c rs = (0, 4, [])) := by show _ = _; rw [HS.out, if_pos (.inr ⟨hk0, rfl⟩)]
            have HER := hid (HR1.out.err (n := 4) (by omega) [])
            clear HS
            go_wp2
            go_ret
            refine ⟨ret_int (by rw [HF.out]), ?_, HO1.out.trans (Only.set R 2 _ _)⟩
            rw [HF.out]
            exact HER.out
          · have HF : Hid (Pl.ver c rs = if n < 128 then (v + n % 128 * u, 0, r2) else Pl.verF g (k + 1) (v + n % 128 * u) 0 r2) := by
              show _ = _
              rw [HS.out, if_neg (by omega), HU.out]
            have hu := pow_six (show k ≤ 6 by omega)
            rw [← HU.out] at hu
            obtain ⟨hu1, hu2⟩ := hu
            have hp0 : 0 ≤ n % 128 * u := Int.mul_nonneg (by omega) (by omega)
            have hp1 : n % 128 * u ≤ 127 * u := Int.mul_le_mul_of_nonneg_right (by omega) (by omega)
            have HP : Hid (v + n % 128 * u < 128 ^ (k + 1)) := by
              show _ < _
              rw [← pow_next, ← HU.out]
              have := HV.out
              rw [← HU.out] at this
              omega
            have HU2 : Hid (128 * u = 128 ^ (k + 1)) := by show _ = _; rw [← pow_next, HU.out]
            have hvb : v < 4398046511104 := by have := HV.out; rw [← HU.out] at this; omega
            clear HS
            obtain ⟨p, hp⟩ : ∃ p, n % 128 * u = p := ⟨_, rfl⟩
            rw [hp] at HF hp0 hp1 HP
            have hpb : p ≤ 558551906910208 := by omega
            have hwp : wrap64 p = p := by unfold wrap64; omega
            clear hp1
            by_cases hk0 : k = 0
            · have hk0' : ¬ ((0 : Int) < (k : Int)) := by omega
              have hk0d : decide ((0 : Int) < (k : Int)) = false := by simp; omega
              go_wp2
              · go_ret
                have hlt : n < 128 := by assumption
                rw [if_pos hlt] at HF
                exact ⟨ret_int (by rw [HF.out]), by rw [HF.out]; exact HR1.out, HO1.out⟩
              · go_roundw
                case rel =>
                  have hge : 128 ≤ n := by assumption
                  rw [if_neg (by omega)] at HF
                  exact ⟨k + 1, g, v + p, 128 * u, 0, r2, by omega, by omega, by go_num, rfl, rfl, by omega, HP, HU2, HR1, HF, HO1.out, fun h => absurd rfl h⟩
                case measure => simp [intOf]; omega
            · have hk0' : (0 : Int) < (k : Int) := by omega
              have hnz : (n == 0) = false := by simp; omega
              go_wp2
              · go_ret
                have hlt : n < 128 := by assumption
                rw [if_pos hlt] at HF
                exact ⟨ret_int (by rw [HF.out]), by rw [HF.out]; exact HR1.out, HO1.out⟩
              · go_roundw
                case rel =>
                  have hge : 128 ≤ n := by assumption
                  rw [if_neg (by omega)] at HF
                  exact ⟨k + 1, g, v + p, 128 * u, 0, r2, by omega, by omega, by go_num, rfl, rfl, by omega, HP, HU2, HR1, HF, HO1.out, fun h => absurd rfl h⟩
                case measure => simp [intOf]; omega
      · have hce : (c2 == 0) = false := by simp [hc2]
        have hcb : (c2 != 0) = true := by simp [hc2]
        have HC := hid hc2
        have HF : Hid (Pl.ver c rs = (0, c2, [])) := by show _ = _; rw [HS.out, if_neg hc2]
        clear HS hc2
        go_wp2
        go_ret
        refine ⟨ret_int (by rw [HF.out]), ?_, HO1.out⟩
        rw [HF.out]
        exact HR1.out.bad HC.out _
    · have hce : (c1 == 0) = false := by simp [hc1]
      have HC := hid hc1
      have hv := HCV.out hc1
      subst hv
      have HF : Hid (Pl.ver c rs = (0, c1, [])) := by
        show _ = _
        rw [HE.out, Pl.verF, Pl.num_bad hc1, if_neg hc1]
      clear hc1 HE
      go_wp2
      go_ret
      refine ⟨ret_int (by rw [HF.out]), ?_, HO.out⟩
      rw [HF.out]
      exact HR.out.bad HC.out _
end Go.Proofs.Ytcdobhdbafpkiab
