/-
  Contract: the reader's version: a number in sevens.
-/
import Derived.Test.YtcdobhdbafpkiadDec1
namespace Go.Proofs.Ytcdobhdbafpkiad
open Go.RowKit
set_option maxRecDepth 20000

set_option maxHeartbeats 2000000 in
theorem version_any (B R : Nat) (c : Int) (rs : List UInt8) (w : World) (h : RdAt w B R c rs) :
    Calls Try.prog 56 #[.pointer (some ⟨R, 0, none⟩)] w fun e w' => e = .returned (.int .i64 (Pl.ver c rs).1) ∧ RdAt w' B R (Pl.ver c rs).2.1 (Pl.ver c rs).2.2 ∧ Only R w w' := by
  have HD := hid h
  clear h
  go_enter Try.func56, Try.ntmps56
  go_wp2
  go_loopw [3, 4] (fun p i wr => ∃ (k f : Nat) (v c1 : Int) (r1 : List UInt8), f + k = 8 ∧ 1 ≤ f ∧ i = .int .i64 k ∧ p = .int .i64 v ∧ 0 ≤ v ∧ Hid (v < 128 ^ k) ∧ Hid (RdAt wr B R c1 r1) ∧ Hid (Pl.ver c rs = Pl.verF f k v c1 r1) ∧ Hid (Only R w wr)) (fun _ i _ => 8 - (intOf i).toNat)
  case atStart => exact ⟨0, 8, 0, c, rs, rfl, by omega, rfl, rfl, by omega, by show _ < _; omega, HD, rfl, Only.refl _ _⟩
  case round =>
    obtain ⟨k, f, v, c1, r1, hfk, hf1, rfl, rfl, hv0, HV, HR, HE, HO⟩ := hrel
    obtain ⟨g, rfl⟩ : ∃ g, f = g + 1 := ⟨f - 1, by omega⟩
    have hnr := Pl.num_range c1 r1
    have HNU := hid (number_any B R c1 r1 wr HR.out)
    obtain ⟨n, c2, r2, HN⟩ : ∃ n c2 r2, Hid (Pl.num c1 r1 = (n, c2, r2)) := ⟨_, _, _, rfl⟩
    rw [HN.out] at hnr HNU
    simp only at hnr HNU
    obtain ⟨hn0, hn1⟩ := hnr
    have HS : Hid (Pl.ver c rs = if c2 = 0 then (if k = 7 ∨ (0 < k ∧ n = 0) then (0, 4, []) else if n < 128 then (v + n % 128 * 128 ^ k, 0, r2) else Pl.verF g (k + 1) (v + n % 128 * 128 ^ k) 0 r2) else (0, c2, [])) := by
      show _ = _
      rw [HE.out, Pl.verF, HN.out]
    clear HE
    by_cases hc2 : c2 = 0
    · subst hc2
      simp only [if_true] at HS
      have hk : k = 0 ∨ k = 1 ∨ k = 2 ∨ k = 3 ∨ k = 4 ∨ k = 5 ∨ k = 6 ∨ k = 7 := by omega
      rcases hk with rfl | rfl | rfl | rfl | rfl | rfl | rfl | rfl
      · have hv : v = 0 := by have := HV.out; simp at this; omega
        subst hv
        have hor : bits .or .i64 0 (n % 128) = n % 128 := by
          have := Pl.or_low 0 (n % 128) 0 (by omega) (by omega) (by omega) (by omega) (by omega)
          simpa using this
        have HF : Hid (Pl.ver c rs = if n < 128 then (n % 128, 0, r2) else Pl.verF g 1 (n % 128) 0 r2) := by
          show _ = _
          rw [HS.out]; simp
        clear HS
        go_wp2_with fail
        refine HNU.out.mono ?_
        rintro e w1 ⟨rfl, hr1, ho1⟩
        have HR1 := hid hr1
        obtain ⟨a, len, cap, h0, h1, f0, f1, _, _, _, _, _, _⟩ := hr1
        go_wp2_with fail
        · go_ret
          have hlt : n < 128 := by assumption
          rw [if_pos hlt] at HF
          exact ⟨ret_int (by rw [HF.out]), by rw [HF.out]; exact HR1.out, HO.out.trans ho1⟩
        · go_roundw
          case rel =>
            have hge : 128 ≤ n := by assumption
            rw [if_neg (by omega)] at HF
            exact ⟨1, g, n % 128, 0, r2, by omega, by omega, rfl, rfl, by omega, by show _ < _; omega, HR1, HF, HO.out.trans ho1⟩
          case measure => simp [intOf]
      · have HV' : v < 128 := HV.out
        by_cases hz : n = 0
        · have HF : Hid (Pl.ver c rs = (0, 4, [])) := by
            show _ = _
            rw [HS.out, if_pos (.inr ⟨by omega, hz⟩)]
          have hzb : (n == 0) = true := by simp [hz]
          have HZ := hid hz
          clear HS hz
          go_wp2_with fail
          refine HNU.out.mono ?_
          rintro e w1 ⟨rfl, hr1, ho1⟩
          have HR1 := hid hr1
          obtain ⟨a, len, cap, h0, h1, f0, f1, _, _, _, _, _, _⟩ := hr1
          go_wp2_with fail
          refine (refuse_any B R 0 r2 4 _ HR1.out (by omega)).mono ?_
          rintro e w2 ⟨rfl, hr2, ho2⟩
          go_wp2_with fail
          go_ret
          exact ⟨ret_int (by rw [HF.out]), by rw [HF.out]; exact hr2, (HO.out.trans ho1).trans ho2⟩
        · have hzb : (n == 0) = false := by simp [hz]
          have hor : bits .or .i64 v (n % 128 * 128) = v + n % 128 * 128 := by
            have := Pl.or_low v (n % 128) 7 (by omega) (by rw [show (2 : Int) ^ 7 = 128 from rfl]; omega) (by omega) (by rw [show (2 : Int) ^ 7 = 128 from rfl]; omega) (by omega)
            rwa [show (2 : Int) ^ 7 = 128 from rfl] at this
          have HF : Hid (Pl.ver c rs = if n < 128 then (v + n % 128 * 128, 0, r2) else Pl.verF g 2 (v + n % 128 * 128) 0 r2) := by
            show _ = _
            rw [HS.out, if_neg (by omega)]; rfl
          clear HS
          go_wp2_with fail
          refine HNU.out.mono ?_
          rintro e w1 ⟨rfl, hr1, ho1⟩
          have HR1 := hid hr1
          obtain ⟨a, len, cap, h0, h1, f0, f1, _, _, _, _, _, _⟩ := hr1
          go_wp2_with fail
          · go_ret
            have hlt : n < 128 := by assumption
            rw [if_pos hlt] at HF
            exact ⟨ret_int (by rw [HF.out]), by rw [HF.out]; exact HR1.out, HO.out.trans ho1⟩
          · go_roundw
            case rel =>
              have hge : 128 ≤ n := by assumption
              rw [if_neg (by omega)] at HF
              exact ⟨2, g, v + n % 128 * 128, 0, r2, by omega, by omega, rfl, rfl, by omega, by show _ < _; rw [show (128 : Int) ^ 2 = 16384 from rfl]; omega, HR1, HF, HO.out.trans ho1⟩
            case measure => simp [intOf]
      · have HV' : v < 16384 := HV.out
        by_cases hz : n = 0
        · have HF : Hid (Pl.ver c rs = (0, 4, [])) := by
            show _ = _
            rw [HS.out, if_pos (.inr ⟨by omega, hz⟩)]
          have hzb : (n == 0) = true := by simp [hz]
          have HZ := hid hz
          clear HS hz
          go_wp2_with fail
          refine HNU.out.mono ?_
          rintro e w1 ⟨rfl, hr1, ho1⟩
          have HR1 := hid hr1
          obtain ⟨a, len, cap, h0, h1, f0, f1, _, _, _, _, _, _⟩ := hr1
          go_wp2_with fail
          refine (refuse_any B R 0 r2 4 _ HR1.out (by omega)).mono ?_
          rintro e w2 ⟨rfl, hr2, ho2⟩
          go_wp2_with fail
          go_ret
          exact ⟨ret_int (by rw [HF.out]), by rw [HF.out]; exact hr2, (HO.out.trans ho1).trans ho2⟩
        · have hzb : (n == 0) = false := by simp [hz]
          have hor : bits .or .i64 v (n % 128 * 16384) = v + n % 128 * 16384 := by
            have := Pl.or_low v (n % 128) 14 (by omega) (by rw [show (2 : Int) ^ 14 = 16384 from rfl]; omega) (by omega) (by rw [show (2 : Int) ^ 14 = 16384 from rfl]; omega) (by omega)
            rwa [show (2 : Int) ^ 14 = 16384 from rfl] at this
          have HF : Hid (Pl.ver c rs = if n < 128 then (v + n % 128 * 16384, 0, r2) else Pl.verF g 3 (v + n % 128 * 16384) 0 r2) := by
            show _ = _
            rw [HS.out, if_neg (by omega)]; rfl
          clear HS
          go_wp2_with fail
          refine HNU.out.mono ?_
          rintro e w1 ⟨rfl, hr1, ho1⟩
          have HR1 := hid hr1
          obtain ⟨a, len, cap, h0, h1, f0, f1, _, _, _, _, _, _⟩ := hr1
          go_wp2_with fail
          · go_ret
            have hlt : n < 128 := by assumption
            rw [if_pos hlt] at HF
            exact ⟨ret_int (by rw [HF.out]), by rw [HF.out]; exact HR1.out, HO.out.trans ho1⟩
          · go_roundw
            case rel =>
              have hge : 128 ≤ n := by assumption
              rw [if_neg (by omega)] at HF
              exact ⟨3, g, v + n % 128 * 16384, 0, r2, by omega, by omega, rfl, rfl, by omega, by show _ < _; rw [show (128 : Int) ^ 3 = 2097152 from rfl]; omega, HR1, HF, HO.out.trans ho1⟩
            case measure => simp [intOf]
      · have HV' : v < 2097152 := HV.out
        by_cases hz : n = 0
        · have HF : Hid (Pl.ver c rs = (0, 4, [])) := by
            show _ = _
            rw [HS.out, if_pos (.inr ⟨by omega, hz⟩)]
          have hzb : (n == 0) = true := by simp [hz]
          have HZ := hid hz
          clear HS hz
          go_wp2_with fail
          refine HNU.out.mono ?_
          rintro e w1 ⟨rfl, hr1, ho1⟩
          have HR1 := hid hr1
          obtain ⟨a, len, cap, h0, h1, f0, f1, _, _, _, _, _, _⟩ := hr1
          go_wp2_with fail
          refine (refuse_any B R 0 r2 4 _ HR1.out (by omega)).mono ?_
          rintro e w2 ⟨rfl, hr2, ho2⟩
          go_wp2_with fail
          go_ret
          exact ⟨ret_int (by rw [HF.out]), by rw [HF.out]; exact hr2, (HO.out.trans ho1).trans ho2⟩
        · have hzb : (n == 0) = false := by simp [hz]
          have hor : bits .or .i64 v (n % 128 * 2097152) = v + n % 128 * 2097152 := by
            have := Pl.or_low v (n % 128) 21 (by omega) (by rw [show (2 : Int) ^ 21 = 2097152 from rfl]; omega) (by omega) (by rw [show (2 : Int) ^ 21 = 2097152 from rfl]; omega) (by omega)
            rwa [show (2 : Int) ^ 21 = 2097152 from rfl] at this
          have HF : Hid (Pl.ver c rs = if n < 128 then (v + n % 128 * 2097152, 0, r2) else Pl.verF g 4 (v + n % 128 * 2097152) 0 r2) := by
            show _ = _
            rw [HS.out, if_neg (by omega)]; rfl
          clear HS
          go_wp2_with fail
          refine HNU.out.mono ?_
          rintro e w1 ⟨rfl, hr1, ho1⟩
          have HR1 := hid hr1
          obtain ⟨a, len, cap, h0, h1, f0, f1, _, _, _, _, _, _⟩ := hr1
          go_wp2_with fail
          · go_ret
            have hlt : n < 128 := by assumption
            rw [if_pos hlt] at HF
            exact ⟨ret_int (by rw [HF.out]), by rw [HF.out]; exact HR1.out, HO.out.trans ho1⟩
          · go_roundw
            case rel =>
              have hge : 128 ≤ n := by assumption
              rw [if_neg (by omega)] at HF
              exact ⟨4, g, v + n % 128 * 2097152, 0, r2, by omega, by omega, rfl, rfl, by omega, by show _ < _; rw [show (128 : Int) ^ 4 = 268435456 from rfl]; omega, HR1, HF, HO.out.trans ho1⟩
            case measure => simp [intOf]
      · have HV' : v < 268435456 := HV.out
        by_cases hz : n = 0
        · have HF : Hid (Pl.ver c rs = (0, 4, [])) := by
            show _ = _
            rw [HS.out, if_pos (.inr ⟨by omega, hz⟩)]
          have hzb : (n == 0) = true := by simp [hz]
          have HZ := hid hz
          clear HS hz
          go_wp2_with fail
          refine HNU.out.mono ?_
          rintro e w1 ⟨rfl, hr1, ho1⟩
          have HR1 := hid hr1
          obtain ⟨a, len, cap, h0, h1, f0, f1, _, _, _, _, _, _⟩ := hr1
          go_wp2_with fail
          refine (refuse_any B R 0 r2 4 _ HR1.out (by omega)).mono ?_
          rintro e w2 ⟨rfl, hr2, ho2⟩
          go_wp2_with fail
          go_ret
          exact ⟨ret_int (by rw [HF.out]), by rw [HF.out]; exact hr2, (HO.out.trans ho1).trans ho2⟩
        · have hzb : (n == 0) = false := by simp [hz]
          have hor : bits .or .i64 v (n % 128 * 268435456) = v + n % 128 * 268435456 := by
            have := Pl.or_low v (n % 128) 28 (by omega) (by rw [show (2 : Int) ^ 28 = 268435456 from rfl]; omega) (by omega) (by rw [show (2 : Int) ^ 28 = 268435456 from rfl]; omega) (by omega)
            rwa [show (2 : Int) ^ 28 = 268435456 from rfl] at this
          have HF : Hid (Pl.ver c rs = if n < 128 then (v + n % 128 * 268435456, 0, r2) else Pl.verF g 5 (v + n % 128 * 268435456) 0 r2) := by
            show _ = _
            rw [HS.out, if_neg (by omega)]; rfl
          clear HS
          go_wp2_with fail
          refine HNU.out.mono ?_
          rintro e w1 ⟨rfl, hr1, ho1⟩
          have HR1 := hid hr1
          obtain ⟨a, len, cap, h0, h1, f0, f1, _, _, _, _, _, _⟩ := hr1
          go_wp2_with fail
          · go_ret
            have hlt : n < 128 := by assumption
            rw [if_pos hlt] at HF
            exact ⟨ret_int (by rw [HF.out]), by rw [HF.out]; exact HR1.out, HO.out.trans ho1⟩
          · go_roundw
            case rel =>
              have hge : 128 ≤ n := by assumption
              rw [if_neg (by omega)] at HF
              exact ⟨5, g, v + n % 128 * 268435456, 0, r2, by omega, by omega, rfl, rfl, by omega, by show _ < _; rw [show (128 : Int) ^ 5 = 34359738368 from rfl]; omega, HR1, HF, HO.out.trans ho1⟩
            case measure => simp [intOf]
      · have HV' : v < 34359738368 := HV.out
        by_cases hz : n = 0
        · have HF : Hid (Pl.ver c rs = (0, 4, [])) := by
            show _ = _
            rw [HS.out, if_pos (.inr ⟨by omega, hz⟩)]
          have hzb : (n == 0) = true := by simp [hz]
          have HZ := hid hz
          clear HS hz
          go_wp2_with fail
          refine HNU.out.mono ?_
          rintro e w1 ⟨rfl, hr1, ho1⟩
          have HR1 := hid hr1
          obtain ⟨a, len, cap, h0, h1, f0, f1, _, _, _, _, _, _⟩ := hr1
          go_wp2_with fail
          refine (refuse_any B R 0 r2 4 _ HR1.out (by omega)).mono ?_
          rintro e w2 ⟨rfl, hr2, ho2⟩
          go_wp2_with fail
          go_ret
          exact ⟨ret_int (by rw [HF.out]), by rw [HF.out]; exact hr2, (HO.out.trans ho1).trans ho2⟩
        · have hzb : (n == 0) = false := by simp [hz]
          have hor : bits .or .i64 v (n % 128 * 34359738368) = v + n % 128 * 34359738368 := by
            have := Pl.or_low v (n % 128) 35 (by omega) (by rw [show (2 : Int) ^ 35 = 34359738368 from rfl]; omega) (by omega) (by rw [show (2 : Int) ^ 35 = 34359738368 from rfl]; omega) (by omega)
            rwa [show (2 : Int) ^ 35 = 34359738368 from rfl] at this
          have HF : Hid (Pl.ver c rs = if n < 128 then (v + n % 128 * 34359738368, 0, r2) else Pl.verF g 6 (v + n % 128 * 34359738368) 0 r2) := by
            show _ = _
            rw [HS.out, if_neg (by omega)]; rfl
          clear HS
          go_wp2_with fail
          refine HNU.out.mono ?_
          rintro e w1 ⟨rfl, hr1, ho1⟩
          have HR1 := hid hr1
          obtain ⟨a, len, cap, h0, h1, f0, f1, _, _, _, _, _, _⟩ := hr1
          go_wp2_with fail
          · go_ret
            have hlt : n < 128 := by assumption
            rw [if_pos hlt] at HF
            exact ⟨ret_int (by rw [HF.out]), by rw [HF.out]; exact HR1.out, HO.out.trans ho1⟩
          · go_roundw
            case rel =>
              have hge : 128 ≤ n := by assumption
              rw [if_neg (by omega)] at HF
              exact ⟨6, g, v + n % 128 * 34359738368, 0, r2, by omega, by omega, rfl, rfl, by omega, by show _ < _; rw [show (128 : Int) ^ 6 = 4398046511104 from rfl]; omega, HR1, HF, HO.out.trans ho1⟩
            case measure => simp [intOf]
      · have HV' : v < 4398046511104 := HV.out
        by_cases hz : n = 0
        · have HF : Hid (Pl.ver c rs = (0, 4, [])) := by
            show _ = _
            rw [HS.out, if_pos (.inr ⟨by omega, hz⟩)]
          have hzb : (n == 0) = true := by simp [hz]
          have HZ := hid hz
          clear HS hz
          go_wp2_with fail
          refine HNU.out.mono ?_
          rintro e w1 ⟨rfl, hr1, ho1⟩
          have HR1 := hid hr1
          obtain ⟨a, len, cap, h0, h1, f0, f1, _, _, _, _, _, _⟩ := hr1
          go_wp2_with fail
          refine (refuse_any B R 0 r2 4 _ HR1.out (by omega)).mono ?_
          rintro e w2 ⟨rfl, hr2, ho2⟩
          go_wp2_with fail
          go_ret
          exact ⟨ret_int (by rw [HF.out]), by rw [HF.out]; exact hr2, (HO.out.trans ho1).trans ho2⟩
        · have hzb : (n == 0) = false := by simp [hz]
          have hor : bits .or .i64 v (n % 128 * 4398046511104) = v + n % 128 * 4398046511104 := by
            have := Pl.or_low v (n % 128) 42 (by omega) (by rw [show (2 : Int) ^ 42 = 4398046511104 from rfl]; omega) (by omega) (by rw [show (2 : Int) ^ 42 = 4398046511104 from rfl]; omega) (by omega)
            rwa [show (2 : Int) ^ 42 = 4398046511104 from rfl] at this
          have HF : Hid (Pl.ver c rs = if n < 128 then (v + n % 128 * 4398046511104, 0, r2) else Pl.verF g 7 (v + n % 128 * 4398046511104) 0 r2) := by
            show _ = _
            rw [HS.out, if_neg (by omega)]; rfl
          clear HS
          go_wp2_with fail
          refine HNU.out.mono ?_
          rintro e w1 ⟨rfl, hr1, ho1⟩
          have HR1 := hid hr1
          obtain ⟨a, len, cap, h0, h1, f0, f1, _, _, _, _, _, _⟩ := hr1
          go_wp2_with fail
          · go_ret
            have hlt : n < 128 := by assumption
            rw [if_pos hlt] at HF
            exact ⟨ret_int (by rw [HF.out]), by rw [HF.out]; exact HR1.out, HO.out.trans ho1⟩
          · go_roundw
            case rel =>
              have hge : 128 ≤ n := by assumption
              rw [if_neg (by omega)] at HF
              exact ⟨7, g, v + n % 128 * 4398046511104, 0, r2, by omega, by omega, rfl, rfl, by omega, by show _ < _; rw [show (128 : Int) ^ 7 = 562949953421312 from rfl]; omega, HR1, HF, HO.out.trans ho1⟩
            case measure => simp [intOf]
      · have HF : Hid (Pl.ver c rs = (0, 4, [])) := by
          show _ = _
          rw [HS.out, if_pos (.inl rfl)]
        clear HS
        go_wp2_with fail
        refine HNU.out.mono ?_
        rintro e w1 ⟨rfl, hr1, ho1⟩
        have HR1 := hid hr1
        obtain ⟨a, len, cap, h0, h1, f0, f1, _, _, _, _, _, _⟩ := hr1
        go_wp2_with fail
        refine (refuse_any B R 0 r2 4 _ HR1.out (by omega)).mono ?_
        rintro e w2 ⟨rfl, hr2, ho2⟩
        go_wp2_with fail
        go_ret
        exact ⟨ret_int (by rw [HF.out]), by rw [HF.out]; exact hr2, (HO.out.trans ho1).trans ho2⟩
    · have HF : Hid (Pl.ver c rs = (0, c2, [])) := by
        show _ = _
        rw [HS.out, if_neg hc2]
      have hcb : (c2 != 0) = true := by simp [hc2]
      have HC2 := hid hc2
      have HL := hid (Pl.num_left c1 r1)
      rw [HN.out] at HL
      clear HS hc2
      go_wp2_with fail
      refine HNU.out.mono ?_
      rintro e w1 ⟨rfl, hr1, ho1⟩
      have HR1 := hid hr1
      obtain ⟨a, len, cap, h0, h1, f0, f1, _, _, _, _, _, _⟩ := hr1
      go_wp2_with fail
      go_ret
      refine ⟨ret_int (by rw [HF.out]), ?_, HO.out.trans ho1⟩
      rw [HF.out]
      have := HR1.out
      rwa [(HL.out HC2.out).1] at this
end Go.Proofs.Ytcdobhdbafpkiad
