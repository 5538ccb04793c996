/-
  Contracts and facts that the proof rests on, put together out of several texts.
-/
import Derived.Test.YtpaobnhcbeklfaaGreatDoorAll6
import Derived.Test.YtpaobnhcbeklfaaGreatDoorAll2
import Derived.Test.YtpaobnhcbeklfaaGreatDoorAll4
import Derived.Laws.IdiomStrings
import Derived.Lib.BufferRead
import Derived.Test.YtpaobnhcbeklfaaGreatDoorAll1
import Derived.Laws.AppendOwnNone
import Derived.OwnWalk
/-
  Contracts: what is wrong with one prefix: checkPrefix; how many addresses have bits in common: the document's spanOf.
-/
namespace Go.Proofs.YtpaobnhcbeklfaaGreatDoor
open Go.RowKit
set_option maxRecDepth 20000

theorem Pl.pfx1_out {p : Int × Int} (h : p.2 < 0 ∨ 8 < p.2 ∨ p.1 < 0 ∨ 255 < p.1) : Pl.pfx1 p = 2 := by
  unfold Pl.pfx1
  rw [if_neg]
  unfold Pl.inP
  simp; omega
theorem Pl.pfx1_in {p : Int × Int} (h1 : 0 ≤ p.2 ∧ p.2 ≤ 8) (h2 : 0 ≤ p.1 ∧ p.1 ≤ 255) : Pl.pfx1 p = if p.1 % Pl.span p.2 = 0 then 0 else 4 := by
  unfold Pl.pfx1
  rw [if_pos]
  unfold Pl.inP
  simp; omega

set_option maxHeartbeats 1000000 in
theorem checkPrefix_any (p : Int × Int) (w : World) :
    Calls Tryz.prog 65 #[.agg #[.int .i64 p.1, .int .i64 p.2]] w fun e w' => e = .returned (.int .i64 (Pl.pfx1 p)) ∧ Below w.heap.size w w' := by
  obtain ⟨a, b⟩ := p
  have hB1 : Below w.heap.size w (w.alloc (.cells #[.int .i64 a, .int .i64 b] 38)) := (Below.refl _ _).alloc (Nat.le_refl _) _
  rcases Int.lt_or_le b 0 with h1 | h1
  · have HR := hid (Pl.pfx1_out (p := (a, b)) (.inl h1))
    go_enter Tryz.func65, Tryz.ntmps65
    go_wp2
    go_ret
    exact ⟨ret_int HR.out.symm, hB1⟩
  rcases Int.lt_or_le 8 b with h2 | h2
  · have HR := hid (Pl.pfx1_out (p := (a, b)) (.inr (.inl h2)))
    go_enter Tryz.func65, Tryz.ntmps65
    go_wp2
    go_ret
    exact ⟨ret_int HR.out.symm, hB1⟩
  rcases Int.lt_or_le a 0 with h3 | h3
  · have HR := hid (Pl.pfx1_out (p := (a, b)) (.inr (.inr (.inl h3))))
    go_enter Tryz.func65, Tryz.ntmps65
    go_wp2
    go_ret
    exact ⟨ret_int HR.out.symm, hB1⟩
  rcases Int.lt_or_le 255 a with h4 | h4
  · have HR := hid (Pl.pfx1_out (p := (a, b)) (.inr (.inr (.inr h4))))
    go_enter Tryz.func65, Tryz.ntmps65
    go_wp2
    go_ret
    exact ⟨ret_int HR.out.symm, hB1⟩
  have HR := hid (Pl.pfx1_in (p := (a, b)) ⟨h1, h2⟩ ⟨h3, h4⟩)
  obtain ⟨t0, t1, t2, t3, t4, t5, t6, t7, t8⟩ := Pl.span_table
  have hbs := Pl.bits_cases ⟨h1, h2⟩
  rcases hbs with rfl | rfl | rfl | rfl | rfl | rfl | rfl | rfl | rfl
  all_goals
    clear h1 h2
    have htm : ∀ k, a.tmod k = a % k := fun k => Int.tmod_eq_emod_of_nonneg h3
    simp only [t0, t1, t2, t3, t4, t5, t6, t7, t8] at HR
    go_enter Tryz.func65, Tryz.ntmps65
    go_wp2_with fail
    go_quiet (fail)
    go_wp2_with fail
  all_goals go_ret
  all_goals exact ⟨ret_int (by rw [HR.out]; split <;> simp_all), below_drew hB1 _⟩

theorem Pl.span_half {m : Int} (h : 0 ≤ m ∧ m ≤ 7) : (Pl.span m).tdiv 2 = Pl.span (m + 1) ∧ 0 ≤ Pl.span m ∧ Pl.span m ≤ 256 := by
  have : m = 0 ∨ m = 1 ∨ m = 2 ∨ m = 3 ∨ m = 4 ∨ m = 5 ∨ m = 6 ∨ m = 7 := by omega
  rcases this with rfl | rfl | rfl | rfl | rfl | rfl | rfl | rfl <;> decide

set_option maxHeartbeats 1000000 in
theorem spanOf_any (b : Int) (w : World) (hb : 0 ≤ b ∧ b ≤ 8) :
    Calls Tryz.prog 11 #[.int .i64 b] w fun e w' => e = .returned (.int .i64 (Pl.span b)) ∧ w' = w := by
  obtain ⟨hb0, hb8⟩ := hb
  go_enter Tryz.func11, Tryz.ntmps11
  go_wp2
  go_loop [0, 3] (fun bb n => ∃ (k : Nat) (x : Int), bb = .int .i64 k ∧ (k : Int) ≤ b ∧ n = .int .i64 x ∧ Hid (x = Pl.span (b - k))) (fun bb _ => (intOf bb).toNat)
  case atStart => exact ⟨b.toNat, 256, by go_num, by omega, rfl, hid (by rw [Int.toNat_of_nonneg hb0, Int.sub_self]; rfl)⟩
  case round =>
    obtain ⟨k, x, rfl, hk, rfl, HX⟩ := hrel
    rcases Nat.eq_zero_or_pos k with rfl | hpos
    · have HX' : Hid (x = Pl.span b) := hid (by rw [HX.out]; simp)
      go_wp2
      go_ret
      exact ⟨ret_int HX'.out, rfl⟩
    · obtain ⟨m, rfl⟩ : ∃ m, k = m + 1 := ⟨k - 1, by omega⟩
      obtain ⟨hq, hx0, hx1⟩ := Pl.span_half (m := b - ((m + 1 : Nat) : Int)) (by omega)
      rw [← HX.out] at hq hx0 hx1
      obtain ⟨y, HY⟩ : ∃ y, Hid (Pl.span (b - ((m + 1 : Nat) : Int) + 1) = y) := ⟨_, rfl⟩
      rw [HY.out] at hq
      have hy : 0 ≤ y ∧ y ≤ 256 := by rw [← hq, Int.tdiv_eq_ediv_of_nonneg hx0]; omega
      obtain ⟨hy0, hy1⟩ := hy
      go_wp2
      go_round
      case rel => exact ⟨m, y, by go_num, by omega, by first | rfl | go_num, hid (by rw [← HY.out]; congr 1; omega)⟩
      case measure => simp [intOf]
end Go.Proofs.YtpaobnhcbeklfaaGreatDoor
/-
  Contracts: what CheckPrefixes and the document's PrefixesFault answer at every list of prefixes.
-/
namespace Go.Proofs.YtpaobnhcbeklfaaGreatDoor
open Go.RowKit
set_option maxRecDepth 20000

set_option maxHeartbeats 1000000 in
theorem CheckPrefixes_any (a : Option Addr) (len cap : Nat) (ps : List (Int × Int)) (w : World) (h : IsPairs w a len cap ps) :
    Calls Tryz.prog 45 #[.slice a len cap] w fun e w' => e = .returned (.int .i64 (Pl.pfxF ps)) ∧ Below w.heap.size w w' := by
  obtain ⟨hl, hc, hm, hok, hrow⟩ := h
  unfold maxLen at hm
  by_cases h6 : 6 < len
  · have HR := hid (Pl.pfxF_size (ps := ps) (by omega))
    go_enter Tryz.func45, Tryz.ntmps45
    go_wp2
    go_ret
    exact ⟨ret_int HR.out.symm, Below.refl _ _⟩
  go_enter Tryz.func45, Tryz.ntmps45
  go_wp2
  go_loopw [11] (fun i wr => ∃ k : Nat, k ≤ len ∧ i = .int .i64 k ∧ Hid (Pl.pfxF ps = Pl.pfxN ps (len - k) k) ∧ Hid (∀ j, j < k → Pl.pfx1 (Pl.pr ps j) = 0) ∧ Below w.heap.size w wr) (fun i _ => len - (intOf i).toNat)
  case atStart => exact ⟨0, Nat.zero_le _, rfl, by show _ = _; rw [Pl.pfxF_from (by omega), hl]; rfl, hid (by intro j hj; omega), Below.refl _ _⟩
  case round =>
    obtain ⟨k, hk, rfl, HF, HV, hb⟩ := hrel
    by_cases hlt : k < len
    · obtain ⟨b, off, rfl, hbw, hr⟩ : ∃ b off, a = some ⟨b, off, none⟩ ∧ b < w.heap.size ∧ PairsAt w b off ps := by
        rcases hrow with rfl | h
        · simp at hl; omega
        · exact h
      clear hrow
      have hr' := hr.below hbw hb
      obtain ⟨c0, c1⟩ := hr' k (by omega)
      have hz := hb.size
      obtain ⟨n, hn⟩ : ∃ n, len - k = n + 1 := ⟨len - k - 1, by omega⟩
      have HN : Hid (len - k = n + 1) := hn
      clear hn
      have hbr : b < wr.heap.size := by omega
      obtain ⟨pp, HP⟩ : ∃ pp, Hid (Pl.pr ps k = pp) := ⟨_, rfl⟩
      rw [HP.out] at c0 c1
      obtain ⟨cc, HCC⟩ : ∃ cc, Hid (Pl.pfx1 pp = cc) := ⟨_, rfl⟩
      by_cases hc0 : cc = 0
      · subst hc0
        have HM : Hid (Pl.pfx1 (Pl.pr ps k) = 0) := hid (by rw [HP.out, HCC.out])
        have HV' : Hid (∀ j, j < k + 1 → Pl.pfx1 (Pl.pr ps j) = 0) := by
          refine hid fun j hj => ?_
          rcases Nat.lt_or_ge j k with h | h
          · exact HV.out j h
          · obtain rfl : j = k := by omega
            exact HM.out
        rcases Nat.eq_zero_or_pos k with hk0 | hk0
        · have hd : decide (0 < k) = false := by simp; omega
          have HK0 : Hid (k = 0) := hk0
          clear hk0
          go_wp2_with fail
          refine (checkPrefix_any pp _).mono ?_
          rw [HCC.out]
          rintro e w1 ⟨rfl, hb1⟩
          go_wp2_with fail
          go_quiet (fail)
          go_wp2_with fail
          go_roundw
          case rel => exact ⟨k + 1, by omega, by go_num, by show _ = _; have h := HN.out; rw [HF.out, h]; have hm := HM.out; rw [HK0.out] at hm ⊢; rw [Pl.pfxN_first hm]; congr 1; have h0 := HK0.out; omega, HV', below_drew ((hb.alloc hz _).trans (hb1.mono (by simp; omega))) _⟩
          case measure => simp [intOf]; omega
        · obtain ⟨m, rfl⟩ : ∃ m, k = m + 1 := ⟨k - 1, by omega⟩
          obtain ⟨d0, d1⟩ := hr' m (by omega)
          obtain ⟨qq, HQ⟩ : ∃ pp, Hid (Pl.pr ps m = pp) := ⟨_, rfl⟩
          rw [HQ.out] at d0 d1
          obtain ⟨cq, HCQ⟩ : ∃ c, Hid (Pl.pfxC qq pp = c) := ⟨_, rfl⟩
          have HLW : Hid (decide (0 ≤ cq) = Pl.pfxLow (Pl.pr ps m) (Pl.pr ps (m + 1))) := by
            refine hid ?_
            rw [← HCQ.out, ← HP.out, ← HQ.out]
            exact Pl.pfxC_low (Pl.pfx1_zero (HV.out m (by omega))) (Pl.pfx1_zero HM.out)
          have HCP : Hid (∀ W, Calls Tryz.prog 48 #[.agg #[.int .i64 qq.1, .int .i64 qq.2], .agg #[.int .i64 pp.1, .int .i64 pp.2]] W fun e w' => e = .returned (.int .i64 cq) ∧ Below W.heap.size W w') := by
            refine hid fun W => ?_
            have := comparePrefixes_any qq pp W
            rwa [HCQ.out] at this
          by_cases hle : 0 ≤ cq
          all_goals
            go_wp2_with fail
            refine (checkPrefix_any pp _).mono ?_
            rw [HCC.out]
            rintro e w1 ⟨rfl, hb1⟩
            have hbA : Below (wr.heap.size + 1) (wr.alloc (.cells #[.int .i64 pp.1, .int .i64 pp.2] 38)) w1 := by simpa using hb1
            obtain ⟨x0, x1, xs, hbb⟩ := box2 hbA
            have d0' := (hbb.cell (p := ⟨b, off + m * 2, none⟩) hbr).trans d0
            have d1' := (hbb.cell (p := ⟨b, off + m * 2 + 1, none⟩) hbr).trans d1
            clear hb1 hbA
            have hbw1 : b < w1.heap.size := by omega
            go_wp2_with fail
            have i0 := in_cell xs x0
            have i1 := in_cell xs x1
            have i2 := in_cell hbw1 d0'
            have i3 := in_cell hbw1 d1'
            have hne := in_some w1
            refine wp_region_in (by kernel_rfl) (by kernel_rfl) ?_
            repeat (go_big_quiet_step ((go_at_call 48; exact in_call (HCP.out _))))
            refine wpQuiet_nil ?_
            intro w5 hw'
            have hb5 := in_out hw'
            clear hw' i0 i1 i2 i3 hne x0 x1 d0' d1'
            go_wp2_with fail
          · go_ret
            exact ⟨ret_int (by rw [HF.out, HN.out, Pl.pfxN_low HM.out (by rw [← HLW.out]; simpa using hle)]), hb.trans ((hbb.mono hz).trans (hb5.mono (Nat.le_trans hz hbb.size)))⟩
          · go_roundw
            case rel => exact ⟨m + 1 + 1, by omega, by go_num, by show _ = _; rw [HF.out, HN.out, Pl.pfxN_on HM.out (by rw [← HLW.out]; simpa using hle)]; congr 1; have := HN.out; omega, HV', hb.trans ((hbb.mono hz).trans (hb5.mono (Nat.le_trans hz hbb.size)))⟩
            case measure => simp [intOf]; omega
      · have HR : Hid (Pl.pfxF ps = cc) := by
          refine hid ?_
          rw [HF.out, HN.out, Pl.pfxN_bad (by rw [HP.out, HCC.out]; exact hc0), HP.out, HCC.out]
        have hd0 : (cc == 0) = false := by simpa using hc0
        clear hc0
        go_wp2_with fail
        refine (checkPrefix_any pp _).mono ?_
        rw [HCC.out]
        rintro e w1 ⟨rfl, hb1⟩
        go_wp2_with fail
        go_ret
        exact ⟨ret_int HR.out.symm, (hb.alloc hz _).trans (hb1.mono (by simp; omega))⟩
    · obtain rfl : k = len := by omega
      go_wp2
      go_ret
      exact ⟨ret_int (by rw [HF.out]; simp [Pl.pfxN]), hb⟩
end Go.Proofs.YtpaobnhcbeklfaaGreatDoor
/-
  Contract: what the document's PrefixesFault answers at every list of prefixes.
-/
namespace Go.Proofs.YtpaobnhcbeklfaaGreatDoor
open Go.RowKit
set_option maxRecDepth 20000

theorem Pl.span_pos {b : Int} (h : 0 ≤ b ∧ b ≤ 8) : 1 ≤ Pl.span b ∧ Pl.span b ≤ 256 := by
  rcases Pl.bits_cases h with rfl | rfl | rfl | rfl | rfl | rfl | rfl | rfl | rfl <;> decide

set_option maxHeartbeats 1000000 in
theorem PrefixesFault_any (a : Option Addr) (len cap : Nat) (ps : List (Int × Int)) (w : World) (h : IsPairs w a len cap ps) :
    Calls Tryz.prog 57 #[.slice a len cap] w fun e w' => e = .returned (.int .i64 (Pl.pfxF ps)) ∧ Below w.heap.size w w' := by
  obtain ⟨hl, hc, hm, hok, hrow⟩ := h
  unfold maxLen at hm
  by_cases h6 : 6 < len
  · have HR := hid (Pl.pfxF_size (ps := ps) (by omega))
    go_enter Tryz.func57, Tryz.ntmps57
    go_wp2
    go_ret
    exact ⟨ret_int HR.out.symm, Below.refl _ _⟩
  go_enter Tryz.func57, Tryz.ntmps57
  go_wp2
  go_loopw [3] (fun i wr => ∃ k : Nat, k ≤ len ∧ i = .int .i64 k ∧ Hid (Pl.pfxF ps = Pl.pfxN ps (len - k) k) ∧ Hid (∀ j, j < k → Pl.pfx1 (Pl.pr ps j) = 0) ∧ Below w.heap.size w wr) (fun i _ => len - (intOf i).toNat)
  case atStart => exact ⟨0, Nat.zero_le _, rfl, by show _ = _; rw [Pl.pfxF_from (by omega), hl]; rfl, hid (by intro j hj; omega), Below.refl _ _⟩
  case round =>
    obtain ⟨k, hk, rfl, HF, HV, hb⟩ := hrel
    by_cases hlt : k < len
    · obtain ⟨b, off, rfl, hbw, hr⟩ : ∃ b off, a = some ⟨b, off, none⟩ ∧ b < w.heap.size ∧ PairsAt w b off ps := by
        rcases hrow with rfl | h
        · simp at hl; omega
        · exact h
      clear hrow
      have hr' := hr.below hbw hb
      obtain ⟨c0, c1⟩ := hr' k (by omega)
      have hz := hb.size
      obtain ⟨n, hn⟩ : ∃ n, len - k = n + 1 := ⟨len - k - 1, by omega⟩
      have HN : Hid (len - k = n + 1) := hn
      clear hn
      have hbr : b < wr.heap.size := by omega
      obtain ⟨pp, HP⟩ : ∃ pp, Hid (Pl.pr ps k = pp) := ⟨_, rfl⟩
      rw [HP.out] at c0 c1
      obtain ⟨p1, p2⟩ := pp
      simp only at c0 c1
      obtain ⟨ob, HOB⟩ : ∃ c, Hid (decide (0 ≤ p2 ∧ p2 ≤ 8) = c) := ⟨_, rfl⟩
      obtain ⟨oa, HOA⟩ : ∃ c, Hid (decide (0 ≤ p1 ∧ p1 ≤ 255) = c) := ⟨_, rfl⟩
      by_cases hin : (ob && oa) = true
      · simp only [Bool.and_eq_true] at hin
        obtain ⟨rfl, rfl⟩ := hin
        have hbb := of_decide_eq_true HOB.out
        have haa := of_decide_eq_true HOA.out
        obtain ⟨sp, HSP⟩ : ∃ c, Hid (Pl.span p2 = c) := ⟨_, rfl⟩
        have hsp := Pl.span_pos hbb
        rw [HSP.out] at hsp
        have HCS : Hid (∀ W, Calls Tryz.prog 11 #[.int .i64 p2] W fun e w' => e = .returned (.int .i64 sp) ∧ Below W.heap.size W w') := by
          refine hid fun W => ?_
          have := spanOf_any p2 W hbb
          rw [HSP.out] at this
          exact this.mono fun e w' ⟨h1, h2⟩ => ⟨h1, h2 ▸ Below.refl _ _⟩
        have HPF : Hid (Pl.pfx1 (Pl.pr ps k) = if p1 % sp = 0 then 0 else 4) := hid (by rw [HP.out, Pl.pfx1_in hbb haa]; simp only; rw [HSP.out])
        obtain ⟨hb0, hb8⟩ := hbb
        obtain ⟨ha0, ha8⟩ := haa
        obtain ⟨hs1, hs2⟩ := hsp
        have htm : p1.tmod sp = p1 % sp := Int.tmod_eq_emod_of_nonneg ha0
        have hs0 : (sp == 0) = false := by simp; omega
        have hrm := Int.emod_nonneg p1 (show sp ≠ 0 by omega)
        have hrl := Int.emod_lt_of_pos p1 (show 0 < sp by omega)
        obtain ⟨rm, HRM⟩ : ∃ c, Hid (p1 % sp = c) := ⟨_, rfl⟩
        rw [HRM.out] at htm hrm hrl
        by_cases hrz : rm = 0
        · subst hrz
          have HM : Hid (Pl.pfx1 (Pl.pr ps k) = 0) := hid (by rw [HPF.out, HRM.out]; rfl)
          have HV' : Hid (∀ j, j < k + 1 → Pl.pfx1 (Pl.pr ps j) = 0) := by
            refine hid fun j hj => ?_
            rcases Nat.lt_or_ge j k with h | h
            · exact HV.out j h
            · obtain rfl : j = k := by omega
              exact HM.out
          rcases Nat.eq_zero_or_pos k with hk0 | hk0
          · have hd : decide (0 < k) = false := by simp; omega
            have HK0 : Hid (k = 0) := hk0
            clear hk0
            go_wp2_with (go_at_call 30; refine (In_any _ _ _ _).mono ?_; (first | rw [HOB.out] | rw [HOA.out]); rintro e w' ⟨rfl, rfl⟩)
            obtain ⟨W1, hW1⟩ : ∃ W1, W1 = wr.alloc (.cells #[.int .i64 p1, .int .i64 p2] 38) := ⟨_, rfl⟩
            have x0 : W1.cell? ⟨wr.heap.size, 0, none⟩ = some (.int .i64 p1) := by rw [hW1]; simp
            have x1 : W1.cell? ⟨wr.heap.size, 1, none⟩ = some (.int .i64 p2) := by rw [hW1]; simp
            have xs : wr.heap.size < W1.heap.size := by rw [hW1]; simp
            have hbW : Below w.heap.size w W1 := by rw [hW1]; exact hb.alloc hz _
            rw [← hW1]
            clear hW1
            have i0 := in_cell xs x0
            have i1 := in_cell xs x1
            have hne := in_some W1
            refine wp_region_in (by kernel_rfl) (by kernel_rfl) ?_
            repeat (go_big_quiet_step ((go_at_call 11; exact in_call (HCS.out _))))
            refine wpQuiet_nil ?_
            intro w5 hw'
            have hb5 := in_out hw'
            clear hw' i0 i1 hne
            go_wp2_with fail
            go_quiet (fail)
            go_wp2_with fail
            go_roundw
            case rel => exact ⟨k + 1, by omega, by go_num, by show _ = _; have h := HN.out; rw [HF.out, h]; have hm := HM.out; rw [HK0.out] at hm ⊢; rw [Pl.pfxN_first hm]; congr 1; have h0 := HK0.out; omega, HV', below_drew (hbW.trans (hb5.mono hbW.size)) _⟩
            case measure => simp [intOf]; omega
          · obtain ⟨m, rfl⟩ : ∃ m, k = m + 1 := ⟨k - 1, by omega⟩
            obtain ⟨d0, d1⟩ := hr' m (by omega)
            obtain ⟨qq, HQ⟩ : ∃ pp, Hid (Pl.pr ps m = pp) := ⟨_, rfl⟩
            have hqv := Pl.pfx1_zero (HV.out m (by omega))
            rw [HQ.out] at d0 d1 hqv
            obtain ⟨q1, q2⟩ := qq
            simp only at d0 d1 hqv
            obtain ⟨⟨hq0, hq8⟩, hq1, hq2⟩ := hqv
            have HLW : Hid (Pl.pfxLow (Pl.pr ps m) (Pl.pr ps (m + 1)) = decide (10 * p1 + p2 ≤ 10 * q1 + q2)) := hid (by rw [HQ.out, HP.out]; rfl)
            by_cases hle : 10 * p1 + p2 ≤ 10 * q1 + q2
            all_goals
              go_wp2_with (go_at_call 30; refine (In_any _ _ _ _).mono ?_; (first | rw [HOB.out] | rw [HOA.out]); rintro e w' ⟨rfl, rfl⟩)
              obtain ⟨W1, hW1⟩ : ∃ W1, W1 = wr.alloc (.cells #[.int .i64 p1, .int .i64 p2] 38) := ⟨_, rfl⟩
              have x0 : W1.cell? ⟨wr.heap.size, 0, none⟩ = some (.int .i64 p1) := by rw [hW1]; simp
              have x1 : W1.cell? ⟨wr.heap.size, 1, none⟩ = some (.int .i64 p2) := by rw [hW1]; simp
              have xs : wr.heap.size < W1.heap.size := by rw [hW1]; simp
              have hbR : Below wr.heap.size wr W1 := by rw [hW1]; exact (Below.refl _ _).alloc (Nat.le_refl _) _
              have hbW : Below w.heap.size w W1 := by rw [hW1]; exact hb.alloc hz _
              rw [← hW1]
              clear hW1
              have i0 := in_cell xs x0
              have i1 := in_cell xs x1
              have hne := in_some W1
              refine wp_region_in (by kernel_rfl) (by kernel_rfl) ?_
              repeat (go_big_quiet_step ((go_at_call 11; exact in_call (HCS.out _))))
              refine wpQuiet_nil ?_
              intro w5 hw'
              have hb5 := in_out hw'
              clear hw' i0 i1 hne
              have y0 := (hb5.cell (p := ⟨wr.heap.size, 0, none⟩) xs).trans x0
              have y1 := (hb5.cell (p := ⟨wr.heap.size, 1, none⟩) xs).trans x1
              have e0 := (hb5.cell (p := ⟨b, off + m * 2, none⟩) (show b < W1.heap.size by omega)).trans ((hbR.cell (p := ⟨b, off + m * 2, none⟩) hbr).trans d0)
              have e1 := (hb5.cell (p := ⟨b, off + m * 2 + 1, none⟩) (show b < W1.heap.size by omega)).trans ((hbR.cell (p := ⟨b, off + m * 2 + 1, none⟩) hbr).trans d1)
              have hz5 := hb5.size
              clear x0 x1 d0 d1
              go_wp2_with fail
              go_quiet (fail)
              go_wp2_with fail
            · go_ret
              exact ⟨ret_int (by rw [HF.out, HN.out, Pl.pfxN_low HM.out (by rw [HLW.out]; simpa using hle)]), below_drew (hbW.trans (hb5.mono hbW.size)) _⟩
            · go_roundw
              case rel => exact ⟨m + 1 + 1, by omega, by go_num, by show _ = _; rw [HF.out, HN.out, Pl.pfxN_on HM.out (by rw [HLW.out]; simpa using hle)]; congr 1; have := HN.out; omega, HV', below_drew (hbW.trans (hb5.mono hbW.size)) _⟩
              case measure => simp [intOf]; omega
        · have HR : Hid (Pl.pfxF ps = 4) := by
            refine hid ?_
            have h4 : Pl.pfx1 (Pl.pr ps k) = 4 := by rw [HPF.out, HRM.out, if_neg hrz]
            rw [HF.out, HN.out, Pl.pfxN_bad (by rw [h4]; decide), h4]
          have hd0 : (rm == 0) = false := by simpa using hrz
          clear hrz
          go_wp2_with (go_at_call 30; refine (In_any _ _ _ _).mono ?_; (first | rw [HOB.out] | rw [HOA.out]); rintro e w' ⟨rfl, rfl⟩)
          obtain ⟨W1, hW1⟩ : ∃ W1, W1 = wr.alloc (.cells #[.int .i64 p1, .int .i64 p2] 38) := ⟨_, rfl⟩
          have x0 : W1.cell? ⟨wr.heap.size, 0, none⟩ = some (.int .i64 p1) := by rw [hW1]; simp
          have x1 : W1.cell? ⟨wr.heap.size, 1, none⟩ = some (.int .i64 p2) := by rw [hW1]; simp
          have xs : wr.heap.size < W1.heap.size := by rw [hW1]; simp
          have hbW : Below w.heap.size w W1 := by rw [hW1]; exact hb.alloc hz _
          rw [← hW1]
          clear hW1
          have i0 := in_cell xs x0
          have i1 := in_cell xs x1
          have hne := in_some W1
          refine wp_region_in (by kernel_rfl) (by kernel_rfl) ?_
          repeat (go_big_quiet_step ((go_at_call 11; exact in_call (HCS.out _))))
          refine wpQuiet_nil ?_
          intro w5 hw'
          have hb5 := in_out hw'
          clear hw' i0 i1 hne
          go_wp2_with fail
          go_ret
          exact ⟨ret_int HR.out.symm, hbW.trans (hb5.mono hbW.size)⟩
      · have HR : Hid (Pl.pfxF ps = 2) := by
          refine hid ?_
          have h2 : Pl.pfx1 (Pl.pr ps k) = 2 := by
            rw [HP.out]; apply Pl.pfx1_out
            have h1 := HOB.out
            have h2 := HOA.out
            cases ob <;> cases oa <;> simp at hin h1 h2 ⊢ <;> omega
          rw [HF.out, HN.out, Pl.pfxN_bad (by rw [h2]; decide), h2]
        cases ob
        all_goals cases oa
        all_goals first | (exact absurd rfl hin) | skip
        all_goals
          go_wp2_with (go_at_call 30; refine (In_any _ _ _ _).mono ?_; (first | rw [HOB.out] | rw [HOA.out]); rintro e w' ⟨rfl, rfl⟩)
          go_ret
          exact ⟨ret_int HR.out.symm, hb.alloc hz _⟩
    · obtain rfl : k = len := by omega
      go_wp2
      go_ret
      exact ⟨ret_int (by rw [HF.out]; simp [Pl.pfxN]), hb⟩
end Go.Proofs.YtpaobnhcbeklfaaGreatDoor
/-
  Contracts: the prefixes that a text tells: ReadPrefixes, the document's PrefixesOf; two lists of prefixes that are the same are told so.
-/
namespace Go.Proofs.YtpaobnhcbeklfaaGreatDoor
open Go.RowKit
set_option maxRecDepth 20000

/-- what ReadPrefixes answers: the code, the prefixes -/
def Pl.rpC (l : List UInt8) : Int := match Pl.pairsL 47 l with
  | none => 4
  | some ps => Pl.pfxF ps
def Pl.rpS (l : List UInt8) : List (Int × Int) := if Pl.rpC l = 0 then (Pl.pairsL 47 l).getD [] else []
theorem infoPfx : (Tryz.prog.info? 38).map (fun i => (i.zero, i.size, i.bytes)) = some (some (.agg #[.int .i64 0, .int .i64 0]), 2, 16) := by kernel_rfl
theorem Pl.rpS_ok (l : List UInt8) : ∀ p ∈ Pl.rpS l, Pl.pairOk p := by
  intro p hp
  unfold Pl.rpS at hp
  split at hp
  · cases h : Pl.pairsL 47 l with
    | none => rw [h] at hp; simp at hp
    | some a =>
      rw [h] at hp
      exact (Pl.pairsL_facts (m := 47) (l := l) h).2 p hp
  · simp at hp
theorem Pl.pairsL_cut (m : UInt8) (l : List UInt8) : Pl.pairsL m l = Pl.pairsP m (Pl.cutsL l) := by
  unfold Pl.pairsL Pl.cutsL
  split <;> rfl
theorem Pl.lists_dropP (ks : List ByteArray) (k : Nat) (h : k < ks.length) : Pl.lists (ks.drop k) = ks[k].data.toList :: Pl.lists (ks.drop (k + 1)) := by
  rw [List.drop_eq_getElem_cons h]; rfl

set_option maxHeartbeats 2000000 in
theorem ReadPrefixes_any (s : ByteArray) (w : World) (hs : s.size ≤ 4398046511103) :
    Calls Tryz.prog 24 #[.string s] w fun e w' => ∃ vl : Value, e = .returned (.tuple #[vl, .int .i64 (Pl.rpC s.data.toList)]) ∧
      OwnP 38 w' w.heap.size vl (Pl.rpS s.data.toList) ∧ Below w.heap.size w w' := by
  obtain ⟨np, HP⟩ : ∃ x, Hid (Pl.pairsL 47 s.data.toList = x) := ⟨_, rfl⟩
  cases np with
  | none =>
    have HC : Hid (Pl.rpC s.data.toList = 4 ∧ Pl.rpS s.data.toList = []) := by
      have h : Pl.rpC s.data.toList = 4 := by unfold Pl.rpC; rw [HP.out]
      refine hid ⟨h, ?_⟩
      unfold Pl.rpS; rw [h]; rfl
    rw [HC.out.1, HC.out.2]
    go_enter Tryz.func24, Tryz.ntmps24
    go_wp2_with fail
    refine (readPairs_any s 47 _ (by omega)).mono ?_
    rw [HP.out]
    rintro e w2 ⟨v2, rfl, _, hb2⟩
    go_wp2_with fail
    go_ret2
    exact ⟨_, rfl, OwnP.nil _ _ _, hb2⟩
  | some ps =>
    obtain ⟨cc, HCC⟩ : ∃ x, Hid (Pl.pfxF ps = x) := ⟨_, rfl⟩
    have HC : Hid (Pl.rpC s.data.toList = cc ∧ (cc = 0 → Pl.rpS s.data.toList = ps) ∧ (cc ≠ 0 → Pl.rpS s.data.toList = [])) := by
      have h : Pl.rpC s.data.toList = cc := by unfold Pl.rpC; rw [HP.out]; exact HCC.out
      refine hid ⟨h, fun h0 => ?_, fun h0 => ?_⟩
      · unfold Pl.rpS; rw [h, h0, HP.out]; rfl
      · unfold Pl.rpS; rw [h, if_neg h0]
    have HFA := hid (Pl.pairsL_facts (m := 47) (l := s.data.toList) HP.out)
    rw [HC.out.1]
    go_enter Tryz.func24, Tryz.ntmps24
    go_wp2_with fail
    refine (readPairs_any s 47 _ (by omega)).mono ?_
    rw [HP.out]
    rintro e w2 ⟨v2, rfl, ho2, hb2⟩
    obtain ⟨a2, cap2, rfl, hp2, _, _⟩ := OwnP.shape (ps := ps) ho2 HFA.out.2
    have HP2 := hid hp2
    have hlen : ps.length ≤ s.size + 1 := by
      have h1 := HFA.out.1
      rw [sz_list] at h1
      omega
    have hcap := hp2.2.1
    have hmax := hp2.2.2.1
    unfold maxLen at hmax
    clear ho2 hp2
    go_wp2_with fail
    go_loopw [6, 19] (fun vl i wr => ∃ (k : Nat) (vv : Value), vv = vl ∧ k ≤ ps.length ∧ i = .int .i64 k ∧ Hid (OwnP 38 wr w2.heap.size vv (ps.take k)) ∧ Below w2.heap.size w2 wr) (fun _ i _ => ps.length - (intOf i).toNat)
    case atStart => exact ⟨0, _, rfl, Nat.zero_le _, rfl, hid (OwnP.nil _ _ _), Below.refl _ _⟩
    case round =>
      obtain ⟨k, vl, rfl, hk, rfl, HO, hb⟩ := hrel
      by_cases hlt : k < ps.length
      · obtain ⟨b, off, rfl, hbw, hr⟩ : ∃ b off, a2 = some ⟨b, off, none⟩ ∧ b < w2.heap.size ∧ PairsAt w2 b off ps := by
          rcases HP2.out.2.2.2.2 with rfl | h
          · simp at hlt
          · exact h
        obtain ⟨c0, c1⟩ := (hr.below hbw hb) k hlt
        have hz := hb.size
        have hbr : b < wr.heap.size := by omega
        clear hr
        obtain ⟨pp, hpp⟩ : ∃ pp, Hid (Pl.pr ps k = pp) := ⟨_, rfl⟩
        rw [hpp.out] at c0 c1
        have HO4 := hid (HO.out.below ((Below.refl wr.heap.size wr).alloc (Nat.le_refl _) (.cells #[.int .i64 pp.1, .int .i64 pp.2] 93)))
        have htk : (ps.take k).length = k := by simp; omega
        go_wp2_with (at_builtin; refine append_pairT Tryz.underlying35 infoPfx rfl (.tmp 23) (.tmp 29) rfl w2.heap.size vl (ps.take k) pp rfl HO4.out (by simp; omega) (by show Value.slice (some ⟨wr.heap.size + 1, 0, none⟩) 1 1 = _; simp) (by rw [htk]; omega) ?_; intro v5 w5 ho5 hb5 _; have HO5 := hid ho5; clear ho5)
        go_roundw
        case rel => exact ⟨k + 1, _, rfl, by omega, by go_num, hid (by show OwnP _ _ _ _ _; rw [Pl.take_pr ps k hlt, hpp.out]; exact HO5.out), (hb.alloc hz _).trans hb5⟩
        case measure => simp [intOf]; omega
      · obtain rfl : k = ps.length := by omega
        have HO' : Hid (OwnP 38 wr w2.heap.size vl ps) := by have h := HO.out; rw [List.take_length] at h; exact hid h
        obtain ⟨a3, cap3, rfl, hp3, _, _⟩ := OwnP.shape HO'.out HFA.out.2
        have HP3 := hid hp3
        clear hp3 HO
        have hbx : Below w.heap.size w wr := hb2.trans (hb.mono hb2.size)
        by_cases hc0 : cc = 0
        · subst hc0
          have HC' := hid (HC.out.2.1 rfl)
          clear HC
          go_wp2_with fail
          refine (CheckPrefixes_any _ _ _ ps _ HP3.out).mono ?_
          rw [HCC.out]
          rintro e w4 ⟨rfl, hb4⟩
          go_wp2_with fail
          go_ret2
          exact ⟨_, rfl, by rw [HC'.out]; exact OwnP.mono (HO'.out.below hb4) hb2.size, hbx.trans (hb4.mono hbx.size)⟩
        · have HC' := hid (HC.out.2.2 hc0)
          clear HC
          have hd0 : (cc == 0) = false := by simpa using hc0
          clear hc0
          go_wp2_with fail
          refine (CheckPrefixes_any _ _ _ ps _ HP3.out).mono ?_
          rw [HCC.out]
          rintro e w4 ⟨rfl, hb4⟩
          go_wp2_with fail
          go_ret2
          exact ⟨_, rfl, by rw [HC'.out]; exact OwnP.nil _ _ _, hbx.trans (hb4.mono hbx.size)⟩

set_option maxHeartbeats 2000000 in
theorem PrefixesOf_any (s : ByteArray) (w : World) (hs : s.size ≤ 4398046511103) :
    Calls Tryz.prog 34 #[.string s] w fun e w' => ∃ vl : Value, e = .returned (.tuple #[vl, .int .i64 (Pl.rpC s.data.toList)]) ∧
      OwnP 38 w' w.heap.size vl (Pl.rpS s.data.toList) ∧ Below w.heap.size w w' := by
  obtain ⟨np, HP⟩ : ∃ x, Hid (Pl.pairsL 47 s.data.toList = x) := ⟨_, rfl⟩
  obtain ⟨rc, HRC⟩ : ∃ x, Hid (Pl.rpC s.data.toList = x) := ⟨_, rfl⟩
  obtain ⟨rs, HRS⟩ : ∃ x, Hid (Pl.rpS s.data.toList = x) := ⟨_, rfl⟩
  rw [HRC.out, HRS.out]
  have HR0 : Hid (np = none → rc = 4 ∧ rs = []) := by
    refine hid fun h => ?_
    have hp := HP.out
    rw [h] at hp
    have h4 : Pl.rpC s.data.toList = 4 := by unfold Pl.rpC; rw [hp]
    refine ⟨HRC.out ▸ h4, ?_⟩
    rw [← HRS.out]; unfold Pl.rpS; rw [h4]; rfl
  have HR1 : Hid (∀ ps, np = some ps → rc = Pl.pfxF ps ∧ (rc = 0 → rs = ps) ∧ (rc ≠ 0 → rs = [])) := by
    refine hid fun ps h => ?_
    have hp := HP.out
    rw [h] at hp
    have h4 : Pl.rpC s.data.toList = Pl.pfxF ps := by unfold Pl.rpC; rw [hp]
    refine ⟨HRC.out ▸ h4, fun h0 => ?_, fun h0 => ?_⟩
    · rw [← HRS.out]; unfold Pl.rpS; rw [HRC.out, h0, hp]; rfl
    · rw [← HRS.out]; unfold Pl.rpS; rw [HRC.out, if_neg h0]
  go_enter Tryz.func34, Tryz.ntmps34
  go_wp2_with fail
  refine (cuts_any s _ (by omega)).mono ?_
  rintro e w2 ⟨vk, ks, rfl, hok, hks, hkz, hkl, hb2⟩
  obtain ⟨ak, kcap, rfl, hkc, hkm, hkr⟩ := OwnT.shape hok
  clear hok
  have HKR := hid hkr
  clear hkr
  have HKZ : Hid (∀ x ∈ ks, x.size ≤ maxLen) := hid fun x hx => by have := hkz x hx; unfold maxLen; omega
  clear hkz
  unfold maxLen at hkm
  have HNP : Hid (np = Pl.pairsP 47 (Pl.lists ks)) := hid (by rw [← HP.out, Pl.pairsL_cut, hks])
  clear hks
  go_wp2_with fail
  go_loopw [4, 6] (fun vl i wr => ∃ (k : Nat) (vv : Value) (acc : List (Int × Int)), vv = vl ∧ k ≤ ks.length ∧ i = .int .i64 k ∧ Hid (acc.length = k) ∧ Hid (np = Pl.andThen acc (Pl.pairsP 47 (Pl.lists (ks.drop k)))) ∧ Hid (OwnP 38 wr w2.heap.size vv acc) ∧ Below w2.heap.size w2 wr) (fun _ i _ => ks.length - (intOf i).toNat)
  case atStart => exact ⟨0, _, [], rfl, Nat.zero_le _, rfl, hid rfl, hid (by rw [HNP.out]; cases h : Pl.pairsP 47 (Pl.lists ks) <;> simp [Pl.andThen, h]), hid (OwnP.nil _ _ _), Below.refl _ _⟩
  case round =>
    obtain ⟨k, vl, acc, rfl, hk, rfl, hak, HN, HO, hb⟩ := hrel
    have hz := hb.size
    have hbx : Below w.heap.size w wr := hb2.trans (hb.mono hb2.size)
    by_cases hlt : k < ks.length
    · obtain ⟨b, rfl, hbase, hbw, hcell⟩ : ∃ b, ak = some ⟨b, 0, none⟩ ∧ w.heap.size ≤ b ∧ b < w2.heap.size ∧ ∀ (i : Nat) (hi : i < ks.length), w2.cell? ⟨b, 0 + i, none⟩ = some (.string ks[i]) := by
        rcases HKR.out with rfl | h
        · simp at hlt
        · exact h
      have hbr : b < wr.heap.size := by omega
      have hc0 : wr.cell? ⟨b, 0 + k, none⟩ = some (.string ks[k]) := (hb.cell (p := ⟨b, 0 + k, none⟩) hbw).trans (hcell k hlt)
      clear hcell
      rw [Nat.zero_add] at hc0
      have HKK := hid (HKZ.out ks[k] (List.getElem_mem hlt))
      obtain ⟨q, HQ⟩ : ∃ x, Hid (Pl.pairL 47 ks[k].data.toList = x) := ⟨_, hid rfl⟩
      obtain ⟨kk, HKE⟩ : ∃ x, Hid (ks[k] = x) := ⟨_, hid rfl⟩
      rw [HKE.out] at hc0 HKK HQ
      cases q with
      | none =>
        have HNN := hid (HR0.out (by rw [HN.out, Pl.lists_dropP ks k hlt, HKE.out, Pl.pairsP_none HQ.out]; rfl))
        go_wp2_with fail
        refine (pairOf_any kk 47 _ HKK.out).mono ?_
        rw [HQ.out]
        rintro e w3 ⟨x, y, rfl, _, rfl⟩
        go_wp2_with fail
        go_ret2
        exact ⟨_, by rw [HNN.out.1]; rfl, by rw [HNN.out.2]; exact OwnP.nil _ _ _, hbx⟩
      | some p =>
        have HNN : Hid (np = Pl.andThen (acc ++ [p]) (Pl.pairsP 47 (Pl.lists (ks.drop (k + 1))))) := hid (by rw [HN.out, Pl.lists_dropP ks k hlt, HKE.out, Pl.pairsP_some HQ.out])
        go_wp2_with fail
        refine (pairOf_any kk 47 _ HKK.out).mono ?_
        rw [HQ.out]
        rintro e w3 ⟨x, y, rfl, hxy, rfl⟩
        obtain rfl := hxy p rfl
        clear hxy
        go_wp2_with (at_builtin; refine append_pairT Tryz.underlying35 infoPfx rfl (.tmp 30) (.tmp 34) rfl w2.heap.size vl acc (x, y) rfl HO.out hz rfl (by have := hak.out; omega) ?_; intro v5 w5 ho5 hb5 _; have HO5 := hid ho5; clear ho5)
        go_roundw
        case rel => exact ⟨k + 1, _, acc ++ [(x, y)], rfl, by omega, by go_num, hid (by simp [hak.out]), HNN, HO5, hb.trans hb5⟩
        case measure => simp [intOf]; omega
    · obtain rfl : k = ks.length := by omega
      have HNP' : Hid (np = some acc) := hid (by rw [HN.out]; simp [Pl.lists, Pl.pairsP, Pl.andThen])
      have HR := hid (HR1.out acc HNP'.out)
      have HOK : Hid (∀ p ∈ acc, Pl.pairOk p) := hid fun p hp => Pl.pairOk_of (Pl.pairsP_ok (m := 47) (ps := Pl.lists ks) (a := acc) (by rw [← HNP.out, HNP'.out]) p hp)
      obtain ⟨a3, cap3, rfl, hp3, _, _⟩ := OwnP.shape HO.out HOK.out
      have HP3 := hid hp3
      clear hp3
      obtain ⟨cc, HCC⟩ : ∃ x, Hid (Pl.pfxF acc = x) := ⟨_, rfl⟩
      obtain rfl : rc = cc := by rw [HR.out.1, HCC.out]
      by_cases hc0 : rc = 0
      · subst hc0
        have HR' := hid (HR.out.2.1 rfl)
        clear HR HR0 HR1
        go_wp2_with fail
        refine (PrefixesFault_any _ _ _ acc _ HP3.out).mono ?_
        rw [HCC.out]
        rintro e w4 ⟨rfl, hb4⟩
        go_wp2_with fail
        go_ret2
        exact ⟨_, rfl, by rw [HR'.out]; exact OwnP.mono (HO.out.below hb4) hb2.size, hbx.trans (hb4.mono hbx.size)⟩
      · have HR' := hid (HR.out.2.2 hc0)
        clear HR HR0 HR1
        have hd0 : (rc == 0) = false := by simpa using hc0
        clear hc0
        go_wp2_with fail
        refine (PrefixesFault_any _ _ _ acc _ HP3.out).mono ?_
        rw [HCC.out]
        rintro e w4 ⟨rfl, hb4⟩
        go_wp2_with fail
        go_ret2
        exact ⟨_, rfl, by rw [HR'.out]; exact OwnP.nil _ _ _, hbx.trans (hb4.mono hbx.size)⟩

end Go.Proofs.YtpaobnhcbeklfaaGreatDoor
/-
  Contracts: where a node tells of its prefixes (PrefixesKey), and what it tells (ToldPrefixes).
-/
namespace Go.Proofs.YtpaobnhcbeklfaaGreatDoor
open Go.RowKit
set_option maxRecDepth 20000

/-- the prefixes that a node tells -/
def Pl.tP (es : List Pl.Ent) (n : Nat) : List (Int × Int) := Pl.rpS (Pl.gotE es (Pl.pfxKey n)).val.data.toList
theorem Pl.tP_none {es : List Pl.Ent} {n : Nat} (h : Pl.gotC es (Pl.pfxKey n) ≠ 0) : Pl.tP es n = [] := by
  have e : Pl.gotE es (Pl.pfxKey n) = Pl.Ent.none := by
    unfold Pl.gotC at h
    unfold Pl.gotE
    by_cases hf : Pl.fault es = 0
    · rw [if_pos hf] at h ⊢
      by_cases ht : Pl.there es (Pl.pfxKey n)
      · rw [if_pos ht] at h; exact absurd rfl h
      · rw [if_neg ht]
    · rw [if_neg hf]
  unfold Pl.tP
  rw [e]
  decide

set_option maxHeartbeats 1000000 in
theorem PrefixesKey_any (n : Int) (w : World) (h0 : 0 ≤ n) (h1 : n ≤ 1000) (hT : Tab w) :
    Calls Tryz.prog 23 #[.int .i64 n] w fun e w' => e = .returned (.string (Pl.pfxKey n)) ∧ Below w.heap.size w w' := by
  have HT := hid hT
  have hz := Pl.dec_le n h0 h1
  clear hT
  have HIT := hid (Itoa_any n w h0 (by omega) HT.out)
  have HK : Hid (Pl.pfxKey n = ⟨#[112, 58]⟩ ++ Pl.dec n) := hid rfl
  generalize Pl.dec n = s at *
  go_enter Tryz.func23, Tryz.ntmps23
  go_wp2_with fail
  refine HIT.out.mono ?_
  rintro e w1 ⟨rfl, hb1⟩
  go_wp2_with fail
  go_ret
  exact ⟨by rw [HK.out]; rfl, hb1⟩

set_option maxHeartbeats 1000000 in
theorem ToldPrefixes_any (a : Option Addr) (len cap : Nat) (es : List Pl.Ent) (n : Nat) (w : World) (h : IsEnts w a len cap es) (h1 : n < 12) (hT : Tab w) :
    Calls Tryz.prog 8 #[.slice a len cap, .int .i64 (n : Int)] w fun e w' => ∃ vl : Value, e = .returned vl ∧
      OwnP 38 w' w.heap.size vl (Pl.tP es n) ∧ Below w.heap.size w w' := by
  have HH := hid h
  have HT := hid hT
  clear h hT
  have hvz : (Pl.gotE es (Pl.pfxKey n)).val.size ≤ 120 := Pl.gotE_val _ _
  obtain ⟨g, HG⟩ : ∃ g, Hid (Pl.gotE es (Pl.pfxKey n) = g) := ⟨_, hid rfl⟩
  have HV : Hid (Pl.tP es n = Pl.rpS g.val.data.toList) := hid (by unfold Pl.tP; rw [HG.out])
  rw [HG.out] at hvz
  rw [HV.out]
  obtain ⟨gk, gv, go, gx⟩ := g
  simp only at hvz ⊢
  have hdec : decide (0 ≤ (n : Int) ∧ (n : Int) ≤ 11) = true := by simp; omega
  obtain ⟨rc, HRC⟩ : ∃ x, Hid (Pl.rpC gx.data.toList = x) := ⟨_, hid rfl⟩
  obtain ⟨rs, HRS⟩ : ∃ x, Hid (Pl.rpS gx.data.toList = x) := ⟨_, hid rfl⟩
  rw [HRS.out]
  go_enter Tryz.func8, Tryz.ntmps8
  go_wp2_with (go_at_call 17; refine (isNode_any _ _).mono ?_; rw [hdec]; rintro e w' ⟨rfl, hw'⟩; rw [hw']; clear hw' w')
  refine (PrefixesKey_any n _ (by omega) (by omega) HT.out).mono ?_
  rintro e w1 ⟨rfl, hb1⟩
  go_wp2_with fail
  refine (Get_any _ _ _ es (Pl.pfxKey n) _ (HH.out.below hb1)).mono ?_
  rw [HG.out]
  rintro e w2 ⟨rfl, hb2⟩
  have HB2 : Hid (Below w.heap.size w w2) := hid (hb1.trans (hb2.mono hb1.size))
  have HBA : Hid (Below w.heap.size w (w2.alloc (.cells #[.string gk, .int .i64 gv, .int .i64 go, .string gx] 60))) := hid (HB2.out.alloc HB2.out.size _)
  clear hb1 hb2
  go_wp2_with fail
  refine (ReadPrefixes_any gx _ (by omega)).mono ?_
  rw [HRC.out, HRS.out]
  rintro e w3 ⟨v3, rfl, ho3, hb3⟩
  go_wp2_with fail
  go_ret
  exact ⟨v3, rfl, ho3.mono HBA.out.size, HBA.out.trans (hb3.mono HBA.out.size)⟩
end Go.Proofs.YtpaobnhcbeklfaaGreatDoor
/-
  Plain: the table of a node, of a store: it may be, and what stands at each prefix of it; no program in sight.
-/
namespace Go.Proofs.YtpaobnhcbeklfaaGreatDoor
open Go.RowKit
set_option maxRecDepth 20000

theorem Pl.pfxN_good (ps : List (Int × Int)) : ∀ n i, i + n = ps.length → Pl.pfxN ps n i = 0 → ∀ j, i ≤ j → j < ps.length → Pl.pfx1 (Pl.pr ps j) = 0 ∧ (0 < j → Pl.pfxLow (Pl.pr ps (j - 1)) (Pl.pr ps j) = false)
  | 0, i, h, _, j, h1, h2 => by omega
  | n + 1, i, h, h0, j, h1, h2 => by
    by_cases g : Pl.pfx1 (Pl.pr ps i) = 0
    · cases i with
      | zero =>
        rw [Pl.pfxN_first g] at h0
        rcases Nat.eq_or_lt_of_le h1 with e | h1
        · subst e; exact ⟨g, fun h => by omega⟩
        · exact Pl.pfxN_good ps n 1 (by omega) h0 j h1 h2
      | succ m =>
        cases k : Pl.pfxLow (Pl.pr ps m) (Pl.pr ps (m + 1))
        · rw [Pl.pfxN_on g k] at h0
          rcases Nat.eq_or_lt_of_le h1 with e | h1
          · subst e; exact ⟨g, fun _ => k⟩
          · exact Pl.pfxN_good ps n (m + 1 + 1) (by omega) h0 j h1 h2
        · rw [Pl.pfxN_low g k] at h0; cases h0
    · rw [Pl.pfxN_bad g] at h0; exact absurd h0 g
theorem Pl.pfxF_good {ps : List (Int × Int)} (h : Pl.pfxF ps = 0) : ps.length ≤ 6 ∧ (∀ p ∈ ps, Pl.pfx1 p = 0) ∧ ps.Pairwise (fun p q => Pl.pltB p q = true) := by
  by_cases hl : ps.length ≤ 6
  · rw [Pl.pfxF_from hl] at h
    have g := Pl.pfxN_good ps ps.length 0 (by omega) h
    have h1 : ∀ p ∈ ps, Pl.pfx1 p = 0 := fun p hp => by
      obtain ⟨i, hi, rfl⟩ := List.getElem_of_mem hp
      rw [← Pl.pr_eq ps i hi]; exact (g i (by omega) hi).1
    refine ⟨hl, h1, List.pairwise_iff_getElem.2 fun i j hi hj hij => ?_⟩
    rw [← Pl.pr_eq ps i hi, ← Pl.pr_eq ps j hj]
    induction j with
    | zero => omega
    | succ m ih =>
      have hs : Pl.pltB (Pl.pr ps m) (Pl.pr ps (m + 1)) = true := by
        have g1 := (g (m + 1) (by omega) hj).2 (by omega)
        have a1 := Pl.pfx1_zero (g m (by omega) (by omega)).1
        have a2 := Pl.pfx1_zero (g (m + 1) (by omega) hj).1
        unfold Pl.pfxLow at g1
        rw [Pl.pltB_iff]
        simp at g1
        omega
      rcases Nat.lt_or_ge i m with q | q
      · exact Pl.pltB_trans (ih (by omega) q) hs
      · obtain rfl : i = m := by omega
        exact hs
  · rw [Pl.pfxF_size (by omega)] at h; cases h
theorem Pl.rpS_good (l : List UInt8) : (Pl.rpS l).length ≤ 6 ∧ (∀ p ∈ Pl.rpS l, Pl.pfx1 p = 0) ∧ (Pl.rpS l).Pairwise (fun p q => Pl.pltB p q = true) := by
  unfold Pl.rpS
  split
  · rename_i h
    unfold Pl.rpC at h
    cases hq : Pl.pairsL 47 l with
    | none => simp
    | some ps => rw [hq] at h; exact Pl.pfxF_good h
  · simp
theorem Pl.rpS_nodup (l : List UInt8) : (Pl.rpS l).Nodup := (Pl.rpS_good l).2.2.imp fun h => Pl.pltB_ne h
/-- links, none from a node to itself -/
def Pl.lnkX (ps : Nat → List (Int × Int)) (a b : Nat) : Int := if a = b then 0 else Pl.lnk ps a b
theorem Pl.lnk_le (es : List Pl.Ent) (a b : Nat) : 0 ≤ Pl.lnk (Pl.tS es) a b ∧ Pl.lnk (Pl.tS es) a b ≤ 1000 := by
  unfold Pl.lnk
  split
  · exact Pl.say_le (Pl.adjS_up _).ok b
  · omega
/-- what it costs to go to each node, and over which hops -/
def Pl.wC (es : List Pl.Ent) (f n : Nat) : Int := (Pl.dIter (Pl.lnk (Pl.tS es)) (Pl.tD es) f 12).cost n
def Pl.wH (es : List Pl.Ent) (f n : Nat) : List Int := Pl.hopsL ((Pl.dIter (Pl.lnk (Pl.tS es)) (Pl.tD es) f 12).hops n) 12
/-- what ways are -/
theorem Pl.wC_self (es : List Pl.Ent) {f : Nat} (hf : f < 12) : Pl.wC es f f = 0 :=
  Pl.from_cost (L := Pl.lnkX (Pl.tS es)) (fun a b h => by unfold Pl.lnkX; rw [if_neg h]) (fun a => by unfold Pl.lnkX; rw [if_pos rfl]) hf
theorem Pl.wC_min (es : List Pl.Ent) {f n : Nat} (hf : f < 12) (hn : n ≠ f) : Pl.IsMin (fun c => ∃ k, Pl.Way (Pl.lnkX (Pl.tS es)) (Pl.tD es) f k n c) (Pl.wC es f n) :=
  Pl.found_min (fun a b h => by unfold Pl.lnkX; rw [if_neg h]) (fun a => by unfold Pl.lnkX; rw [if_pos rfl]) hf hn
theorem Pl.mem_wH (es : List Pl.Ent) {f : Nat} (n : Nat) (hf : f < 12) (x : Int) : x ∈ Pl.wH es f n ↔ ∃ k : Nat, x = (k : Int) ∧ Pl.Way (Pl.lnkX (Pl.tS es)) (Pl.tD es) f k n (Pl.wC es f n) := by
  unfold Pl.wH
  rw [Pl.mem_hopsL]
  have key := fun k => Pl.found_hops (L := Pl.lnkX (Pl.tS es)) (M := Pl.lnk (Pl.tS es)) (D := Pl.tD es) (f := f) (fun a b h => by unfold Pl.lnkX; rw [if_neg h]) (fun a => by unfold Pl.lnkX; rw [if_pos rfl]) hf n k
  constructor
  · rintro ⟨j, _, h2, h3⟩; exact ⟨j, h2, (key j).1 h3⟩
  · rintro ⟨j, h2, h3⟩; exact ⟨j, h3.klt.1, h2, (key j).2 h3⟩
theorem Pl.wC_bound (es : List Pl.Ent) (f n : Nat) : -1 ≤ Pl.wC es f n ∧ Pl.wC es f n ≤ 12000 := by
  have := Pl.CB.iter (L := Pl.lnk (Pl.tS es)) (D := Pl.tD es) (f := f) (fun a b => (Pl.lnk_le es a b).2) 12 n
  unfold Pl.wC; omega
theorem Pl.wH_self (es : List Pl.Ent) {f : Nat} (hf : f < 12) : Pl.wH es f f = [] := by
  cases h : Pl.wH es f f with
  | nil => rfl
  | cons x xs =>
    have hx : x ∈ Pl.wH es f f := by rw [h]; simp
    obtain ⟨k, _, hw⟩ := (Pl.mem_wH es f hf x).1 hx
    exact absurd rfl hw.ne
theorem Pl.wC_pos (es : List Pl.Ent) {f n : Nat} (hf : f < 12) (hn : n ≠ f) (h : 0 ≤ Pl.wC es f n) : 0 < Pl.wC es f n ∧ Pl.wH es f n ≠ [] := by
  rcases Pl.wC_min es hf hn with ⟨e, _⟩ | ⟨_, ⟨k, hk⟩, _⟩
  · omega
  · refine ⟨hk.pos, fun e => ?_⟩
    have := (Pl.mem_wH es n hf (k : Int)).2 ⟨k, rfl, hk⟩
    rw [e] at this; simp at this
/-- the table of a node, of a store that may be -/
def Pl.tabL (es : List Pl.Ent) (f : Nat) : List Pl.Rt := Pl.tabK (Pl.wC es f) (Pl.wH es f) (Pl.tP es) f 12
theorem Pl.tab_WP (es : List Pl.Ent) {f : Nat} (hf : f < 12) : Pl.WP (Pl.wC es f) (Pl.wH es f) (Pl.tP es) f := by
  intro n hn hc p hp
  have hp1 := (Pl.rpS_good _).2.1 p hp
  have hb := Pl.wC_bound es f n
  by_cases e : n = f
  · subst e
    have h1 := Pl.wC_self es hf
    have h2 := Pl.wH_self es hf
    refine ⟨(Pl.routeB_iff _).2 ⟨hp1, ?_, ?_, ?_⟩, ?_⟩
    · show 0 ≤ Pl.wC es n n ∧ _; simp [Pl.mkR, h1]
    · simp [Pl.mkR, h1, h2]
    · show Pl.hopsB (Pl.wH es n n) = true; rw [h2]; rfl
    · simp [Pl.mkR, h1]
  · obtain ⟨h1, h2⟩ := Pl.wC_pos es hf e hc
    have hne : decide ((n : Int) = (f : Int)) = false := by simp; omega
    refine ⟨(Pl.routeB_iff _).2 ⟨hp1, ?_, ?_, ?_⟩, ?_⟩
    · show 0 ≤ Pl.wC es f n ∧ Pl.wC es f n ≤ 1048576; omega
    · simp only [Pl.mkR, hne]; simpa using h2
    · exact Pl.hopsL_B _ (Nat.le_refl _)
    · simp only [Pl.mkR, hne]
      symm; simp; omega
theorem Pl.tabL_good (es : List Pl.Ent) {f : Nat} (hf : f < 12) : Pl.GoodT (Pl.tabL es f) ∧ ∀ r ∈ Pl.tabL es f, Pl.okR r :=
  Pl.tabK_good (Pl.tab_WP es hf) (fun _ => Pl.rpS_nodup _) (fun _ => (Pl.rpS_good _).1) 12 (Nat.le_refl _)
theorem Pl.tabL_fault (es : List Pl.Ent) {f : Nat} (hf : f < 12) : Pl.tabF (Pl.tabL es f) = 0 := (Pl.goodT_iff _).2 (Pl.tabL_good es hf).1
theorem Pl.tabL_get (es : List Pl.Ent) (f : Nat) (q : Int × Int) : Pl.getR (Pl.tabL es f) q = Pl.getT (Pl.wC es f) (Pl.wH es f) (Pl.tP es) f q 12 :=
  Pl.tabK_get (fun _ => Pl.rpS_nodup _) q 12
end Go.Proofs.YtpaobnhcbeklfaaGreatDoor
/-
  Contract: the document's dec: a number's digits.
-/
namespace Go.Proofs.YtpaobnhcbeklfaaGreatDoor
open Go.RowKit
set_option maxRecDepth 20000

theorem Pl.dec_small {n : Nat} (h : n < 10) : Pl.dec (n : Int) = ⟨#[UInt8.ofNat (48 + n)]⟩ := by
  unfold Pl.dec
  rw [Lib.itoa_nonneg, Lib.decDigits_one h]
theorem Pl.dec_great {n : Nat} (h : ¬ n < 10) : Pl.dec (n : Int) = Pl.dec ((n / 10 : Nat) : Int) ++ Pl.dec ((n % 10 : Nat) : Int) := by
  have h1 : Pl.dec ((n % 10 : Nat) : Int) = ⟨#[UInt8.ofNat (48 + n % 10)]⟩ := Pl.dec_small (by omega)
  rw [h1]
  unfold Pl.dec
  rw [Lib.itoa_nonneg, Lib.itoa_nonneg, Lib.decDigits, dif_neg h]
  apply ByteArray.ext
  simp [ByteArray.data_append]

set_option maxHeartbeats 1000000 in
theorem dec_any : ∀ (n : Nat) (w : World), n ≤ 100000 →
    Calls Tryz.prog 33 #[.int .i64 (n : Int)] w fun e w' => e = .returned (.string (Pl.dec (n : Int))) ∧ Below w.heap.size w w' := by
  intro n
  induction n using Nat.strongRecOn with
  | _ n ih =>
    intro w hn
    by_cases h10 : n < 10
    · have HD := hid (Pl.dec_small h10)
      obtain ⟨c, hc⟩ : ∃ c, c = UInt8.ofNat (48 + n) := ⟨_, rfl⟩
      rw [← hc] at HD
      have e : (c.toNat : Int) = 48 + (n : Int) := by
        rw [hc, UInt8.toNat_ofNat']; omega
      clear hc
      have hconv : (convert 101 9 (.slice (some ⟨w.heap.size, 0, none⟩) 1 1)).run Tryz.prog (w.alloc (.cells #[.int .u8 (48 + (n : Int))] 5)) = .ok (.string ⟨#[c]⟩) (w.alloc (.cells #[.int .u8 (48 + (n : Int))] 5)) := by
        have := run_convert_bytes_back (P := Tryz.prog) (w.alloc (.cells #[.int .u8 (48 + (n : Int))] 5)) 101 9 5 ⟨w.heap.size, 0, none⟩ 1 [c] Tryz.underlying101 Tryz.underlying5 Tryz.underlying9 ?_
        · simpa using this
        · intro j hj
          obtain rfl : j = 0 := by simpa using hj
          simp [add_none, e]
      clear e
      clear ih
      go_enter Tryz.func33, Tryz.ntmps33
      go_wp2_with fail
      go_ret
      exact ⟨by rw [HD.out]; rfl, (Below.refl _ _).alloc (Nat.le_refl _) _⟩
    · have HD := hid (Pl.dec_great h10)
      have hq : ((n : Int)).tdiv 10 = ((n / 10 : Nat) : Int) := by rw [Int.tdiv_eq_ediv_of_nonneg (by omega)]; omega
      have hr : ((n : Int)).tmod 10 = ((n % 10 : Nat) : Int) := by rw [Int.tmod_eq_emod_of_nonneg (by omega)]; omega
      have HQ := hid (ih (n / 10) (by omega))
      have HR := hid (ih (n % 10) (by omega))
      have hz1 := Pl.dec_size ((n / 10 : Nat) : Int) (by omega) (by omega)
      have hz2 := Pl.dec_size ((n % 10 : Nat) : Int) (by omega) (by omega)
      obtain ⟨s1, HS1⟩ : ∃ s, Hid (Pl.dec ((n / 10 : Nat) : Int) = s) := ⟨_, hid rfl⟩
      obtain ⟨s2, HS2⟩ : ∃ s, Hid (Pl.dec ((n % 10 : Nat) : Int) = s) := ⟨_, hid rfl⟩
      rw [HS1.out] at HQ hz1 HD
      rw [HS2.out] at HR hz2 HD
      have hn10 : ¬ (n : Int) < 10 := by omega
      obtain ⟨nq, hnq⟩ : ∃ c, c = n / 10 := ⟨_, rfl⟩
      obtain ⟨nr, hnr⟩ : ∃ c, c = n % 10 := ⟨_, rfl⟩
      have b1 : nq ≤ 100000 := by omega
      have b2 : nr ≤ 100000 := by omega
      rw [← hnq] at hq HQ
      rw [← hnr] at hr HR
      clear ih hnq hnr
      go_enter Tryz.func33, Tryz.ntmps33
      go_wp2_with fail
      refine (HQ.out _ b1).mono ?_
      rintro e w1 ⟨rfl, hb1⟩
      go_wp2_with fail
      refine (HR.out _ b2).mono ?_
      rintro e w2 ⟨rfl, hb2⟩
      go_wp2_with fail
      go_ret
      exact ⟨by rw [HD.out]; rfl, hb1.trans (hb2.mono hb1.size)⟩
end Go.Proofs.YtpaobnhcbeklfaaGreatDoor
/-
  Slices of numbers and of routes in memory.
-/
namespace Go.Proofs.YtpaobnhcbeklfaaGreatDoor
open Go.RowKit
set_option maxRecDepth 20000

/-- the cells of numbers, one behind the other -/
def IntsAt (w : World) (b off : Nat) (zs : List Int) : Prop := ∀ i, i < zs.length → w.cell? ⟨b, off + i, none⟩ = some (.int .i64 (Pl.nm zs i))
/-- a slice of numbers -/
def IsInts (w : World) (a : Option Addr) (len cap : Nat) (zs : List Int) : Prop :=
  zs.length = len ∧ len ≤ cap ∧ cap ≤ maxLen ∧ (a = none → cap = 0) ∧ (zs = [] ∨ ∃ b off, a = some ⟨b, off, none⟩ ∧ b < w.heap.size ∧ IntsAt w b off zs)
theorem IntsAt.below {w w' : World} {b off : Nat} {zs : List Int} (h : IntsAt w b off zs) (hb : b < w.heap.size) (k : Below w.heap.size w w') : IntsAt w' b off zs :=
  fun i hi => (k.cell (p := ⟨b, _, none⟩) hb).trans (h i hi)
theorem IsInts.below {w w' : World} {a : Option Addr} {len cap : Nat} {zs : List Int} (h : IsInts w a len cap zs) (k : Below w.heap.size w w') : IsInts w' a len cap zs := by
  obtain ⟨h1, h2, h3, h4, h5⟩ := h
  refine ⟨h1, h2, h3, h4, ?_⟩
  rcases h5 with h5 | ⟨b, off, rfl, hb, hr⟩
  · exact .inl h5
  · exact .inr ⟨b, off, rfl, Nat.lt_of_lt_of_le hb k.size, hr.below hb k⟩
theorem IsInts.nil (w : World) : IsInts w none 0 0 [] := ⟨rfl, Nat.le_refl _, by simp, fun _ => rfl, .inl rfl⟩

/-- a route as it lies in memory: its hops are a slice -/
structure Pl.RH where
  p : Int × Int
  here : Bool
  cost : Int
  ha : Option Addr
  hl : Nat
  hc : Nat
def Pl.RH.none : Pl.RH := ⟨(0, 0), false, 0, Option.none, 0, 0⟩
def Pl.rh (hs : List Pl.RH) (i : Nat) : Pl.RH := hs.getD i Pl.RH.none
theorem Pl.rh_eq (hs : List Pl.RH) (i : Nat) (h : i < hs.length) : Pl.rh hs i = hs[i] := by simp [Pl.rh, List.getD, h]
theorem Pl.rh_mem (hs : List Pl.RH) (i : Nat) (h : i < hs.length) : Pl.rh hs i ∈ hs := by rw [Pl.rh_eq hs i h]; exact List.getElem_mem h
theorem Pl.rh_cons_succ (e : Pl.RH) (es : List Pl.RH) (i : Nat) : Pl.rh (e :: es) (i + 1) = Pl.rh es i := by simp [Pl.rh]
theorem Pl.rh_cons_zero (e : Pl.RH) (es : List Pl.RH) : Pl.rh (e :: es) 0 = e := by simp [Pl.rh]

/-- the cells of routes, one behind the other -/
def RowsAt (w : World) (b off : Nat) (hs : List Pl.RH) : Prop := ∀ i, i < hs.length →
  w.cell? ⟨b, off + i * 5, none⟩ = some (.int .i64 (Pl.rh hs i).p.1) ∧ w.cell? ⟨b, off + i * 5 + 1, none⟩ = some (.int .i64 (Pl.rh hs i).p.2) ∧
  w.cell? ⟨b, off + i * 5 + 2, none⟩ = some (.bool (Pl.rh hs i).here) ∧ w.cell? ⟨b, off + i * 5 + 3, none⟩ = some (.int .i64 (Pl.rh hs i).cost) ∧
  w.cell? ⟨b, off + i * 5 + 4, none⟩ = some (.slice (Pl.rh hs i).ha (Pl.rh hs i).hl (Pl.rh hs i).hc)
/-- a slice of routes -/
def IsRows (w : World) (a : Option Addr) (len cap : Nat) (hs : List Pl.RH) : Prop :=
  hs.length = len ∧ len ≤ cap ∧ cap ≤ maxLen ∧ (a = none → cap = 0) ∧ (hs = [] ∨ ∃ b off, a = some ⟨b, off, none⟩ ∧ b < w.heap.size ∧ RowsAt w b off hs)
theorem RowsAt.below {w w' : World} {b off : Nat} {hs : List Pl.RH} (h : RowsAt w b off hs) (hb : b < w.heap.size) (k : Below w.heap.size w w') : RowsAt w' b off hs := by
  intro i hi
  obtain ⟨c0, c1, c2, c3, c4⟩ := h i hi
  exact ⟨(k.cell (p := ⟨b, _, none⟩) hb).trans c0, (k.cell (p := ⟨b, _, none⟩) hb).trans c1, (k.cell (p := ⟨b, _, none⟩) hb).trans c2, (k.cell (p := ⟨b, _, none⟩) hb).trans c3, (k.cell (p := ⟨b, _, none⟩) hb).trans c4⟩
theorem IsRows.below {w w' : World} {a : Option Addr} {len cap : Nat} {hs : List Pl.RH} (h : IsRows w a len cap hs) (k : Below w.heap.size w w') : IsRows w' a len cap hs := by
  obtain ⟨h1, h2, h3, h4, h5⟩ := h
  refine ⟨h1, h2, h3, h4, ?_⟩
  rcases h5 with h5 | ⟨b, off, rfl, hb, hr⟩
  · exact .inl h5
  · exact .inr ⟨b, off, rfl, Nat.lt_of_lt_of_le hb k.size, hr.below hb k⟩
/-- what a route in memory is -/
def Reads (w : World) (h : Pl.RH) (r : Pl.Rt) : Prop := h.p = r.p ∧ h.here = r.here ∧ h.cost = r.cost ∧ IsInts w h.ha h.hl h.hc r.hops ∧ Pl.pairOk r.p
theorem Reads.below {w w' : World} {h : Pl.RH} {r : Pl.Rt} (hh : Reads w h r) (k : Below w.heap.size w w') : Reads w' h r := ⟨hh.1, hh.2.1, hh.2.2.1, hh.2.2.2.1.below k, hh.2.2.2.2⟩
def ReadsAll (w : World) (hs : List Pl.RH) (rs : List Pl.Rt) : Prop := hs.length = rs.length ∧ ∀ i, i < hs.length → Reads w (Pl.rh hs i) (Pl.rt rs i)
theorem ReadsAll.below {w w' : World} {hs : List Pl.RH} {rs : List Pl.Rt} (h : ReadsAll w hs rs) (k : Below w.heap.size w w') : ReadsAll w' hs rs := ⟨h.1, fun i hi => (h.2 i hi).below k⟩
theorem ReadsAll.map_p {w : World} {hs : List Pl.RH} {rs : List Pl.Rt} (h : ReadsAll w hs rs) : hs.map Pl.RH.p = rs.map Pl.Rt.p := by
  refine List.ext_getElem (by simpa using h.1) fun i h1 h2 => ?_
  simp only [List.length_map] at h1 h2
  have := (h.2 i h1).1
  rw [Pl.rh_eq hs i h1, Pl.rt_eq rs i h2] at this
  simpa using this
theorem ReadsAll.nil (w : World) : ReadsAll w [] [] := ⟨rfl, fun i h => by simp at h⟩
theorem IsRows.at {w : World} {a : Option Addr} {len cap : Nat} {hs : List Pl.RH} (h : IsRows w a len cap hs) {k : Nat} (hk : k < len) : ∃ b off, a = some ⟨b, off, none⟩ ∧ b < w.heap.size ∧ RowsAt w b off hs := by
  rcases h.2.2.2.2 with e | h'
  · have := h.1; rw [e] at this; simp at this; omega
  · exact h'
theorem IsInts.at {w : World} {a : Option Addr} {len cap : Nat} {zs : List Int} (h : IsInts w a len cap zs) {k : Nat} (hk : k < len) : ∃ b off, a = some ⟨b, off, none⟩ ∧ b < w.heap.size ∧ IntsAt w b off zs := by
  rcases h.2.2.2.2 with e | h'
  · have := h.1; rw [e] at this; simp at this; omega
  · exact h'
end Go.Proofs.YtpaobnhcbeklfaaGreatDoor
/-
  Contracts: what areHops and isRoute answer at every list of numbers and every route.
-/
namespace Go.Proofs.YtpaobnhcbeklfaaGreatDoor
open Go.RowKit
set_option maxRecDepth 20000

/-- one prefix as a list -/
theorem Pl.pfxF_one (p : Int × Int) : Pl.pfxF [p] = Pl.pfx1 p := by
  unfold Pl.pfxF Pl.pfxN Pl.pfxN
  by_cases h : Pl.pfx1 p = 0 <;> simp [Pl.pr, h]
theorem onePair (w : World) (n : Nat) (p1 p2 : Int) (T : TypeId) (h : Pl.pairOk (p1, p2)) (hn : w.heap.size = n) : IsPairs (w.alloc (.cells #[.int .i64 p1, .int .i64 p2] T)) (some ⟨n, 0, none⟩) 1 1 [(p1, p2)] := by
  subst hn
  refine ⟨rfl, Nat.le_refl _, by unfold maxLen; omega, by simpa using h, .inr ⟨w.heap.size, 0, rfl, by simp, ?_⟩⟩
  intro i hi
  simp at hi
  subst hi
  simp [Pl.pr]
theorem Pl.routeB_pfx {r : Pl.Rt} (h : ¬ Pl.pfx1 r.p = 0) : Pl.routeB r = false := by unfold Pl.routeB; rw [decide_eq_false h]; rfl
theorem Pl.routeB_here {r : Pl.Rt} (h : Pl.pfx1 r.p = 0) (k : r.here = true) : Pl.routeB r = (decide (r.cost = 0) && decide (r.hops.length = 0)) := by
  unfold Pl.routeB
  rw [decide_eq_true h, k, Bool.eq_iff_iff]
  simp only [Bool.true_and, if_true, Bool.and_eq_true, decide_eq_true_eq, List.length_eq_zero_iff]
  constructor
  · rintro ⟨⟨_, h1, h2⟩, _⟩; exact ⟨h1, h2⟩
  · rintro ⟨h1, h2⟩; rw [h1, h2]; exact ⟨⟨by omega, rfl, rfl⟩, rfl⟩
theorem Pl.routeB_there {r : Pl.Rt} (h : Pl.pfx1 r.p = 0) (k : r.here = false) : Pl.routeB r = (decide (0 ≤ r.cost) && decide (r.cost ≤ 1048576) && decide (0 < r.hops.length) && Pl.hopsB r.hops) := by
  unfold Pl.routeB
  rw [decide_eq_true h, k, Bool.eq_iff_iff]
  simp [List.length_pos_iff]

/-- a route as a value -/
def Pl.RH.val (h : Pl.RH) : Value := .agg #[.int .i64 h.p.1, .int .i64 h.p.2, .bool h.here, .int .i64 h.cost, .slice h.ha h.hl h.hc]

end Go.Proofs.YtpaobnhcbeklfaaGreatDoor
/-
  Contract: what rib.Check answers at every list of routes.
-/
namespace Go.Proofs.YtpaobnhcbeklfaaGreatDoor
open Go.RowKit
set_option maxRecDepth 20000

theorem box5 {w w3 : World} {c0 c1 c2 c3 c4 : Value} {T : TypeId} (hb : Below (w.heap.size + 1) (w.alloc (.cells #[c0, c1, c2, c3, c4] T)) w3) :
    (w3.cell? ⟨w.heap.size, 0, none⟩ = some c0 ∧ w3.cell? ⟨w.heap.size, 1, none⟩ = some c1 ∧ w3.cell? ⟨w.heap.size, 2, none⟩ = some c2 ∧ w3.cell? ⟨w.heap.size, 3, none⟩ = some c3 ∧ w3.cell? ⟨w.heap.size, 4, none⟩ = some c4) ∧ w.heap.size < w3.heap.size ∧ Below w.heap.size w w3 := by
  have hz := hb.size
  simp only [World.alloc, Array.size_push] at hz
  refine ⟨⟨?_, ?_, ?_, ?_, ?_⟩, by omega, ((Below.refl _ _).alloc (Nat.le_refl _) _).trans (hb.mono (by omega))⟩
  all_goals
    rw [hb.cell (by simp)]
    simp

end Go.Proofs.YtpaobnhcbeklfaaGreatDoor
/-
  Contracts: what the document's behind and TableFault answer at every list of routes.
-/
namespace Go.Proofs.YtpaobnhcbeklfaaGreatDoor
open Go.RowKit
set_option maxRecDepth 20000

/-- a route but for its hops -/
def Pl.headR (r : Pl.Rt) : Bool := decide (Pl.pfx1 r.p = 0) && decide (0 ≤ r.cost ∧ r.cost ≤ 1048576) && !(r.here && decide (0 < r.cost)) && !(r.here == decide (0 < r.hops.length))
theorem Pl.routeB_head (r : Pl.Rt) : Pl.routeB r = (Pl.headR r && Pl.hopsB r.hops) := by
  unfold Pl.routeB Pl.headR
  rw [Bool.eq_iff_iff]
  cases hh : r.here
  · simp [List.length_pos_iff]
  · simp only [Bool.and_eq_true, decide_eq_true_eq, if_true, Bool.true_and, Bool.not_eq_true', decide_eq_false_iff_not]
    constructor
    · rintro ⟨⟨⟨h1, h2⟩, h3, h4⟩, h5⟩
      refine ⟨⟨⟨⟨h1, h2⟩, by omega⟩, ?_⟩, h5⟩
      rw [h4]; simp
    · rintro ⟨⟨⟨⟨h1, h2⟩, h3⟩, h4⟩, h5⟩
      refine ⟨⟨⟨h1, h2⟩, by omega, ?_⟩, h5⟩
      cases hz : r.hops with
      | nil => rfl
      | cons z l => rw [hz] at h4; simp at h4
end Go.Proofs.YtpaobnhcbeklfaaGreatDoor
/-
  Contract: what the document's TableFault answers at every list of routes.
-/
namespace Go.Proofs.YtpaobnhcbeklfaaGreatDoor
open Go.RowKit
set_option maxRecDepth 20000

theorem box5' {w w3 : World} {k : Nat} {c0 c1 c2 c3 c4 : Value} {T : TypeId} {o : Obj} (hb : Below (w.heap.size + 1 + k) ((w.alloc (.cells #[c0, c1, c2, c3, c4] T)).alloc o) w3) :
    w3.cell? ⟨w.heap.size, 0, none⟩ = some c0 ∧ w3.cell? ⟨w.heap.size, 1, none⟩ = some c1 ∧ w3.cell? ⟨w.heap.size, 2, none⟩ = some c2 ∧ w3.cell? ⟨w.heap.size, 3, none⟩ = some c3 ∧ w3.cell? ⟨w.heap.size, 4, none⟩ = some c4 := by
  refine ⟨?_, ?_, ?_, ?_, ?_⟩
  all_goals
    rw [hb.cell (show w.heap.size < _ by omega)]
    simp
theorem below_box5 {B : Nat} {w w3 : World} {k : Nat} {o o' : Obj} (hb : Below (w.heap.size + 1 + k) ((w.alloc o).alloc o') w3) (h : B ≤ w.heap.size) : Below B w w3 :=
  (((Below.refl _ _).alloc h _).alloc (by simp; omega) _).trans (hb.mono (by omega))

theorem Pl.head_iff (c cost : Int) (oc here : Bool) (hl : Nat) : (decide (c = 0) && oc && !(here && decide (0 < cost)) && !(here == decide (0 < hl))) = true ↔ (c = 0 ∧ oc = true ∧ (¬ (here = true ∧ 0 < cost)) ∧ here = !decide (0 < hl)) := by
  generalize decide (0 < hl) = x
  cases oc <;> cases here <;> cases x <;> simp

end Go.Proofs.YtpaobnhcbeklfaaGreatDoor
/-
  Contracts: the place of a prefix in a table in order: the closure, the search, find.
-/
namespace Go.Proofs.YtpaobnhcbeklfaaGreatDoor
open Go.RowKit
set_option maxRecDepth 20000

/-- prefixes of routes in memory -/
def Pl.hp (hs : List Pl.RH) : List (Int × Int) := hs.map Pl.RH.p
theorem Pl.pr_hp (hs : List Pl.RH) (i : Nat) (h : i < hs.length) : Pl.pr (Pl.hp hs) i = (Pl.rh hs i).p := by
  unfold Pl.hp
  rw [Pl.pr_eq _ _ (by simpa using h), Pl.rh_eq hs i h]; simp
theorem Pl.hp_len (hs : List Pl.RH) : (Pl.hp hs).length = hs.length := by simp [Pl.hp]
theorem RowsAt.drewN {w : World} {b off : Nat} {hs : List Pl.RH} (h : RowsAt w b off hs) (n : Nat) : RowsAt (w.drewN n) b off hs := fun i hi => h i hi

set_option maxHeartbeats 400000 in
theorem cloR_any (hs : List Pl.RH) (p1 p2 : Int) (b off len cap bl bk i : Nat) (w : World) (hl : hs.length = len) (_hc : len ≤ cap) (_hm : cap ≤ maxLen) (hbw : b < w.heap.size) (hblw : bl < w.heap.size) (hbkw : bk < w.heap.size)
    (hrow : RowsAt w b off hs) (h1 : w.cell? ⟨bl, 0, none⟩ = some (.slice (some ⟨b, off, none⟩) len cap)) (h2 : w.cell? ⟨bk, 0, none⟩ = some (.int .i64 p1)) (h3 : w.cell? ⟨bk, 1, none⟩ = some (.int .i64 p2)) (hi : i < len) :
    Calls Tryz.prog 47 #[.int .i64 i, .pointer (some ⟨bl, 0, none⟩), .pointer (some ⟨bk, 0, none⟩)] w fun e w' => e = .returned (.bool (!Pl.pltB (Pl.pr (Pl.hp hs) i) (p1, p2))) ∧ Below w.heap.size w w' := by
  unfold maxLen at _hm
  obtain ⟨c0, c1, _, _, _⟩ := hrow i (by omega)
  rw [Pl.pr_hp hs i (by omega)]
  obtain ⟨gg, HG⟩ : ∃ x, Hid ((Pl.rh hs i).p = x) := ⟨_, rfl⟩
  rw [HG.out] at c0 c1 ⊢
  obtain ⟨q1, q2⟩ := gg
  simp only at c0 c1
  have hi' : (i : Int) < (len : Int) := by omega
  obtain ⟨cq, HCQ⟩ : ∃ c, Hid (Pl.pfxC (q1, q2) (p1, p2) = c) := ⟨_, rfl⟩
  have HLW : Hid ((!Pl.pltB (q1, q2) (p1, p2)) = decide (0 ≤ cq)) := hid (by rw [← HCQ.out, Pl.pfxC_ge])
  have HCP : Hid (∀ W, Calls Tryz.prog 48 #[.agg #[.int .i64 q1, .int .i64 q2], .agg #[.int .i64 p1, .int .i64 p2]] W fun e w' => e = .returned (.int .i64 cq) ∧ Below W.heap.size W w') := by
    refine hid fun W => ?_
    have := comparePrefixes_any (q1, q2) (p1, p2) W
    rwa [HCQ.out] at this
  rw [HLW.out]
  clear hrow
  go_enter Tryz.func47, Tryz.ntmps47
  go_wp2_with fail
  have i0 := in_cell hblw h1
  have i1 := in_cell hbkw h2
  have i2 := in_cell hbkw h3
  have i3 := in_cell hbw c0
  have i4 := in_cell hbw c1
  have hne := in_some w
  refine wp_region_in (by kernel_rfl) (by kernel_rfl) ?_
  repeat (go_big_quiet_step ((go_at_call 48; exact in_call (HCP.out _))))
  refine wpQuiet_nil ?_
  intro w5 hw'
  have hb5 := in_out hw'
  clear hw' i0 i1 i2 i3 i4 hne
  go_wp2_with fail
  go_ret
  exact ⟨rfl, hb5⟩

set_option maxHeartbeats 400000 in
theorem SearchR_any (hs : List Pl.RH) (p1 p2 : Int) (a : Option Addr) (len cap bl bk : Nat) (w : World) (hl : hs.length = len) (hc : len ≤ cap) (hm : cap ≤ maxLen) (hblw : bl < w.heap.size) (hbkw : bk < w.heap.size)
    (hrow : hs = [] ∨ ∃ b off, a = some ⟨b, off, none⟩ ∧ b < w.heap.size ∧ RowsAt w b off hs) (h1 : w.cell? ⟨bl, 0, none⟩ = some (.slice a len cap)) (h2 : w.cell? ⟨bk, 0, none⟩ = some (.int .i64 p1)) (h3 : w.cell? ⟨bk, 1, none⟩ = some (.int .i64 p2)) (has : Pl.AscP (Pl.hp hs)) (hbig : len ≤ 2000000) :
    Calls Tryz.prog 46 #[.int .i64 len, .func (.func 47) #[] #[.pointer (some ⟨bl, 0, none⟩), .pointer (some ⟨bk, 0, none⟩)]] w fun e w' => e = .returned (.int .i64 (Pl.posP (Pl.hp hs) (p1, p2))) ∧ Below w.heap.size w w' := by
  have HM := hid hm
  unfold maxLen at hm
  have HR := hid hrow
  have H1 := hid h1
  have H2 := hid h2
  have H3 := hid h3
  have HA := hid has
  have HLP : Hid ((Pl.hp hs).length = len) := hid (by rw [Pl.hp_len, hl])
  clear hrow h1 h2 h3 has
  go_enter Tryz.func46, Tryz.ntmps46
  go_wp2
  go_loopw [5, 6] (fun i j wr => ∃ x y : Nat, x ≤ y ∧ y ≤ len ∧ i = .int .i64 x ∧ j = .int .i64 y ∧ Hid (Below w.heap.size w wr) ∧ Hid (∀ t, t < x → Pl.pltB (Pl.pr (Pl.hp hs) t) (p1, p2) = true) ∧ Hid (∀ t, y ≤ t → t < len → Pl.pltB (Pl.pr (Pl.hp hs) t) (p1, p2) = false)) (fun i j _ => (intOf j).toNat - (intOf i).toNat)
  case atStart => exact ⟨0, len, Nat.zero_le _, Nat.le_refl _, rfl, rfl, Below.refl _ _, fun t h => by omega, fun t h h' => by omega⟩
  case round =>
    obtain ⟨x, y, hxy, hy, rfl, rfl, HW, HX, HY⟩ := hrel
    by_cases hlt : x < y
    · obtain ⟨b, off, rfl, hbw, hrow⟩ : ∃ b off, a = some ⟨b, off, none⟩ ∧ b < w.heap.size ∧ RowsAt w b off hs := by
        rcases HR.out with h | h
        · rw [h] at hl; simp at hl; omega
        · exact h
      have hz := HW.out.size
      have hr : RowsAt wr b off hs := hrow.below hbw HW.out
      have h1 := (HW.out.cell (p := ⟨bl, 0, none⟩) hblw).trans H1.out
      have h2 := (HW.out.cell (p := ⟨bk, 0, none⟩) hbkw).trans H2.out
      have h3 := (HW.out.cell (p := ⟨bk, 1, none⟩) hbkw).trans H3.out
      have HC := hid fun m => cloR_any hs p1 p2 b off len cap bl bk m wr hl hc HM.out (by omega) (by omega) (by omega) hr h1 h2 h3
      clear hr h1 h2 h3 hrow
      go_wp2_with fail
      obtain ⟨m, hm2, hxm, hmy⟩ : ∃ m : Nat, ((x : Int) + (y : Int)) / 2 = (m : Int) ∧ x ≤ m ∧ m < y := ⟨(x + y) / 2, by omega, by omega, by omega⟩
      rw [hm2]
      clear hm2
      refine (HC.out m (by omega)).mono ?_
      rintro e w' ⟨rfl, hbq⟩
      have HQ := hid (HW.out.trans (hbq.mono hz))
      clear hbq
      obtain ⟨ll, HL⟩ : ∃ ll, Hid (Pl.pltB (Pl.pr (Pl.hp hs) m) (p1, p2) = ll) := ⟨_, rfl⟩
      rw [HL.out]
      cases ll
      · go_wp2
        go_roundw
        case rel => exact ⟨x, m, by omega, by omega, rfl, rfl, HQ, HX, fun t h h' => Pl.ascP_ge HA.out (by rw [HLP.out]; omega) h HL.out⟩
        case measure => simp [intOf]; omega
      · go_wp2
        go_roundw
        case rel => exact ⟨m + 1, y, by omega, by omega, by go_num, rfl, HQ, fun t h => Pl.ascP_lt HA.out (by rw [HLP.out]; omega) (by omega) HL.out, HY⟩
        case measure => simp [intOf]; omega
    · obtain rfl : x = y := by omega
      go_wp2
      go_ret
      exact ⟨ret_int (by rw [Pl.posP_of (by rw [HLP.out]; omega) HX.out (fun h => HY.out x (Nat.le_refl _) (by rw [HLP.out] at h; exact h))]), HW.out⟩

theorem new1 (w : World) (v : Value) (T : TypeId) (o : Obj) : ((w.alloc (.cells #[v] T)).alloc o).cell? ⟨w.heap.size, 0, none⟩ = some v := by simp
theorem new2 (w : World) (v0 v1 : Value) (T : TypeId) (o : Obj) : ((w.alloc o).alloc (.cells #[v0, v1] T)).cell? ⟨w.heap.size + 1, 0, none⟩ = some v0 ∧ ((w.alloc o).alloc (.cells #[v0, v1] T)).cell? ⟨w.heap.size + 1, 1, none⟩ = some v1 := by
  have h := World.size_alloc w o
  rw [← h]
  simp

set_option maxHeartbeats 400000 in
theorem find_rib (a : Option Addr) (len cap : Nat) (hs : List Pl.RH) (p1 p2 : Int) (w : World) (h : IsRows w a len cap hs) (has : Pl.AscP (Pl.hp hs)) (hbig : len ≤ 2000000) :
    Calls Tryz.prog 25 #[.slice a len cap, .agg #[.int .i64 p1, .int .i64 p2]] w fun e w' => e = .returned (.tuple #[.int .i64 (Pl.posP (Pl.hp hs) (p1, p2)), .bool (Pl.thereP (Pl.hp hs) (p1, p2))]) ∧ Below w.heap.size w w' := by
  obtain ⟨hl, hc, hm, _, hrow⟩ := h
  have hmf : ∀ (fn : Fn) (first cap : Array Value) (w : World), (Instr.makeFunc fn first cap).run Tryz.prog w = .ok (.func fn first cap) w := fun _ _ _ _ => rfl
  have HLP : Hid ((Pl.hp hs).length = len) := hid (by rw [Pl.hp_len, hl])
  have HB : Hid (Below w.heap.size w ((w.alloc (.cells #[.slice a len cap] 23)).alloc (.cells #[.int .i64 p1, .int .i64 p2] 38))) := ((Below.refl _ _).alloc (Nat.le_refl _) _).alloc (by simp) _
  have HS : Hid (Calls Tryz.prog 46 #[.int .i64 len, .func (.func 47) #[] #[.pointer (some ⟨w.heap.size, 0, none⟩), .pointer (some ⟨w.heap.size + 1, 0, none⟩)]] ((w.alloc (.cells #[.slice a len cap] 23)).alloc (.cells #[.int .i64 p1, .int .i64 p2] 38)) fun e w' => e = .returned (.int .i64 (Pl.posP (Pl.hp hs) (p1, p2))) ∧ Below (w.heap.size + 2) ((w.alloc (.cells #[.slice a len cap] 23)).alloc (.cells #[.int .i64 p1, .int .i64 p2] 38)) w') := by
    refine hid ?_
    have := SearchR_any hs p1 p2 a len cap w.heap.size (w.heap.size + 1) ((w.alloc (.cells #[.slice a len cap] 23)).alloc (.cells #[.int .i64 p1, .int .i64 p2] 38)) hl hc hm (by simp; omega) (by simp) ?_ (new1 _ _ _ _) (new2 _ _ _ _ _).1 (new2 _ _ _ _ _).2 has hbig
    · simpa using this
    · rcases hrow with h | ⟨b, off, rfl, hb, hr⟩
      · exact .inl h
      · exact .inr ⟨b, off, rfl, by simp; omega, hr.below hb HB.out⟩
  have hp := Pl.posP_le (Pl.hp hs) (p1, p2)
  rw [HLP.out] at hp
  unfold maxLen at hm
  rcases Nat.lt_or_ge (Pl.posP (Pl.hp hs) (p1, p2)) len with hlt | hge
  · obtain ⟨b, off, rfl, hb, hr⟩ : ∃ b off, a = some ⟨b, off, none⟩ ∧ b < w.heap.size ∧ RowsAt w b off hs := by
      rcases hrow with h | h
      · rw [h] at hl; simp at hl; omega
      · exact h
    obtain ⟨c0, c1, _, _, _⟩ := hr (Pl.posP (Pl.hp hs) (p1, p2)) (by omega)
    obtain ⟨gg, HG⟩ : ∃ x, Hid ((Pl.rh hs (Pl.posP (Pl.hp hs) (p1, p2))).p = x) := ⟨_, rfl⟩
    rw [HG.out] at c0 c1
    have HT : Hid (Pl.thereP (Pl.hp hs) (p1, p2) = decide (gg = (p1, p2))) := by
      refine hid ?_
      unfold Pl.thereP
      rw [HLP.out, decide_eq_true hlt, Pl.pr_hp hs _ (by omega), HG.out]; rfl
    obtain ⟨q1, q2⟩ := gg
    simp only at c0 c1
    obtain ⟨tt, HTT⟩ : ∃ t, Hid (Pl.thereP (Pl.hp hs) (p1, p2) = t) := ⟨_, rfl⟩
    rw [HTT.out] at HT ⊢
    generalize Pl.posP (Pl.hp hs) (p1, p2) = p at *
    clear hrow hr
    have hlt' : (p : Int) < (len : Int) := by omega
    obtain ⟨e1, g1⟩ : ∃ c, (q1 == p1) = c := ⟨_, rfl⟩
    obtain ⟨e2, g2⟩ : ∃ c, (q2 == p2) = c := ⟨_, rfl⟩
    have HT2 : Hid (tt = (e1 && e2)) := hid (by rw [HT.out, ← g1, ← g2, Bool.eq_iff_iff]; simp)
    cases e1
    all_goals cases e2
    all_goals
      go_enter Tryz.func25, Tryz.ntmps25
      go_wp2_with fail
      refine HS.out.mono ?_
      rintro e w1 ⟨rfl, hb1⟩
      have x0 : w1.cell? ⟨w.heap.size, 0, none⟩ = some (.slice (some ⟨b, off, none⟩) len cap) := (hb1.cell (show w.heap.size < w.heap.size + 2 by omega)).trans (new1 _ _ _ _)
      have x1 : w1.cell? ⟨w.heap.size + 1, 0, none⟩ = some (.int .i64 p1) := (hb1.cell (show w.heap.size + 1 < w.heap.size + 2 by omega)).trans (new2 _ _ _ _ _).1
      have x2 : w1.cell? ⟨w.heap.size + 1, 1, none⟩ = some (.int .i64 p2) := (hb1.cell (show w.heap.size + 1 < w.heap.size + 2 by omega)).trans (new2 _ _ _ _ _).2
      have HBW := hid (HB.out.trans (hb1.mono (by omega)))
      have d0 := (HBW.out.cell (p := ⟨b, off + p * 5, none⟩) hb).trans c0
      have d1 := (HBW.out.cell (p := ⟨b, off + p * 5 + 1, none⟩) hb).trans c1
      clear c0 c1 hb1
      go_wp2_with fail
      go_quiet (fail)
      go_wp2
      go_ret2
      exact ⟨by rw [HT2.out]; rfl, below_drew HBW.out _⟩
  · have HT : Hid (Pl.thereP (Pl.hp hs) (p1, p2) = false) := by
      refine hid ?_
      unfold Pl.thereP
      rw [HLP.out, decide_eq_false (by omega)]; rfl
    obtain ⟨tt, HTT⟩ : ∃ t, Hid (Pl.thereP (Pl.hp hs) (p1, p2) = t) := ⟨_, rfl⟩
    rw [HTT.out] at HT ⊢
    generalize Pl.posP (Pl.hp hs) (p1, p2) = p at *
    have hd : decide ((p : Int) < (len : Int)) = false := by simp; omega
    have hd' : decide (p < len) = false := by simp; omega
    go_enter Tryz.func25, Tryz.ntmps25
    go_wp2_with fail
    refine HS.out.mono ?_
    rintro e w1 ⟨rfl, hb1⟩
    have x0 : w1.cell? ⟨w.heap.size, 0, none⟩ = some (.slice a len cap) := (hb1.cell (show w.heap.size < w.heap.size + 2 by omega)).trans (new1 _ _ _ _)
    have HBW := hid (HB.out.trans (hb1.mono (by omega)))
    clear hb1
    go_wp2_with fail
    go_quiet (fail)
    go_wp2
    go_ret2
    exact ⟨by rw [HT.out]; rfl, below_drew HBW.out _⟩
end Go.Proofs.YtpaobnhcbeklfaaGreatDoor
/-
  Contracts: a copy of a list of numbers; fresh: the same route with hops of its own.
-/
namespace Go.Proofs.YtpaobnhcbeklfaaGreatDoor
open Go.RowKit
set_option maxRecDepth 20000

theorem IsInts.but {B : Nat} {w w' : World} {a : Option Addr} {len cap : Nat} {zs : List Int} (h : IsInts w a len cap zs) (k : But B w w') (hne : ∀ x, a = some x → x.block ≠ B) : IsInts w' a len cap zs := by
  obtain ⟨h1, h2, h3, h4, h5⟩ := h
  refine ⟨h1, h2, h3, h4, ?_⟩
  rcases h5 with h5 | ⟨b, off, rfl, hb, hr⟩
  · exact .inl h5
  · exact .inr ⟨b, off, rfl, Nat.lt_of_lt_of_le hb k.size, fun i hi => (k.cell (p := ⟨b, off + i, none⟩) hb (hne ⟨b, off, none⟩ rfl)).trans (hr i hi)⟩
theorem Reads.but {B : Nat} {w w' : World} {h : Pl.RH} {r : Pl.Rt} (hh : Reads w h r) (k : But B w w') (hne : ∀ x, h.ha = some x → x.block ≠ B) : Reads w' h r := ⟨hh.1, hh.2.1, hh.2.2.1, hh.2.2.2.1.but k hne, hh.2.2.2.2⟩

def cellsZ (xs : List Int) : List Value := xs.map fun x => .int .i64 x
/-- a slice value over a row of numbers of the call's own -/
def OwnZ (w : World) (base : Nat) (v : Value) (xs : List Int) : Prop := w.ownsRow base 3 1 v xs.length (cellsZ xs)
theorem infoZ : (Tryz.prog.info? 3).map (fun i => (i.zero, i.size, i.bytes)) = some (some (.int .i64 0), 1, 8) := by kernel_rfl
theorem OwnZ.nil (w : World) (base : Nat) : OwnZ w base (.slice none 0 0) [] := World.ownsRow_nil _ _ _ _
theorem cellsZ_one (xs : List Int) : ∀ u ∈ cellsZ xs, u.oneCell' = true := by
  intro u hu
  simp [cellsZ] at hu
  obtain ⟨x, _, rfl⟩ := hu
  rfl
theorem cellsZ_get {xs : List Int} {j : Nat} {u : Value} (h : (cellsZ xs)[j]? = some u) : j < xs.length ∧ u = .int .i64 (Pl.nm xs j) := by
  unfold cellsZ at h
  rw [List.getElem?_map] at h
  cases hx : xs[j]? with
  | none => rw [hx] at h; simp at h
  | some x =>
    rw [hx] at h
    simp at h
    obtain ⟨hj, e⟩ := List.getElem?_eq_some_iff.1 hx
    exact ⟨hj, by rw [Pl.nm_eq xs j hj, e, h]⟩
theorem OwnZ.ints {w : World} {base : Nat} {v : Value} {xs : List Int} (h : OwnZ w base v xs) :
    ∃ a cap, v = .slice a xs.length cap ∧ IsInts w a xs.length cap xs ∧ (∀ x, a = some x → base ≤ x.block) := by
  obtain ⟨_, ⟨h, h1⟩ | ⟨g, cap, cur, rfl, hb, hh, hn, hm, hs, hx⟩⟩ := h
  · have e : xs = [] := List.length_eq_zero_iff.1 h1
    subst e
    exact ⟨none, 0, h, IsInts.nil w, by simp⟩
  · refine ⟨_, cap, rfl, ⟨rfl, hn, hm, by simp, .inr ⟨g, 0, rfl, lt_of_block hh, fun i hi => ?_⟩⟩, by rintro x ⟨⟩; exact hb⟩
    have hj : (cellsZ xs)[i]? = some (.int .i64 (Pl.nm xs i)) := by
      simp [cellsZ, Pl.nm, List.getD_eq_getElem?_getD, List.getElem?_eq_getElem hi]
    rw [← hx] at hj
    have hj' : cur[i]? = some (.int .i64 (Pl.nm xs i)) := by
      rw [List.getElem?_take] at hj
      split at hj
      · rw [← Array.getElem?_toList]; exact hj
      · cases hj
    simp [World.cell?, hh, hj']

theorem OwnZ.but {B : Nat} {w w' : World} {base : Nat} {v : Value} {xs : List Int} (h : OwnZ w base v xs) (k : But B w w') (hne : B < base ∨ v.ownBlock ≠ some B) : OwnZ w' base v xs := by
  obtain ⟨h0, h1⟩ := h
  refine ⟨h0, ?_⟩
  rcases h1 with h1 | ⟨g, cap, cur, rfl, hb, hh, hr⟩
  · exact .inl h1
  · refine .inr ⟨g, cap, cur, rfl, hb, (k.block g (lt_of_block hh) ?_).trans hh, hr⟩
    rcases hne with h | h
    · omega
    · intro e; apply h; simp [Value.ownBlock, e]
theorem OwnZ.mono {w : World} {base base' : Nat} {v : Value} {xs : List Int} (h : OwnZ w base v xs) (k : base' ≤ base) : OwnZ w base' v xs := by
  obtain ⟨h0, h1⟩ := h
  refine ⟨h0, ?_⟩
  rcases h1 with h1 | ⟨g, cap, cur, rfl, hb, hr⟩
  · exact .inl h1
  · exact .inr ⟨g, cap, cur, rfl, by omega, hr⟩
theorem OwnZ.below {w w' : World} {base : Nat} {v : Value} {xs : List Int} (h : OwnZ w base v xs) (k : Below w.heap.size w w') : OwnZ w' base v xs := by
  obtain ⟨h0, h1⟩ := h
  refine ⟨h0, ?_⟩
  rcases h1 with h1 | ⟨g, cap, cur, rfl, hb, hh, hr⟩
  · exact .inl h1
  · exact .inr ⟨g, cap, cur, rfl, hb, (k.block g (lt_of_block hh)).trans hh, hr⟩
/-- what a route in memory is, its hops a row of their own from block 'base' on -/
def ReadsZ (w : World) (base : Nat) (h : Pl.RH) (r : Pl.Rt) : Prop := h.p = r.p ∧ h.here = r.here ∧ h.cost = r.cost ∧ OwnZ w base (.slice h.ha h.hl h.hc) r.hops ∧ Pl.pairOk r.p
theorem ReadsZ.reads {w : World} {base : Nat} {h : Pl.RH} {r : Pl.Rt} (hz : ReadsZ w base h r) : Reads w h r ∧ (∀ x, h.ha = some x → base ≤ x.block) := by
  obtain ⟨h1, h2, h3, h4, h5⟩ := hz
  obtain ⟨a, cap, e, hi, hb⟩ := h4.ints
  simp only [Value.slice.injEq] at e
  obtain ⟨e1, e2, e3⟩ := e
  refine ⟨⟨h1, h2, h3, ?_, h5⟩, fun x hx => hb x (by rw [← e1]; exact hx)⟩
  rw [e1, e2, e3]
  exact hi
theorem ReadsZ.below {w w' : World} {base : Nat} {h : Pl.RH} {r : Pl.Rt} (hz : ReadsZ w base h r) (k : Below w.heap.size w w') : ReadsZ w' base h r := ⟨hz.1, hz.2.1, hz.2.2.1, hz.2.2.2.1.below k, hz.2.2.2.2⟩
theorem ReadsZ.mono {w : World} {base base' : Nat} {h : Pl.RH} {r : Pl.Rt} (hz : ReadsZ w base h r) (k : base' ≤ base) : ReadsZ w base' h r := ⟨hz.1, hz.2.1, hz.2.2.1, hz.2.2.2.1.mono k, hz.2.2.2.2⟩

theorem append_copyI {w : World} {ops : Array Oper} {rest : List Oper} {o : Oper} {a : Act} {Q : Exit → Act → World → Prop} (hgd : o.guard = none) (s x : Operand)
    (ho : o.op = .call { callee := .builtin .append, args := #[s, x], argTypes := #[32, 32] })
    (ao : Option Addr) (len cap : Nat) (zs : List Int) (hs : a.eval s = .slice none 0 0) (hx : a.eval x = .slice ao len cap) (hE : IsInts w ao len cap zs) (hb : len * 8 ≤ 140737488351232)
    (h : ∀ v' w', OwnZ w' w.heap.size v' zs → Below w.heap.size w w' → wpList Tryz.prog ops Q rest (a.put o.dst v') w') : wpList Tryz.prog ops Q (o :: rest) a w := by
  obtain ⟨i0, hi0, hz0, hz1, hz2⟩ := info_parts infoZ
  obtain ⟨hl, hc, hm, hnil, hrow⟩ := hE
  rcases ao with _ | ad
  · obtain rfl := hnil rfl
    obtain rfl : len = 0 := by omega
    obtain rfl : zs = [] := List.length_eq_zero_iff.1 hl
    exact wpList_append_own_none hgd s x 32 ho w.heap.size 3 i0 1 Tryz.underlying32 hi0 _ 0 [] hs (World.ownsRow_nil _ _ _ _) hx (h _ _ (OwnZ.nil _ _) (Below.refl _ _))
  · refine wpList_append_own (w := w) hgd s x 32 ho w.heap.size 3 i0 _ 1 8 Tryz.underlying32 hi0 hz0 hz1 hz2 rfl (by decide) _ 0 [] hs (World.ownsRow_nil _ _ _ _) ad len cap (cellsZ zs) hx (by simp [cellsZ, hl]) ?_ (cellsZ_one _) (by unfold maxLen; omega) (by omega) (Nat.le_refl _) ?_
    · intro j u hj
      obtain ⟨hj1, rfl⟩ := cellsZ_get hj
      rcases hrow with rfl | ⟨b, off, hba, _, hr⟩
      · simp at hj1
      · cases hba
        rw [add_none]
        exact hr j hj1
    · intro v' w' hown hg _
      rw [List.nil_append] at hown
      refine h v' w' ?_ ((Below.refl _ _).grown hg (Nat.le_refl _) (by intro k hk; cases hk))
      unfold OwnZ
      rw [hl]
      simpa using hown

theorem heapNewZ (w : World) (o : Obj) : (w.alloc o).heap[w.heap.size]? = some o := by
  show (w.heap.push o)[w.heap.size]? = _
  simp
theorem freshBox {w w3 : World} {c0 c1 c2 c3 c4 d0 d1 d2 d3 d4 : Value} {T : TypeId} (hb : Below ((w.alloc (.cells #[c0, c1, c2, c3, c4] T)).alloc (.cells #[d0, d1, d2, d3, d4] T)).heap.size ((w.alloc (.cells #[c0, c1, c2, c3, c4] T)).alloc (.cells #[d0, d1, d2, d3, d4] T)) w3) :
    (w3.cell? ⟨w.heap.size, 0, none⟩ = some c0 ∧ w3.cell? ⟨w.heap.size, 1, none⟩ = some c1 ∧ w3.cell? ⟨w.heap.size, 2, none⟩ = some c2 ∧ w3.cell? ⟨w.heap.size, 3, none⟩ = some c3 ∧ w3.cell? ⟨w.heap.size, 4, none⟩ = some c4) ∧
    (w3.cell? ⟨w.heap.size + 1, 0, none⟩ = some d0 ∧ w3.cell? ⟨w.heap.size + 1, 1, none⟩ = some d1 ∧ w3.cell? ⟨w.heap.size + 1, 2, none⟩ = some d2 ∧ w3.cell? ⟨w.heap.size + 1, 3, none⟩ = some d3 ∧ w3.cell? ⟨w.heap.size + 1, 4, none⟩ = some d4) ∧
    (∀ o, w3.frozen? ⟨w.heap.size, o, none⟩ = false) ∧ (∀ o, w3.frozen? ⟨w.heap.size + 1, o, none⟩ = false) := by
  have hs : ((w.alloc (.cells #[c0, c1, c2, c3, c4] T)).alloc (.cells #[d0, d1, d2, d3, d4] T)).heap.size = w.heap.size + 2 := by simp
  have hc : ∀ (b o : Nat) (v : Value), b < w.heap.size + 2 → ((w.alloc (.cells #[c0, c1, c2, c3, c4] T)).alloc (.cells #[d0, d1, d2, d3, d4] T)).cell? ⟨b, o, none⟩ = some v → w3.cell? ⟨b, o, none⟩ = some v := fun b o v hlt hv => (hb.cell (p := ⟨b, o, none⟩) (by rw [hs]; exact hlt)).trans hv
  refine ⟨⟨hc _ _ _ (by omega) (by simp), hc _ _ _ (by omega) (by simp), hc _ _ _ (by omega) (by simp), hc _ _ _ (by omega) (by simp), hc _ _ _ (by omega) (by simp)⟩, ⟨hc _ _ _ (by omega) ?_, hc _ _ _ (by omega) ?_, hc _ _ _ (by omega) ?_, hc _ _ _ (by omega) ?_, hc _ _ _ (by omega) ?_⟩, ?_, ?_⟩
  iterate 5
    have e := World.size_alloc w (.cells #[c0, c1, c2, c3, c4] T)
    rw [← e]; simp
  · intro o
    rw [hb.frozen (p := ⟨w.heap.size, o, none⟩) (by rw [hs]; show w.heap.size < _; omega)]
    have e : ((w.alloc (.cells #[c0, c1, c2, c3, c4] T)).alloc (.cells #[d0, d1, d2, d3, d4] T)).heap[w.heap.size]? = some (.cells #[c0, c1, c2, c3, c4] T) := by
      rw [Below.heap_alloc _ _ _ (by simp)]; exact heapNewZ w _
    simp only [World.frozen?, e]
    simp
  · intro o
    rw [hb.frozen (p := ⟨w.heap.size + 1, o, none⟩) (by rw [hs]; show w.heap.size + 1 < _; omega)]
    have e : ((w.alloc (.cells #[c0, c1, c2, c3, c4] T)).alloc (.cells #[d0, d1, d2, d3, d4] T)).heap[w.heap.size + 1]? = some (.cells #[d0, d1, d2, d3, d4] T) := by
      have h := heapNewZ (w.alloc (.cells #[c0, c1, c2, c3, c4] T)) (.cells #[d0, d1, d2, d3, d4] T)
      rwa [World.size_alloc] at h
    simp only [World.frozen?, e]
    simp

set_option maxHeartbeats 1000000 in
theorem fresh_own (h : Pl.RH) (r : Pl.Rt) (w : World) (hr : Reads w h r) (hl : h.hl ≤ 1000) :
    Calls Tryz.prog 27 #[.agg #[.int .i64 h.p.1, .int .i64 h.p.2, .bool h.here, .int .i64 h.cost, .slice h.ha h.hl h.hc]] w fun e w' =>
      ∃ g : Pl.RH, e = .returned (.agg #[.int .i64 g.p.1, .int .i64 g.p.2, .bool g.here, .int .i64 g.cost, .slice g.ha g.hl g.hc]) ∧ ReadsZ w' w.heap.size g r ∧ Below w.heap.size w w' := by
  obtain ⟨h1, h2, h3, h4, h5⟩ := hr
  have HI := hid h4
  have HX := hid (And.intro h1 (And.intro h2 (And.intro h3 h5)))
  clear h1 h2 h3 h4 h5
  obtain ⟨⟨p1, p2⟩, here, cost, ha, hln, hc⟩ := h
  simp only at HI HX hl
  simp only
  have HB : Hid (Below w.heap.size w ((w.alloc (.cells #[.int .i64 p1, .int .i64 p2, .bool here, .int .i64 cost, .slice ha hln hc] 41)).alloc (.cells #[.int .i64 0, .int .i64 0, .bool false, .int .i64 0, .slice none 0 0] 41))) := hid (((Below.refl _ _).alloc (Nat.le_refl _) _).alloc (by simp) _)
  go_enter Tryz.func27, Tryz.ntmps27
  go_wp2_with (at_builtin; refine append_copyI rfl _ _ rfl ha hln hc r.hops rfl rfl (HI.out.below HB.out) (by omega) ?_; intro v' w3 hown3 hb3; obtain ⟨a3, cap3, rfl, _, _⟩ := hown3.ints; have HI3 := hid hown3; clear hown3; have x0 := freshBox hb3; obtain ⟨⟨x0, x1, x2, x3, x4⟩, ⟨y0, y1, y2, y3, y4⟩, xf, yf⟩ := x0)
  have HB3 := hid hb3
  clear hb3
  have HK : Hid (Below w.heap.size w w3) := hid (HB.out.trans (HB3.out.mono (by simp; omega)))
  refine bodyPost_ret (v := .agg #[.int .i64 p1, .int .i64 p2, .bool here, .int .i64 cost, .slice a3 r.hops.length cap3]) (by simp [results, Tryz.results27, go_sem, y0, y1, y2, y3, y4]) rfl ?_
  have hu1 : But w.heap.size w3 (w3.setCell ⟨w.heap.size, 4, none⟩ (.slice a3 r.hops.length cap3)) := (But.refl _ _).setCell _ _
  refine ⟨⟨(p1, p2), here, cost, a3, r.hops.length, cap3⟩, rfl, ⟨HX.out.1, HX.out.2.1, HX.out.2.2.1, ?_, HX.out.2.2.2⟩, ?_⟩
  · refine OwnZ.mono (base := w.heap.size + 2) ?_ (by omega)
    refine OwnZ.but (B := w.heap.size + 1) (w := w3.setCell ⟨w.heap.size, 4, none⟩ (.slice a3 r.hops.length cap3)) (OwnZ.but (OwnZ.mono HI3.out (by simp)) hu1 (.inl (by omega))) ?_ (.inl (by omega))
    exact (((((But.refl _ _).setCell _ _).setCell _ _).setCell _ _).setCell _ _).setCell _ _
  · exact ((((((HK.out.setCell (Nat.le_refl _) _).setCell (by simp) _).setCell (by simp) _).setCell (by simp) _).setCell (by simp) _).setCell (by simp) _)
theorem fresh_any (h : Pl.RH) (r : Pl.Rt) (w : World) (hr : Reads w h r) (hl : h.hl ≤ 1000) :
    Calls Tryz.prog 27 #[.agg #[.int .i64 h.p.1, .int .i64 h.p.2, .bool h.here, .int .i64 h.cost, .slice h.ha h.hl h.hc]] w fun e w' =>
      ∃ g : Pl.RH, e = .returned (.agg #[.int .i64 g.p.1, .int .i64 g.p.2, .bool g.here, .int .i64 g.cost, .slice g.ha g.hl g.hc]) ∧ Reads w' g r ∧ (∀ x, g.ha = some x → w.heap.size ≤ x.block) ∧ Below w.heap.size w w' :=
  (fresh_own h r w hr hl).mono fun _ _ ⟨g, h1, h2, h3⟩ => ⟨g, h1, h2.reads.1, h2.reads.2, h3⟩
end Go.Proofs.YtpaobnhcbeklfaaGreatDoor
/-
  Contracts: the prefix of so many bits of an address; Lookup.
-/
namespace Go.Proofs.YtpaobnhcbeklfaaGreatDoor
open Go.RowKit
set_option maxRecDepth 20000

theorem Pl.pfxAt_eq (addr : Int) (n : Nat) (K : Int) (h : Pl.span (n : Int) = K) : Pl.pfxAt addr n = (addr / K * K, (n : Int)) := by
  unfold Pl.pfxAt
  rw [h]
  have e := Int.ediv_mul_add_emod addr K
  generalize addr / K * K = x at *
  generalize addr % K = y at *
  simp only [Prod.mk.injEq, and_true]
  omega

theorem Pl.hopsB_len {l : List Int} (h : Pl.hopsB l = true) : l.length ≤ 12 := by
  have key : ∀ i, i < l.length → (i : Int) ≤ Pl.nm l i := by
    intro i
    induction i with
    | zero =>
      intro hi
      have := Pl.hopsB_at h 0 hi
      rw [Pl.hopB_zero] at this
      simp at this
      simpa using this.1
    | succ m ih =>
      intro hi
      have h1 := Pl.hopsB_at h (m + 1) hi
      rw [Pl.hopB_succ] at h1
      simp only [Bool.and_eq_true, decide_eq_true_eq] at h1
      have := ih (by omega)
      omega
  rcases Nat.eq_zero_or_pos l.length with h0 | hp
  · omega
  · have a := key (l.length - 1) (by omega)
    have b := Pl.hopsB_at h (l.length - 1) (by omega)
    unfold Pl.hopB at b
    simp only [Bool.and_eq_true, decide_eq_true_eq] at b
    omega
theorem Pl.routeB_hops {r : Pl.Rt} (h : Pl.routeB r = true) : r.hops.length ≤ 12 := by
  unfold Pl.routeB at h
  simp only [Bool.and_eq_true] at h
  exact Pl.hopsB_len h.2
theorem Pl.look_some {rs : List Pl.Rt} {addr : Int} {i : Nat} (h : Pl.tabF rs = 0) (ha : 0 ≤ addr ∧ addr ≤ 255) (hi : Pl.lookN (rs.map Pl.Rt.p) addr 9 = some i) : Pl.lookC rs addr = 0 ∧ Pl.lookR rs addr = Pl.rt rs i := by
  unfold Pl.lookC Pl.lookR
  rw [h, if_pos rfl, if_pos ha, if_pos rfl, if_pos ha, hi]
  exact ⟨rfl, rfl⟩
theorem Pl.look_none {rs : List Pl.Rt} {addr : Int} (h : Pl.tabF rs = 0) (ha : 0 ≤ addr ∧ addr ≤ 255) (hi : Pl.lookN (rs.map Pl.Rt.p) addr 9 = none) : Pl.lookC rs addr = 6 ∧ Pl.lookR rs addr = Pl.Rt.none := by
  unfold Pl.lookC Pl.lookR
  rw [h, if_pos rfl, if_pos ha, if_pos rfl, if_pos ha, hi]
  exact ⟨rfl, rfl⟩
theorem Pl.look_range {rs : List Pl.Rt} {addr : Int} (h : Pl.tabF rs = 0) (ha : ¬ (0 ≤ addr ∧ addr ≤ 255)) : Pl.lookC rs addr = 2 ∧ Pl.lookR rs addr = Pl.Rt.none := by
  unfold Pl.lookC Pl.lookR
  rw [h, if_pos rfl, if_neg ha, if_pos rfl, if_neg ha]
  exact ⟨rfl, rfl⟩
theorem Pl.look_bad {rs : List Pl.Rt} {addr : Int} (h : ¬ Pl.tabF rs = 0) : Pl.lookC rs addr = Pl.tabF rs ∧ Pl.lookR rs addr = Pl.Rt.none := by
  unfold Pl.lookC Pl.lookR
  rw [if_neg h, if_neg h]
  exact ⟨rfl, rfl⟩
theorem boxSoft {w w3 : World} {cs : Array Value} {T : TypeId} (hb : Below (w.heap.size + 1) (w.alloc (.cells cs T)) w3) (o : Nat) : w3.frozen? ⟨w.heap.size, o, none⟩ = false := by
  rw [hb.frozen (p := ⟨w.heap.size, o, none⟩) (show w.heap.size < w.heap.size + 1 by omega)]
  simp only [World.frozen?, heapNewZ]
  simp
theorem readsNone (w : World) : Reads w Pl.RH.none Pl.Rt.none := ⟨rfl, rfl, rfl, IsInts.nil w, by decide, by decide⟩

end Go.Proofs.YtpaobnhcbeklfaaGreatDoor
