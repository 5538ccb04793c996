/-
  Plain: prefixes that may be told are few and small; contract: the document's PrefixesText.
-/
import Derived.Test.YtcdobhdbafpkiacDoorAdjTx
import Derived.Test.YtcdobhdbafpkiacDoorPfx5
namespace Go.Proofs.YtcdobhdbafpkiacDoor
open Go.RowKit
set_option maxRecDepth 20000

theorem Pl.pfxN_ok (ps : List (Int × Int)) : ∀ (n i : Nat), i + n = ps.length → Pl.pfxN ps n i = 0 → ∀ j, i ≤ j → j < ps.length → Pl.pfx1 (Pl.pr ps j) = 0
  | 0, i, h, _, j, h1, h2 => by omega
  | n + 1, i, h, h0, j, h1, h2 => by
    rw [Pl.pfxN] at h0
    by_cases g1 : Pl.pfx1 (Pl.pr ps i) = 0
    · rw [if_pos g1] at h0
      split at h0
      · cases h0
      · rcases Nat.eq_or_lt_of_le h1 with e | h1
        · subst e; exact g1
        · exact Pl.pfxN_ok ps n (i + 1) (by omega) h0 j h1 h2
    · rw [if_neg g1] at h0; exact absurd h0 g1
theorem Pl.pfxF_ok {ps : List (Int × Int)} (h : Pl.pfxF ps = 0) : ps.length ≤ 6 ∧ ∀ p ∈ ps, Pl.small p := by
  unfold Pl.pfxF at h
  split at h
  · rename_i hl
    refine ⟨hl, fun p hp => ?_⟩
    obtain ⟨i, hi, rfl⟩ := List.getElem_of_mem hp
    have := Pl.pfx1_zero (Pl.pfxN_ok ps ps.length 0 (by omega) h i (by omega) hi)
    rw [Pl.pr_eq ps i hi] at this
    exact ⟨by omega, by omega, by omega, by omega⟩
  · cases h
/-- what ShowPrefixes answers -/
def Pl.pfxText (ps : List (Int × Int)) : ByteArray := if Pl.pfxF ps = 0 then Pl.showT ⟨#[47]⟩ ps else ⟨#[]⟩

set_option maxHeartbeats 2000000 in
theorem PrefixesText_any (a : Option Addr) (len cap : Nat) (ps : List (Int × Int)) (w : World) (h : IsPairs w a len cap ps) :
    Calls Tryd.prog 6 #[.slice a len cap] w fun e w' => e = .returned (.tuple #[.string (Pl.pfxText ps), .int .i64 (Pl.pfxF ps)]) ∧ Below w.heap.size w w' := by
  have HH := hid h
  have hlen := h.1
  have hcap := h.2.1
  have hmax := h.2.2.1
  unfold maxLen at hmax
  clear h
  obtain ⟨cc, HCC⟩ : ∃ c, Hid (Pl.pfxF ps = c) := ⟨_, hid rfl⟩
  rw [HCC.out]
  by_cases hc0 : cc = 0
  · subst hc0
    have HOK := hid (Pl.pfxF_ok HCC.out)
    have hl12 : len ≤ 6 := by have := HOK.out.1; omega
    go_enter Tryd.func6, Tryd.ntmps6
    go_wp2_with fail
    refine (PrefixesFault_any _ _ _ ps _ HH.out).mono ?_
    rw [HCC.out]
    rintro e w1 ⟨rfl, hb1⟩
    go_wp2_with fail
    go_loopw [5, 6] (fun s i wr => ∃ (k : Nat) (t : ByteArray), k ≤ len ∧ i = .int .i64 k ∧ s = .string t ∧ t.size ≤ 2000 ∧ Hid (t = Pl.showT ⟨#[47]⟩ (ps.take k)) ∧ Below w.heap.size w wr) (fun _ i _ => len - (intOf i).toNat)
    case atStart => exact ⟨0, ⟨#[]⟩, Nat.zero_le _, rfl, rfl, by decide, hid (by rw [List.take_zero, Pl.showT_nil]), hb1⟩
    case round =>
      obtain ⟨k, t, hk, rfl, rfl, htz, HT, hb⟩ := hrel
      have hzz := hb.size
      by_cases hlt : k < len
      · obtain ⟨b, off, rfl, hbw, hr⟩ : ∃ b off, a = some ⟨b, off, none⟩ ∧ b < w.heap.size ∧ PairsAt w b off ps := by
          rcases HH.out.2.2.2.2 with rfl | h
          · simp at hlen; omega
          · exact h
        obtain ⟨c0, c1⟩ := (hr.below hbw hb) k (by omega)
        have hbr : b < wr.heap.size := by omega
        clear hr
        obtain ⟨pp, hpp⟩ : ∃ pp, Hid (Pl.pr ps k = pp) := ⟨_, rfl⟩
        rw [hpp.out] at c0 c1
        obtain ⟨p1, p2⟩ := pp
        simp only at c0 c1
        have hsm : Pl.small (p1, p2) := by rw [← hpp.out]; exact HOK.out.2 _ (Pl.pr_mem ps k (by omega))
        obtain ⟨hs1, hs2, hs3, hs4⟩ := hsm
        simp only at hs1 hs2 hs3 hs4
        have hz1 := Pl.dec_le p1 hs1 hs2
        have hz2 := Pl.dec_le p2 hs3 hs4
        obtain ⟨s1, HS1⟩ : ∃ s, Hid (Pl.dec p1 = s) := ⟨_, hid rfl⟩
        obtain ⟨s2, HS2⟩ : ∃ s, Hid (Pl.dec p2 = s) := ⟨_, hid rfl⟩
        rw [HS1.out] at hz1
        rw [HS2.out] at hz2
        have HD1 : Hid (∀ W, Calls Tryd.prog 13 #[.int .i64 p1] W fun e w' => e = .returned (.string s1) ∧ Below W.heap.size W w') := by
          refine hid fun W => ?_
          obtain ⟨n, rfl⟩ := Int.eq_ofNat_of_zero_le hs1
          rw [← HS1.out]; exact dec_any n W (by omega)
        have HD2 : Hid (∀ W, Calls Tryd.prog 13 #[.int .i64 p2] W fun e w' => e = .returned (.string s2) ∧ Below W.heap.size W w') := by
          refine hid fun W => ?_
          obtain ⟨n, rfl⟩ := Int.eq_ofNat_of_zero_le hs3
          rw [← HS2.out]; exact dec_any n W (by omega)
        have HSZ : Hid ((Pl.showT ⟨#[47]⟩ (ps.take (k + 1))).size ≤ 2000) := by
          refine hid ?_
          have := Pl.showT_size ⟨#[47]⟩ (ps.take (k + 1)) (fun p hp => HOK.out.2 p (List.mem_of_mem_take hp)) (by simp [ByteArray.size])
          simp at this; omega
        have HNX : Hid (∀ t' : ByteArray, (k = 0 → t' = t) → (0 < k → t' = t ++ ⟨#[44]⟩) → t' ++ s1 ++ ⟨#[47]⟩ ++ s2 = Pl.showT ⟨#[47]⟩ (ps.take (k + 1))) := by
          refine hid fun t' h0 h1 => ?_
          have hst : Pl.sideT ⟨#[47]⟩ (p1, p2) = s1 ++ ⟨#[47]⟩ ++ s2 := by unfold Pl.sideT; rw [HS1.out, HS2.out]
          rw [Pl.take_prS ps k (by omega), hpp.out]
          rcases Nat.eq_zero_or_pos k with hk0 | hk0
          · rw [h0 hk0, HT.out]
            subst hk0
            rw [List.take_zero, List.nil_append, Pl.showT_one, Pl.showT_nil, hst]
            apply Pl.ba_eq; simp [ByteArray.data_append]
          · rw [h1 hk0, HT.out, Pl.showT_snoc _ _ _ (by intro e; rw [List.take_eq_nil_iff] at e; rcases e with e | e; exact absurd e (by omega); rw [e] at hlen; simp at hlen; omega), hst]
            apply Pl.ba_eq; simp [ByteArray.data_append]
        rcases Nat.eq_zero_or_pos k with hk0 | hk0
        · have hnx := HNX.out t (fun _ => rfl) (by omega)
          have HNX' := hid hnx
          have hd : decide (0 < k) = false := by simp; omega
          have HK0 := hid hk0
          clear hk0 hnx
          go_wp2_with fail
          have i1 := in_cell hbr c0
          have i2 := in_cell hbr c1
          have hne := in_some wr
          refine wp_region_in (by kernel_rfl) (by kernel_rfl) ?_
          repeat (go_big_quiet_step ((first | (go_at_call_of 13 (Value.int IntKind.i64 p1); exact in_call (HD1.out _)) | (go_at_call_of 13 (Value.int IntKind.i64 p2); exact in_call (HD2.out _)))))
          refine wpQuiet_nil ?_
          intro w5 hw'
          have hb5 := in_out hw'
          clear hw' i1 i2 hne c0 c1
          go_wp2_with fail
          go_roundw
          case rel => exact ⟨k + 1, _, by omega, by go_num, rfl, by rw [HNX'.out]; exact HSZ.out, HNX', hb.trans (hb5.mono hzz)⟩
          case measure => simp [intOf]; omega
        · have hnx := HNX.out (t ++ ⟨#[44]⟩) (by omega) (fun _ => rfl)
          have HNX' := hid hnx
          have h44 : (t ++ (⟨#[44]⟩ : ByteArray)).size ≤ 2001 := by rw [ByteArray.size_append]; show t.size + 1 ≤ 2001; omega
          clear hnx
          obtain ⟨t', HT'⟩ : ∃ t', Hid (t ++ ⟨#[44]⟩ = t') := ⟨_, hid rfl⟩
          go_wp2_with fail
          rw [HT'.out]
          rw [HT'.out] at HNX' h44
          have i1 := in_cell hbr c0
          have i2 := in_cell hbr c1
          have hne := in_some wr
          refine wp_region_in (by kernel_rfl) (by kernel_rfl) ?_
          repeat (go_big_quiet_step ((first | (go_at_call_of 13 (Value.int IntKind.i64 p1); exact in_call (HD1.out _)) | (go_at_call_of 13 (Value.int IntKind.i64 p2); exact in_call (HD2.out _)))))
          refine wpQuiet_nil ?_
          intro w5 hw'
          have hb5 := in_out hw'
          clear hw' i1 i2 hne c0 c1
          go_wp2_with fail
          go_roundw
          case rel => exact ⟨k + 1, _, by omega, by go_num, rfl, by rw [HNX'.out]; exact HSZ.out, HNX', hb.trans (hb5.mono hzz)⟩
          case measure => simp [intOf]; omega
      · obtain rfl : k = len := by omega
        have HT' : Hid (t = Pl.showT ⟨#[47]⟩ ps) := hid (by have h := HT.out; rw [List.take_of_length_le (by omega)] at h; exact h)
        have HAT : Hid (Pl.pfxText ps = t) := hid (by unfold Pl.pfxText; rw [if_pos HCC.out, HT'.out])
        clear HT HT'
        go_wp2_with fail
        go_ret2
        exact ⟨by rw [HAT.out]; rfl, hb⟩
  · have HAT : Hid (Pl.pfxText ps = ⟨#[]⟩) := hid (by unfold Pl.pfxText; rw [if_neg (by rw [HCC.out]; exact hc0)])
    have hd0 : (cc == 0) = false := by simpa using hc0
    go_enter Tryd.func6, Tryd.ntmps6
    go_wp2_with fail
    refine (PrefixesFault_any _ _ _ ps _ HH.out).mono ?_
    rw [HCC.out]
    rintro e w1 ⟨rfl, hb1⟩
    go_wp2_with fail
    go_ret2
    exact ⟨by rw [HAT.out]; rfl, hb1⟩
end Go.Proofs.YtcdobhdbafpkiacDoor
