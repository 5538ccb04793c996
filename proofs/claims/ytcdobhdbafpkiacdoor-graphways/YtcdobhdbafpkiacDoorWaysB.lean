/-
  Contract: a step of a search from a node to the next one.
-/
import Derived.Test.YtcdobhdbafpkiacDoorWaysA
namespace Go.Proofs.YtcdobhdbafpkiacDoor
open Go.RowKit
set_option maxRecDepth 20000

theorem oneBools : ∀ v ∈ List.replicate 12 (Value.bool false), v.oneCell' = true := by intro v hv; rw [(List.mem_replicate.1 hv).2]; rfl
theorem Pl.dS3_on (n j k : Nat) (h : Nat → Nat → Bool) (hk : h n k = true) (i x : Nat) :
    Pl.upd (Pl.dS3 n j k h) j (Pl.upd (Pl.dS3 n j k h j) k true) i x = Pl.dS3 n j (k + 1) h i x := by
  unfold Pl.dS3 Pl.upd
  by_cases hi : i = j
  · subst hi
    simp only [if_true]
    by_cases hx : x = k
    · subst hx; simp [hk]
    · rw [if_neg hx]
      congr 2
      exact decide_eq_decide.2 (by omega)
  · simp [hi]
theorem Pl.dS3_off (n j k : Nat) (h : Nat → Nat → Bool) (hk : h n k = false) (i x : Nat) :
    Pl.dS3 n j k h i x = Pl.dS3 n j (k + 1) h i x := by
  unfold Pl.dS3 Pl.upd
  by_cases hi : i = j
  · subst hi
    simp only [if_true]
    by_cases hx : x = k
    · subst hx; simp [hk]
    · congr 2
      exact decide_eq_decide.2 (by omega)
  · simp [hi]
theorem Pl.dS3_zero (n j : Nat) (h : Nat → Nat → Bool) (i x : Nat) : Pl.dS3 n j 0 h i x = h i x := by
  unfold Pl.dS3 Pl.upd
  by_cases hi : i = j
  · subst hi; simp
  · simp [hi]

set_option maxHeartbeats 2000000 in
theorem step_any (B f n j : Nat) (c : Int) (s : Pl.DS) (w : World) (h : SAt w B f s) (hn : n < 12) (hj : j < 12) :
    Calls Tryd.prog 35 #[.pointer (some ⟨B, 0, none⟩), .int .i64 n, .int .i64 j, .int .i64 c] w fun e w' => e = .returned (.tuple #[]) ∧ SAt w' B f (Pl.dStep f n j c s) ∧ But B w w' := by
  have HS := hid h
  have hB := CellsAt.lt h
  have hc0 := h.cost j hj
  have hz0 := CellsAt.soft h (1 + j)
  have hf0 := h.from
  clear h
  obtain ⟨q, HQ⟩ : ∃ q, Hid (s.cost j = q) := ⟨_, rfl⟩
  obtain ⟨s1, HS1⟩ : ∃ s1, Hid (Pl.dS1 j c s = s1) := ⟨_, rfl⟩
  obtain ⟨h2, HH2⟩ : ∃ h2, Hid (Pl.dS2 f n j s1.hops = h2) := ⟨_, rfl⟩
  have HD : Hid (Pl.dStep f n j c s = if s1.cost j < c then s1 else ⟨s1.cost, Pl.dS3 n j 12 h2, s1.done⟩) := hid (by unfold Pl.dStep; rw [HS1.out, HH2.out])
  obtain ⟨ff, HFF⟩ : ∃ x, Hid (f = x) := ⟨_, rfl⟩
  rw [HQ.out] at hc0
  have hcase : (q = -1 ∨ c < q) ∨ (q ≠ -1 ∧ q < c) ∨ (q ≠ -1 ∧ q = c) := by omega
  rcases hcase with hq | ⟨hq1, hq2⟩ | ⟨hq1, hq2⟩
  · have HS1' : Hid (s1 = ⟨Pl.upd s.cost j c, Pl.upd s.hops j (fun _ => false), s.done⟩) := hid (by rw [← HS1.out]; unfold Pl.dS1; rw [HQ.out, if_pos hq])
    have HE : Hid (s1.cost j = c) := hid (by rw [HS1'.out]; exact Pl.upd_same _ _ _)
    obtain ⟨w1, HX⟩ : ∃ x, Hid (x = (w.setCell ⟨B, 1 + j, none⟩ (.int .i64 c)).setCells B (13 + j * 12) (List.replicate 12 (.bool false))) := ⟨_, rfl⟩
    have HW1 : Hid (SAt w1 B f s1) := hid (by rw [HX.out, HS1'.out]; exact (HS.out.setCost j hj c).clearHops j hj)
    have HB1 : Hid (But B w w1) := hid (by rw [HX.out]; exact But.setCells _ (13 + j * 12) _ ((But.refl B w).setCell (1 + j) (.int .i64 c)))
    have HT1 := hid (CellsAt.there (HS.out.setCost j hj c) (13 + j * 12) 12 (by omega))
    have hB1 := CellsAt.lt HW1.out
    have hc1 := HW1.out.cost j hj
    rw [HE.out] at hc1
    have hf1 := HW1.out.from
    have hh1 := HW1.out.hops j j hj hj
    have hz1 := CellsAt.soft HW1.out (13 + j * 12 + j)
    by_cases hnf : n = f
    · have HW2 : Hid (SAt (w1.setCell ⟨B, 13 + j * 12 + j, none⟩ (.bool true)) B ff ⟨s1.cost, h2, s1.done⟩) := hid (by
        rw [← HH2.out, ← HFF.out]; unfold Pl.dS2; rw [if_pos hnf]; exact HW1.out.setHop j j hj hj true)
      have HB2 := hid (HB1.out.setCell (13 + j * 12 + j) (.bool true))
      have HR2 := hid (HW2.out.hopsOf n hn)
      subst hnf
      go_enter Tryd.func35, Tryd.ntmps35
      rcases (by omega : q = -1 ∨ (q ≠ -1 ∧ c < q)) with rfl | ⟨hq1, hq⟩
      all_goals
        go_wp2_with (first
          | refine wpList_store_as rfl 74 (.tmp 38) (.tmp 35) rfl B (13 + j * 12) (List.replicate 12 (Value.bool false)) rfl rfl HT1.out infoBools oneBools HX.out ?_
          | refine wpList_load_mid rfl 74 (.tmp 64) rfl B (13 + n * 12) rfl (bools12 (h2 n)) _ HR2.out Tryd.underlying74 rfl infoBools ?_)
        go_loopw [66] (fun i wr => ∃ k : Nat, k ≤ 12 ∧ i = .int .i64 k ∧ Hid (SAt wr B ff ⟨s1.cost, Pl.dS3 n j k h2, s1.done⟩) ∧ Hid (But B w wr)) (fun i _ => 12 - (intOf i).toNat)
        case atStart => exact ⟨0, by omega, rfl, HW2.out.ext (fun _ _ => rfl) (fun i x _ _ => (Pl.dS3_zero n j h2 i x).symm) (fun _ _ => rfl), HB2⟩
        case round =>
          obtain ⟨k, hk, rfl, HS3, HB3⟩ := hrel
          by_cases hlt : k < 12
          · have hg := fun w => run_index_bools (h2 n) k hlt w
            have hk3 := HS3.out.hops j k hj hlt
            have hz3 := CellsAt.soft HS3.out (13 + j * 12 + k)
            have hB3 := CellsAt.lt HS3.out
            obtain ⟨b, HBK⟩ : ∃ b, Hid (h2 n k = b) := ⟨_, rfl⟩
            rw [HBK.out] at hg
            cases b
            case true =>
              go_wp2_with fail
              go_roundw
              case rel => exact ⟨k + 1, by omega, by go_num, (HS3.out.setHop j k hj hlt true).ext (fun _ _ => rfl) (fun i x _ _ => Pl.dS3_on n j k h2 HBK.out i x) (fun _ _ => rfl), HB3.out.setCell _ _⟩
              case measure => simp [intOf]; omega
            case false =>
              go_wp2_with fail
              go_roundw
              case rel => exact ⟨k + 1, by omega, by go_num, HS3.out.ext (fun _ _ => rfl) (fun i x _ _ => Pl.dS3_off n j k h2 HBK.out i x) (fun _ _ => rfl), HB3⟩
              case measure => simp [intOf]; omega
          · obtain rfl : k = 12 := by omega
            go_wp2_with fail
            (try simp only [Exit.inBlock, Exit.then])
            first | refine bodyPost_end (v := .tuple #[]) (by simp [results, Tryd.results35, go_sem]) rfl ?_ | refine bodyPost_ret (v := .tuple #[]) (by simp [results, Tryd.results35, go_sem]) rfl ?_
            have hfin := HS3.out
            rw [← HFF.out] at hfin
            refine ⟨rfl, ?_, HB3.out⟩
            rw [HD.out, if_neg (by rw [HE.out]; omega)]
            exact hfin
    · have HW2 : Hid (SAt w1 B ff ⟨s1.cost, h2, s1.done⟩) := hid (by
        rw [← HH2.out, ← HFF.out]; unfold Pl.dS2; rw [if_neg hnf]; exact HW1.out)
      have HB2 := HB1
      have HR2 := hid (HW2.out.hopsOf n hn)
      go_enter Tryd.func35, Tryd.ntmps35
      rcases (by omega : q = -1 ∨ (q ≠ -1 ∧ c < q)) with rfl | ⟨hq1, hq⟩
      all_goals
        go_wp2_with (first
          | refine wpList_store_as rfl 74 (.tmp 38) (.tmp 35) rfl B (13 + j * 12) (List.replicate 12 (Value.bool false)) rfl rfl HT1.out infoBools oneBools HX.out ?_
          | refine wpList_load_mid rfl 74 (.tmp 64) rfl B (13 + n * 12) rfl (bools12 (h2 n)) _ HR2.out Tryd.underlying74 rfl infoBools ?_)
        go_loopw [66] (fun i wr => ∃ k : Nat, k ≤ 12 ∧ i = .int .i64 k ∧ Hid (SAt wr B ff ⟨s1.cost, Pl.dS3 n j k h2, s1.done⟩) ∧ Hid (But B w wr)) (fun i _ => 12 - (intOf i).toNat)
        case atStart => exact ⟨0, by omega, rfl, HW2.out.ext (fun _ _ => rfl) (fun i x _ _ => (Pl.dS3_zero n j h2 i x).symm) (fun _ _ => rfl), HB2⟩
        case round =>
          obtain ⟨k, hk, rfl, HS3, HB3⟩ := hrel
          by_cases hlt : k < 12
          · have hg := fun w => run_index_bools (h2 n) k hlt w
            have hk3 := HS3.out.hops j k hj hlt
            have hz3 := CellsAt.soft HS3.out (13 + j * 12 + k)
            have hB3 := CellsAt.lt HS3.out
            obtain ⟨b, HBK⟩ : ∃ b, Hid (h2 n k = b) := ⟨_, rfl⟩
            rw [HBK.out] at hg
            cases b
            case true =>
              go_wp2_with fail
              go_roundw
              case rel => exact ⟨k + 1, by omega, by go_num, (HS3.out.setHop j k hj hlt true).ext (fun _ _ => rfl) (fun i x _ _ => Pl.dS3_on n j k h2 HBK.out i x) (fun _ _ => rfl), HB3.out.setCell _ _⟩
              case measure => simp [intOf]; omega
            case false =>
              go_wp2_with fail
              go_roundw
              case rel => exact ⟨k + 1, by omega, by go_num, HS3.out.ext (fun _ _ => rfl) (fun i x _ _ => Pl.dS3_off n j k h2 HBK.out i x) (fun _ _ => rfl), HB3⟩
              case measure => simp [intOf]; omega
          · obtain rfl : k = 12 := by omega
            go_wp2_with fail
            (try simp only [Exit.inBlock, Exit.then])
            first | refine bodyPost_end (v := .tuple #[]) (by simp [results, Tryd.results35, go_sem]) rfl ?_ | refine bodyPost_ret (v := .tuple #[]) (by simp [results, Tryd.results35, go_sem]) rfl ?_
            have hfin := HS3.out
            rw [← HFF.out] at hfin
            refine ⟨rfl, ?_, HB3.out⟩
            rw [HD.out, if_neg (by rw [HE.out]; omega)]
            exact hfin
  · have HS1' : Hid (s1 = s) := hid (by rw [← HS1.out]; unfold Pl.dS1; rw [HQ.out, if_neg (by omega)])
    have hq3 : ¬ c < q := by omega
    have hq4 : ¬ q = -1 := hq1
    go_enter Tryd.func35, Tryd.ntmps35
    go_wp2_with fail
    (try simp only [Exit.inBlock, Exit.then])
    refine bodyPost_ret (v := .tuple #[]) (results_none rfl _ _ _) rfl ?_
    refine ⟨rfl, ?_, But.refl _ _⟩
    rw [HD.out, HS1'.out, HQ.out, if_pos hq2]
    exact HS.out
  · have HS1' : Hid (s1 = s) := hid (by rw [← HS1.out]; unfold Pl.dS1; rw [HQ.out, if_neg (by omega)])
    have HE : Hid (s1.cost j = c) := hid (by rw [HS1'.out, HQ.out, hq2])
    have HW1 : Hid (SAt w B f s1) := hid (by rw [HS1'.out]; exact HS.out)
    have hh1 := HW1.out.hops j j hj hj
    have hz1 := CellsAt.soft HW1.out (13 + j * 12 + j)
    subst hq2
    by_cases hnf : n = f
    · have HW2 : Hid (SAt (w.setCell ⟨B, 13 + j * 12 + j, none⟩ (.bool true)) B ff ⟨s1.cost, h2, s1.done⟩) := hid (by
        rw [← HH2.out, ← HFF.out]; unfold Pl.dS2; rw [if_pos hnf]; exact HW1.out.setHop j j hj hj true)
      have HB2 := hid ((But.refl B w).setCell (13 + j * 12 + j) (.bool true))
      have HR2 := hid (HW2.out.hopsOf n hn)
      subst hnf
      go_enter Tryd.func35, Tryd.ntmps35
      all_goals
        go_wp2_with (refine wpList_load_mid rfl 74 (.tmp 64) rfl B (13 + n * 12) rfl (bools12 (h2 n)) _ HR2.out Tryd.underlying74 rfl infoBools ?_)
        go_loopw [66] (fun i wr => ∃ k : Nat, k ≤ 12 ∧ i = .int .i64 k ∧ Hid (SAt wr B ff ⟨s1.cost, Pl.dS3 n j k h2, s1.done⟩) ∧ Hid (But B w wr)) (fun i _ => 12 - (intOf i).toNat)
        case atStart => exact ⟨0, by omega, rfl, HW2.out.ext (fun _ _ => rfl) (fun i x _ _ => (Pl.dS3_zero n j h2 i x).symm) (fun _ _ => rfl), HB2⟩
        case round =>
          obtain ⟨k, hk, rfl, HS3, HB3⟩ := hrel
          by_cases hlt : k < 12
          · have hg := fun w => run_index_bools (h2 n) k hlt w
            have hk3 := HS3.out.hops j k hj hlt
            have hz3 := CellsAt.soft HS3.out (13 + j * 12 + k)
            have hB3 := CellsAt.lt HS3.out
            obtain ⟨b, HBK⟩ : ∃ b, Hid (h2 n k = b) := ⟨_, rfl⟩
            rw [HBK.out] at hg
            cases b
            case true =>
              go_wp2_with fail
              go_roundw
              case rel => exact ⟨k + 1, by omega, by go_num, (HS3.out.setHop j k hj hlt true).ext (fun _ _ => rfl) (fun i x _ _ => Pl.dS3_on n j k h2 HBK.out i x) (fun _ _ => rfl), HB3.out.setCell _ _⟩
              case measure => simp [intOf]; omega
            case false =>
              go_wp2_with fail
              go_roundw
              case rel => exact ⟨k + 1, by omega, by go_num, HS3.out.ext (fun _ _ => rfl) (fun i x _ _ => Pl.dS3_off n j k h2 HBK.out i x) (fun _ _ => rfl), HB3⟩
              case measure => simp [intOf]; omega
          · obtain rfl : k = 12 := by omega
            go_wp2_with fail
            (try simp only [Exit.inBlock, Exit.then])
            first | refine bodyPost_end (v := .tuple #[]) (by simp [results, Tryd.results35, go_sem]) rfl ?_ | refine bodyPost_ret (v := .tuple #[]) (by simp [results, Tryd.results35, go_sem]) rfl ?_
            have hfin := HS3.out
            rw [← HFF.out] at hfin
            refine ⟨rfl, ?_, HB3.out⟩
            rw [HD.out, if_neg (by rw [HE.out]; omega)]
            exact hfin
    · have HW2 : Hid (SAt w B ff ⟨s1.cost, h2, s1.done⟩) := hid (by
        rw [← HH2.out, ← HFF.out]; unfold Pl.dS2; rw [if_neg hnf]; exact HW1.out)
      have HB2 := hid (But.refl B w)
      have HR2 := hid (HW2.out.hopsOf n hn)
      go_enter Tryd.func35, Tryd.ntmps35
      all_goals
        go_wp2_with (refine wpList_load_mid rfl 74 (.tmp 64) rfl B (13 + n * 12) rfl (bools12 (h2 n)) _ HR2.out Tryd.underlying74 rfl infoBools ?_)
        go_loopw [66] (fun i wr => ∃ k : Nat, k ≤ 12 ∧ i = .int .i64 k ∧ Hid (SAt wr B ff ⟨s1.cost, Pl.dS3 n j k h2, s1.done⟩) ∧ Hid (But B w wr)) (fun i _ => 12 - (intOf i).toNat)
        case atStart => exact ⟨0, by omega, rfl, HW2.out.ext (fun _ _ => rfl) (fun i x _ _ => (Pl.dS3_zero n j h2 i x).symm) (fun _ _ => rfl), HB2⟩
        case round =>
          obtain ⟨k, hk, rfl, HS3, HB3⟩ := hrel
          by_cases hlt : k < 12
          · have hg := fun w => run_index_bools (h2 n) k hlt w
            have hk3 := HS3.out.hops j k hj hlt
            have hz3 := CellsAt.soft HS3.out (13 + j * 12 + k)
            have hB3 := CellsAt.lt HS3.out
            obtain ⟨b, HBK⟩ : ∃ b, Hid (h2 n k = b) := ⟨_, rfl⟩
            rw [HBK.out] at hg
            cases b
            case true =>
              go_wp2_with fail
              go_roundw
              case rel => exact ⟨k + 1, by omega, by go_num, (HS3.out.setHop j k hj hlt true).ext (fun _ _ => rfl) (fun i x _ _ => Pl.dS3_on n j k h2 HBK.out i x) (fun _ _ => rfl), HB3.out.setCell _ _⟩
              case measure => simp [intOf]; omega
            case false =>
              go_wp2_with fail
              go_roundw
              case rel => exact ⟨k + 1, by omega, by go_num, HS3.out.ext (fun _ _ => rfl) (fun i x _ _ => Pl.dS3_off n j k h2 HBK.out i x) (fun _ _ => rfl), HB3⟩
              case measure => simp [intOf]; omega
          · obtain rfl : k = 12 := by omega
            go_wp2_with fail
            (try simp only [Exit.inBlock, Exit.then])
            first | refine bodyPost_end (v := .tuple #[]) (by simp [results, Tryd.results35, go_sem]) rfl ?_ | refine bodyPost_ret (v := .tuple #[]) (by simp [results, Tryd.results35, go_sem]) rfl ?_
            have hfin := HS3.out
            rw [← HFF.out] at hfin
            refine ⟨rfl, ?_, HB3.out⟩
            rw [HD.out, if_neg (by rw [HE.out]; omega)]
            exact hfin
end Go.Proofs.YtcdobhdbafpkiacDoor
