/-
  Contracts and facts that the proof rests on, put together out of several texts.
-/
import Derived.Test.YtcdobhdbafpkiadDoorAll2
import Derived.Test.YtcdobhdbafpkiadDoorAll8
import Derived.Test.YtcdobhdbafpkiadDoorAll5
/-
  Contract: a step of a search from a node to the next one.
-/
namespace Go.Proofs.YtcdobhdbafpkiadDoor
open Go.RowKit
set_option maxRecDepth 20000

theorem oneBools : ∀ v ∈ List.replicate 12 (Value.bool false), v.oneCell' = true := by intro v hv; rw [(List.mem_replicate.1 hv).2]; rfl
theorem Pl.dS3_on (n j k : Nat) (h : Nat → Nat → Bool) (hk : h n k = true) (i x : Nat) :
    Pl.upd (Pl.dS3 n j k h) j (Pl.upd (Pl.dS3 n j k h j) k true) i x = Pl.dS3 n j (k + 1) h i x := by
  unfold Pl.dS3 Pl.upd
  by_cases hi : i = j
  · subst hi
    simp only [if_true]
    by_cases hx : x = k
    · subst hx; simp [hk]
    · rw [if_neg hx]
      congr 2
      exact decide_eq_decide.2 (by omega)
  · simp [hi]
theorem Pl.dS3_off (n j k : Nat) (h : Nat → Nat → Bool) (hk : h n k = false) (i x : Nat) :
    Pl.dS3 n j k h i x = Pl.dS3 n j (k + 1) h i x := by
  unfold Pl.dS3 Pl.upd
  by_cases hi : i = j
  · subst hi
    simp only [if_true]
    by_cases hx : x = k
    · subst hx; simp [hk]
    · congr 2
      exact decide_eq_decide.2 (by omega)
  · simp [hi]
theorem Pl.dS3_zero (n j : Nat) (h : Nat → Nat → Bool) (i x : Nat) : Pl.dS3 n j 0 h i x = h i x := by
  unfold Pl.dS3 Pl.upd
  by_cases hi : i = j
  · subst hi; simp
  · simp [hi]

set_option maxHeartbeats 2000000 in
theorem step_any (B f n j : Nat) (c : Int) (s : Pl.DS) (w : World) (h : SAt w B f s) (hn : n < 12) (hj : j < 12) :
    Calls Tryd.prog 49 #[.pointer (some ⟨B, 0, none⟩), .int .i64 n, .int .i64 j, .int .i64 c] w fun e w' => e = .returned (.tuple #[]) ∧ SAt w' B f (Pl.dStep f n j c s) ∧ But B w w' := by
  have HS := hid h
  have hB := CellsAt.lt h
  have hc0 := h.cost j hj
  have hz0 := CellsAt.soft h (1 + j)
  have hf0 := h.from
  clear h
  obtain ⟨q, HQ⟩ : ∃ q, Hid (s.cost j = q) := ⟨_, rfl⟩
  obtain ⟨s1, HS1⟩ : ∃ s1, Hid (Pl.dS1 j c s = s1) := ⟨_, rfl⟩
  obtain ⟨h2, HH2⟩ : ∃ h2, Hid (Pl.dS2 f n j s1.hops = h2) := ⟨_, rfl⟩
  have HD : Hid (Pl.dStep f n j c s = if s1.cost j < c then s1 else ⟨s1.cost, Pl.dS3 n j 12 h2, s1.done⟩) := hid (by unfold Pl.dStep; rw [HS1.out, HH2.out])
  obtain ⟨ff, HFF⟩ : ∃ x, Hid (f = x) := ⟨_, rfl⟩
  rw [HQ.out] at hc0
  have hcase : (q = -1 ∨ c < q) ∨ (q ≠ -1 ∧ q < c) ∨ (q ≠ -1 ∧ q = c) := by omega
  rcases hcase with hq | ⟨hq1, hq2⟩ | ⟨hq1, hq2⟩
  · have HS1' : Hid (s1 = ⟨Pl.upd s.cost j c, Pl.upd s.hops j (fun _ => false), s.done⟩) := hid (by rw [← HS1.out]; unfold Pl.dS1; rw [HQ.out, if_pos hq])
    have HE : Hid (s1.cost j = c) := hid (by rw [HS1'.out]; exact Pl.upd_same _ _ _)
    obtain ⟨w1, HX⟩ : ∃ x, Hid (x = (w.setCell ⟨B, 1 + j, none⟩ (.int .i64 c)).setCells B (13 + j * 12) (List.replicate 12 (.bool false))) := ⟨_, rfl⟩
    have HW1 : Hid (SAt w1 B f s1) := hid (by rw [HX.out, HS1'.out]; exact (HS.out.setCost j hj c).clearHops j hj)
    have HB1 : Hid (But B w w1) := hid (by rw [HX.out]; exact But.setCells _ (13 + j * 12) _ ((But.refl B w).setCell (1 + j) (.int .i64 c)))
    have HT1 := hid (CellsAt.there (HS.out.setCost j hj c) (13 + j * 12) 12 (by omega))
    have hB1 := CellsAt.lt HW1.out
    have hc1 := HW1.out.cost j hj
    rw [HE.out] at hc1
    have hf1 := HW1.out.from
    have hh1 := HW1.out.hops j j hj hj
    have hz1 := CellsAt.soft HW1.out (13 + j * 12 + j)
    by_cases hnf : n = f
    · have HW2 : Hid (SAt (w1.setCell ⟨B, 13 + j * 12 + j, none⟩ (.bool true)) B ff ⟨s1.cost, h2, s1.done⟩) := hid (by
        rw [← HH2.out, ← HFF.out]; unfold Pl.dS2; rw [if_pos hnf]; exact HW1.out.setHop j j hj hj true)
      have HB2 := hid (HB1.out.setCell (13 + j * 12 + j) (.bool true))
      have HR2 := hid (HW2.out.hopsOf n hn)
      subst hnf
      go_enter Tryd.func49, Tryd.ntmps49
      rcases (by omega : q = -1 ∨ (q ≠ -1 ∧ c < q)) with rfl | ⟨hq1, hq⟩
      all_goals
        go_wp2_with (first
          | refine wpList_store_as rfl 55 (.tmp 38) (.tmp 35) rfl B (13 + j * 12) (List.replicate 12 (Value.bool false)) rfl rfl HT1.out infoBools oneBools HX.out ?_
          | refine wpList_load_mid rfl 55 (.tmp 64) rfl B (13 + n * 12) rfl (bools12 (h2 n)) _ HR2.out Tryd.underlying55 rfl infoBools ?_)
        go_loopw [66] (fun i wr => ∃ k : Nat, k ≤ 12 ∧ i = .int .i64 k ∧ Hid (SAt wr B ff ⟨s1.cost, Pl.dS3 n j k h2, s1.done⟩) ∧ Hid (But B w wr)) (fun i _ => 12 - (intOf i).toNat)
        case atStart => exact ⟨0, by omega, rfl, HW2.out.ext (fun _ _ => rfl) (fun i x _ _ => (Pl.dS3_zero n j h2 i x).symm) (fun _ _ => rfl), HB2⟩
        case round =>
          obtain ⟨k, hk, rfl, HS3, HB3⟩ := hrel
          by_cases hlt : k < 12
          · have hg := fun w => run_index_bools (h2 n) k hlt w
            have hk3 := HS3.out.hops j k hj hlt
            have hz3 := CellsAt.soft HS3.out (13 + j * 12 + k)
            have hB3 := CellsAt.lt HS3.out
            obtain ⟨b, HBK⟩ : ∃ b, Hid (h2 n k = b) := ⟨_, rfl⟩
            rw [HBK.out] at hg
            cases b
            case true =>
              go_wp2_with fail
              go_roundw
              case rel => exact ⟨k + 1, by omega, by go_num, (HS3.out.setHop j k hj hlt true).ext (fun _ _ => rfl) (fun i x _ _ => Pl.dS3_on n j k h2 HBK.out i x) (fun _ _ => rfl), HB3.out.setCell _ _⟩
              case measure => simp [intOf]; omega
            case false =>
              go_wp2_with fail
              go_roundw
              case rel => exact ⟨k + 1, by omega, by go_num, HS3.out.ext (fun _ _ => rfl) (fun i x _ _ => Pl.dS3_off n j k h2 HBK.out i x) (fun _ _ => rfl), HB3⟩
              case measure => simp [intOf]; omega
          · obtain rfl : k = 12 := by omega
            go_wp2_with fail
            (try simp only [Exit.inBlock, Exit.then])
            first | refine bodyPost_end (v := .tuple #[]) (by simp [results, Tryd.results49, go_sem]) rfl ?_ | refine bodyPost_ret (v := .tuple #[]) (by simp [results, Tryd.results49, go_sem]) rfl ?_
            have hfin := HS3.out
            rw [← HFF.out] at hfin
            refine ⟨rfl, ?_, HB3.out⟩
            rw [HD.out, if_neg (by rw [HE.out]; omega)]
            exact hfin
    · have HW2 : Hid (SAt w1 B ff ⟨s1.cost, h2, s1.done⟩) := hid (by
        rw [← HH2.out, ← HFF.out]; unfold Pl.dS2; rw [if_neg hnf]; exact HW1.out)
      have HB2 := HB1
      have HR2 := hid (HW2.out.hopsOf n hn)
      go_enter Tryd.func49, Tryd.ntmps49
      rcases (by omega : q = -1 ∨ (q ≠ -1 ∧ c < q)) with rfl | ⟨hq1, hq⟩
      all_goals
        go_wp2_with (first
          | refine wpList_store_as rfl 55 (.tmp 38) (.tmp 35) rfl B (13 + j * 12) (List.replicate 12 (Value.bool false)) rfl rfl HT1.out infoBools oneBools HX.out ?_
          | refine wpList_load_mid rfl 55 (.tmp 64) rfl B (13 + n * 12) rfl (bools12 (h2 n)) _ HR2.out Tryd.underlying55 rfl infoBools ?_)
        go_loopw [66] (fun i wr => ∃ k : Nat, k ≤ 12 ∧ i = .int .i64 k ∧ Hid (SAt wr B ff ⟨s1.cost, Pl.dS3 n j k h2, s1.done⟩) ∧ Hid (But B w wr)) (fun i _ => 12 - (intOf i).toNat)
        case atStart => exact ⟨0, by omega, rfl, HW2.out.ext (fun _ _ => rfl) (fun i x _ _ => (Pl.dS3_zero n j h2 i x).symm) (fun _ _ => rfl), HB2⟩
        case round =>
          obtain ⟨k, hk, rfl, HS3, HB3⟩ := hrel
          by_cases hlt : k < 12
          · have hg := fun w => run_index_bools (h2 n) k hlt w
            have hk3 := HS3.out.hops j k hj hlt
            have hz3 := CellsAt.soft HS3.out (13 + j * 12 + k)
            have hB3 := CellsAt.lt HS3.out
            obtain ⟨b, HBK⟩ : ∃ b, Hid (h2 n k = b) := ⟨_, rfl⟩
            rw [HBK.out] at hg
            cases b
            case true =>
              go_wp2_with fail
              go_roundw
              case rel => exact ⟨k + 1, by omega, by go_num, (HS3.out.setHop j k hj hlt true).ext (fun _ _ => rfl) (fun i x _ _ => Pl.dS3_on n j k h2 HBK.out i x) (fun _ _ => rfl), HB3.out.setCell _ _⟩
              case measure => simp [intOf]; omega
            case false =>
              go_wp2_with fail
              go_roundw
              case rel => exact ⟨k + 1, by omega, by go_num, HS3.out.ext (fun _ _ => rfl) (fun i x _ _ => Pl.dS3_off n j k h2 HBK.out i x) (fun _ _ => rfl), HB3⟩
              case measure => simp [intOf]; omega
          · obtain rfl : k = 12 := by omega
            go_wp2_with fail
            (try simp only [Exit.inBlock, Exit.then])
            first | refine bodyPost_end (v := .tuple #[]) (by simp [results, Tryd.results49, go_sem]) rfl ?_ | refine bodyPost_ret (v := .tuple #[]) (by simp [results, Tryd.results49, go_sem]) rfl ?_
            have hfin := HS3.out
            rw [← HFF.out] at hfin
            refine ⟨rfl, ?_, HB3.out⟩
            rw [HD.out, if_neg (by rw [HE.out]; omega)]
            exact hfin
  · have HS1' : Hid (s1 = s) := hid (by rw [← HS1.out]; unfold Pl.dS1; rw [HQ.out, if_neg (by omega)])
    have hq3 : ¬ c < q := by omega
    have hq4 : ¬ q = -1 := hq1
    go_enter Tryd.func49, Tryd.ntmps49
    go_wp2_with fail
    (try simp only [Exit.inBlock, Exit.then])
    refine bodyPost_ret (v := .tuple #[]) (results_none rfl _ _ _) rfl ?_
    refine ⟨rfl, ?_, But.refl _ _⟩
    rw [HD.out, HS1'.out, HQ.out, if_pos hq2]
    exact HS.out
  · have HS1' : Hid (s1 = s) := hid (by rw [← HS1.out]; unfold Pl.dS1; rw [HQ.out, if_neg (by omega)])
    have HE : Hid (s1.cost j = c) := hid (by rw [HS1'.out, HQ.out, hq2])
    have HW1 : Hid (SAt w B f s1) := hid (by rw [HS1'.out]; exact HS.out)
    have hh1 := HW1.out.hops j j hj hj
    have hz1 := CellsAt.soft HW1.out (13 + j * 12 + j)
    subst hq2
    by_cases hnf : n = f
    · have HW2 : Hid (SAt (w.setCell ⟨B, 13 + j * 12 + j, none⟩ (.bool true)) B ff ⟨s1.cost, h2, s1.done⟩) := hid (by
        rw [← HH2.out, ← HFF.out]; unfold Pl.dS2; rw [if_pos hnf]; exact HW1.out.setHop j j hj hj true)
      have HB2 := hid ((But.refl B w).setCell (13 + j * 12 + j) (.bool true))
      have HR2 := hid (HW2.out.hopsOf n hn)
      subst hnf
      go_enter Tryd.func49, Tryd.ntmps49
      all_goals
        go_wp2_with (refine wpList_load_mid rfl 55 (.tmp 64) rfl B (13 + n * 12) rfl (bools12 (h2 n)) _ HR2.out Tryd.underlying55 rfl infoBools ?_)
        go_loopw [66] (fun i wr => ∃ k : Nat, k ≤ 12 ∧ i = .int .i64 k ∧ Hid (SAt wr B ff ⟨s1.cost, Pl.dS3 n j k h2, s1.done⟩) ∧ Hid (But B w wr)) (fun i _ => 12 - (intOf i).toNat)
        case atStart => exact ⟨0, by omega, rfl, HW2.out.ext (fun _ _ => rfl) (fun i x _ _ => (Pl.dS3_zero n j h2 i x).symm) (fun _ _ => rfl), HB2⟩
        case round =>
          obtain ⟨k, hk, rfl, HS3, HB3⟩ := hrel
          by_cases hlt : k < 12
          · have hg := fun w => run_index_bools (h2 n) k hlt w
            have hk3 := HS3.out.hops j k hj hlt
            have hz3 := CellsAt.soft HS3.out (13 + j * 12 + k)
            have hB3 := CellsAt.lt HS3.out
            obtain ⟨b, HBK⟩ : ∃ b, Hid (h2 n k = b) := ⟨_, rfl⟩
            rw [HBK.out] at hg
            cases b
            case true =>
              go_wp2_with fail
              go_roundw
              case rel => exact ⟨k + 1, by omega, by go_num, (HS3.out.setHop j k hj hlt true).ext (fun _ _ => rfl) (fun i x _ _ => Pl.dS3_on n j k h2 HBK.out i x) (fun _ _ => rfl), HB3.out.setCell _ _⟩
              case measure => simp [intOf]; omega
            case false =>
              go_wp2_with fail
              go_roundw
              case rel => exact ⟨k + 1, by omega, by go_num, HS3.out.ext (fun _ _ => rfl) (fun i x _ _ => Pl.dS3_off n j k h2 HBK.out i x) (fun _ _ => rfl), HB3⟩
              case measure => simp [intOf]; omega
          · obtain rfl : k = 12 := by omega
            go_wp2_with fail
            (try simp only [Exit.inBlock, Exit.then])
            first | refine bodyPost_end (v := .tuple #[]) (by simp [results, Tryd.results49, go_sem]) rfl ?_ | refine bodyPost_ret (v := .tuple #[]) (by simp [results, Tryd.results49, go_sem]) rfl ?_
            have hfin := HS3.out
            rw [← HFF.out] at hfin
            refine ⟨rfl, ?_, HB3.out⟩
            rw [HD.out, if_neg (by rw [HE.out]; omega)]
            exact hfin
    · have HW2 : Hid (SAt w B ff ⟨s1.cost, h2, s1.done⟩) := hid (by
        rw [← HH2.out, ← HFF.out]; unfold Pl.dS2; rw [if_neg hnf]; exact HW1.out)
      have HB2 := hid (But.refl B w)
      have HR2 := hid (HW2.out.hopsOf n hn)
      go_enter Tryd.func49, Tryd.ntmps49
      all_goals
        go_wp2_with (refine wpList_load_mid rfl 55 (.tmp 64) rfl B (13 + n * 12) rfl (bools12 (h2 n)) _ HR2.out Tryd.underlying55 rfl infoBools ?_)
        go_loopw [66] (fun i wr => ∃ k : Nat, k ≤ 12 ∧ i = .int .i64 k ∧ Hid (SAt wr B ff ⟨s1.cost, Pl.dS3 n j k h2, s1.done⟩) ∧ Hid (But B w wr)) (fun i _ => 12 - (intOf i).toNat)
        case atStart => exact ⟨0, by omega, rfl, HW2.out.ext (fun _ _ => rfl) (fun i x _ _ => (Pl.dS3_zero n j h2 i x).symm) (fun _ _ => rfl), HB2⟩
        case round =>
          obtain ⟨k, hk, rfl, HS3, HB3⟩ := hrel
          by_cases hlt : k < 12
          · have hg := fun w => run_index_bools (h2 n) k hlt w
            have hk3 := HS3.out.hops j k hj hlt
            have hz3 := CellsAt.soft HS3.out (13 + j * 12 + k)
            have hB3 := CellsAt.lt HS3.out
            obtain ⟨b, HBK⟩ : ∃ b, Hid (h2 n k = b) := ⟨_, rfl⟩
            rw [HBK.out] at hg
            cases b
            case true =>
              go_wp2_with fail
              go_roundw
              case rel => exact ⟨k + 1, by omega, by go_num, (HS3.out.setHop j k hj hlt true).ext (fun _ _ => rfl) (fun i x _ _ => Pl.dS3_on n j k h2 HBK.out i x) (fun _ _ => rfl), HB3.out.setCell _ _⟩
              case measure => simp [intOf]; omega
            case false =>
              go_wp2_with fail
              go_roundw
              case rel => exact ⟨k + 1, by omega, by go_num, HS3.out.ext (fun _ _ => rfl) (fun i x _ _ => Pl.dS3_off n j k h2 HBK.out i x) (fun _ _ => rfl), HB3⟩
              case measure => simp [intOf]; omega
          · obtain rfl : k = 12 := by omega
            go_wp2_with fail
            (try simp only [Exit.inBlock, Exit.then])
            first | refine bodyPost_end (v := .tuple #[]) (by simp [results, Tryd.results49, go_sem]) rfl ?_ | refine bodyPost_ret (v := .tuple #[]) (by simp [results, Tryd.results49, go_sem]) rfl ?_
            have hfin := HS3.out
            rw [← HFF.out] at hfin
            refine ⟨rfl, ?_, HB3.out⟩
            rw [HD.out, if_neg (by rw [HE.out]; omega)]
            exact hfin
end Go.Proofs.YtcdobhdbafpkiadDoor
/-
  Contract: a search that is run to its end.
-/
namespace Go.Proofs.YtcdobhdbafpkiadDoor
open Go.RowKit
set_option maxRecDepth 20000

/-- no node costs more -/
def Pl.CB (s : Pl.DS) (N : Int) : Prop := ∀ v, -1 ≤ s.cost v ∧ s.cost v ≤ N
theorem Pl.CB.step {s : Pl.DS} {N c : Int} (h : Pl.CB s N) (f n j : Nat) (h0 : -1 ≤ c) (h1 : c ≤ N) : Pl.CB (Pl.dStep f n j c s) N := by
  have e : (Pl.dStep f n j c s).cost = (Pl.dS1 j c s).cost := by unfold Pl.dStep; split <;> rfl
  intro v
  rw [e]
  unfold Pl.dS1
  split
  · simp only [Pl.upd]
    split
    · exact ⟨h0, h1⟩
    · exact h v
  · exact h v
theorem Pl.dRow_cost {L : Nat → Nat → Int} {f n : Nat} {s : Pl.DS} (h : s.cost n ≠ -1) (i : Nat) : (Pl.dRow L f n s i).cost n = s.cost n := by
  induction i with
  | zero => rfl
  | succ i ih =>
    unfold Pl.dRow
    split
    · by_cases hn : n = i
      · subst hn
        rw [Pl.dStep_idle (by rw [ih]; exact h) (by omega)]
        exact ih
      · rw [Pl.dStep_cost_ne hn]; exact ih
    · exact ih
theorem Pl.CB.row {L : Nat → Nat → Int} {f n : Nat} {s : Pl.DS} {N : Int} (hL : ∀ a b, L a b ≤ 1000) (h : Pl.CB s N) (hn : s.cost n ≠ -1) (i : Nat) : Pl.CB (Pl.dRow L f n s i) (N + 1000) := by
  induction i with
  | zero => intro v; have := h v; exact ⟨this.1, by show s.cost v ≤ _; omega⟩
  | succ i ih =>
    unfold Pl.dRow
    split
    · refine ih.step f n i ?_ ?_
      · rw [Pl.dRow_cost hn]; have := h n; omega
      · rw [Pl.dRow_cost hn]; have := h n; have := hL n i; omega
    · exact ih
theorem Pl.CB.iter {L : Nat → Nat → Int} {D : Nat → Bool} {f : Nat} (hL : ∀ a b, L a b ≤ 1000) (k : Nat) : Pl.CB (Pl.dIter L D f k) (1000 * k) := by
  induction k with
  | zero => intro v; show -1 ≤ (if v = f then (0 : Int) else -1) ∧ (if v = f then (0 : Int) else -1) ≤ _; split <;> omega
  | succ k ih =>
    unfold Pl.dIter
    rcases Pl.near_spec (Pl.dIter L D f k) 12 with ⟨h1, _⟩ | ⟨n, h1, h2, h3, h4, h5⟩
    · rw [if_pos h1]; intro v; have := ih v; omega
    · rw [h1, if_neg (by omega), Int.toNat_natCast]
      unfold Pl.dProc
      split
      · intro v; have := ih v; exact ⟨this.1, by show (Pl.dIter L D f k).cost v ≤ _; omega⟩
      · have := Pl.CB.row (f := f) (s := Pl.dDone (Pl.dIter L D f k) n) (n := n) (N := 1000 * k) hL ih h3 12
        intro v; have := this v; omega

def doneAt (w : World) (B i : Nat) : Bool := match w.cell? ⟨B, 157 + i, none⟩ with | some (.bool b) => b | _ => false
theorem SAt.doneAt {w B f s} (h : SAt w B f s) (i : Nat) (hi : i < 12) : Go.Proofs.YtcdobhdbafpkiadDoor.doneAt w B i = s.done i := by unfold Go.Proofs.YtcdobhdbafpkiadDoor.doneAt; rw [h.done i hi]
theorem Pl.cnt_congr {d e : Nat → Bool} (n : Nat) (h : ∀ i, i < n → d i = e i) : Pl.cnt d n = Pl.cnt e n := by
  induction n with
  | zero => rfl
  | succ n ih => unfold Pl.cnt; rw [ih fun i hi => h i (by omega), h n (by omega)]
theorem GAt.fill {w B T M0} (h : GAt w B T M0) (M : Nat → Nat → Int) : GAt (w.setCells B 0 (cells144 M)) B T M := by
  refine (CellsAt.sets _ 0 _ _ h).ext fun o ho => ?_
  rw [cells144_len, if_pos (by omega)]
  simp [cells144, ho]
theorem Pl.say_le {ps : List (Int × Int)} (h : Pl.sidesOk ps) (x : Nat) : 0 ≤ Pl.say ps x ∧ Pl.say ps x ≤ 1000 := by
  have key : ∀ k, k ≤ ps.length → 0 ≤ Pl.sayN ps k x ∧ Pl.sayN ps k x ≤ 1000 := by
    intro k
    induction k with
    | zero => intro _; show (0 : Int) ≤ 0 ∧ (0 : Int) ≤ 1000; omega
    | succ k ih =>
      intro hk
      unfold Pl.sayN Pl.upd
      split
      · have := h.at k (by omega); omega
      · exact ih (by omega)
  exact key _ (Nat.le_refl _)

set_option maxHeartbeats 2000000 in
theorem run_any (B BT f : Nat) (D : Nat → Bool) (ps : Nat → List (Int × Int)) (w : World) (h : SAt w B f (Pl.dInit f)) (hT : ToldAt w BT D ps) (hne : BT ≠ B) (hf : f < 12) (hok : ∀ i, i < 12 → Pl.sidesOk (ps i)) (hL : ∀ a b, Pl.lnk ps a b ≤ 1000) :
    Calls Tryd.prog 30 #[.pointer (some ⟨B, 0, none⟩), .pointer (some ⟨BT, 0, none⟩)] w fun e w' => e = .returned (.tuple #[]) ∧ SAt w' B f (Pl.dIter (Pl.lnk ps) D f 12) ∧ But B w w' := by
  have HS := hid h
  have HT := hid hT
  have HOK := hid hok
  have HL := hid hL
  have hB := CellsAt.lt h
  have hBT := hT.lt
  clear h hT hok hL
  go_enter Tryd.func30, Tryd.ntmps30
  go_wp2_with fail
  refine (linkCosts_any BT D ps w HT.out HOK.out).mono ?_
  rintro e w1 ⟨rfl, hb1⟩
  have HB1 := hid hb1
  have hz1 := hb1.size
  clear hb1
  obtain ⟨M, HM⟩ : ∃ M, Hid (Pl.lnk ps = M) := ⟨_, rfl⟩
  rw [HM.out] at HL ⊢
  have HG0 := hid (GAt.new w1)
  have HTH := hid (CellsAt.there HG0.out 0 144 (by omega))
  rw [← cells144_len M] at HTH
  obtain ⟨w2, HX⟩ : ∃ x, Hid (x = (w1.alloc (.cells Tryd.zeroCells111 111)).setCells w1.heap.size 0 (cells144 M)) := ⟨_, rfl⟩
  have HG : Hid (GAt w2 w1.heap.size 111 M) := hid (by rw [HX.out]; exact HG0.out.fill M)
  have HB2 : Hid (Below w.heap.size w w2) := hid (by
    rw [HX.out]
    exact (HB1.out.alloc hz1 _).trans ((But.setCells _ 0 _ (But.refl w1.heap.size _)).below hz1 (by simp; omega)))
  have HS2 := hid (CellsAt.below HS.out HB2.out)
  have hz2 : w.heap.size ≤ w2.heap.size := HB2.out.size
  have hl2 : w1.heap.size < w2.heap.size := CellsAt.lt HG.out
  go_wp2_with (refine wpList_store_as rfl 111 (.tmp 4) (.tmp 9) rfl w1.heap.size 0 (cells144 M) rfl rfl HTH.out (by rw [cells144_len]; exact infoCosts) (cells144_one _) HX.out ?_)
  refine (nearest_any B f (Pl.dInit f) w2 HS2.out).mono ?_
  rintro e w' ⟨rfl, hw'⟩
  rw [hw']
  clear hw' w'
  go_wp2_with fail
  go_loopw [5] (fun n wr => ∃ (k : Nat) (v : Int), k ≤ 12 ∧ n = .int .i64 v ∧ Hid (v = Pl.near (Pl.dIter M D f k) 12) ∧ Hid (SAt wr B f (Pl.dIter M D f k)) ∧ Hid (But B w2 wr)) (fun _ wr => 12 - Pl.cnt (doneAt wr B) 12)
  case atStart => exact ⟨0, _, by omega, rfl, rfl, HS2.out, But.refl _ _⟩
  case round =>
    obtain ⟨k, v, hk, rfl, HV, HSk, HUk⟩ := hrel
    rcases Pl.near_spec (Pl.dIter M D f k) 12 with ⟨h1, _⟩ | ⟨m, h1, h2, h3, h4, _⟩
    · obtain rfl : v = -1 := by rw [HV.out]; exact h1
      go_wp2_with fail
      (try simp only [Exit.inBlock, Exit.then])
      first | refine bodyPost_end (v := .tuple #[]) (results_none rfl _ _ _) rfl ?_ | refine bodyPost_ret (v := .tuple #[]) (results_none rfl _ _ _) rfl ?_
      refine ⟨rfl, ?_, (But.of HB2.out).trans HUk.out⟩
      rw [HM.out, ← Pl.dIter_stop h1 hk]
      exact HSk.out
    · obtain rfl : v = m := by rw [HV.out]; exact h1
      have hk12 : k < 12 := Pl.dIter_lt (L := M) (D := D) (f := f) (by rw [h1]; omega)
      have HN : Hid (Pl.dIter M D f (k + 1) = Pl.dProc M D f (Pl.dIter M D f k) m) := hid (by
        conv => lhs; unfold Pl.dIter
        rw [h1, if_neg (by omega), Int.toNat_natCast])
      have HCB := hid (Pl.CB.iter (L := M) (D := D) (f := f) HL.out k)
      clear HV
      obtain ⟨s, HSS⟩ : ∃ s, Hid (Pl.dIter M D f k = s) := ⟨_, rfl⟩
      rw [HSS.out] at HSk HN HCB h3 h4
      have h1 := hid h1
      have HCM : Hid (Pl.cnt s.done 12 < Pl.cnt (Pl.dIter M D f (k + 1)).done 12) := hid (by
        rw [HN.out, Pl.dProc_done]; exact Pl.cnt_upd h2 h4)
      have h3 := hid h3
      have h4 := hid h4
      have hBr := CellsAt.lt HSk.out
      have hd := HSk.out.done m h2
      have hdz := CellsAt.soft HSk.out (157 + m)
      have HD1 := hid (HSk.out.setDone m h2 true)
      have hfr := HD1.out.from
      have htd : wr.cell? ⟨BT, m * 2, none⟩ = some (.bool (D m)) := (World.cell?_of_block (w := w2) (HUk.out.block BT (by omega) hne)).trans ((HB2.out.cell (p := ⟨BT, m * 2, none⟩) hBT).trans (HT.out.drain m h2))
      have hBTr : BT < wr.heap.size := by have := HUk.out.size; omega
      have htd2 : (wr.setCell ⟨B, 157 + m, none⟩ (.bool true)).cell? ⟨BT, m * 2, none⟩ = some (.bool (D m)) := (World.cell?_of_block (w := wr) (Below.heap_setCell _ _ _ _ hne)).trans htd
      have HRW : Hid ((wr.setCell ⟨B, 157 + m, none⟩ (.bool true)).rangeAt w1.heap.size (m * 12) (ints12 (M m))) := hid (GAt.row (T := 111) (CellsAt.but HG.out (HUk.out.setCell (157 + m) (.bool true)) (by omega)) m h2)
      obtain ⟨d, HD⟩ : ∃ d, Hid (D m = d) := ⟨_, rfl⟩
      rw [HD.out] at htd htd2
      by_cases hdr : d = true ∧ m ≠ f
      · obtain ⟨rfl, hmf⟩ := hdr
        have hmf' : ¬ ((m : Int) = (f : Int)) := by omega
        have HP : Hid (Pl.dProc M D f s m = Pl.dDone s m) := hid (by unfold Pl.dProc; rw [HD.out, if_pos ⟨rfl, hmf⟩])
        go_wp2_with fail
        refine (nearest_any B f _ _ HD1.out).mono ?_
        rintro e w' ⟨rfl, hw'⟩
        rw [hw']
        clear hw' w'
        go_wp2_with fail
        go_roundw
        case rel => exact ⟨k + 1, _, by omega, rfl, hid (by rw [HN.out, HP.out]; rfl), hid (by rw [HN.out, HP.out]; exact HD1.out), HUk.out.setCell _ _⟩
        case measure =>
          have e1 : Pl.cnt (doneAt wr B) 12 = Pl.cnt s.done 12 := Pl.cnt_congr 12 fun i hi => HSk.out.doneAt i hi
          have e2 : Pl.cnt (doneAt (wr.setCell ⟨B, 157 + m, none⟩ (.bool true)) B) 12 = Pl.cnt (Pl.upd s.done m true) 12 := Pl.cnt_congr 12 fun i hi => HD1.out.doneAt i hi
          have e3 := HCM.out
          rw [HN.out, Pl.dProc_done] at e3
          have e4 := Pl.cnt_le (Pl.upd s.done m true) 12
          rw [e1, e2]
          omega
      · have HP : Hid (Pl.dProc M D f s m = Pl.dRow M f m (Pl.dDone s m) 12) := hid (by unfold Pl.dProc; rw [HD.out, if_neg hdr])
        have HCR := hid (fun j => Pl.CB.row (L := M) (f := f) (s := Pl.dDone s m) (n := m) (N := 1000 * k) HL.out HCB.out h3.out j)
        rename World => w4
        have hcase : d = false ∨ (d = true ∧ ((m : Int) != (f : Int)) = false ∧ ((m : Int) == (f : Int)) = true) := by
          cases d
          · exact .inl rfl
          · have : m = f := Classical.byContradiction fun g => hdr ⟨rfl, g⟩
            exact .inr ⟨rfl, by rw [this]; simp, by rw [this]; simp⟩
        rcases hcase with rfl | ⟨rfl, hmf1, hmf2⟩
        all_goals
          go_wp2_with (refine wpList_load_mid rfl 53 (.tmp 36) rfl w1.heap.size (m * 12) rfl (ints12 (M m)) _ HRW.out Tryd.underlying53 rfl infoInts ?_)
          go_loopw [38] (fun i wr => ∃ j : Nat, j ≤ 12 ∧ i = .int .i64 j ∧ Hid (SAt wr B f (Pl.dRow M f m (Pl.dDone s m) j)) ∧ Hid (But B w2 wr)) (fun i _ => 12 - (intOf i).toNat)
          case atStart => exact ⟨0, by omega, rfl, HD1.out, HUk.out.setCell _ _⟩
          case round =>
            obtain ⟨j, hj, rfl, HSj, HUj⟩ := hrel
            by_cases hlt : j < 12
            · have hg := fun w => run_index_ints (M m) j hlt w
              have hcm := HSj.out.cost m h2
              have hBj := CellsAt.lt HSj.out
              obtain ⟨x, HXC⟩ : ∃ x, Hid ((Pl.dRow M f m (Pl.dDone s m) j).cost m = x) := ⟨_, rfl⟩
              rw [HXC.out] at hcm
              obtain ⟨y, HY⟩ : ∃ y, Hid (M m j = y) := ⟨_, rfl⟩
              rw [HY.out] at hg
              have hx1 : -1 ≤ x := by rw [← HXC.out]; exact (HCR.out j m).1
              have hx2 : x ≤ 20000 := by have := (HCR.out j m).2; rw [HXC.out] at this; omega
              have hy2 : y ≤ 1000 := by rw [← HY.out]; exact HL.out m j
              by_cases hy : 0 < y
              · have HRS : Hid (Pl.dRow M f m (Pl.dDone s m) (j + 1) = Pl.dStep f m j (x + y) (Pl.dRow M f m (Pl.dDone s m) j)) := hid (by
                  conv => lhs; unfold Pl.dRow
                  rw [HY.out, if_pos hy, HXC.out])
                go_wp2_with fail
                refine (step_any B f m j (x + y) _ _ HSj.out h2 hlt).mono ?_
                rintro e w5 ⟨rfl, hs5, hu5⟩
                have HS5 := hid hs5
                have HU5 := hid hu5
                clear hs5 hu5
                go_wp2_with fail
                go_roundw
                case rel => exact ⟨j + 1, by omega, by go_num, hid (by rw [HRS.out]; exact HS5.out), HUj.out.trans HU5.out⟩
                case measure => simp [intOf]; omega
              · have HRS : Hid (Pl.dRow M f m (Pl.dDone s m) (j + 1) = Pl.dRow M f m (Pl.dDone s m) j) := hid (by
                  conv => lhs; unfold Pl.dRow
                  rw [HY.out, if_neg hy])
                go_wp2_with fail
                go_roundw
                case rel => exact ⟨j + 1, by omega, by go_num, hid (by rw [HRS.out]; exact HSj.out), HUj⟩
                case measure => simp [intOf]; omega
            · obtain rfl : j = 12 := by omega
              go_wp2_with fail
              refine (nearest_any B f _ _ HSj.out).mono ?_
              rintro e w' ⟨rfl, hw'⟩
              rw [hw']
              clear hw' w'
              go_wp2_with fail
              go_roundw
              case rel => exact ⟨k + 1, _, by omega, rfl, hid (by rw [HN.out, HP.out]), hid (by rw [HN.out, HP.out]; exact HSj.out), HUj⟩
              case measure =>
                have e1 : Pl.cnt (doneAt w4 B) 12 = Pl.cnt s.done 12 := Pl.cnt_congr 12 fun i hi => HSk.out.doneAt i hi
                have e2 : Pl.cnt (doneAt wr B) 12 = Pl.cnt (Pl.upd s.done m true) 12 := Pl.cnt_congr 12 fun i hi => by rw [HSj.out.doneAt i hi, Pl.dRow_done]; rfl
                have e3 := HCM.out
                rw [HN.out, Pl.dProc_done] at e3
                have e4 := Pl.cnt_le (Pl.upd s.done m true) 12
                rw [e1, e2]
                omega
end Go.Proofs.YtcdobhdbafpkiadDoor
/-
  Contract: what a search has found, as a list of ways.
-/
namespace Go.Proofs.YtcdobhdbafpkiadDoor
open Go.RowKit
set_option maxRecDepth 20000

def cellsI (xs : List Int) : List Value := xs.map fun x => .int .i64 x
/-- a slice value over a row of numbers of the call's own -/
def OwnI (w : World) (base : Nat) (v : Value) (xs : List Int) : Prop := w.ownsRow base 3 1 v xs.length (cellsI xs)
theorem OwnI.nil (w : World) (base : Nat) : OwnI w base (.slice none 0 0) [] := World.ownsRow_nil _ _ _ _
theorem OwnI.below {w w' : World} {base : Nat} {v : Value} {xs : List Int} (h : OwnI w base v xs) (k : Below w.heap.size w w') : OwnI w' base v xs := ownsRow_under h k
theorem OwnI.mono {w : World} {base base' : Nat} {v : Value} {xs : List Int} (h : OwnI w base v xs) (k : base' ≤ base) : OwnI w base' v xs := by
  obtain ⟨h0, h1⟩ := h
  refine ⟨h0, ?_⟩
  rcases h1 with h1 | ⟨g, cap, cur, rfl, hb, hr⟩
  · exact .inl h1
  · exact .inr ⟨g, cap, cur, rfl, by omega, hr⟩
theorem OwnI.slice {w : World} {base : Nat} {v : Value} {xs : List Int} (h : OwnI w base v xs) : ∃ a cap, v = .slice a xs.length cap := by
  obtain ⟨_, ⟨h, h1⟩ | ⟨g, cap, cur, rfl, _⟩⟩ := h
  · rw [h1]; exact ⟨_, _, h⟩
  · exact ⟨_, _, rfl⟩
theorem infoInt : (Tryd.prog.info? 3).map (fun i => (i.zero, i.size, i.bytes)) = some (some (.int .i64 0), 1, 8) := by kernel_rfl
theorem append_intT {tS : TypeId} (hS : Tryd.prog.underlying tS = some (.slice 3))
    {w : World} {ops : Array Oper} {rest : List Oper} {o : Oper} {a : Act} {Q : Exit → Act → World → Prop} (hgd : o.guard = none) (s x : Operand)
    (ho : o.op = .call { callee := .builtin .append, args := #[s, x], argTypes := #[tS, tS] })
    (base : Nat) (v : Value) (xs : List Int) (p : Int) (hs : a.eval s = v) (hown : OwnI w base v xs) (hbase : base ≤ w.heap.size) (hx : a.eval x = .slice (some ⟨w.heap.size, 0, none⟩) 1 1) (hb : xs.length ≤ 1000000)
    (h : ∀ v' w', OwnI w' base v' (xs ++ [p]) → Below base w w' → wpList Tryd.prog ops Q rest (a.put o.dst v') w') :
    wpList Tryd.prog ops Q (o :: rest) a (w.alloc (.cells #[.int .i64 p] 3)) := by
  obtain ⟨i0, hi0, hz0, hz1, hz2⟩ := partsOf infoInt
  refine wpList_append_own (w := _) hgd s x tS ho base 3 i0 _ 1 8 hS hi0 hz0 hz1 hz2 rfl (by decide) _ xs.length (cellsI xs) hs (World.ownsRow.alloc hown _) ⟨w.heap.size, 0, none⟩ 1 1 [.int .i64 p] hx rfl ?_ ?_ (by unfold maxLen; omega) (by omega) (by simp; omega) ?_
  · intro j u hj
    rw [add_none]
    match j, hj with
    | 0, hj => simp at hj; subst hj; simp
  · intro u hu; simp at hu; subst hu; rfl
  · intro v' w' hown' hg _
    have hlt := World.ownsRow.lt hown
    refine h v' w' ?_ (((Below.refl _ _).alloc hbase _).grown hg (by simp; omega) (fun k hk => (hlt k hk).1))
    unfold OwnI
    simpa [cellsI] using hown'

/-- ways as they lie in memory: a cost, the value of the hops, and what they are -/
def cellsW : List (Int × Value × List Int) → List Value
  | [] => []
  | t :: r => .int .i64 t.1 :: t.2.1 :: cellsW r
theorem cellsW_append : ∀ a b : List (Int × Value × List Int), cellsW (a ++ b) = cellsW a ++ cellsW b
  | [], _ => rfl
  | t :: r, b => by simp [cellsW, cellsW_append r b]
def OwnW (w : World) (base : Nat) (v : Value) (ts : List (Int × Value × List Int)) : Prop :=
  w.ownsRow base 52 2 v ts.length (cellsW ts) ∧ ∀ t ∈ ts, OwnI w 0 t.2.1 t.2.2
theorem OwnW.nil (w : World) (base : Nat) : OwnW w base (.slice none 0 0) [] := ⟨World.ownsRow_nil _ _ _ _, by simp⟩
theorem OwnW.below {w w' : World} {base : Nat} {v : Value} {ts : List (Int × Value × List Int)} (h : OwnW w base v ts) (k : Below w.heap.size w w') : OwnW w' base v ts :=
  ⟨ownsRow_under h.1 k, fun t ht => (h.2 t ht).below k⟩
theorem OwnW.slice {w : World} {base : Nat} {v : Value} {ts : List (Int × Value × List Int)} (h : OwnW w base v ts) : ∃ a cap, v = .slice a ts.length cap := by
  obtain ⟨⟨_, ⟨h, h1⟩ | ⟨g, cap, cur, rfl, _⟩⟩, _⟩ := h
  · rw [h1]; exact ⟨_, _, h⟩
  · exact ⟨_, _, rfl⟩
theorem infoWay : (Tryd.prog.info? 52).map (fun i => (i.zero, i.size, i.bytes)) = some (some (.agg #[.int .i64 0, .slice none 0 0]), 2, 32) := by kernel_rfl
theorem append_wayT
    {w : World} {ops : Array Oper} {rest : List Oper} {o : Oper} {a : Act} {Q : Exit → Act → World → Prop} (hgd : o.guard = none) (s x : Operand)
    (ho : o.op = .call { callee := .builtin .append, args := #[s, x], argTypes := #[47, 47] })
    (base : Nat) (v : Value) (ts : List (Int × Value × List Int)) (c : Int) (hv : Value) (xs : List Int) (hs : a.eval s = v) (hown : OwnW w base v ts) (hh : OwnI w 0 hv xs) (hbase : base ≤ w.heap.size) (hx : a.eval x = .slice (some ⟨w.heap.size, 0, none⟩) 1 1) (hb : ts.length ≤ 1000000)
    (h : ∀ v' w', OwnW w' base v' (ts ++ [(c, hv, xs)]) → Below base w w' → wpList Tryd.prog ops Q rest (a.put o.dst v') w') :
    wpList Tryd.prog ops Q (o :: rest) a (w.alloc (.cells #[.int .i64 c, hv] 52)) := by
  obtain ⟨i0, hi0, hz0, hz1, hz2⟩ := partsOf infoWay
  obtain ⟨ah, caph, rfl⟩ := hh.slice
  refine wpList_append_own (w := _) hgd s x 47 ho base 52 i0 _ 2 32 Tryd.underlying47 hi0 hz0 hz1 hz2 rfl (by decide) _ ts.length (cellsW ts) hs (World.ownsRow.alloc hown.1 _) ⟨w.heap.size, 0, none⟩ 1 1 [.int .i64 c, .slice ah xs.length caph] hx rfl ?_ ?_ (by unfold maxLen; omega) (by omega) (by simp; omega) ?_
  · intro j u hj
    rw [add_none]
    match j, hj with
    | 0, hj => simp at hj; subst hj; simp
    | 1, hj => simp at hj; subst hj; simp
  · intro u hu; simp at hu; rcases hu with rfl | rfl <;> rfl
  · intro v' w' hown' hg _
    have hlt := World.ownsRow.lt hown.1
    refine h v' w' ⟨?_, ?_⟩ (((Below.refl _ _).alloc hbase _).grown hg (by simp; omega) (fun k hk => (hlt k hk).1))
    · rw [cellsW_append]
      simpa [cellsW] using hown'
    · have key : ∀ hv' xs', OwnI w 0 hv' xs' → OwnI w' 0 hv' xs' := by
        intro hv' xs' ⟨q0, q1⟩
        refine ⟨q0, ?_⟩
        rcases q1 with q1 | ⟨g, cap, cur, rfl, qb, qh, qr⟩
        · exact .inl q1
        · refine .inr ⟨g, cap, cur, rfl, qb, ?_, qr⟩
          have hgl := blockLt qh
          rw [hg.block g (by simp; omega) ?_, Below.heap_alloc _ _ _ hgl]
          · exact qh
          · intro e
            rcases hown.1.2 with ⟨rfl, _⟩ | ⟨g2, cap2, cur2, rfl, _, qh2, _⟩
            · simp [Value.ownBlock] at e
            · simp only [Value.ownBlock, Option.some.injEq] at e
              rw [e, qh2] at qh
              simp at qh
      intro t ht
      simp only [List.mem_append, List.mem_singleton] at ht
      rcases ht with ht | rfl
      · exact key _ _ (hown.2 t ht)
      · exact key _ _ hh

def Pl.hopsL (h : Nat → Bool) : Nat → List Int
  | 0 => []
  | k + 1 => if h k = true then Pl.hopsL h k ++ [(k : Int)] else Pl.hopsL h k
theorem Pl.hopsL_len (h : Nat → Bool) (k : Nat) : (Pl.hopsL h k).length ≤ k := by
  induction k with
  | zero => exact Nat.le_refl _
  | succ k ih =>
    unfold Pl.hopsL
    split
    · rw [List.length_append]; show _ + 1 ≤ _; omega
    · omega
theorem Pl.hopsL_on {h : Nat → Bool} {k : Nat} (e : h k = true) : Pl.hopsL h (k + 1) = Pl.hopsL h k ++ [(k : Int)] := by
  show (if h k = true then _ else _) = _
  rw [if_pos e]
theorem Pl.hopsL_off {h : Nat → Bool} {k : Nat} (e : h k = false) : Pl.hopsL h (k + 1) = Pl.hopsL h k := by
  show (if h k = true then _ else _) = _
  rw [if_neg (by rw [e]; decide)]
def Pl.wayL (s : Pl.DS) : Nat → List (Int × List Int)
  | 0 => []
  | k + 1 => Pl.wayL s k ++ [(s.cost k, Pl.hopsL (s.hops k) 12)]
def Pl.flat (ts : List (Int × Value × List Int)) : List (Int × List Int) := ts.map fun t => (t.1, t.2.2)

set_option maxHeartbeats 2000000 in
theorem ways_any (B f : Nat) (s : Pl.DS) (w : World) (h : SAt w B f s) :
    Calls Tryd.prog 31 #[.pointer (some ⟨B, 0, none⟩)] w fun e w' => ∃ v ts, e = .returned v ∧ OwnW w' w.heap.size v ts ∧ Pl.flat ts = Pl.wayL s 12 ∧ Below w.heap.size w w' := by
  have HS := hid h
  have hB := CellsAt.lt h
  clear h
  go_enter Tryd.func31, Tryd.ntmps31
  go_wp2_with fail
  go_loopw [3, 8] (fun vl i wr => ∃ (k : Nat) (v : Value) (ts : List (Int × Value × List Int)), v = vl ∧ k ≤ 12 ∧ i = .int .i64 k ∧ Hid (OwnW wr w.heap.size v ts) ∧ Hid (Pl.flat ts = Pl.wayL s k) ∧ Hid (ts.length = k) ∧ Hid (Below w.heap.size w wr)) (fun _ i _ => 12 - (intOf i).toNat)
  case atStart => exact ⟨0, .slice none 0 0, [], rfl, by omega, rfl, OwnW.nil _ _, rfl, rfl, Below.refl _ _⟩
  case round =>
    obtain ⟨k, v, ts, hvl, hk, rfl, HO, HF, HN, HB⟩ := hrel
    subst hvl
    by_cases hlt : k < 12
    · have HSr := hid (CellsAt.below HS.out HB.out)
      have hc := SAt.cost HSr.out k hlt
      have hBr := CellsAt.lt HSr.out
      obtain ⟨c, HC⟩ : ∃ c, Hid (s.cost k = c) := ⟨_, rfl⟩
      rw [HC.out] at hc
      obtain ⟨H, HH⟩ : ∃ x, Hid (s.hops k = x) := ⟨_, rfl⟩
      have HRH : Hid ((wr.alloc (.cells #[.int .i64 c, .slice none 0 0] 52)).rangeAt B (13 + k * 12) (bools12 H)) := hid (by
        rw [← HH.out]; exact World.rangeAt_alloc (SAt.hopsOf HSr.out k hlt) _)
      rename World => w4
      go_wp2_with (refine wpList_load_mid rfl 55 (.tmp 22) rfl B (13 + k * 12) rfl (bools12 H) _ HRH.out Tryd.underlying55 rfl infoBools ?_)
      go_loopw [24] (fun i wr => ∃ (j : Nat) (hv : Value), j ≤ 12 ∧ i = .int .i64 j ∧ Hid (wr.heap[w4.heap.size]? = some (.cells #[.int .i64 c, hv] 52)) ∧ Hid (OwnI wr (w4.heap.size + 1) hv (Pl.hopsL H j)) ∧ Hid (Below w4.heap.size w4 wr)) (fun i _ => 12 - (intOf i).toNat)
      case atStart => exact ⟨0, .slice none 0 0, by omega, rfl, heapNew _ _, OwnI.nil _ _, (Below.refl _ _).alloc (Nat.le_refl _) _⟩
      case round =>
        obtain ⟨j, hv, hj, rfl, HA, HI, HB4⟩ := hrel
        obtain ⟨a3, cap3, rfl⟩ := HI.out.slice
        obtain ⟨z0, z1, f0, f1, hAr⟩ := adjAt_cells HA.out
        by_cases hjl : j < 12
        · have hg := fun w => run_index_bools H j hjl w
          obtain ⟨b, HBK⟩ : ∃ b, Hid (H j = b) := ⟨_, rfl⟩
          rw [HBK.out] at hg
          have hlen := Pl.hopsL_len H j
          obtain ⟨n3, HN3⟩ : ∃ n, Hid ((Pl.hopsL H j).length = n) := ⟨_, rfl⟩
          rw [HN3.out] at HA HI z1 hlen
          cases b
          case true =>
            have HNX := hid (Pl.hopsL_on HBK.out)
            go_wp2_with (at_builtin; refine append_intT Tryd.underlying50 rfl (.tmp 30) (.tmp 32) rfl (w4.heap.size + 1) (.slice a3 n3 cap3) (Pl.hopsL H j) j rfl HI.out (by omega) rfl (by have := HN3.out; omega) ?_; intro v5 w5 ho5 hb5; obtain ⟨a5, cap5, rfl⟩ := ho5.slice; obtain ⟨n5, HN5⟩ : ∃ n, Hid ((Pl.hopsL H j ++ [(j : Int)]).length = n) := ⟨_, rfl⟩; rw [HN5.out] at ho5; have HO5 := hid ho5; have HB5 := hid hb5; have h5 := (hb5.block w4.heap.size (Nat.lt_succ_self _)).trans HA.out; obtain ⟨y0, y1, g0, g1, hA5⟩ := adjAt_cells h5; have H5 := hid h5; rw [HN5.out]; clear ho5 hb5 h5)
            go_roundw
            case rel =>
              refine ⟨j + 1, .slice a5 n5 cap5, by omega, by go_num, adjAt_set H5.out _, hid ?_, (HB4.out.trans (HB5.out.mono (Nat.le_succ _))).setCell (Nat.le_refl _) _⟩
              rw [HNX.out]
              exact ownsRow_setCell_below HO5.out (Nat.lt_succ_self _) _
            case measure => simp [intOf]; omega
          case false =>
            have HNX := hid (Pl.hopsL_off HBK.out)
            go_wp2_with fail
            go_roundw
            case rel => exact ⟨j + 1, .slice a3 n3 cap3, by omega, by go_num, HA, hid (by rw [HNX.out]; exact HI.out), HB4⟩
            case measure => simp [intOf]; omega
        · obtain rfl : j = 12 := by omega
          have HOr := hid (HO.out.below HB4.out)
          have HI0 := hid (HI.out.mono (Nat.zero_le _))
          obtain ⟨n3, HN3⟩ : ∃ n, Hid ((Pl.hopsL H 12).length = n) := ⟨_, rfl⟩
          rw [HN3.out] at HA HI HI0 z1
          have hz4 := HB.out.size
          have hzr := HB4.out.size
          go_wp2_with (at_builtin; refine append_wayT rfl (.tmp 36) (.tmp 38) rfl w.heap.size v ts c (.slice a3 n3 cap3) (Pl.hopsL H 12) rfl HOr.out HI0.out (by omega) rfl (by have := HN.out; omega) ?_; intro v5 w5 ho5 hb5; have HO5 := hid ho5; have HB5 := hid hb5; clear ho5 hb5)
          go_roundw
          case rel =>
            refine ⟨k + 1, _, ts ++ [(c, .slice a3 n3 cap3, Pl.hopsL H 12)], rfl, by omega, by go_num, HO5, hid ?_, hid (by simp [HN.out]), (HB.out.trans (HB4.out.mono hz4)).trans HB5.out⟩
            show (ts ++ _).map _ = Pl.wayL s k ++ _
            rw [List.map_append, ← HF.out, ← HC.out, ← HH.out]
            rfl
          case measure => simp [intOf]; omega
    · obtain rfl : k = 12 := by omega
      go_wp2_with fail
      go_ret
      exact ⟨_, ts, rfl, HO.out, HF.out, HB.out⟩
end Go.Proofs.YtcdobhdbafpkiadDoor
/-
  Contracts: what Get and the document's GotOf answer at every list of entries and every key.
-/
namespace Go.Proofs.YtcdobhdbafpkiadDoor
open Go.RowKit
set_option maxRecDepth 20000

/-- the entry that is told -/
def Pl.gotE (es : List Pl.Ent) (key : ByteArray) : Pl.Ent := if Pl.fault es = 0 then (if Pl.there es key then Pl.ent es (Pl.pos es key) else Pl.Ent.none) else Pl.Ent.none
def Pl.gotC (es : List Pl.Ent) (key : ByteArray) : Int := if Pl.fault es = 0 then (if Pl.there es key then 0 else 6) else Pl.fault es

set_option maxHeartbeats 400000 in
theorem Get_any (a : Option Addr) (len cap : Nat) (es : List Pl.Ent) (key : ByteArray) (w : World) (h : IsEnts w a len cap es) :
    Calls Tryd.prog 32 #[.slice a len cap, .string key] w fun e w' =>
      e = .returned (.tuple #[.agg #[.string (Pl.gotE es key).key, .int .i64 (Pl.gotE es key).ver, .int .i64 (Pl.gotE es key).org, .string (Pl.gotE es key).val], .int .i64 (Pl.gotC es key)]) ∧ Below w.heap.size w w' := by
  have HH : Hid (IsEnts w a len cap es) := h
  clear h
  obtain ⟨c, HC⟩ : ∃ c, Hid (Pl.fault es = c) := ⟨_, rfl⟩
  by_cases hc0 : c = 0
  · subst hc0
    obtain ⟨g1, g2, g3⟩ := Pl.good_of_fault HC.out
    have hlen : es.length = len := HH.out.1
    have HL : Hid (len ≤ 60) := by show _ ≤ _; omega
    have HA : Hid (Pl.Asc es) := g3
    clear g1 g2 g3
    obtain ⟨t, HT⟩ : ∃ t, Hid (Pl.there es key = t) := ⟨_, rfl⟩
    cases t
    · have HE : Hid (Pl.gotE es key = Pl.Ent.none ∧ Pl.gotC es key = 6) := by unfold Pl.gotE Pl.gotC; rw [HC.out, HT.out]; exact ⟨rfl, rfl⟩
      go_enter Tryd.func32, Tryd.ntmps32
      go_wp2_with fail
      refine (Check_any _ _ _ es _ (HH.out.below ((Below.refl _ _).alloc (Nat.le_refl _) _))).mono ?_
      rw [HC.out]
      rintro e w1 ⟨rfl, hb1⟩
      have hz := hb1.size
      simp at hz
      go_wp2_with fail
      refine (find_any _ _ _ es key _ (HH.out.below (((Below.refl _ _).alloc (Nat.le_refl _) _).trans (hb1.mono (by simp)))) HA.out HL.out).mono ?_
      rw [HT.out]
      rintro e w2 ⟨rfl, hb2⟩
      have hb12 := hb1.trans (hb2.mono (by simp; omega))
      obtain ⟨hcc, hff⟩ := bcell hb12
      go_wp2_with fail
      refine bodyPost_ret (v := .tuple #[.agg #[.string (Pl.gotE es key).key, .int .i64 (Pl.gotE es key).ver, .int .i64 (Pl.gotE es key).org, .string (Pl.gotE es key).val], .int .i64 (Pl.gotC es key)]) (by rw [HE.out.1, HE.out.2]; simp [results, Tryd.results32, go_sem, hcc, Pl.Ent.none]) rfl ⟨rfl, ((((((Below.refl _ _).alloc (Nat.le_refl _) _).trans (hb12.mono (by simp))).setCell (Nat.le_refl _) _).setCell (Nat.le_refl _) _).setCell (Nat.le_refl _) _).setCell (Nat.le_refl _) _⟩
    · have hlt : Pl.pos es key < len := by
        have := HT.out
        unfold Pl.there at this
        simp only [Bool.and_eq_true, decide_eq_true_eq] at this
        omega
      have HE : Hid (Pl.gotE es key = Pl.ent es (Pl.pos es key) ∧ Pl.gotC es key = 0) := by unfold Pl.gotE Pl.gotC; rw [HC.out, HT.out]; exact ⟨rfl, rfl⟩
      obtain ⟨p, HP⟩ : ∃ p, Hid (Pl.pos es key = p) := ⟨_, rfl⟩
      rw [HP.out] at hlt HE
      obtain ⟨b, off, rfl, hbw, hr⟩ : ∃ b off, a = some ⟨b, off, none⟩ ∧ b < w.heap.size ∧ RowAt w b off es := by
        rcases HH.out.2.2.2.2 with h | h
        · rw [h] at hlen; simp at hlen; omega
        · exact h
      have hcap := HH.out.2.1
      have hm := HH.out.2.2.1
      unfold maxLen at hm
      obtain ⟨q0, q1, q2, q3⟩ := hr p (by omega)
      have hlt' : (p : Int) < (len : Int) := by omega
      go_enter Tryd.func32, Tryd.ntmps32
      go_wp2_with fail
      refine (Check_any _ _ _ es _ (HH.out.below ((Below.refl _ _).alloc (Nat.le_refl _) _))).mono ?_
      rw [HC.out]
      rintro e w1 ⟨rfl, hb1⟩
      have hz := hb1.size
      simp at hz
      go_wp2_with fail
      refine (find_any _ _ _ es key _ (HH.out.below (((Below.refl _ _).alloc (Nat.le_refl _) _).trans (hb1.mono (by simp)))) HA.out HL.out).mono ?_
      rw [HT.out, HP.out]
      rintro e w2 ⟨rfl, hb2⟩
      have hb12 := hb1.trans (hb2.mono (by simp; omega))
      obtain ⟨hcc, hff⟩ := bcell hb12
      go_wp2_with fail
      refine bodyPost_ret (v := .tuple #[.agg #[.string (Pl.gotE es key).key, .int .i64 (Pl.gotE es key).ver, .int .i64 (Pl.gotE es key).org, .string (Pl.gotE es key).val], .int .i64 (Pl.gotC es key)]) (by rw [HE.out.1, HE.out.2]; simp [results, Tryd.results32, go_sem, hcc]) rfl ⟨rfl, ((((((Below.refl _ _).alloc (Nat.le_refl _) _).trans (hb12.mono (by simp))).setCell (Nat.le_refl _) _).setCell (Nat.le_refl _) _).setCell (Nat.le_refl _) _).setCell (Nat.le_refl _) _⟩
  · have hcn : (c != 0) = true := by simp [hc0]
    have HE : Hid (Pl.gotE es key = Pl.Ent.none ∧ Pl.gotC es key = c) := by unfold Pl.gotE Pl.gotC; rw [HC.out, if_neg hc0, if_neg hc0]; exact ⟨rfl, rfl⟩
    clear hc0
    go_enter Tryd.func32, Tryd.ntmps32
    go_wp2_with fail
    refine (Check_any _ _ _ es _ (HH.out.below ((Below.refl _ _).alloc (Nat.le_refl _) _))).mono ?_
    rw [HC.out]
    rintro e w1 ⟨rfl, hb12⟩
    obtain ⟨hcc, hff⟩ := bcell hb12
    go_wp2_with fail
    refine bodyPost_ret (v := .tuple #[.agg #[.string (Pl.gotE es key).key, .int .i64 (Pl.gotE es key).ver, .int .i64 (Pl.gotE es key).org, .string (Pl.gotE es key).val], .int .i64 (Pl.gotC es key)]) (by rw [HE.out.1, HE.out.2]; simp [results, Tryd.results32, go_sem, hcc, Pl.Ent.none]) rfl ⟨rfl, ((((((Below.refl _ _).alloc (Nat.le_refl _) _).trans (hb12.mono (by simp))).setCell (Nat.le_refl _) _).setCell (Nat.le_refl _) _).setCell (Nat.le_refl _) _).setCell (Nat.le_refl _) _⟩

end Go.Proofs.YtcdobhdbafpkiadDoor
/-
  Contracts: where a node tells of its links (AdjKey), and what it tells (toldAdj).
-/
namespace Go.Proofs.YtcdobhdbafpkiadDoor
open Go.RowKit
set_option maxRecDepth 20000

def Pl.adjKey (n : Int) : ByteArray := ⟨#[97, 58]⟩ ++ Pl.dec n
def Pl.pfxKey (n : Int) : ByteArray := ⟨#[112, 58]⟩ ++ Pl.dec n
theorem Pl.adjKey_size (n : Int) (h0 : 0 ≤ n) (h1 : n ≤ 1000) : (Pl.adjKey n).size ≤ 23 := by
  unfold Pl.adjKey
  rw [ByteArray.size_append]
  have := Pl.dec_le n h0 h1
  show 2 + _ ≤ 23
  omega
/-- what a node's entry says -/
def Pl.toldV (es : List Pl.Ent) (n : Int) : ByteArray := (Pl.gotE es (Pl.adjKey n)).val
theorem Pl.gotE_val (es : List Pl.Ent) (k : ByteArray) : (Pl.gotE es k).val.size ≤ 120 := by
  unfold Pl.gotE
  split
  · rename_i hf
    split
    · rename_i ht
      obtain ⟨h1, h2, h3⟩ := Pl.good_of_fault hf
      have hp : Pl.pos es k < es.length := by unfold Pl.there at ht; simp only [Bool.and_eq_true, decide_eq_true_eq] at ht; exact ht.1
      have := h2 _ hp
      unfold Pl.Ent.may Pl.entB at this
      simp only [Bool.and_eq_true, decide_eq_true_eq] at this
      exact this.2
    · simp [Pl.Ent.none, ByteArray.size]
  · simp [Pl.Ent.none, ByteArray.size]

theorem adjAt_set0 {w : World} {B : Nat} {c0 c1 : Value} {T : TypeId} (h : w.heap[B]? = some (.cells #[c0, c1] T)) (v : Value) : (w.setCell ⟨B, 0, none⟩ v).heap[B]? = some (.cells #[v, c1] T) := by
  have := blockLt h
  simp [World.setCell, Array.getElem?_modify, h]

set_option maxHeartbeats 1000000 in
theorem AdjKey_any (n : Int) (w : World) (h0 : 0 ≤ n) (h1 : n ≤ 1000) (hT : Tab w) :
    Calls Tryd.prog 46 #[.int .i64 n] w fun e w' => e = .returned (.string (Pl.adjKey n)) ∧ Below w.heap.size w w' := by
  have HT := hid hT
  have hz := Pl.dec_le n h0 h1
  clear hT
  have HIT := hid (Itoa_any n w h0 (by omega) HT.out)
  have HK : Hid (Pl.adjKey n = ⟨#[97, 58]⟩ ++ Pl.dec n) := hid rfl
  generalize Pl.dec n = s at *
  go_enter Tryd.func46, Tryd.ntmps46
  go_wp2_with fail
  refine HIT.out.mono ?_
  rintro e w1 ⟨rfl, hb1⟩
  go_wp2_with fail
  go_ret
  exact ⟨by rw [HK.out]; rfl, hb1⟩

set_option maxHeartbeats 1000000 in
theorem toldAdj_any (a : Option Addr) (len cap : Nat) (es : List Pl.Ent) (n : Int) (w : World) (h : IsEnts w a len cap es) (h0 : 0 ≤ n) (h1 : n ≤ 1000) (hT : Tab w) :
    Calls Tryd.prog 28 #[.slice a len cap, .int .i64 n] w fun e w' => ∃ vl : Value, e = .returned (.agg #[.bool (Pl.adjD (Pl.toldV es n).data.toList), vl]) ∧
      OwnP 31 w' w.heap.size vl (Pl.adjS (Pl.toldV es n).data.toList) ∧ Below w.heap.size w w' := by
  have HH := hid h
  have HT := hid hT
  clear h hT
  have hvz : (Pl.toldV es n).size ≤ 120 := Pl.gotE_val _ _
  obtain ⟨g, HG⟩ : ∃ g, Hid (Pl.gotE es (Pl.adjKey n) = g) := ⟨_, hid rfl⟩
  have HV : Hid (Pl.toldV es n = g.val) := hid (by unfold Pl.toldV; rw [HG.out])
  rw [HV.out] at hvz
  rw [HV.out]
  obtain ⟨gk, gv, go, gx⟩ := g
  simp only at hvz ⊢
  obtain ⟨rc, HRC⟩ : ∃ x, Hid (Pl.adjC gx.data.toList = x) := ⟨_, hid rfl⟩
  obtain ⟨rd, HRD⟩ : ∃ x, Hid (Pl.adjD gx.data.toList = x) := ⟨_, hid rfl⟩
  obtain ⟨rs, HRS⟩ : ∃ x, Hid (Pl.adjS gx.data.toList = x) := ⟨_, hid rfl⟩
  rw [HRD.out, HRS.out]
  have b1 : Below w.heap.size w (w.alloc (.cells #[.bool false, .slice none 0 0] 25)) := (Below.refl _ _).alloc (Nat.le_refl _) _
  go_enter Tryd.func28, Tryd.ntmps28
  go_wp2_with fail
  refine (AdjKey_any n _ h0 h1 (HT.out.below b1)).mono ?_
  rintro e w1 ⟨rfl, hb1⟩
  have hbA : Below (w.heap.size + 1) (w.alloc (.cells #[.bool false, .slice none 0 0] 25)) w1 := by simpa using hb1
  have hw1 : Below w.heap.size w w1 := b1.trans (hb1.mono b1.size)
  clear hb1
  go_wp2_with fail
  refine (Get_any _ _ _ es (Pl.adjKey n) _ (HH.out.below hw1)).mono ?_
  rw [HG.out]
  rintro e w2 ⟨rfl, hb2⟩
  have hbA2 := hbA.trans (hb2.mono (by have := hbA.size; simp at this; omega))
  clear hb2
  go_wp2_with fail
  refine (ReadAdj_any gx _ (by omega)).mono ?_
  rw [HRC.out, HRD.out, HRS.out]
  rintro e w3 ⟨v3, rfl, ho3, hb3⟩
  have hz2 := hbA2.size
  simp at hz2
  have hbA3 : Below (w.heap.size + 1) (w.alloc (.cells #[.bool false, .slice none 0 0] 25)) w3 := (hbA2.alloc (by omega) _).trans (hb3.mono (by simp; omega))
  obtain ⟨a3, n3, cap3, rfl⟩ := ho3.slice
  have HO3 := hid ho3
  obtain ⟨x0, x1, xs, hbb⟩ := box2 hbA3
  obtain ⟨f0, f1⟩ := box2f hbA3
  have hz3 := hb3.size
  simp at hz3
  clear ho3 hb3
  go_wp2_with fail
  have hblk : w3.heap[w.heap.size]? = some (.cells #[.bool false, .slice none 0 0] 25) := (hbA3.block _ (Nat.lt_succ_self _)).trans (heapNew w _)
  have hfin := heapOld (adjAt_set (adjAt_set0 hblk (.bool rd)) (.slice a3 n3 cap3)) (.cells #[.bool rd, .slice a3 n3 cap3] 25)
  obtain ⟨z0, z1, _, _⟩ := adjAt_cells hfin
  refine bodyPost_ret (v := .agg #[.bool rd, .slice a3 n3 cap3]) (by simp [results, Tryd.results28, go_sem, z0, z1]) rfl ⟨_, rfl, ?_, ?_⟩
  · exact OwnP.mono (World.ownsRow.alloc (ownsRow_setCell_below (ownsRow_setCell_below HO3.out (by simp; omega) _) (by simp; omega) _) _) (by simp; omega)
  · exact ((hbb.setCell (Nat.le_refl _) _).setCell (Nat.le_refl _) _).alloc (by simp [World.setCell]; omega) _
end Go.Proofs.YtcdobhdbafpkiadDoor
