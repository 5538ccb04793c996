/-
  Contracts and facts that the proof rests on, put together out of several texts.
-/
import Derived.Test.YtpaobnhcbeklfaaGreatDoorAll2
/-
  Contract: a step of a search from a node to the next one.
-/
namespace Go.Proofs.YtpaobnhcbeklfaaGreatDoor
open Go.RowKit
set_option maxRecDepth 20000

theorem oneBools : ∀ v ∈ List.replicate 12 (Value.bool false), v.oneCell' = true := by intro v hv; rw [(List.mem_replicate.1 hv).2]; rfl
theorem Pl.dS3_on (n j k : Nat) (h : Nat → Nat → Bool) (hk : h n k = true) (i x : Nat) :
    Pl.upd (Pl.dS3 n j k h) j (Pl.upd (Pl.dS3 n j k h j) k true) i x = Pl.dS3 n j (k + 1) h i x := by
  unfold Pl.dS3 Pl.upd
  by_cases hi : i = j
  · subst hi
    simp only [if_true]
    by_cases hx : x = k
    · subst hx; simp [hk]
    · rw [if_neg hx]
      congr 2
      exact decide_eq_decide.2 (by omega)
  · simp [hi]
theorem Pl.dS3_off (n j k : Nat) (h : Nat → Nat → Bool) (hk : h n k = false) (i x : Nat) :
    Pl.dS3 n j k h i x = Pl.dS3 n j (k + 1) h i x := by
  unfold Pl.dS3 Pl.upd
  by_cases hi : i = j
  · subst hi
    simp only [if_true]
    by_cases hx : x = k
    · subst hx; simp [hk]
    · congr 2
      exact decide_eq_decide.2 (by omega)
  · simp [hi]
theorem Pl.dS3_zero (n j : Nat) (h : Nat → Nat → Bool) (i x : Nat) : Pl.dS3 n j 0 h i x = h i x := by
  unfold Pl.dS3 Pl.upd
  by_cases hi : i = j
  · subst hi; simp
  · simp [hi]

set_option maxHeartbeats 2000000 in
theorem step_any (B f n j : Nat) (c : Int) (s : Pl.DS) (w : World) (h : SAt w B f s) (hn : n < 12) (hj : j < 12) :
    Calls Tryz.prog 41 #[.pointer (some ⟨B, 0, none⟩), .int .i64 n, .int .i64 j, .int .i64 c] w fun e w' => e = .returned (.tuple #[]) ∧ SAt w' B f (Pl.dStep f n j c s) ∧ But B w w' := by
  have HS := hid h
  have hB := CellsAt.lt h
  have hc0 := h.cost j hj
  have hz0 := CellsAt.soft h (1 + j)
  have hf0 := h.from
  clear h
  obtain ⟨q, HQ⟩ : ∃ q, Hid (s.cost j = q) := ⟨_, rfl⟩
  obtain ⟨s1, HS1⟩ : ∃ s1, Hid (Pl.dS1 j c s = s1) := ⟨_, rfl⟩
  obtain ⟨h2, HH2⟩ : ∃ h2, Hid (Pl.dS2 f n j s1.hops = h2) := ⟨_, rfl⟩
  have HD : Hid (Pl.dStep f n j c s = if s1.cost j < c then s1 else ⟨s1.cost, Pl.dS3 n j 12 h2, s1.done⟩) := hid (by unfold Pl.dStep; rw [HS1.out, HH2.out])
  obtain ⟨ff, HFF⟩ : ∃ x, Hid (f = x) := ⟨_, rfl⟩
  rw [HQ.out] at hc0
  have hcase : (q = -1 ∨ c < q) ∨ (q ≠ -1 ∧ q < c) ∨ (q ≠ -1 ∧ q = c) := by omega
  rcases hcase with hq | ⟨hq1, hq2⟩ | ⟨hq1, hq2⟩
  · have HS1' : Hid (s1 = ⟨Pl.upd s.cost j c, Pl.upd s.hops j (fun _ => false), s.done⟩) := hid (by rw [← HS1.out]; unfold Pl.dS1; rw [HQ.out, if_pos hq])
    have HE : Hid (s1.cost j = c) := hid (by rw [HS1'.out]; exact Pl.upd_same _ _ _)
    obtain ⟨w1, HX⟩ : ∃ x, Hid (x = (w.setCell ⟨B, 1 + j, none⟩ (.int .i64 c)).setCells B (13 + j * 12) (List.replicate 12 (.bool false))) := ⟨_, rfl⟩
    have HW1 : Hid (SAt w1 B f s1) := hid (by rw [HX.out, HS1'.out]; exact (HS.out.setCost j hj c).clearHops j hj)
    have HB1 : Hid (But B w w1) := hid (by rw [HX.out]; exact But.setCells _ (13 + j * 12) _ ((But.refl B w).setCell (1 + j) (.int .i64 c)))
    have HT1 := hid (CellsAt.there (HS.out.setCost j hj c) (13 + j * 12) 12 (by omega))
    have hB1 := CellsAt.lt HW1.out
    have hc1 := HW1.out.cost j hj
    rw [HE.out] at hc1
    have hf1 := HW1.out.from
    have hh1 := HW1.out.hops j j hj hj
    have hz1 := CellsAt.soft HW1.out (13 + j * 12 + j)
    by_cases hnf : n = f
    · have HW2 : Hid (SAt (w1.setCell ⟨B, 13 + j * 12 + j, none⟩ (.bool true)) B ff ⟨s1.cost, h2, s1.done⟩) := hid (by
        rw [← HH2.out, ← HFF.out]; unfold Pl.dS2; rw [if_pos hnf]; exact HW1.out.setHop j j hj hj true)
      have HB2 := hid (HB1.out.setCell (13 + j * 12 + j) (.bool true))
      have HR2 := hid (HW2.out.hopsOf n hn)
      subst hnf
      go_enter Tryz.func41, Tryz.ntmps41
      rcases (by omega : q = -1 ∨ (q ≠ -1 ∧ c < q)) with rfl | ⟨hq1, hq⟩
      all_goals
        go_wp2_with (first
          | refine wpList_store_as rfl 79 (.tmp 38) (.tmp 35) rfl B (13 + j * 12) (List.replicate 12 (Value.bool false)) rfl rfl HT1.out infoBools oneBools HX.out ?_
          | refine wpList_load_mid rfl 79 (.tmp 64) rfl B (13 + n * 12) rfl (bools12 (h2 n)) _ HR2.out Tryz.underlying79 rfl infoBools ?_)
        go_loopw [66] (fun i wr => ∃ k : Nat, k ≤ 12 ∧ i = .int .i64 k ∧ Hid (SAt wr B ff ⟨s1.cost, Pl.dS3 n j k h2, s1.done⟩) ∧ Hid (But B w wr)) (fun i _ => 12 - (intOf i).toNat)
        case atStart => exact ⟨0, by omega, rfl, HW2.out.ext (fun _ _ => rfl) (fun i x _ _ => (Pl.dS3_zero n j h2 i x).symm) (fun _ _ => rfl), HB2⟩
        case round =>
          obtain ⟨k, hk, rfl, HS3, HB3⟩ := hrel
          by_cases hlt : k < 12
          · have hg := fun w => run_index_bools (h2 n) k hlt w
            have hk3 := HS3.out.hops j k hj hlt
            have hz3 := CellsAt.soft HS3.out (13 + j * 12 + k)
            have hB3 := CellsAt.lt HS3.out
            obtain ⟨b, HBK⟩ : ∃ b, Hid (h2 n k = b) := ⟨_, rfl⟩
            rw [HBK.out] at hg
            cases b
            case true =>
              go_wp2_with fail
              go_roundw
              case rel => exact ⟨k + 1, by omega, by go_num, (HS3.out.setHop j k hj hlt true).ext (fun _ _ => rfl) (fun i x _ _ => Pl.dS3_on n j k h2 HBK.out i x) (fun _ _ => rfl), HB3.out.setCell _ _⟩
              case measure => simp [intOf]; omega
            case false =>
              go_wp2_with fail
              go_roundw
              case rel => exact ⟨k + 1, by omega, by go_num, HS3.out.ext (fun _ _ => rfl) (fun i x _ _ => Pl.dS3_off n j k h2 HBK.out i x) (fun _ _ => rfl), HB3⟩
              case measure => simp [intOf]; omega
          · obtain rfl : k = 12 := by omega
            go_wp2_with fail
            (try simp only [Exit.inBlock, Exit.then])
            first | refine bodyPost_end (v := .tuple #[]) (by simp [results, Tryz.results41, go_sem]) rfl ?_ | refine bodyPost_ret (v := .tuple #[]) (by simp [results, Tryz.results41, go_sem]) rfl ?_
            have hfin := HS3.out
            rw [← HFF.out] at hfin
            refine ⟨rfl, ?_, HB3.out⟩
            rw [HD.out, if_neg (by rw [HE.out]; omega)]
            exact hfin
    · have HW2 : Hid (SAt w1 B ff ⟨s1.cost, h2, s1.done⟩) := hid (by
        rw [← HH2.out, ← HFF.out]; unfold Pl.dS2; rw [if_neg hnf]; exact HW1.out)
      have HB2 := HB1
      have HR2 := hid (HW2.out.hopsOf n hn)
      go_enter Tryz.func41, Tryz.ntmps41
      rcases (by omega : q = -1 ∨ (q ≠ -1 ∧ c < q)) with rfl | ⟨hq1, hq⟩
      all_goals
        go_wp2_with (first
          | refine wpList_store_as rfl 79 (.tmp 38) (.tmp 35) rfl B (13 + j * 12) (List.replicate 12 (Value.bool false)) rfl rfl HT1.out infoBools oneBools HX.out ?_
          | refine wpList_load_mid rfl 79 (.tmp 64) rfl B (13 + n * 12) rfl (bools12 (h2 n)) _ HR2.out Tryz.underlying79 rfl infoBools ?_)
        go_loopw [66] (fun i wr => ∃ k : Nat, k ≤ 12 ∧ i = .int .i64 k ∧ Hid (SAt wr B ff ⟨s1.cost, Pl.dS3 n j k h2, s1.done⟩) ∧ Hid (But B w wr)) (fun i _ => 12 - (intOf i).toNat)
        case atStart => exact ⟨0, by omega, rfl, HW2.out.ext (fun _ _ => rfl) (fun i x _ _ => (Pl.dS3_zero n j h2 i x).symm) (fun _ _ => rfl), HB2⟩
        case round =>
          obtain ⟨k, hk, rfl, HS3, HB3⟩ := hrel
          by_cases hlt : k < 12
          · have hg := fun w => run_index_bools (h2 n) k hlt w
            have hk3 := HS3.out.hops j k hj hlt
            have hz3 := CellsAt.soft HS3.out (13 + j * 12 + k)
            have hB3 := CellsAt.lt HS3.out
            obtain ⟨b, HBK⟩ : ∃ b, Hid (h2 n k = b) := ⟨_, rfl⟩
            rw [HBK.out] at hg
            cases b
            case true =>
              go_wp2_with fail
              go_roundw
              case rel => exact ⟨k + 1, by omega, by go_num, (HS3.out.setHop j k hj hlt true).ext (fun _ _ => rfl) (fun i x _ _ => Pl.dS3_on n j k h2 HBK.out i x) (fun _ _ => rfl), HB3.out.setCell _ _⟩
              case measure => simp [intOf]; omega
            case false =>
              go_wp2_with fail
              go_roundw
              case rel => exact ⟨k + 1, by omega, by go_num, HS3.out.ext (fun _ _ => rfl) (fun i x _ _ => Pl.dS3_off n j k h2 HBK.out i x) (fun _ _ => rfl), HB3⟩
              case measure => simp [intOf]; omega
          · obtain rfl : k = 12 := by omega
            go_wp2_with fail
            (try simp only [Exit.inBlock, Exit.then])
            first | refine bodyPost_end (v := .tuple #[]) (by simp [results, Tryz.results41, go_sem]) rfl ?_ | refine bodyPost_ret (v := .tuple #[]) (by simp [results, Tryz.results41, go_sem]) rfl ?_
            have hfin := HS3.out
            rw [← HFF.out] at hfin
            refine ⟨rfl, ?_, HB3.out⟩
            rw [HD.out, if_neg (by rw [HE.out]; omega)]
            exact hfin
  · have HS1' : Hid (s1 = s) := hid (by rw [← HS1.out]; unfold Pl.dS1; rw [HQ.out, if_neg (by omega)])
    have hq3 : ¬ c < q := by omega
    have hq4 : ¬ q = -1 := hq1
    go_enter Tryz.func41, Tryz.ntmps41
    go_wp2_with fail
    (try simp only [Exit.inBlock, Exit.then])
    refine bodyPost_ret (v := .tuple #[]) (results_none rfl _ _ _) rfl ?_
    refine ⟨rfl, ?_, But.refl _ _⟩
    rw [HD.out, HS1'.out, HQ.out, if_pos hq2]
    exact HS.out
  · have HS1' : Hid (s1 = s) := hid (by rw [← HS1.out]; unfold Pl.dS1; rw [HQ.out, if_neg (by omega)])
    have HE : Hid (s1.cost j = c) := hid (by rw [HS1'.out, HQ.out, hq2])
    have HW1 : Hid (SAt w B f s1) := hid (by rw [HS1'.out]; exact HS.out)
    have hh1 := HW1.out.hops j j hj hj
    have hz1 := CellsAt.soft HW1.out (13 + j * 12 + j)
    subst hq2
    by_cases hnf : n = f
    · have HW2 : Hid (SAt (w.setCell ⟨B, 13 + j * 12 + j, none⟩ (.bool true)) B ff ⟨s1.cost, h2, s1.done⟩) := hid (by
        rw [← HH2.out, ← HFF.out]; unfold Pl.dS2; rw [if_pos hnf]; exact HW1.out.setHop j j hj hj true)
      have HB2 := hid ((But.refl B w).setCell (13 + j * 12 + j) (.bool true))
      have HR2 := hid (HW2.out.hopsOf n hn)
      subst hnf
      go_enter Tryz.func41, Tryz.ntmps41
      all_goals
        go_wp2_with (refine wpList_load_mid rfl 79 (.tmp 64) rfl B (13 + n * 12) rfl (bools12 (h2 n)) _ HR2.out Tryz.underlying79 rfl infoBools ?_)
        go_loopw [66] (fun i wr => ∃ k : Nat, k ≤ 12 ∧ i = .int .i64 k ∧ Hid (SAt wr B ff ⟨s1.cost, Pl.dS3 n j k h2, s1.done⟩) ∧ Hid (But B w wr)) (fun i _ => 12 - (intOf i).toNat)
        case atStart => exact ⟨0, by omega, rfl, HW2.out.ext (fun _ _ => rfl) (fun i x _ _ => (Pl.dS3_zero n j h2 i x).symm) (fun _ _ => rfl), HB2⟩
        case round =>
          obtain ⟨k, hk, rfl, HS3, HB3⟩ := hrel
          by_cases hlt : k < 12
          · have hg := fun w => run_index_bools (h2 n) k hlt w
            have hk3 := HS3.out.hops j k hj hlt
            have hz3 := CellsAt.soft HS3.out (13 + j * 12 + k)
            have hB3 := CellsAt.lt HS3.out
            obtain ⟨b, HBK⟩ : ∃ b, Hid (h2 n k = b) := ⟨_, rfl⟩
            rw [HBK.out] at hg
            cases b
            case true =>
              go_wp2_with fail
              go_roundw
              case rel => exact ⟨k + 1, by omega, by go_num, (HS3.out.setHop j k hj hlt true).ext (fun _ _ => rfl) (fun i x _ _ => Pl.dS3_on n j k h2 HBK.out i x) (fun _ _ => rfl), HB3.out.setCell _ _⟩
              case measure => simp [intOf]; omega
            case false =>
              go_wp2_with fail
              go_roundw
              case rel => exact ⟨k + 1, by omega, by go_num, HS3.out.ext (fun _ _ => rfl) (fun i x _ _ => Pl.dS3_off n j k h2 HBK.out i x) (fun _ _ => rfl), HB3⟩
              case measure => simp [intOf]; omega
          · obtain rfl : k = 12 := by omega
            go_wp2_with fail
            (try simp only [Exit.inBlock, Exit.then])
            first | refine bodyPost_end (v := .tuple #[]) (by simp [results, Tryz.results41, go_sem]) rfl ?_ | refine bodyPost_ret (v := .tuple #[]) (by simp [results, Tryz.results41, go_sem]) rfl ?_
            have hfin := HS3.out
            rw [← HFF.out] at hfin
            refine ⟨rfl, ?_, HB3.out⟩
            rw [HD.out, if_neg (by rw [HE.out]; omega)]
            exact hfin
    · have HW2 : Hid (SAt w B ff ⟨s1.cost, h2, s1.done⟩) := hid (by
        rw [← HH2.out, ← HFF.out]; unfold Pl.dS2; rw [if_neg hnf]; exact HW1.out)
      have HB2 := hid (But.refl B w)
      have HR2 := hid (HW2.out.hopsOf n hn)
      go_enter Tryz.func41, Tryz.ntmps41
      all_goals
        go_wp2_with (refine wpList_load_mid rfl 79 (.tmp 64) rfl B (13 + n * 12) rfl (bools12 (h2 n)) _ HR2.out Tryz.underlying79 rfl infoBools ?_)
        go_loopw [66] (fun i wr => ∃ k : Nat, k ≤ 12 ∧ i = .int .i64 k ∧ Hid (SAt wr B ff ⟨s1.cost, Pl.dS3 n j k h2, s1.done⟩) ∧ Hid (But B w wr)) (fun i _ => 12 - (intOf i).toNat)
        case atStart => exact ⟨0, by omega, rfl, HW2.out.ext (fun _ _ => rfl) (fun i x _ _ => (Pl.dS3_zero n j h2 i x).symm) (fun _ _ => rfl), HB2⟩
        case round =>
          obtain ⟨k, hk, rfl, HS3, HB3⟩ := hrel
          by_cases hlt : k < 12
          · have hg := fun w => run_index_bools (h2 n) k hlt w
            have hk3 := HS3.out.hops j k hj hlt
            have hz3 := CellsAt.soft HS3.out (13 + j * 12 + k)
            have hB3 := CellsAt.lt HS3.out
            obtain ⟨b, HBK⟩ : ∃ b, Hid (h2 n k = b) := ⟨_, rfl⟩
            rw [HBK.out] at hg
            cases b
            case true =>
              go_wp2_with fail
              go_roundw
              case rel => exact ⟨k + 1, by omega, by go_num, (HS3.out.setHop j k hj hlt true).ext (fun _ _ => rfl) (fun i x _ _ => Pl.dS3_on n j k h2 HBK.out i x) (fun _ _ => rfl), HB3.out.setCell _ _⟩
              case measure => simp [intOf]; omega
            case false =>
              go_wp2_with fail
              go_roundw
              case rel => exact ⟨k + 1, by omega, by go_num, HS3.out.ext (fun _ _ => rfl) (fun i x _ _ => Pl.dS3_off n j k h2 HBK.out i x) (fun _ _ => rfl), HB3⟩
              case measure => simp [intOf]; omega
          · obtain rfl : k = 12 := by omega
            go_wp2_with fail
            (try simp only [Exit.inBlock, Exit.then])
            first | refine bodyPost_end (v := .tuple #[]) (by simp [results, Tryz.results41, go_sem]) rfl ?_ | refine bodyPost_ret (v := .tuple #[]) (by simp [results, Tryz.results41, go_sem]) rfl ?_
            have hfin := HS3.out
            rw [← HFF.out] at hfin
            refine ⟨rfl, ?_, HB3.out⟩
            rw [HD.out, if_neg (by rw [HE.out]; omega)]
            exact hfin
end Go.Proofs.YtpaobnhcbeklfaaGreatDoor
/-
  Contract: what linkCosts makes of what is told.
-/
namespace Go.Proofs.YtpaobnhcbeklfaaGreatDoor
open Go.RowKit
set_option maxRecDepth 20000

/-- twelve rows of twelve numbers -/
def grid (M : Nat → Nat → Int) (o : Nat) : Value := .int .i64 (M (o / 12) (o % 12))
def GAt (w : World) (B : Nat) (T : TypeId) (M : Nat → Nat → Int) : Prop := CellsAt w B T 144 (grid M)
theorem grid_at (M : Nat → Nat → Int) (a b : Nat) (hb : b < 12) : grid M (a * 12 + b) = .int .i64 (M a b) := by
  unfold grid; rw [show (a * 12 + b) / 12 = a by omega, show (a * 12 + b) % 12 = b by omega]
theorem GAt.cell {w B T M} (h : GAt w B T M) (a b : Nat) (ha : a < 12) (hb : b < 12) : w.cell? ⟨B, a * 12 + b, none⟩ = some (.int .i64 (M a b)) := by
  rw [CellsAt.cell h _ (by omega), grid_at M a b hb]
theorem GAt.ext {w B T M M'} (h : GAt w B T M) (e : ∀ a b, a < 12 → b < 12 → M a b = M' a b) : GAt w B T M' := by
  refine CellsAt.ext h fun o ho => ?_
  unfold grid; rw [e _ _ (by omega) (by omega)]
theorem GAt.set {w B T M} (h : GAt w B T M) (a b : Nat) (hb : b < 12) (v : Int) : GAt (w.setCell ⟨B, a * 12 + b, none⟩ (.int .i64 v)) B T (Pl.upd M a (Pl.upd (M a) b v)) := by
  refine (CellsAt.set h _ _).ext fun o ho => ?_
  unfold Pl.upd grid
  by_cases h1 : o = a * 12 + b
  · subst h1
    rw [if_pos rfl, show (a * 12 + b) / 12 = a by omega, show (a * 12 + b) % 12 = b by omega]
    simp
  · rw [if_neg h1]
    by_cases h2 : o / 12 = a
    · simp only [if_pos h2]; rw [if_neg (by omega), h2]
    · simp only [if_neg h2]
theorem GAt.row {w B T M} (h : GAt w B T M) (a : Nat) (ha : a < 12) : w.rangeAt B (a * 12) (ints12 (M a)) := CellsAt.range h _ _ (by simp [ints12]; omega) fun j hj => by
  simp only [ints12, List.length_map, List.length_range] at hj
  rw [grid_at M a j hj]; simp [ints12]
def cells144 (M : Nat → Nat → Int) : List Value := (List.range 144).map (grid M)
theorem cells144_len (M) : (cells144 M).length = 144 := by simp [cells144]
theorem cells144_one (M) : ∀ v ∈ cells144 M, v.oneCell' = true := by
  intro v hv
  simp only [cells144, List.mem_map] at hv
  obtain ⟨o, _, rfl⟩ := hv
  rfl
theorem GAt.all {w B T M} (h : GAt w B T M) : w.rangeAt B 0 (cells144 M) := CellsAt.range h _ _ (by simp [cells144]) fun j hj => by
  simp only [cells144, List.length_map, List.length_range] at hj
  simp [cells144]
theorem zeroGrid : Tryz.zeroCells84 = Array.ofFn (n := 144) fun i => grid (fun _ _ => 0) i.1 := by kernel_rfl
theorem GAt.new (w : World) : GAt (w.alloc (.cells Tryz.zeroCells84 84)) w.heap.size 84 (fun _ _ => 0) := by
  refine CellsAt.new w _ _ _ _ (by rw [zeroGrid]; simp) fun i hi => ?_
  simp only [zeroGrid, Array.getElem_ofFn]
theorem infoCosts : (Tryz.prog.info? 84).map (·.size) = some 144 := by kernel_rfl

/-- what each node tells lies in block B -/
def toldCell (D : Nat → Bool) (V : Nat → Value) (o : Nat) : Value := if o % 2 = 0 then .bool (D (o / 2)) else V (o / 2)
def ToldAt (w : World) (B : Nat) (D : Nat → Bool) (ps : Nat → List (Int × Int)) : Prop :=
  ∃ V : Nat → Value, CellsAt w B 52 24 (toldCell D V) ∧ ∀ i, i < 12 → ∃ a len cap, V i = .slice a len cap ∧ (∀ x, a = some x → x.block ≠ B) ∧ IsPairs w a len cap (ps i)
theorem ToldAt.below {w w' B D ps} (h : ToldAt w B D ps) (k : Below w.heap.size w w') : ToldAt w' B D ps := by
  obtain ⟨V, h1, h2⟩ := h
  refine ⟨V, h1.below k, fun i hi => ?_⟩
  obtain ⟨a, len, cap, e, hx, hp⟩ := h2 i hi
  exact ⟨a, len, cap, e, hx, hp.below k⟩
theorem ToldAt.drain {w B D ps} (h : ToldAt w B D ps) (i : Nat) (hi : i < 12) : w.cell? ⟨B, i * 2, none⟩ = some (.bool (D i)) := by
  obtain ⟨V, h1, _⟩ := h
  rw [h1.cell _ (by omega)]; unfold toldCell; rw [if_pos (by omega), show i * 2 / 2 = i by omega]
theorem ToldAt.sides {w B D ps} (h : ToldAt w B D ps) (i : Nat) (hi : i < 12) : ∃ a len cap, w.cell? ⟨B, i * 2 + 1, none⟩ = some (.slice a len cap) ∧ IsPairs w a len cap (ps i) := by
  obtain ⟨V, h1, h2⟩ := h
  obtain ⟨a, len, cap, e, _, hp⟩ := h2 i hi
  refine ⟨a, len, cap, ?_, hp⟩
  rw [h1.cell _ (by omega)]; unfold toldCell; rw [if_neg (by omega), show (i * 2 + 1) / 2 = i by omega, e]
theorem ToldAt.lt {w B D ps} (h : ToldAt w B D ps) : B < w.heap.size := by
  obtain ⟨V, h1, _⟩ := h; exact h1.lt

/-- of sides each has a node and a cost -/
def Pl.sidesOk (ps : List (Int × Int)) : Prop := ∀ p ∈ ps, 0 ≤ p.1 ∧ p.1 ≤ 11 ∧ 1 ≤ p.2 ∧ p.2 ≤ 1000
theorem Pl.sidesOk.at {ps : List (Int × Int)} (h : Pl.sidesOk ps) (k : Nat) (hk : k < ps.length) : 0 ≤ (Pl.pr ps k).1 ∧ (Pl.pr ps k).1 ≤ 11 ∧ 1 ≤ (Pl.pr ps k).2 ∧ (Pl.pr ps k).2 ≤ 1000 := by
  refine h _ ?_
  unfold Pl.pr
  rw [List.getD_eq_getElem?_getD, List.getElem?_eq_getElem hk]
  simp
/-- what the first k sides say of each node -/
def Pl.sayN (ps : List (Int × Int)) : Nat → Nat → Int
  | 0 => fun _ => 0
  | k + 1 => Pl.upd (Pl.sayN ps k) (Pl.pr ps k).1.toNat (Pl.pr ps k).2
def Pl.say (ps : List (Int × Int)) : Nat → Int := Pl.sayN ps ps.length
def Pl.said (ps : Nat → List (Int × Int)) (k j : Nat) : Nat → Nat → Int := fun a => if a < k then Pl.say (ps a) else if a = k then Pl.sayN (ps a) j else fun _ => 0
/-- the links: of what is told only that counts which both ends tell -/
def Pl.lnk (ps : Nat → List (Int × Int)) : Nat → Nat → Int := fun a b => if 0 < Pl.say (ps b) a then Pl.say (ps a) b else 0
def Pl.lnkN (ps : Nat → List (Int × Int)) (k j : Nat) : Nat → Nat → Int := fun a b => if a < k ∨ (a = k ∧ b < j) then Pl.lnk ps a b else 0

theorem Pl.said_step (ps : Nat → List (Int × Int)) (k j b : Nat) (v : Int) (hb : (Pl.pr (ps k) j).1.toNat = b) (hv : (Pl.pr (ps k) j).2 = v) :
    Pl.upd (Pl.said ps k j) k (Pl.upd (Pl.said ps k j k) b v) = Pl.said ps k (j + 1) := by
  funext a
  unfold Pl.upd Pl.said
  by_cases h : a = k
  · subst h
    rw [if_pos rfl, if_neg (by omega), if_pos rfl, if_neg (by omega), if_pos rfl]
    conv => rhs; unfold Pl.sayN
    rw [hb, hv]; rfl
  · rw [if_neg h, if_neg h, if_neg h]
theorem Pl.said_next (ps : Nat → List (Int × Int)) (k : Nat) : Pl.said ps k (ps k).length = Pl.said ps (k + 1) 0 := by
  funext a
  unfold Pl.said
  by_cases h : a < k
  · rw [if_pos h, if_pos (by omega)]
  · rw [if_neg h]
    by_cases h2 : a = k
    · subst h2; rw [if_pos rfl, if_pos (by omega)]; rfl
    · rw [if_neg h2, if_neg (by omega)]; split <;> rfl
theorem Pl.said_zero (ps : Nat → List (Int × Int)) : Pl.said ps 0 0 = fun _ _ => 0 := by
  funext a
  unfold Pl.said
  rw [if_neg (by omega)]; split <;> rfl

theorem results_mid {P : Program} {fn : Func} {p : Tmp} {ty : TypeId} {tmps : Array Value} {w : World} {b o : Nat} {cs : List Value} {d : TypeDesc} (h : fn.results = #[.cell p ty]) (hp : tmps.getD p undef = .pointer (some ⟨b, o, none⟩))
    (hc : w.rangeAt b o cs) (hu : P.underlying ty = some d) (hd : d.isRow = true) (hi : (P.info? ty).map (·.size) = some cs.length) :
    (results fn tmps).run P w = .ok (.agg cs.toArray) w := by
  have hl := run_loadVar_mid (P := P) w b o ty cs d hc hu hd hi
  rw [Array.getD_eq_getD_getElem?] at hp
  simp only [results, h]
  simp [hp, asAddr, hl]
/-- three new grids -/
theorem alloc3 {w w3 : World} (h : w3 = ((w.alloc (.cells Tryz.zeroCells84 84)).alloc (.cells Tryz.zeroCells84 84)).alloc (.cells Tryz.zeroCells84 84)) :
    w3.heap.size = w.heap.size + 3 ∧ Below w.heap.size w w3 ∧ GAt w3 w.heap.size 84 (fun _ _ => 0) ∧ GAt w3 (w.heap.size + 1) 84 (fun _ _ => 0) ∧ GAt w3 (w.heap.size + 1 + 1) 84 (fun _ _ => 0) := by
  subst h
  refine ⟨by simp, (((Below.refl _ _).alloc (by simp) _).alloc (by simp) _).alloc (by simp; omega) _, ?_, ?_, ?_⟩
  · exact CellsAt.below (CellsAt.below (GAt.new w) ((Below.refl _ _).alloc (Nat.le_refl _) _)) ((Below.refl _ _).alloc (Nat.le_refl _) _)
  · have := GAt.new (w.alloc (.cells Tryz.zeroCells84 84))
    rw [show (w.alloc (.cells Tryz.zeroCells84 84)).heap.size = w.heap.size + 1 by simp] at this
    exact CellsAt.below this ((Below.refl _ _).alloc (Nat.le_refl _) _)
  · have := GAt.new ((w.alloc (.cells Tryz.zeroCells84 84)).alloc (.cells Tryz.zeroCells84 84))
    rw [show ((w.alloc (.cells Tryz.zeroCells84 84)).alloc (.cells Tryz.zeroCells84 84)).heap.size = w.heap.size + 1 + 1 by simp] at this
    exact this
theorem But.drew {B : Nat} {a w : World} (h : But B a w) : But B a w.drew := ⟨h.os, h.tape, h.output, h.size, h.block⟩
theorem GAt.drew {w B T M} (h : GAt w B T M) : GAt w.drew B T M := h
theorem GAt.alloc {w B T M} (h : GAt w B T M) (o : Obj) : GAt (w.alloc o) B T M := heapOld h o

set_option maxHeartbeats 2000000 in
theorem linkCosts_any (B : Nat) (D : Nat → Bool) (ps : Nat → List (Int × Int)) (w : World) (h : ToldAt w B D ps) (hok : ∀ i, i < 12 → Pl.sidesOk (ps i)) :
    Calls Tryz.prog 39 #[.pointer (some ⟨B, 0, none⟩)] w fun e w' => e = .returned (.agg (cells144 (Pl.lnk ps)).toArray) ∧ Below w.heap.size w w' := by
  have HT := hid h
  have HOK := hid hok
  have hB := h.lt
  clear h hok
  obtain ⟨w3, HW3⟩ : ∃ x, Hid (x = ((w.alloc (.cells Tryz.zeroCells84 84)).alloc (.cells Tryz.zeroCells84 84)).alloc (.cells Tryz.zeroCells84 84)) := ⟨_, rfl⟩
  have H3 := hid (alloc3 HW3.out)
  go_enter Tryz.func39, Tryz.ntmps39
  go_wp2_with fail
  go_loopw [13] (fun i wr => ∃ k : Nat, k ≤ 12 ∧ i = .int .i64 k ∧ Hid (GAt wr (w.heap.size + 1) 84 (Pl.said ps k 0)) ∧ Hid (But (w.heap.size + 1) w3 wr)) (fun i _ => 12 - (intOf i).toNat)
  case atStart => exact ⟨0, by omega, rfl, by show GAt _ _ _ _; rw [Pl.said_zero, ← HW3.out]; exact H3.out.2.2.2.1, by show But _ _ _; rw [← HW3.out]; exact But.refl _ _⟩
  case round =>
    obtain ⟨k, hk, rfl, HG, HU⟩ := hrel
    have HBW : Hid (Below w.heap.size w wr) := hid (H3.out.2.1.trans (HU.out.below (by omega) (by have := H3.out.1; omega)))
    have hzr : w.heap.size + 3 ≤ wr.heap.size := by have := HU.out.size; have := H3.out.1; omega
    by_cases hlt : k < 12
    · have hd := (HBW.out.cell (p := ⟨B, k * 2, none⟩) hB).trans (HT.out.drain k hlt)
      obtain ⟨a, len, cap, hs, hp⟩ := HT.out.sides k hlt
      have hs := (HBW.out.cell (p := ⟨B, k * 2 + 1, none⟩) hB).trans hs
      have HP := hid hp
      have hBr : B < wr.heap.size := by omega
      clear hp
      generalize D k = d at hd
      go_wp2_with fail
      go_region
      go_wp2_with fail
      go_loopw [22] (fun i wr => ∃ j : Nat, j ≤ len ∧ i = .int .i64 j ∧ Hid (GAt wr (w.heap.size + 1) 84 (Pl.said ps k j)) ∧ Hid (But (w.heap.size + 1) w3 wr)) (fun i _ => len - (intOf i).toNat)
      case atStart => exact ⟨0, by omega, rfl, HG.out.alloc _, (HU.out.alloc _).drew⟩
      case round =>
        obtain ⟨j, hj, rfl, HG2, HU2⟩ := hrel
        have HBW2 : Hid (Below w.heap.size w wr) := hid (H3.out.2.1.trans (HU2.out.below (by omega) (by have := H3.out.1; omega)))
        have hzq : w.heap.size + 3 ≤ wr.heap.size := by have := HU2.out.size; have := H3.out.1; omega
        have hlen : (ps k).length = len := HP.out.1
        by_cases hjl : j < len
        · obtain ⟨b, off, rfl, hbw, hr⟩ : ∃ b off, a = some ⟨b, off, none⟩ ∧ b < w.heap.size ∧ PairsAt w b off (ps k) := by
            rcases HP.out.2.2.2.2 with h | h
            · rw [h] at hlen; simp at hlen; omega
            · exact h
          obtain ⟨c0, c1⟩ := (hr.below hbw HBW2.out) j (by omega)
          obtain ⟨o1, o2, o3, o4⟩ := (HOK.out k hlt).at j (by omega)
          obtain ⟨x, HX⟩ : ∃ x : Nat, Hid ((Pl.pr (ps k) j).1 = x) := ⟨(Pl.pr (ps k) j).1.toNat, hid (by omega)⟩
          obtain ⟨v, HV⟩ : ∃ v, Hid ((Pl.pr (ps k) j).2 = v) := ⟨_, rfl⟩
          have hx : x < 12 := by have := HX.out; omega
          rw [HX.out] at c0
          rw [HV.out] at c1
          clear o1 o2 o3 o4 hr hlen
          have hbr : b < wr.heap.size := by omega
          have hS : w.heap.size + 1 < wr.heap.size := by omega
          have hlm : len ≤ 9223372036854775807 := by have h1 := HP.out.2.1; have h2 := HP.out.2.2.1; unfold maxLen at h2; omega
          have hg := HG2.out.cell k x hlt hx
          have hgz := CellsAt.soft HG2.out (k * 12 + x)
          go_wp2_with fail
          go_region
          go_wp2_with fail
          go_roundw
          case rel =>
            refine ⟨j + 1, by omega, by go_num, ?_, ((HU2.out.setCell _ _).alloc _).drew⟩
            show GAt _ _ _ _
            rw [← Pl.said_step ps k j x v (by rw [HX.out]; simp) HV.out]
            exact ((HG2.out.set k x hx v).alloc _).drew
          case measure => simp [intOf]; omega
        · obtain rfl : j = len := by omega
          go_wp2_with fail
          go_roundw
          case rel => exact ⟨k + 1, by omega, by go_num, by show GAt _ _ _ _; rw [← Pl.said_next, hlen]; exact HG2.out, HU2⟩
          case measure => simp [intOf]; omega
    · obtain rfl : k = 12 := by omega
      have HK0 := hid (CellsAt.but H3.out.2.2.2.2 HU.out (by omega))
      have HR0 := hid (CellsAt.but H3.out.2.2.1 HU.out (by omega))
      rename World => w4
      go_wp2_with fail
      go_loopw [35] (fun i wr => ∃ k : Nat, k ≤ 12 ∧ i = .int .i64 k ∧ Hid (GAt wr (w.heap.size + 1 + 1) 84 (Pl.lnkN ps k 0)) ∧ Hid (But (w.heap.size + 1 + 1) w4 wr)) (fun i _ => 12 - (intOf i).toNat)
      case atStart => exact ⟨0, by omega, rfl, GAt.ext HK0.out (fun a b _ _ => by unfold Pl.lnkN; rw [if_neg (by omega)]), But.refl _ _⟩
      case round =>
        obtain ⟨k, hk, rfl, HG1, HU1⟩ := hrel
        by_cases hlt : k < 12
        · go_wp2_with fail
          go_loopw [38] (fun i wr => ∃ j : Nat, j ≤ 12 ∧ i = .int .i64 j ∧ Hid (GAt wr (w.heap.size + 1 + 1) 84 (Pl.lnkN ps k j)) ∧ Hid (But (w.heap.size + 1 + 1) w4 wr)) (fun i _ => 12 - (intOf i).toNat)
          case atStart => exact ⟨0, by omega, rfl, HG1, HU1⟩
          case round =>
            obtain ⟨j, hj, rfl, HG2, HU2⟩ := hrel
            by_cases hjl : j < 12
            · have hS := CellsAt.but HG.out HU2.out (by omega)
              have h1 := GAt.cell hS j k hjl hlt
              have h2 := GAt.cell hS k j hlt hjl
              have h3 := HG2.out.cell k j hlt hjl
              have h4 := CellsAt.soft HG2.out (k * 12 + j)
              have h5 := CellsAt.lt hS
              have h6 := CellsAt.lt HG2.out
              obtain ⟨x, HX⟩ : ∃ x, Hid (Pl.say (ps j) k = x) := ⟨_, rfl⟩
              obtain ⟨y, HY⟩ : ∃ x, Hid (Pl.say (ps k) j = x) := ⟨_, rfl⟩
              rw [show Pl.said ps 12 0 j k = x by unfold Pl.said; rw [if_pos hjl, HX.out]] at h1
              rw [show Pl.said ps 12 0 k j = y by unfold Pl.said; rw [if_pos hlt, HY.out]] at h2
              clear hS
              by_cases hx : 0 < x
              · go_wp2_with fail
                go_region
                go_wp2_with fail
                go_roundw
                case rel =>
                  refine ⟨j + 1, by omega, by go_num, (HG2.out.set k j hjl y).ext (fun a b ha hb => ?_), (HU2.out.setCell _ _).drew⟩
                  unfold Pl.upd Pl.lnkN
                  by_cases h1 : a = k
                  · subst h1
                    rw [if_pos rfl]
                    by_cases h2 : b = j
                    · subst h2; rw [if_pos rfl, if_pos (Or.inr ⟨rfl, by omega⟩)]; unfold Pl.lnk; rw [HX.out, if_pos hx, HY.out]
                    · rw [if_neg h2]
                      by_cases h3 : b < j
                      · rw [if_pos (.inr ⟨rfl, h3⟩), if_pos (.inr ⟨rfl, by omega⟩)]
                      · rw [if_neg (by omega), if_neg (by omega)]
                  · rw [if_neg h1]
                    by_cases h3 : a < k
                    · rw [if_pos (.inl h3), if_pos (.inl h3)]
                    · rw [if_neg (by omega), if_neg (by omega)]
                case measure => simp [intOf]; omega
              · go_wp2_with fail
                go_roundw
                case rel =>
                  refine ⟨j + 1, by omega, by go_num, HG2.out.ext (fun a b ha hb => ?_), HU2⟩
                  unfold Pl.lnkN
                  by_cases h1 : a = k ∧ b = j
                  · obtain ⟨rfl, rfl⟩ := h1
                    rw [if_neg (by omega), if_pos (.inr ⟨rfl, by omega⟩)]
                    unfold Pl.lnk
                    rw [HX.out, if_neg hx]
                  · by_cases h2 : a < k ∨ a = k ∧ b < j
                    · rw [if_pos h2, if_pos (by omega)]
                    · rw [if_neg h2, if_neg (by omega)]
                case measure => simp [intOf]; omega
            · obtain rfl : j = 12 := by omega
              go_wp2_with fail
              go_roundw
              case rel =>
                refine ⟨k + 1, by omega, by go_num, HG2.out.ext (fun a b ha hb => ?_), HU2⟩
                unfold Pl.lnkN
                by_cases h2 : a < k ∨ a = k ∧ b < 12
                · rw [if_pos h2, if_pos (by omega)]
                · rw [if_neg h2, if_neg (by omega)]
              case measure => simp [intOf]; omega
        · obtain rfl : k = 12 := by omega
          have HA := hid (GAt.ext (M' := Pl.lnk ps) HG1.out (fun a b ha hb => by unfold Pl.lnkN; rw [if_pos (.inl ha)]))
          have HRA := hid HA.out.all
          have HR1 := hid (CellsAt.but HR0.out HU1.out (by omega))
          have HTH := hid (CellsAt.there HR1.out 0 144 (by omega))
          rw [← cells144_len (Pl.lnk ps)] at HTH
          obtain ⟨w5, HX⟩ : ∃ x, Hid (x = wr.setCells w.heap.size 0 (cells144 (Pl.lnk ps))) := ⟨_, rfl⟩
          have HRL : Hid (w5.rangeAt w.heap.size 0 (cells144 (Pl.lnk ps))) := hid (by rw [HX.out]; exact World.rangeAt_setCells_same _ _ _ _ HTH.out)
          go_wp2_with (first
            | refine wpList_load_mid rfl 84 (.tmp 4) rfl (w.heap.size + 1 + 1) 0 rfl (cells144 (Pl.lnk ps)) _ HRA.out Tryz.underlying84 rfl (by rw [cells144_len]; exact infoCosts) ?_
            | refine wpList_store_as rfl 84 (.tmp 2) (.tmp 58) rfl w.heap.size 0 (cells144 (Pl.lnk ps)) rfl rfl HTH.out (by rw [cells144_len]; exact infoCosts) (cells144_one _) HX.out ?_)
          refine bodyPost_ret (v := .agg (cells144 (Pl.lnk ps)).toArray) ?_ rfl ⟨rfl, ?_⟩
          · exact results_mid rfl rfl HRL.out Tryz.underlying84 rfl (by rw [cells144_len]; exact infoCosts)
          · rw [HX.out]
            exact (H3.out.2.1.trans ((HU.out.below (by omega) (by have := H3.out.1; omega)).trans (HU1.out.below (by omega) (by have := HU.out.size; have := H3.out.1; omega)))).trans ((But.setCells _ 0 _ (But.refl w.heap.size wr)).below (Nat.le_refl _) (by have := CellsAt.lt HR1.out; omega))
end Go.Proofs.YtpaobnhcbeklfaaGreatDoor
