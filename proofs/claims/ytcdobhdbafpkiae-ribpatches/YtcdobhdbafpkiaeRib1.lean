/-
  Contracts: what areHops and isRoute answer at every list of numbers and every route.
-/
import Derived.Test.YtcdobhdbafpkiaeRibM
import Derived.Test.YtcdobhdbafpkiaePfx4
namespace Go.Proofs.Ytcdobhdbafpkiae
open Go.RowKit

set_option maxHeartbeats 1000000 in
theorem areHops_any (a : Option Addr) (len cap : Nat) (zs : List Int) (w : World) (h : IsInts w a len cap zs) :
    Calls Try.prog 35 #[.slice a len cap] w fun e w' => e = .returned (.bool (Pl.hopsB zs)) ∧ w' = w := by
  have HH := hid h
  have hl := h.1
  have hc := h.2.1
  have hm := h.2.2.1
  unfold maxLen at hm
  clear h
  go_enter Try.func35, Try.ntmps35
  go_wp2
  go_loop [7] (fun i => ∃ k : Nat, k ≤ len ∧ i = .int .i64 k ∧ Hid (∀ j, j < k → Pl.hopB zs j = true)) (fun i => len - (intOf i).toNat)
  case atStart => exact ⟨0, Nat.zero_le _, rfl, hid (by intro j hj; omega)⟩
  case round =>
    obtain ⟨k, hk, rfl, HK⟩ := hrel
    by_cases hlt : k < len
    · obtain ⟨b, off, rfl, hb, hr⟩ := HH.out.at hlt
      have c0 := hr k (by omega)
      obtain ⟨z, HZ⟩ : ∃ z, Hid (Pl.nm zs k = z) := ⟨_, rfl⟩
      rw [HZ.out] at c0
      obtain ⟨ob, HO⟩ : ∃ c, Hid (decide (0 ≤ z ∧ z ≤ 11) = c) := ⟨_, rfl⟩
      have HN : Hid (∀ W, Calls Try.prog 44 #[.int .i64 z] W fun e w' => e = .returned (.bool ob) ∧ w' = W) := by
        refine hid fun W => ?_
        have := isNode_any z W
        rwa [HO.out] at this
      have HF : Hid (Pl.hopB zs k = false → Pl.hopsB zs = false) := hid fun hh => Pl.hopsB_false (by omega) hh
      cases ob
      · have HB : Hid (Pl.hopB zs k = false) := hid (by unfold Pl.hopB; rw [HZ.out, HO.out]; rfl)
        go_wp2_with (go_at_call 44; refine (HN.out _).mono ?_; rintro e w' ⟨rfl, rfl⟩)
        go_ret
        exact ⟨ret_bool (HF.out HB.out).symm, rfl⟩
      · rcases Nat.eq_zero_or_pos k with hk0 | hk0
        · have hd : decide (0 < k) = false := by simp; omega
          have HB : Hid (Pl.hopB zs k = true) := hid (by rw [hk0, Pl.hopB_zero, ← hk0, HZ.out, HO.out])
          have HK0 := hid hk0
          clear hk0
          go_wp2_with (go_at_call 44; refine (HN.out _).mono ?_; rintro e w' ⟨rfl, rfl⟩)
          go_round
          case rel => exact ⟨k + 1, by omega, by go_num, hid fun j hj => by have := HK0.out; obtain rfl : j = k := (by omega); exact HB.out⟩
          case measure => simp [intOf]; omega
        · obtain ⟨m, rfl⟩ : ∃ m, k = m + 1 := ⟨k - 1, by omega⟩
          have c1 := hr m (by omega)
          obtain ⟨y, HY⟩ : ∃ z, Hid (Pl.nm zs m = z) := ⟨_, rfl⟩
          rw [HY.out] at c1
          have HBE : Hid (Pl.hopB zs (m + 1) = decide (y < z)) := hid (by rw [Pl.hopB_succ, HZ.out, HY.out, HO.out]; rfl)
          by_cases hle : z ≤ y
          · have HB : Hid (Pl.hopB zs (m + 1) = false) := hid (by rw [HBE.out]; simp; omega)
            go_wp2_with (go_at_call 44; refine (HN.out _).mono ?_; rintro e w' ⟨rfl, rfl⟩)
            go_ret
            exact ⟨ret_bool (HF.out HB.out).symm, rfl⟩
          · have HB : Hid (Pl.hopB zs (m + 1) = true) := hid (by rw [HBE.out]; simp; omega)
            go_wp2_with (go_at_call 44; refine (HN.out _).mono ?_; rintro e w' ⟨rfl, rfl⟩)
            go_round
            case rel => exact ⟨m + 1 + 1, by omega, by go_num, hid fun j hj => by rcases Nat.lt_or_ge j (m + 1) with q | q; exact HK.out j q; obtain rfl : j = m + 1 := (by omega); exact HB.out⟩
            case measure => simp [intOf]; omega
    · obtain rfl : k = len := by omega
      have HB : Hid (Pl.hopsB zs = true) := hid (Pl.hopsB_true (by rw [hl]; exact HK.out))
      go_wp2
      go_ret
      exact ⟨ret_bool HB.out.symm, rfl⟩

/-- one prefix as a list -/
theorem Pl.pfxF_one (p : Int × Int) : Pl.pfxF [p] = Pl.pfx1 p := by
  unfold Pl.pfxF Pl.pfxN Pl.pfxN
  by_cases h : Pl.pfx1 p = 0 <;> simp [Pl.pr, h]
theorem onePair (w : World) (n : Nat) (p1 p2 : Int) (T : TypeId) (h : Pl.pairOk (p1, p2)) (hn : w.heap.size = n) : IsPairs (w.alloc (.cells #[.int .i64 p1, .int .i64 p2] T)) (some ⟨n, 0, none⟩) 1 1 [(p1, p2)] := by
  subst hn
  refine ⟨rfl, Nat.le_refl _, by unfold maxLen; omega, by simpa using h, .inr ⟨w.heap.size, 0, rfl, by simp, ?_⟩⟩
  intro i hi
  simp at hi
  subst hi
  simp [Pl.pr]
theorem Pl.routeB_pfx {r : Pl.Rt} (h : ¬ Pl.pfx1 r.p = 0) : Pl.routeB r = false := by unfold Pl.routeB; rw [decide_eq_false h]; rfl
theorem Pl.routeB_here {r : Pl.Rt} (h : Pl.pfx1 r.p = 0) (k : r.here = true) : Pl.routeB r = (decide (r.cost = 0) && decide (r.hops.length = 0)) := by
  unfold Pl.routeB
  rw [decide_eq_true h, k, Bool.eq_iff_iff]
  simp only [Bool.true_and, if_true, Bool.and_eq_true, decide_eq_true_eq, List.length_eq_zero_iff]
  constructor
  · rintro ⟨⟨_, h1, h2⟩, _⟩; exact ⟨h1, h2⟩
  · rintro ⟨h1, h2⟩; rw [h1, h2]; exact ⟨⟨by omega, rfl, rfl⟩, rfl⟩
theorem Pl.routeB_there {r : Pl.Rt} (h : Pl.pfx1 r.p = 0) (k : r.here = false) : Pl.routeB r = (decide (0 ≤ r.cost) && decide (r.cost ≤ 1048576) && decide (0 < r.hops.length) && Pl.hopsB r.hops) := by
  unfold Pl.routeB
  rw [decide_eq_true h, k, Bool.eq_iff_iff]
  simp [List.length_pos_iff]

/-- a route as a value -/
def Pl.RH.val (h : Pl.RH) : Value := .agg #[.int .i64 h.p.1, .int .i64 h.p.2, .bool h.here, .int .i64 h.cost, .slice h.ha h.hl h.hc]

set_option maxHeartbeats 2000000 in
theorem isRoute_any (h : Pl.RH) (r : Pl.Rt) (w : World) (hr : Reads w h r) :
    Calls Try.prog 18 #[.agg #[.int .i64 h.p.1, .int .i64 h.p.2, .bool h.here, .int .i64 h.cost, .slice h.ha h.hl h.hc]] w fun e w' => e = .returned (.bool (Pl.routeB r)) ∧ Below w.heap.size w w' := by
  obtain ⟨h1, h2, h3, h4, h5⟩ := hr
  obtain ⟨⟨p1, p2⟩, here, cost, ha, hl, hc⟩ := h
  simp only at h1 h2 h3 h4
  simp only
  obtain ⟨R, HR⟩ : ∃ R, Hid (Pl.routeB r = R) := ⟨_, rfl⟩
  rw [HR.out]
  have HP : Hid (Pl.pairOk (p1, p2)) := hid (by rw [h1]; exact h5)
  obtain ⟨c, HC⟩ : ∃ c, Hid (Pl.pfxF [(p1, p2)] = c) := ⟨_, rfl⟩
  have HC1 : Hid (Pl.pfx1 r.p = c) := hid (by rw [← HC.out, Pl.pfxF_one, h1])
  have HI := hid h4
  have HL : Hid (r.hops.length = hl) := hid h4.1
  have hlc := h4.2.1
  have hcm := h4.2.2.1
  unfold maxLen at hcm
  by_cases hc0 : c = 0
  · subst hc0
    have hpf := HC1.out
    cases here
    · have HRB : Hid (R = (decide (0 ≤ cost) && decide (cost ≤ 1048576) && decide (0 < hl) && Pl.hopsB r.hops)) := hid (by rw [← HR.out, Pl.routeB_there hpf h2.symm, h3, HL.out])
      obtain ⟨hb, HHB⟩ : ∃ c, Hid (Pl.hopsB r.hops = c) := ⟨_, rfl⟩
      rw [HHB.out] at HRB
      clear hpf h1 h2 h3 h4 h5
      by_cases g1 : 0 ≤ cost
      all_goals by_cases g2 : cost ≤ 1048576
      all_goals by_cases g3 : 0 < hl
      all_goals first | (exfalso; omega) | skip
      all_goals
        go_enter Try.func18, Try.ntmps18
        go_wp2_with fail
        refine (CheckPrefixes_any _ _ _ [(p1, p2)] _ (onePair _ _ p1 p2 _ HP.out (by simp))).mono ?_
        rw [HC.out]
        rintro e w1 ⟨rfl, hb1⟩
        have x2 : w1.cell? ⟨w.heap.size, 2, none⟩ = some (.bool false) := (hb1.cell (by simp; omega)).trans (by simp)
        have x3 : w1.cell? ⟨w.heap.size, 3, none⟩ = some (.int .i64 cost) := (hb1.cell (by simp; omega)).trans (by simp)
        have x4 : w1.cell? ⟨w.heap.size, 4, none⟩ = some (.slice ha hl hc) := (hb1.cell (by simp; omega)).trans (by simp)
        have hbw : Below w.heap.size w w1 := (((Below.refl _ _).alloc (Nat.le_refl _) _).alloc (by simp) _).trans (hb1.mono (by simp; omega))
        have HHO : Hid (Calls Try.prog 35 #[.slice ha hl hc] w1 fun e w' => e = .returned (.bool hb) ∧ w' = w1) := by
          refine hid ?_
          have := areHops_any ha hl hc r.hops w1 (HI.out.below hbw)
          rwa [HHB.out] at this
        clear hb1
        go_wp2_with (go_at_call 35; refine HHO.out.mono ?_; rintro e w' ⟨rfl, rfl⟩)
        go_ret
        exact ⟨ret_bool (by rw [HRB.out]; simp [g1, g2, g3] <;> (intros; omega)), hbw⟩
    · have HRB : Hid (R = (decide (cost = 0) && decide (hl = 0))) := hid (by rw [← HR.out, Pl.routeB_here hpf h2.symm, h3, HL.out])
      clear hpf h1 h2 h3 h4 h5
      obtain ⟨e1, g1⟩ : ∃ c, (cost == 0) = c := ⟨_, rfl⟩
      obtain ⟨e3, g3⟩ : ∃ c, ((hl : Int) == 0) = c := ⟨_, rfl⟩
      have HRC : Hid (R = (e1 && e3)) := hid (by rw [HRB.out, ← g1, ← g3, Bool.eq_iff_iff]; simp)
      cases e1
      all_goals cases e3
      all_goals
        go_enter Try.func18, Try.ntmps18
        go_wp2_with fail
        refine (CheckPrefixes_any _ _ _ [(p1, p2)] _ (onePair _ _ p1 p2 _ HP.out (by simp))).mono ?_
        rw [HC.out]
        rintro e w1 ⟨rfl, hb1⟩
        have x2 : w1.cell? ⟨w.heap.size, 2, none⟩ = some (.bool true) := (hb1.cell (by simp; omega)).trans (by simp)
        have x3 : w1.cell? ⟨w.heap.size, 3, none⟩ = some (.int .i64 cost) := (hb1.cell (by simp; omega)).trans (by simp)
        have x4 : w1.cell? ⟨w.heap.size, 4, none⟩ = some (.slice ha hl hc) := (hb1.cell (by simp; omega)).trans (by simp)
        have hbw : Below w.heap.size w w1 := (((Below.refl _ _).alloc (Nat.le_refl _) _).alloc (by simp) _).trans (hb1.mono (by simp; omega))
        clear hb1
        go_wp2_with fail
        go_ret
        exact ⟨ret_bool (by rw [HRC.out]; rfl), hbw⟩
  · have HRB : Hid (R = false) := hid (by rw [← HR.out]; exact Pl.routeB_pfx (by rw [HC1.out]; exact hc0))
    have hd0 : (c != 0) = true := by simpa using hc0
    clear hc0 h1 h2 h3 h4 h5
    go_enter Try.func18, Try.ntmps18
    go_wp2_with fail
    refine (CheckPrefixes_any _ _ _ [(p1, p2)] _ (onePair _ _ p1 p2 _ HP.out (by simp))).mono ?_
    rw [HC.out]
    rintro e w1 ⟨rfl, hb1⟩
    have hbw : Below w.heap.size w w1 := (((Below.refl _ _).alloc (Nat.le_refl _) _).alloc (by simp) _).trans (hb1.mono (by simp; omega))
    clear hb1
    go_wp2_with fail
    go_ret
    exact ⟨ret_bool HRB.out.symm, hbw⟩
end Go.Proofs.Ytcdobhdbafpkiae
