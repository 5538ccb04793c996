/-
  Contracts: the document's hasPrefix and PatchedOf.
-/
import Derived.Test.YtcdobhdbafpkiaeRib4
import Derived.Test.YtcdobhdbafpkiaeRib21
namespace Go.Proofs.Ytcdobhdbafpkiae
open Go.RowKit

theorem box2' {w w3 : World} {c0 c1 : Value} {T : TypeId} (hb : Below (w.heap.size + 1) (w.alloc (.cells #[c0, c1] T)) w3) :
    w3.cell? ⟨w.heap.size, 0, none⟩ = some c0 ∧ w3.cell? ⟨w.heap.size, 1, none⟩ = some c1 ∧ w.heap.size < w3.heap.size ∧ Below w.heap.size w w3 := box2 hb

set_option maxHeartbeats 2000000 in
theorem hasPrefix_any (a : Option Addr) (len cap : Nat) (ps : List (Int × Int)) (p1 p2 : Int) (w : World) (h : IsPairs w a len cap ps) :
    Calls Try.prog 33 #[.slice a len cap, .agg #[.int .i64 p1, .int .i64 p2]] w fun e w' => e = .returned (.bool (decide ((p1, p2) ∈ ps))) ∧ Below w.heap.size w w' := by
  obtain ⟨hl, hc, hm, _, hrow⟩ := h
  unfold maxLen at hm
  have HL := hid hl
  have HROW := hid hrow
  clear hl hrow
  obtain ⟨R, HR⟩ : ∃ R, Hid (decide ((p1, p2) ∈ ps) = R) := ⟨_, rfl⟩
  rw [HR.out]
  go_enter Try.func33, Try.ntmps33
  go_wp2_with fail
  obtain ⟨W0, HW0⟩ : ∃ x, Hid (x = w.alloc (.cells #[.int .i64 p1, .int .i64 p2] 27)) := ⟨_, rfl⟩
  have HB0 : Hid (Below w.heap.size w W0) := hid (by rw [HW0.out]; exact (Below.refl _ _).alloc (Nat.le_refl _) _)
  have HX0 : Hid (∀ W, Below W0.heap.size W0 W → W.cell? ⟨w.heap.size, 0, none⟩ = some (.int .i64 p1) ∧ W.cell? ⟨w.heap.size, 1, none⟩ = some (.int .i64 p2) ∧ w.heap.size < W.heap.size) := hid fun W hW => by
    have := box2' (w := w) (w3 := W) (c0 := .int .i64 p1) (c1 := .int .i64 p2) (T := 27) (by rw [HW0.out] at hW; simpa using hW)
    exact ⟨this.1, this.2.1, this.2.2.1⟩
  rw [← HW0.out]
  go_loopw [5] (fun i wr => ∃ k : Nat, k ≤ len ∧ i = .int .i64 k ∧ Hid (∀ t, t < k → ¬ Pl.pr ps t = (p1, p2)) ∧ Hid (Below W0.heap.size W0 wr)) (fun i _ => len - (intOf i).toNat)
  case atStart => exact ⟨0, Nat.zero_le _, rfl, hid (by intro t ht; omega), hid (Below.refl _ _)⟩
  case round =>
    obtain ⟨k, hk, rfl, HK, HBK⟩ := hrel
    obtain ⟨x0, x1, hsz⟩ := HX0.out _ HBK.out
    have HBW := hid (HB0.out.trans (HBK.out.mono HB0.out.size))
    by_cases hlt : k < len
    · obtain ⟨b, off, rfl, hbw, hr⟩ : ∃ b' off, a = some ⟨b', off, none⟩ ∧ b' < w.heap.size ∧ PairsAt w b' off ps := by
        rcases HROW.out with rfl | h
        · have := HL.out; simp at this; omega
        · exact h
      obtain ⟨c0, c1⟩ := hr.below hbw HBW.out k (by rw [HL.out]; exact hlt)
      obtain ⟨qq, HQ⟩ : ∃ x, Hid (Pl.pr ps k = x) := ⟨_, rfl⟩
      rw [HQ.out] at c0 c1
      obtain ⟨q1, q2⟩ := qq
      simp only at c0 c1
      have hlt' : (k : Int) < (len : Int) := by omega
      obtain ⟨e1, g1⟩ : ∃ c, (q1 == p1) = c := ⟨_, rfl⟩
      obtain ⟨e2, g2⟩ : ∃ c, (q2 == p2) = c := ⟨_, rfl⟩
      by_cases hfound : e1 = true ∧ e2 = true
      · obtain ⟨rfl, rfl⟩ := hfound
        have HT : Hid (R = true) := hid (by
          rw [← HR.out, decide_eq_true_eq]
          have : Pl.pr ps k = (p1, p2) := by rw [HQ.out]; simp at g1 g2; rw [g1, g2]
          rw [← this]
          exact Pl.pr_mem ps k (by rw [HL.out]; exact hlt))
        go_wp2_with fail
        go_quiet (fail)
        go_wp2_with fail
        go_ret
        exact ⟨ret_bool HT.out.symm, below_drew HBW.out _⟩
      · have HNE : Hid (¬ Pl.pr ps k = (p1, p2)) := hid fun hpr => by
          apply hfound
          rw [HQ.out] at hpr
          simp only [Prod.mk.injEq] at hpr
          rw [← g1, ← g2]
          simp [hpr.1, hpr.2]
        cases e1
        all_goals cases e2
        all_goals first | (exact absurd ⟨rfl, rfl⟩ hfound) | skip
        all_goals
          clear hfound
          go_wp2_with fail
          go_quiet (fail)
          go_wp2_with fail
          go_roundw
          case rel => exact ⟨k + 1, by omega, by go_num, hid fun t ht => by rcases Nat.lt_or_ge t k with q | q; exact HK.out t q; obtain rfl : t = k := (by omega); exact HNE.out, hid (below_drew HBK.out _)⟩
          case measure => simp [intOf]; omega
    · have HT : Hid (R = false) := hid (by
        rw [← HR.out, decide_eq_false_iff_not]
        intro hm
        obtain ⟨t, ht, e⟩ := List.getElem_of_mem hm
        have := HK.out t (by rw [HL.out] at ht; omega)
        rw [Pl.pr_eq ps t ht] at this
        exact this e)
      have hnl : ¬ ((k : Int) < (len : Int)) := by omega
      go_wp2_with fail
      go_ret
      exact ⟨ret_bool HT.out.symm, HBW.out⟩
end Go.Proofs.Ytcdobhdbafpkiae
