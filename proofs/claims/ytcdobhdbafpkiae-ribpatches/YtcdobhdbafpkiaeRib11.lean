/-
  Contracts: slices.Equal over numbers, same, the document's sameRoute and routeAt.
-/
import Derived.Test.YtcdobhdbafpkiaeRib5
import Derived.Test.YtcdobhdbafpkiaeRib7
namespace Go.Proofs.Ytcdobhdbafpkiae
open Go.RowKit

theorem Pl.ints_eq_of {xs ys : List Int} (hl : xs.length = ys.length) (h : ∀ t, t < xs.length → Pl.nm xs t = Pl.nm ys t) : xs = ys := by
  refine List.ext_getElem hl fun i h1 h2 => ?_
  have := h i h1
  rwa [Pl.nm_eq xs i h1, Pl.nm_eq ys i h2] at this

set_option maxHeartbeats 1000000 in
theorem EqualI_any (a b : Option Addr) (la lb ca cb : Nat) (xs ys : List Int) (w : World) (h1 : IsInts w a la ca xs) (h2 : IsInts w b lb cb ys) :
    Calls Try.prog 40 #[.slice a la ca, .slice b lb cb] w fun e w' => e = .returned (.bool (decide (xs = ys))) ∧ Below w.heap.size w w' := by
  have HA := hid h1
  have HB2 := hid h2
  have HLA : Hid (xs.length = la) := hid h1.1
  have HLB : Hid (ys.length = lb) := hid h2.1
  have hc1 := h1.2.1
  have hm1 := h1.2.2.1
  have hc2 := h2.2.1
  have hm2 := h2.2.2.1
  unfold maxLen at hm1 hm2
  clear h1 h2
  obtain ⟨R, HR⟩ : ∃ R, Hid (decide (xs = ys) = R) := ⟨_, rfl⟩
  rw [HR.out]
  by_cases hlen : la = lb
  · subst hlen
    have hne : ((la : Int) != (la : Int)) = false := by simp
    go_enter Try.func40, Try.ntmps40
    go_wp2_with fail
    go_loopw [13] (fun i wr => ∃ k : Nat, k ≤ la ∧ i = .int .i64 k ∧ Hid (∀ t, t < k → Pl.nm xs t = Pl.nm ys t) ∧ Hid (Below w.heap.size w wr)) (fun i _ => la - (intOf i).toNat)
    case atStart => exact ⟨0, Nat.zero_le _, rfl, hid (by intro t ht; omega), Below.refl _ _⟩
    case round =>
      obtain ⟨k, hk, rfl, HK, HB⟩ := hrel
      by_cases hlt : k < la
      · obtain ⟨g1, o1, rfl, hg1, hr1⟩ := HA.out.at hlt
        obtain ⟨g2, o2, rfl, hg2, hr2⟩ := HB2.out.at hlt
        have c1 := (HB.out.cell (p := ⟨g1, o1 + k, none⟩) hg1).trans (hr1 k (by rw [HLA.out]; exact hlt))
        have c2 := (HB.out.cell (p := ⟨g2, o2 + k, none⟩) hg2).trans (hr2 k (by rw [HLB.out]; exact hlt))
        clear hr1 hr2
        have hz := HB.out.size
        have l1 : g1 < wr.heap.size := by omega
        have l2 : g2 < wr.heap.size := by omega
        have hlt' : (k : Int) < (la : Int) := by omega
        obtain ⟨e1, g1'⟩ : ∃ c, (Pl.nm xs k != Pl.nm ys k) = c := ⟨_, rfl⟩
        have HE := hid g1'
        obtain ⟨x, HX⟩ : ∃ x, Hid (Pl.nm xs k = x) := ⟨_, rfl⟩
        obtain ⟨y, HY⟩ : ∃ y, Hid (Pl.nm ys k = y) := ⟨_, rfl⟩
        rw [HX.out] at c1
        rw [HY.out] at c2
        rw [HX.out, HY.out] at g1'
        cases e1
        · go_wp2_with fail
          go_quiet (fail)
          go_wp2_with fail
          go_roundw
          case rel => exact ⟨k + 1, by omega, by go_num, hid fun t ht => by rcases Nat.lt_or_ge t k with q | q; exact HK.out t q; obtain rfl : t = k := (by omega); simpa using HE.out, hid (below_drew HB.out _)⟩
          case measure => simp [intOf]; omega
        · have HF : Hid (R = false) := hid (by
            rw [← HR.out, decide_eq_false_iff_not]
            intro e
            have := HE.out
            rw [e] at this
            simp at this)
          go_wp2_with fail
          go_quiet (fail)
          go_wp2_with fail
          go_ret
          exact ⟨ret_bool HF.out.symm, below_drew HB.out _⟩
      · obtain rfl : k = la := by omega
        have HT : Hid (R = true) := hid (by
          rw [← HR.out, decide_eq_true_eq]
          exact Pl.ints_eq_of (by rw [HLA.out, HLB.out]) (by rw [HLA.out]; exact HK.out))
        go_wp2_with fail
        go_ret
        exact ⟨ret_bool HT.out.symm, HB.out⟩
  · have hne : ((la : Int) != (lb : Int)) = true := by simp; omega
    have HF : Hid (R = false) := hid (by
      rw [← HR.out, decide_eq_false_iff_not]
      intro e
      apply hlen
      rw [← HLA.out, ← HLB.out, e])
    clear hlen
    go_enter Try.func40, Try.ntmps40
    go_wp2_with fail
    go_ret
    exact ⟨ret_bool HF.out.symm, Below.refl _ _⟩

theorem twoBoxes {w : World} {o o' : Obj} : Below w.heap.size w ((w.alloc o).alloc o') := ((Below.refl _ _).alloc (Nat.le_refl _) _).alloc (by simp) _

set_option maxHeartbeats 1000000 in
theorem same_any (g h : Pl.RH) (r s : Pl.Rt) (w : World) (h1 : Reads w g r) (h2 : Reads w h s) :
    Calls Try.prog 28 #[.agg #[.int .i64 g.p.1, .int .i64 g.p.2, .bool g.here, .int .i64 g.cost, .slice g.ha g.hl g.hc], .agg #[.int .i64 h.p.1, .int .i64 h.p.2, .bool h.here, .int .i64 h.cost, .slice h.ha h.hl h.hc]] w fun e w' => e = .returned (.bool (Pl.sameR r s)) ∧ Below w.heap.size w w' := by
  obtain ⟨a1, a2, a3, a4, _⟩ := h1
  obtain ⟨b1, b2, b3, b4, _⟩ := h2
  obtain ⟨⟨p1, p2⟩, here, cost, ha, hl, hc⟩ := g
  obtain ⟨⟨q1, q2⟩, here', cost', hb, hl', hc'⟩ := h
  simp only at a1 a2 a3 a4 b1 b2 b3 b4
  simp only
  obtain ⟨R, HR⟩ : ∃ R, Hid (Pl.sameR r s = R) := ⟨_, rfl⟩
  rw [HR.out]
  obtain ⟨e3, HE3⟩ : ∃ c, Hid (decide (r.hops = s.hops) = c) := ⟨_, rfl⟩
  obtain ⟨e1, g1⟩ : ∃ c, (here == here') = c := ⟨_, rfl⟩
  obtain ⟨e2, g2⟩ : ∃ c, (cost == cost') = c := ⟨_, rfl⟩
  have HE : Hid (R = (e1 && e2 && e3)) := hid (by
    rw [← HR.out, ← HE3.out, ← g1, ← g2]
    unfold Pl.sameR
    rw [← a2, ← b2, ← a3, ← b3, Bool.eq_iff_iff]
    simp)
  have HA := hid a4
  have HB := hid b4
  have HQ : Hid (∀ W, Below w.heap.size w W → Calls Try.prog 40 #[.slice ha hl hc, .slice hb hl' hc'] W fun e w' => e = .returned (.bool e3) ∧ Below W.heap.size W w') := hid fun W hW => by
    have := EqualI_any ha hb hl hl' hc hc' r.hops s.hops W (HA.out.below hW) (HB.out.below hW)
    rwa [HE3.out] at this
  clear a1 a2 a3 a4 b1 b2 b3 b4
  cases e1
  · go_enter Try.func28, Try.ntmps28
    go_wp2_with fail
    go_ret
    exact ⟨ret_bool (by rw [HE.out]; rfl), twoBoxes⟩
  · cases e2
    · go_enter Try.func28, Try.ntmps28
      go_wp2_with fail
      go_ret
      exact ⟨ret_bool (by rw [HE.out]; rfl), twoBoxes⟩
    · go_enter Try.func28, Try.ntmps28
      go_wp2_with (go_at_call 40; refine (HQ.out _ twoBoxes).mono ?_; rintro e w1 ⟨rfl, hb1⟩)
      go_ret
      exact ⟨ret_bool (by rw [HE.out]; rfl), twoBoxes.trans (hb1.mono (by simp; omega))⟩
end Go.Proofs.Ytcdobhdbafpkiae
