/-
  Contracts: two lists of the same numbers, two routes that are the same, are told the same (the law's own sameInts, sameRoute).
-/
import Derived.Test.YtcdobhdbafpkiaeRibM
import Derived.Test.YtcdobhdbafpkiaeQuiet
namespace Go.Proofs.Ytcdobhdbafpkiae
open Go.RowKit

set_option maxHeartbeats 1000000 in
theorem sameInts_law (a b : Option Addr) (len capa capb : Nat) (zs : List Int) (w : World) (h1 : IsInts w a len capa zs) (h2 : IsInts w b len capb zs) :
    Calls Try.prog 27 #[.slice a len capa, .slice b len capb] w fun e w' => e = .returned (.bool true) ∧ Below w.heap.size w w' := by
  have HA := hid h1
  have HB2 := hid h2
  have HL : Hid (zs.length = len) := hid h1.1
  have hc1 := h1.2.1
  have hm1 := h1.2.2.1
  have hc2 := h2.2.1
  have hm2 := h2.2.2.1
  unfold maxLen at hm1 hm2
  clear h1 h2
  go_enter Try.func27, Try.ntmps27
  go_wp2_with fail
  go_loopw [5] (fun i wr => ∃ k : Nat, k ≤ len ∧ i = .int .i64 k ∧ Hid (Below w.heap.size w wr)) (fun i _ => len - (intOf i).toNat)
  case atStart => exact ⟨0, Nat.zero_le _, rfl, Below.refl _ _⟩
  case round =>
    obtain ⟨k, hk, rfl, HB⟩ := hrel
    by_cases hlt : k < len
    · obtain ⟨g1, o1, rfl, hg1, hr1⟩ := HA.out.at hlt
      obtain ⟨g2, o2, rfl, hg2, hr2⟩ := HB2.out.at hlt
      have c1 := (HB.out.cell (p := ⟨g1, o1 + k, none⟩) hg1).trans (hr1 k (by rw [HL.out]; exact hlt))
      have c2 := (HB.out.cell (p := ⟨g2, o2 + k, none⟩) hg2).trans (hr2 k (by rw [HL.out]; exact hlt))
      generalize Pl.nm zs k = y at *
      clear hr1 hr2
      have hz := HB.out.size
      have l1 : g1 < wr.heap.size := by omega
      have l2 : g2 < wr.heap.size := by omega
      have hlt' : (k : Int) < (len : Int) := by omega
      go_wp2_with fail
      go_region
      go_wp2_with fail
      go_roundw
      case rel => exact ⟨k + 1, by omega, by go_num, HB.out.drew⟩
      case measure => simp [intOf]; omega
    · obtain rfl : k = len := by omega
      go_wp2_with fail
      go_ret
      exact ⟨rfl, HB.out⟩

set_option maxHeartbeats 1000000 in
theorem sameRoute_law (g h : Pl.RH) (r : Pl.Rt) (w : World) (h1 : Reads w g r) (h2 : Reads w h r) :
    Calls Try.prog 11 #[.agg #[.int .i64 g.p.1, .int .i64 g.p.2, .bool g.here, .int .i64 g.cost, .slice g.ha g.hl g.hc], .agg #[.int .i64 h.p.1, .int .i64 h.p.2, .bool h.here, .int .i64 h.cost, .slice h.ha h.hl h.hc]] w fun e w' => e = .returned (.bool true) ∧ Below w.heap.size w w' := by
  obtain ⟨a1, a2, a3, a4, _⟩ := h1
  obtain ⟨b1, b2, b3, b4, _⟩ := h2
  obtain ⟨⟨p1, p2⟩, here, cost, ha, hl, hc⟩ := g
  obtain ⟨⟨q1, q2⟩, here', cost', hb, hl', hc'⟩ := h
  simp only at a1 a2 a3 a4 b1 b2 b3 b4
  obtain ⟨rp, rh, rc, rz⟩ := r
  simp only at a1 a2 a3 a4 b1 b2 b3 b4
  subst a1 a2 a3
  simp only [Prod.mk.injEq] at b1
  obtain ⟨rfl, rfl⟩ := b1
  subst b2 b3
  obtain rfl : hl' = hl := by rw [← a4.1, ← b4.1]
  have HA := hid a4
  have HB := hid b4
  clear a4 b4
  go_enter Try.func11, Try.ntmps11
  go_wp2_with (go_at_call 27; refine (sameInts_law _ _ _ _ _ rz _ (HA.out.below (((Below.refl _ _).alloc (Nat.le_refl _) _).alloc (by simp) _)) (HB.out.below (((Below.refl _ _).alloc (Nat.le_refl _) _).alloc (by simp) _))).mono ?_; rintro e w1 ⟨rfl, hb1⟩)
  go_ret
  exact ⟨rfl, (((Below.refl _ _).alloc (Nat.le_refl _) _).alloc (by simp) _).trans (hb1.mono (by simp; omega))⟩
end Go.Proofs.Ytcdobhdbafpkiae
