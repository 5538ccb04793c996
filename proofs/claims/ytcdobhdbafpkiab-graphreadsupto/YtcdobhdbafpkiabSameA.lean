/-
  Contract: sameAdj, at whatever is told of links.
-/
import Derived.Test.YtcdobhdbafpkiabReadA
namespace Go.Proofs.Ytcdobhdbafpkiab
open Go.RowKit

theorem Pl.adjS_ok (l : List UInt8) : ∀ p ∈ Pl.adjS l, Pl.pairOk p := by
  intro p hp
  unfold Pl.adjS at hp
  split at hp
  · cases h : Pl.sidesL l with
    | none => rw [h] at hp; simp at hp
    | some a =>
      rw [h] at hp
      exact (Pl.pairsL_facts (m := 61) (l := Pl.tailB 33 l) h).2 p hp
  · simp at hp

set_option maxHeartbeats 1000000 in
theorem sameAdj_eq (d : Bool) (a : Option Addr) (len cap : Nat) (ps : List (Int × Int)) (a' : Option Addr) (cap' : Nat) (w : World) (h : IsPairs w a len cap ps) (h' : IsPairs w a' len cap' ps) :
    Calls Try.prog 17 #[.agg #[.bool d, .slice a len cap], .agg #[.bool d, .slice a' len cap']] w fun e w' => e = .returned (.bool true) ∧ Below w.heap.size w w' := by
  obtain ⟨hl, hc, hm, _, hrow⟩ := h
  obtain ⟨_, hc', hm', _, hrow'⟩ := h'
  unfold maxLen at hm hm'
  have HL := hid hl
  have HROW := hid hrow
  have HROW' := hid hrow'
  clear hl hrow hrow'
  have bA : Below w.heap.size w ((w.alloc (.cells #[.bool d, .slice a len cap] 34)).alloc (.cells #[.bool d, .slice a' len cap'] 34)) := ((Below.refl _ _).alloc (Nat.le_refl _) _).alloc (by simp) _
  go_enter Try.func17, Try.ntmps17
  go_wp2_with fail
  go_loopw [5] (fun i wr => ∃ k : Nat, k ≤ len ∧ i = .int .i64 k ∧ Below (w.heap.size + 2) ((w.alloc (.cells #[.bool d, .slice a len cap] 34)).alloc (.cells #[.bool d, .slice a' len cap'] 34)) wr) (fun i _ => len - (intOf i).toNat)
  case atStart => exact ⟨0, Nat.zero_le _, rfl, Below.refl _ _⟩
  case round =>
    obtain ⟨k, hk, rfl, hb⟩ := hrel
    have hbw : Below w.heap.size w wr := bA.trans (hb.mono (by omega))
    obtain ⟨_, y1, _, _⟩ := adjAt_cells ((hb.block (w.heap.size + 1) (by omega)).trans (by have := heapNew (w.alloc (.cells #[.bool d, .slice a len cap] 34)) (.cells #[.bool d, .slice a' len cap'] 34); simpa using this))
    obtain ⟨_, x1, _, _⟩ := adjAt_cells ((hb.block w.heap.size (by omega)).trans (heapOld (heapNew w (.cells #[.bool d, .slice a len cap] 34)) _))
    by_cases hlt : k < len
    · obtain ⟨b1, o1, rfl, hb1, hr1⟩ : ∃ b off, a = some ⟨b, off, none⟩ ∧ b < w.heap.size ∧ PairsAt w b off ps := by
        rcases HROW.out with rfl | h
        · have := HL.out; simp at this; omega
        · exact h
      obtain ⟨b2, o2, rfl, hb2, hr2⟩ : ∃ b off, a' = some ⟨b, off, none⟩ ∧ b < w.heap.size ∧ PairsAt w b off ps := by
        rcases HROW'.out with rfl | h
        · have := HL.out; simp at this; omega
        · exact h
      obtain ⟨c0, c1⟩ := hr1.below hb1 hbw k (by have := HL.out; omega)
      obtain ⟨e0, e1⟩ := hr2.below hb2 hbw k (by have := HL.out; omega)
      clear hr1 hr2
      generalize Pl.pr ps k = y at *
      obtain ⟨y0, y2⟩ := y
      simp only at c0 c1 e0 e1
      have hlt' : (k : Int) < (len : Int) := by omega
      go_wp2_with fail
      go_quiet (fail)
      go_wp2
      go_roundw
      case rel => exact ⟨k + 1, by omega, by go_num, below_drew hb _⟩
      case measure => simp [intOf]; omega
    · obtain rfl : k = len := by omega
      go_wp2
      go_ret
      exact ⟨rfl, hbw⟩
end Go.Proofs.Ytcdobhdbafpkiab
