/-
  Contracts: slices.Equal over lists of sides, and of prefixes, that are the same.
-/
import Derived.Test.YtcdobhdbafpkiadDoorPair
namespace Go.Proofs.YtcdobhdbafpkiadDoor
open Go.RowKit
set_option maxRecDepth 20000

set_option maxHeartbeats 1000000 in
theorem EqualS_eq (a : Option Addr) (len cap : Nat) (ps : List (Int × Int)) (a' : Option Addr) (cap' : Nat) (w : World) (h : IsPairs w a len cap ps) (h' : IsPairs w a' len cap' ps) :
    Calls Tryd.prog 11 #[.slice a len cap, .slice a' len cap'] w fun e w' => e = .returned (.bool true) ∧ Below w.heap.size w w' := by
  obtain ⟨hl, hc, hm, _, hrow⟩ := h
  obtain ⟨_, hc', hm', _, hrow'⟩ := h'
  unfold maxLen at hm hm'
  have HL := hid hl
  have HROW := hid hrow
  have HROW' := hid hrow'
  clear hl hrow hrow'
  go_enter Tryd.func11, Tryd.ntmps11
  go_wp2_with fail
  go_loopw [13] (fun i wr => ∃ k : Nat, k ≤ len ∧ i = .int .i64 k ∧ Below w.heap.size w wr) (fun i _ => len - (intOf i).toNat)
  case atStart => exact ⟨0, Nat.zero_le _, rfl, Below.refl _ _⟩
  case round =>
    obtain ⟨k, hk, rfl, hbw⟩ := hrel
    by_cases hlt : k < len
    · obtain ⟨b1, o1, rfl, hb1, hr1⟩ : ∃ b off, a = some ⟨b, off, none⟩ ∧ b < w.heap.size ∧ PairsAt w b off ps := by
        rcases HROW.out with rfl | h
        · have := HL.out; simp at this; omega
        · exact h
      obtain ⟨b2, o2, rfl, hb2, hr2⟩ : ∃ b off, a' = some ⟨b, off, none⟩ ∧ b < w.heap.size ∧ PairsAt w b off ps := by
        rcases HROW'.out with rfl | h
        · have := HL.out; simp at this; omega
        · exact h
      obtain ⟨c0, c1⟩ := hr1.below hb1 hbw k (by have := HL.out; omega)
      obtain ⟨e0, e1⟩ := hr2.below hb2 hbw k (by have := HL.out; omega)
      clear hr1 hr2
      generalize Pl.pr ps k = y at *
      obtain ⟨y0, y2⟩ := y
      simp only at c0 c1 e0 e1
      have hlt' : (k : Int) < (len : Int) := by omega
      go_wp2_with fail
      go_quiet (fail)
      go_wp2
      go_roundw
      case rel => exact ⟨k + 1, by omega, by go_num, below_drew hbw _⟩
      case measure => simp [intOf]; omega
    · obtain rfl : k = len := by omega
      go_wp2
      go_ret
      exact ⟨rfl, hbw⟩

set_option maxHeartbeats 1000000 in
theorem EqualP_eq (a : Option Addr) (len cap : Nat) (ps : List (Int × Int)) (a' : Option Addr) (cap' : Nat) (w : World) (h : IsPairs w a len cap ps) (h' : IsPairs w a' len cap' ps) :
    Calls Tryd.prog 12 #[.slice a len cap, .slice a' len cap'] w fun e w' => e = .returned (.bool true) ∧ Below w.heap.size w w' := by
  obtain ⟨hl, hc, hm, _, hrow⟩ := h
  obtain ⟨_, hc', hm', _, hrow'⟩ := h'
  unfold maxLen at hm hm'
  have HL := hid hl
  have HROW := hid hrow
  have HROW' := hid hrow'
  clear hl hrow hrow'
  go_enter Tryd.func12, Tryd.ntmps12
  go_wp2_with fail
  go_loopw [13] (fun i wr => ∃ k : Nat, k ≤ len ∧ i = .int .i64 k ∧ Below w.heap.size w wr) (fun i _ => len - (intOf i).toNat)
  case atStart => exact ⟨0, Nat.zero_le _, rfl, Below.refl _ _⟩
  case round =>
    obtain ⟨k, hk, rfl, hbw⟩ := hrel
    by_cases hlt : k < len
    · obtain ⟨b1, o1, rfl, hb1, hr1⟩ : ∃ b off, a = some ⟨b, off, none⟩ ∧ b < w.heap.size ∧ PairsAt w b off ps := by
        rcases HROW.out with rfl | h
        · have := HL.out; simp at this; omega
        · exact h
      obtain ⟨b2, o2, rfl, hb2, hr2⟩ : ∃ b off, a' = some ⟨b, off, none⟩ ∧ b < w.heap.size ∧ PairsAt w b off ps := by
        rcases HROW'.out with rfl | h
        · have := HL.out; simp at this; omega
        · exact h
      obtain ⟨c0, c1⟩ := hr1.below hb1 hbw k (by have := HL.out; omega)
      obtain ⟨e0, e1⟩ := hr2.below hb2 hbw k (by have := HL.out; omega)
      clear hr1 hr2
      generalize Pl.pr ps k = y at *
      obtain ⟨y0, y2⟩ := y
      simp only at c0 c1 e0 e1
      have hlt' : (k : Int) < (len : Int) := by omega
      go_wp2_with fail
      go_quiet (fail)
      go_wp2
      go_roundw
      case rel => exact ⟨k + 1, by omega, by go_num, below_drew hbw _⟩
      case measure => simp [intOf]; omega
    · obtain rfl : k = len := by omega
      go_wp2
      go_ret
      exact ⟨rfl, hbw⟩
end Go.Proofs.YtcdobhdbafpkiadDoor
