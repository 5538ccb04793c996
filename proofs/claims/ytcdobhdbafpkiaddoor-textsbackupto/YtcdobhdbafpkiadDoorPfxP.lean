/-
  Plain definitions: what is wrong with prefixes; no program in sight.
-/
import Derived.WalkKit
import Derived.Test.YtcdobhdbafpkiadDoorPairP
import Derived.Test.YtcdobhdbafpkiadDoorEnts
namespace Go.Proofs.YtcdobhdbafpkiadDoor.Pl

/-- how many addresses have so many highest bits in common -/
def span (b : Int) : Int := ((256 / 2 ^ b.toNat : Nat) : Int)
def inP (p : Int × Int) : Bool := decide (0 ≤ p.2 ∧ p.2 ≤ 8) && decide (0 ≤ p.1 ∧ p.1 ≤ 255)
/-- what is wrong with one prefix -/
def pfx1 (p : Int × Int) : Int := if inP p then (if p.1 % span p.2 = 0 then 0 else 4) else 2
/-- does one not stand behind another? -/
def pfxLow (p q : Int × Int) : Bool := decide (10 * q.1 + q.2 ≤ 10 * p.1 + p.2)
def pfxN (ps : List (Int × Int)) : Nat → Nat → Int
  | 0, _ => 0
  | n + 1, i => if pfx1 (pr ps i) = 0 then (if 0 < i ∧ pfxLow (pr ps (i - 1)) (pr ps i) = true then 7 else pfxN ps n (i + 1)) else pfx1 (pr ps i)
def pfxF (ps : List (Int × Int)) : Int := if ps.length ≤ 6 then pfxN ps ps.length 0 else 1
theorem pfxF_size {ps : List (Int × Int)} (h : 6 < ps.length) : pfxF ps = 1 := by unfold pfxF; rw [if_neg (by omega)]
theorem pfxF_from {ps : List (Int × Int)} (h : ps.length ≤ 6) : pfxF ps = pfxN ps ps.length 0 := by unfold pfxF; rw [if_pos h]
theorem pfxN_bad {ps : List (Int × Int)} {n i : Nat} (h : pfx1 (pr ps i) ≠ 0) : pfxN ps (n + 1) i = pfx1 (pr ps i) := by simp [pfxN, h]
theorem pfxN_first {ps : List (Int × Int)} {n : Nat} (h : pfx1 (pr ps 0) = 0) : pfxN ps (n + 1) 0 = pfxN ps n 1 := by simp [pfxN, h]
theorem pfxN_low {ps : List (Int × Int)} {n m : Nat} (h : pfx1 (pr ps (m + 1)) = 0) (k : pfxLow (pr ps m) (pr ps (m + 1)) = true) : pfxN ps (n + 1) (m + 1) = 7 := by simp [pfxN, h, k]
theorem pfxN_on {ps : List (Int × Int)} {n m : Nat} (h : pfx1 (pr ps (m + 1)) = 0) (k : pfxLow (pr ps m) (pr ps (m + 1)) = false) : pfxN ps (n + 1) (m + 1) = pfxN ps n (m + 1 + 1) := by simp [pfxN, h, k]
theorem pfx1_zero {p : Int × Int} (h : pfx1 p = 0) : (0 ≤ p.2 ∧ p.2 ≤ 8) ∧ (0 ≤ p.1 ∧ p.1 ≤ 255) := by
  unfold pfx1 at h
  split at h
  · rename_i hh
    unfold inP at hh
    simp at hh
    exact hh
  · cases h
/-- the number that tells which of two prefixes comes first -/
def pfxC (p q : Int × Int) : Int := if cmpI p.1 q.1 ≠ 0 then cmpI p.1 q.1 else cmpI p.2 q.2
theorem pfxC_low {p q : Int × Int} (hp : (0 ≤ p.2 ∧ p.2 ≤ 8) ∧ (0 ≤ p.1 ∧ p.1 ≤ 255)) (hq : (0 ≤ q.2 ∧ q.2 ≤ 8) ∧ (0 ≤ q.1 ∧ q.1 ≤ 255)) : decide (0 ≤ pfxC p q) = pfxLow p q := by
  unfold pfxC pfxLow cmpI
  rw [Bool.eq_iff_iff]
  simp only [decide_eq_true_eq]
  split <;> split <;> (try split) <;> (try split) <;> omega
theorem span_table : span 0 = 256 ∧ span 1 = 128 ∧ span 2 = 64 ∧ span 3 = 32 ∧ span 4 = 16 ∧ span 5 = 8 ∧ span 6 = 4 ∧ span 7 = 2 ∧ span 8 = 1 := by decide
theorem bits_cases {b : Int} (h : 0 ≤ b ∧ b ≤ 8) : b = 0 ∨ b = 1 ∨ b = 2 ∨ b = 3 ∨ b = 4 ∨ b = 5 ∨ b = 6 ∨ b = 7 ∨ b = 8 := by omega
end Go.Proofs.YtcdobhdbafpkiadDoor.Pl
