/-
  Frames: a run of slots that a region writes, as a list of values.
-/
import Derived.Test.YtcdobhdbafpkiadDoorInv
namespace Go.Proofs.YtcdobhdbafpkiadDoor
open Go.RowKit
set_option maxRecDepth 20000

/-- slots from s on hold the values of a list -/
def setFrom (t : Array Value) (s : Nat) : List Value → Array Value
  | [] => t
  | x :: r => setFrom (t.setIfInBounds s x) (s + 1) r
theorem setFrom_size : ∀ (xs : List Value) (t : Array Value) (s : Nat), (setFrom t s xs).size = t.size
  | [], _, _ => rfl
  | x :: r, t, s => by rw [setFrom, setFrom_size r]; simp
theorem setFrom_out : ∀ (xs : List Value) (t : Array Value) (s k : Nat), (k < s ∨ s + xs.length ≤ k) → (setFrom t s xs)[k]? = t[k]?
  | [], _, _, _, _ => rfl
  | x :: r, t, s, k, h => by
    rw [setFrom, setFrom_out r _ (s + 1) k (by simp at h; omega), Array.getElem?_setIfInBounds_ne (by simp at h; omega)]
theorem setFrom_at : ∀ (xs : List Value) (t : Array Value) (s k : Nat), k < xs.length → s + k < t.size → (setFrom t s xs)[s + k]? = xs[k]?
  | [], _, _, _, h, _ => by simp at h
  | x :: r, t, s, 0, _, hb => by
    rw [setFrom, setFrom_out r _ (s + 1) (s + 0) (by omega)]
    simp at hb
    simp [hb]
  | x :: r, t, s, k + 1, h, hb => by
    have := setFrom_at r (t.setIfInBounds s x) (s + 1) k (by simpa using h) (by simp; omega)
    rw [setFrom, show s + (k + 1) = s + 1 + k by omega, this]
    simp
theorem setFrom_comm : ∀ (xs : List Value) (t : Array Value) (s j : Nat) (v : Value), j < s → setFrom (t.setIfInBounds j v) s xs = (setFrom t s xs).setIfInBounds j v
  | [], _, _, _, _, _ => rfl
  | x :: r, t, s, j, v, h => by
    rw [setFrom, setFrom, Array.setIfInBounds_comm _ _ (by omega), setFrom_comm r _ (s + 1) j v (by omega)]
theorem setFrom_set : ∀ (xs : List Value) (t : Array Value) (s k : Nat) (v : Value), k < xs.length → (setFrom t s xs).setIfInBounds (s + k) v = setFrom t s (xs.set k v)
  | [], _, _, _, _, h => by simp at h
  | x :: r, t, s, 0, v, _ => by
    rw [List.set_cons_zero, setFrom, setFrom, ← setFrom_comm r _ (s + 1) (s + 0) v (by omega)]
    congr 1
    simp
  | x :: r, t, s, k + 1, v, h => by
    rw [List.set_cons_succ, setFrom, setFrom, show s + (k + 1) = s + 1 + k by omega, setFrom_set r _ (s + 1) k v (by simpa using h)]
theorem setFrom_self : ∀ (n : Nat) (t : Array Value) (s : Nat), s + n ≤ t.size → ∃ xs : List Value, xs.length = n ∧ setFrom t s xs = t
  | 0, t, _, _ => ⟨[], rfl, rfl⟩
  | n + 1, t, s, h => by
    obtain ⟨xs, h1, h2⟩ := setFrom_self n t (s + 1) (by omega)
    refine ⟨t[s] :: xs, by simp [h1], ?_⟩
    rw [setFrom]
    have : t.setIfInBounds s t[s] = t := by
      apply Array.ext
      · simp
      · intro i h1 h2
        rw [Array.getElem_setIfInBounds]
        split
        · rename_i e; subst e; rfl
        · rfl
    rw [this, h2]
theorem list14 (xs : List Value) (h : xs.length = 14) : ∃ x0 x1 x2 x3 x4 x5 x6 x7 x8 x9 x10 x11 x12 x13, xs = [x0, x1, x2, x3, x4, x5, x6, x7, x8, x9, x10, x11, x12, x13] := by
  match xs, h with
  | [x0, x1, x2, x3, x4, x5, x6, x7, x8, x9, x10, x11, x12, x13], _ => exact ⟨x0, x1, x2, x3, x4, x5, x6, x7, x8, x9, x10, x11, x12, x13, rfl⟩
end Go.Proofs.YtcdobhdbafpkiadDoor
