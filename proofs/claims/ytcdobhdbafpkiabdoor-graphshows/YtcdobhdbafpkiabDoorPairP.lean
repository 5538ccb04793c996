/-
  Plain definitions: lists of pairs of numbers (sides of links, prefixes), what is wrong with one; no program in sight.
-/
import Derived.WalkKit
import Derived.Test.YtcdobhdbafpkiabDoorPlain
namespace Go.Proofs.YtcdobhdbafpkiabDoor.Pl

/-- the pair at a place -/
def pr (ps : List (Int × Int)) (i : Nat) : Int × Int := ps.getD i (0, 0)
theorem pr_eq (ps : List (Int × Int)) (i : Nat) (h : i < ps.length) : pr ps i = ps[i] := by simp [pr, List.getD, h]
theorem pr_mem (ps : List (Int × Int)) (i : Nat) (h : i < ps.length) : pr ps i ∈ ps := by rw [pr_eq ps i h]; exact List.getElem_mem h
theorem drop_pr (ps : List (Int × Int)) (i : Nat) (h : i < ps.length) : ps.drop i = pr ps i :: ps.drop (i + 1) := by
  rw [pr_eq ps i h]; exact List.drop_eq_getElem_cons h
theorem pr_app_lt (ps qs : List (Int × Int)) (i : Nat) (h : i < ps.length) : pr (ps ++ qs) i = pr ps i := by
  rw [pr_eq ps i h, pr_eq _ i (by simp; omega), List.getElem_append_left h]
theorem pr_app_at (ps : List (Int × Int)) (p : Int × Int) : pr (ps ++ [p]) ps.length = p := by
  rw [pr_eq _ _ (by simp)]; simp

def pairOk (p : Int × Int) : Prop := (Lit.int .i64 p.1).wf = true ∧ (Lit.int .i64 p.2).wf = true

/-- may a side be told? -/
def sideB (n c : Int) : Bool := decide (0 ≤ n ∧ n ≤ 11) && decide (1 ≤ c ∧ c ≤ 1000)
/-- what is wrong with sides from a place on: so many are still to be looked at -/
def adjN (ps : List (Int × Int)) : Nat → Nat → Int
  | 0, _ => 0
  | n + 1, i => if sideB (pr ps i).1 (pr ps i).2 then (if 0 < i ∧ (pr ps i).1 ≤ (pr ps (i - 1)).1 then 7 else adjN ps n (i + 1)) else 2
def adjF (ps : List (Int × Int)) : Int := adjN ps ps.length 0
theorem adjN_range {ps : List (Int × Int)} {n i : Nat} (h : sideB (pr ps i).1 (pr ps i).2 = false) : adjN ps (n + 1) i = 2 := by simp [adjN, h]
theorem adjN_low {ps : List (Int × Int)} {n m : Nat} (h : sideB (pr ps (m + 1)).1 (pr ps (m + 1)).2 = true) (k : (pr ps (m + 1)).1 ≤ (pr ps m).1) : adjN ps (n + 1) (m + 1) = 7 := by simp [adjN, h, k]
theorem adjN_first {ps : List (Int × Int)} {n : Nat} (h : sideB (pr ps 0).1 (pr ps 0).2 = true) : adjN ps (n + 1) 0 = adjN ps n 1 := by simp [adjN, h]
theorem adjN_on {ps : List (Int × Int)} {n m : Nat} (h : sideB (pr ps (m + 1)).1 (pr ps (m + 1)).2 = true) (k : ¬ (pr ps (m + 1)).1 ≤ (pr ps m).1) : adjN ps (n + 1) (m + 1) = adjN ps n (m + 1 + 1) := by
  simp [adjN, h]; omega
end Go.Proofs.YtcdobhdbafpkiabDoor.Pl
