/-
  Plain definitions: texts of pairs of numbers and how they are read; no program in sight.
-/
import Derived.WalkKit
import Derived.Test.YtcdobhdbafpkiadDoorPairP
namespace Go.Proofs.YtcdobhdbafpkiadDoor.Pl

/-- a text cut at the first of a sign: what is ahead of it, and what behind -/
def cutL (c : UInt8) : List UInt8 → List UInt8 × Option (List UInt8)
  | [] => ([], none)
  | b :: r => if b = c then ([], some r) else (b :: (cutL c r).1, (cutL c r).2)
def behind (x : Option (List UInt8)) : List UInt8 := x.getD []
theorem cutL_none {c : UInt8} : ∀ {l : List UInt8}, c ∉ l → cutL c l = (l, none)
  | [], _ => rfl
  | b :: r, h => by
    simp only [List.mem_cons, not_or] at h
    rw [cutL, if_neg (fun e => h.1 e.symm), cutL_none h.2]
theorem cutL_some {c : UInt8} : ∀ {l : List UInt8} {i : Nat} (_ : i < l.length), l[i]? = some c → c ∉ l.take i → cutL c l = (l.take i, some (l.drop (i + 1)))
  | [], i, h, _, _ => by simp at h
  | b :: r, 0, _, h, _ => by simp at h; simp [cutL, h]
  | b :: r, i + 1, hi, h, k => by
    simp only [List.take_succ_cons, List.mem_cons, not_or] at k
    have := cutL_some (c := c) (l := r) (i := i) (by simpa using hi) (by simpa using h) k.2
    rw [cutL, if_neg (fun e => k.1 e.symm), this]; simp
theorem cutL_len (c : UInt8) : ∀ l : List UInt8, (cutL c l).1.length ≤ l.length ∧ (∀ r, (cutL c l).2 = some r → (cutL c l).1.length + r.length + 1 = l.length)
  | [] => ⟨by simp [cutL], by simp [cutL]⟩
  | b :: r => by
    obtain ⟨h1, h2⟩ := cutL_len c r
    by_cases e : b = c
    · simp [cutL, e]
    · rw [cutL, if_neg e]
      refine ⟨by simpa using h1, fun x hx => ?_⟩
      have := h2 x hx
      simp; omega

def dg (c : UInt8) : Bool := decide (48 ≤ (c.toNat : Int) ∧ (c.toNat : Int) ≤ 57)
def dgs (l : List UInt8) : Bool := l.all dg
def val (l : List UInt8) : Int := l.foldl (fun n c => 10 * n + ((c.toNat : Int) - 48)) 0
theorem val_snoc (l : List UInt8) (c : UInt8) : val (l ++ [c]) = 10 * val l + ((c.toNat : Int) - 48) := by simp [val]
theorem dgs_snoc (l : List UInt8) (c : UInt8) : dgs (l ++ [c]) = (dgs l && dg c) := by simp [dgs]
theorem val_nonneg : ∀ (n : Nat) (l : List UInt8), l.length = n → dgs l = true → 0 ≤ val l ∧ val l < 10 ^ n
  | 0, l, h, _ => by rw [List.length_eq_zero_iff.1 h]; simp [val]
  | n + 1, l, h, k => by
    obtain ⟨a, c, rfl⟩ : ∃ a c, l = a ++ [c] := ⟨l.dropLast, l.getLast (by intro e; simp [e] at h), (List.dropLast_concat_getLast _).symm⟩
    rw [dgs_snoc, Bool.and_eq_true] at k
    obtain ⟨h1, h2⟩ := val_nonneg n a (by simpa using h) k.1
    have hc := of_decide_eq_true k.2
    rw [val_snoc]
    have e : (10 : Int) ^ (n + 1) = 10 * 10 ^ n := by rw [Int.pow_succ]; omega
    rw [e]; omega
/-- the number that a text tells -/
def numL (l : List UInt8) : Option Int :=
  if 1 ≤ l.length ∧ l.length ≤ 6 ∧ ¬ (l.head? = some 48 ∧ 1 < l.length) ∧ dgs l = true ∧ val l ≤ 100000 then some (val l) else none
theorem numL_size {l : List UInt8} (h : l.length < 1 ∨ 6 < l.length) : numL l = none := by unfold numL; rw [if_neg (by omega)]
theorem numL_zero {l : List UInt8} (h : l.head? = some 48) (k : 1 < l.length) : numL l = none := by unfold numL; rw [if_neg (by simp [h, k])]
theorem numL_bad {l : List UInt8} (h : dgs l = false) : numL l = none := by unfold numL; rw [if_neg (by simp [h])]
theorem numL_great {l : List UInt8} (h : ¬ val l ≤ 100000) : numL l = none := by unfold numL; rw [if_neg (by simp [h])]
theorem numL_some {l : List UInt8} (h1 : 1 ≤ l.length) (h2 : l.length ≤ 6) (h3 : ¬ (l.head? = some 48 ∧ 1 < l.length)) (h4 : dgs l = true) (h5 : val l ≤ 100000) : numL l = some (val l) := by
  unfold numL; rw [if_pos ⟨h1, h2, h3, h4, h5⟩]
theorem numL_range {l : List UInt8} {n : Int} (h : numL l = some n) : 0 ≤ n ∧ n ≤ 100000 := by
  unfold numL at h
  split at h
  · rename_i hh
    obtain ⟨_, _, _, h4, h5⟩ := hh
    cases h
    exact ⟨(val_nonneg _ l rfl h4).1, h5⟩
  · cases h
theorem dgs_false {l : List UInt8} {k : Nat} (h : k < l.length) (hb : dg l[k] = false) : dgs l = false := by
  unfold dgs; rw [Bool.eq_false_iff]; intro hh
  rw [List.all_eq_true] at hh
  rw [hh _ (List.getElem_mem h)] at hb; cases hb

def pairL (m : UInt8) (l : List UInt8) : Option (Int × Int) :=
  match numL (cutL m l).1, numL (behind (cutL m l).2) with
  | some a, some b => some (a, b)
  | _, _ => none
theorem numL_nil : numL [] = none := rfl
theorem pairL_some {m : UInt8} {l : List UInt8} {a b : Int} (ha : numL (cutL m l).1 = some a) (hb : numL (behind (cutL m l).2) = some b) : pairL m l = some (a, b) := by unfold pairL; rw [ha, hb]
theorem pairL_left {m : UInt8} {l : List UInt8} (ha : numL (cutL m l).1 = none) : pairL m l = none := by unfold pairL; rw [ha]
theorem pairL_right {m : UInt8} {l : List UInt8} (hb : numL (behind (cutL m l).2) = none) : pairL m l = none := by unfold pairL; rw [hb]; split <;> simp_all
theorem pairL_ok {m : UInt8} {l : List UInt8} {p : Int × Int} (h : pairL m l = some p) : 0 ≤ p.1 ∧ p.1 ≤ 100000 ∧ 0 ≤ p.2 ∧ p.2 ≤ 100000 := by
  unfold pairL at h
  split at h
  · rename_i a b ha hb
    cases h
    exact ⟨(numL_range ha).1, (numL_range ha).2, (numL_range hb).1, (numL_range hb).2⟩
  · cases h

/-- a text in parts, cut at each comma -/
def partsN : Nat → List UInt8 → List (List UInt8)
  | 0, _ => []
  | n + 1, l => match (cutL 44 l).2 with
    | none => [(cutL 44 l).1]
    | some r => (cutL 44 l).1 :: partsN n r
def parts (l : List UInt8) : List (List UInt8) := partsN (l.length + 1) l
theorem partsN_eq : ∀ (n m : Nat) (l : List UInt8), l.length < n → l.length < m → partsN n l = partsN m l
  | 0, _, _, h, _ => by omega
  | _, 0, _, _, h => by omega
  | n + 1, m + 1, l, h, k => by
    rw [partsN, partsN]
    split
    · rfl
    · rename_i r hr
      have := (cutL_len 44 l).2 r hr
      rw [partsN_eq n m r (by omega) (by omega)]
theorem parts_none {l : List UInt8} (h : (cutL 44 l).2 = none) : parts l = [(cutL 44 l).1] := by
  unfold parts; rw [partsN, h]
theorem parts_some {l r : List UInt8} (h : (cutL 44 l).2 = some r) : parts l = (cutL 44 l).1 :: parts r := by
  unfold parts; rw [partsN, h]
  have := (cutL_len 44 l).2 r h
  simp only
  rw [partsN_eq l.length (r.length + 1) r (by omega) (by omega)]
/-- what the parts tell -/
def pairsP (m : UInt8) : List (List UInt8) → Option (List (Int × Int))
  | [] => some []
  | p :: r => match pairL m p, pairsP m r with
    | some x, some y => some (x :: y)
    | _, _ => none
/-- what a text tells -/
def pairsL (m : UInt8) (l : List UInt8) : Option (List (Int × Int)) := if l = [] then some [] else pairsP m (parts l)
/-- what is there already, and what is to come -/
def andThen (a : List (Int × Int)) (x : Option (List (Int × Int))) : Option (List (Int × Int)) := x.map (a ++ ·)
theorem pairsP_none {m : UInt8} {p : List UInt8} {r : List (List UInt8)} (h : pairL m p = none) : pairsP m (p :: r) = none := by rw [pairsP, h]
theorem pairsP_some {m : UInt8} {p : List UInt8} {r : List (List UInt8)} {x : Int × Int} {a : List (Int × Int)} (h : pairL m p = some x) : andThen a (pairsP m (p :: r)) = andThen (a ++ [x]) (pairsP m r) := by
  rw [pairsP, h]
  cases pairsP m r <;> simp [andThen]
theorem pairsP_ok {m : UInt8} : ∀ {ps : List (List UInt8)} {a : List (Int × Int)}, pairsP m ps = some a → ∀ p ∈ a, 0 ≤ p.1 ∧ p.1 ≤ 100000 ∧ 0 ≤ p.2 ∧ p.2 ≤ 100000
  | [], a, h => by cases h; simp
  | p :: r, a, h => by
    rw [pairsP] at h
    split at h
    · rename_i x y hx hy
      cases h
      intro q hq
      rcases List.mem_cons.1 hq with rfl | hq
      · exact pairL_ok hx
      · exact pairsP_ok hy q hq
    · cases h
theorem pairOk_of {p : Int × Int} (h : 0 ≤ p.1 ∧ p.1 ≤ 100000 ∧ 0 ≤ p.2 ∧ p.2 ≤ 100000) : pairOk p := by
  obtain ⟨h1, h2, h3, h4⟩ := h
  constructor
  all_goals
    simp [Lit.wf, IntKind.min, IntKind.max, IntKind.signed, IntKind.bits]
    omega
end Go.Proofs.YtcdobhdbafpkiadDoor.Pl
