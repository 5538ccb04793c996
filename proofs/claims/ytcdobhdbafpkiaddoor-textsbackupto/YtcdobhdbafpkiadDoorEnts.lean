/-
  Plain definitions: texts in their order, entries, which one is greater; no program in sight.
-/
import Derived.WalkKit
import Derived.Test.YtcdobhdbafpkiadDoorPlain
namespace Go.Proofs.YtcdobhdbafpkiadDoor.Pl

theorem less_iff : ∀ (x y : List UInt8), Op.bytesLess x y = true ↔ x < y
  | [], [] => by simp [Op.bytesLess]
  | [], _ :: _ => by simp [Op.bytesLess]
  | _ :: _, [] => by simp [Op.bytesLess]
  | a :: x, b :: y => by
    simp only [Op.bytesLess]
    rw [List.cons_lt_cons_iff]
    by_cases h : a < b
    · simp [h]
    · by_cases e : a = b
      · subst e; simp [less_iff x y]
      · simp [h, e]

def ltB (a b : ByteArray) : Bool := Op.bytesLess a.toList b.toList
theorem ltB_def (a b : ByteArray) : Op.bytesLess a.toList b.toList = ltB a b := rfl
theorem ltB_iff (a b : ByteArray) : ltB a b = true ↔ a.toList < b.toList := by
  unfold ltB; exact less_iff _ _
theorem ltB_irrefl (a : ByteArray) : ltB a a = false := by
  rw [Bool.eq_false_iff, Ne, ltB_iff]; exact List.lt_irrefl _
theorem ltB_asymm {a b : ByteArray} (h : ltB a b = true) : ltB b a = false := by
  rw [ltB_iff] at h
  rw [Bool.eq_false_iff, Ne, ltB_iff]; exact List.lt_asymm h
theorem ltB_trans {a b c : ByteArray} (h : ltB a b = true) (k : ltB b c = true) : ltB a c = true := by
  rw [ltB_iff] at h k ⊢
  exact List.lt_trans h k
theorem toList_inj {a b : ByteArray} (h : a.toList = b.toList) : a = b := by
  rw [ByteArray.toList_eq, ByteArray.toList_eq] at h
  cases a; cases b; simp at h; simp [h]
theorem ltB_total {a b : ByteArray} (h : ltB a b = false) (k : ltB b a = false) : a = b := by
  rw [Bool.eq_false_iff, Ne, ltB_iff] at h k
  exact toList_inj (List.le_antisymm (List.not_lt.1 k) (List.not_lt.1 h))
theorem beqL (a b : ByteArray) : (a.toList == b.toList) = decide (a = b) := by
  rw [Bool.eq_iff_iff]; simp; exact ⟨toList_inj, fun h => h ▸ rfl⟩
theorem beqL_false {a b : ByteArray} (h : ¬ a = b) : (a.toList == b.toList) = false := by rw [beqL]; simp [h]
theorem ne_of_lt {a b : ByteArray} (h : ltB a b = true) : ¬ a = b := fun e => by rw [e, ltB_irrefl] at h; cases h
theorem tri (x y : ByteArray) : (Op.bytesLess x.toList y.toList = true ∧ Op.bytesLess y.toList x.toList = false ∧ ¬ x = y) ∨ x = y ∨ (Op.bytesLess x.toList y.toList = false ∧ Op.bytesLess y.toList x.toList = true ∧ ¬ x = y) := by
  show (ltB x y = true ∧ ltB y x = false ∧ ¬ x = y) ∨ x = y ∨ (ltB x y = false ∧ ltB y x = true ∧ ¬ x = y)
  cases h : ltB x y
  · cases k : ltB y x
    · exact .inr (.inl (ltB_total h k))
    · exact .inr (.inr ⟨rfl, rfl, fun e => ne_of_lt k e.symm⟩)
  · exact .inl ⟨rfl, ltB_asymm h, ne_of_lt h⟩

/-- which one of two numbers, of two texts comes first -/
def cmpI (a b : Int) : Int := if a < b then -1 else if b < a then 1 else 0
def cmpS (x y : ByteArray) : Int := if ltB x y then -1 else if ltB y x then 1 else 0
/-- which one of two entries is the greater one -/
def cmpE (v1 o1 : Int) (x1 : ByteArray) (v2 o2 : Int) (x2 : ByteArray) : Int :=
  if cmpI v1 v2 ≠ 0 then cmpI v1 v2 else if cmpI o1 o2 ≠ 0 then cmpI o1 o2 else cmpS x1 x2
theorem cmpI_lt {a b : Int} (h : a < b) : cmpI a b = -1 := by simp [cmpI, h]
theorem cmpI_gt {a b : Int} (h : b < a) : cmpI a b = 1 := by unfold cmpI; rw [if_neg (by omega), if_pos h]
theorem cmpI_eq (a : Int) : cmpI a a = 0 := by simp [cmpI]
theorem cmpS_lt {a b : ByteArray} (h : Op.bytesLess a.toList b.toList = true) : cmpS a b = -1 := by unfold cmpS; rw [if_pos (show ltB a b = true from h)]
theorem cmpS_gt {a b : ByteArray} (h : Op.bytesLess b.toList a.toList = true) : cmpS a b = 1 := by unfold cmpS; rw [if_neg (by rw [ltB_asymm h]; simp), if_pos (show ltB b a = true from h)]
theorem cmpS_eq (a : ByteArray) : cmpS a a = 0 := by simp [cmpS, ltB_irrefl]
/-- is the first one greater? -/
def aboveB (v1 o1 : Int) (x1 : ByteArray) (v2 o2 : Int) (x2 : ByteArray) : Bool := decide (cmpE v1 o1 x1 v2 o2 x2 = 1)
theorem cmpI_swap (a b : Int) : cmpI b a = - cmpI a b := by unfold cmpI; split <;> split <;> omega
theorem cmpI_vals (a b : Int) : cmpI a b = -1 ∨ cmpI a b = 0 ∨ cmpI a b = 1 := by unfold cmpI; split <;> (try split) <;> simp
theorem cmpS_swap (a b : ByteArray) : cmpS b a = - cmpS a b := by
  rcases tri a b with ⟨h, _, _⟩ | rfl | ⟨_, h, _⟩
  · rw [cmpS_lt h, cmpS_gt h]; rfl
  · rw [cmpS_eq]; rfl
  · rw [cmpS_lt h, cmpS_gt h]
theorem cmpS_vals (a b : ByteArray) : cmpS a b = -1 ∨ cmpS a b = 0 ∨ cmpS a b = 1 := by
  rcases tri a b with ⟨h, _, _⟩ | rfl | ⟨_, h, _⟩
  · rw [cmpS_lt h]; simp
  · rw [cmpS_eq]; simp
  · rw [cmpS_gt h]; simp
theorem cmpE_swap (v1 o1 : Int) (x1 : ByteArray) (v2 o2 : Int) (x2 : ByteArray) : cmpE v2 o2 x2 v1 o1 x1 = - cmpE v1 o1 x1 v2 o2 x2 := by
  unfold cmpE
  rw [cmpI_swap v1 v2, cmpI_swap o1 o2, cmpS_swap x1 x2]
  generalize cmpI v1 v2 = a; generalize cmpI o1 o2 = b; generalize cmpS x1 x2 = c
  by_cases ha : a = 0 <;> by_cases hb : b = 0 <;> simp [ha, hb]
theorem cmpE_vals (v1 o1 : Int) (x1 : ByteArray) (v2 o2 : Int) (x2 : ByteArray) : cmpE v1 o1 x1 v2 o2 x2 = -1 ∨ cmpE v1 o1 x1 v2 o2 x2 = 0 ∨ cmpE v1 o1 x1 v2 o2 x2 = 1 := by
  unfold cmpE
  have h1 := cmpI_vals v1 v2; have h2 := cmpI_vals o1 o2; have h3 := cmpS_vals x1 x2
  generalize cmpI v1 v2 = a at *; generalize cmpI o1 o2 = b at *; generalize cmpS x1 x2 = c at *
  split
  · exact h1
  · split
    · exact h2
    · exact h3
theorem above_v (v1 o1 : Int) (x1 : ByteArray) (v2 o2 : Int) (x2 : ByteArray) (h : ¬ v1 = v2) : aboveB v1 o1 x1 v2 o2 x2 = decide (v2 < v1) := by
  unfold aboveB cmpE cmpI
  rcases Int.lt_trichotomy v1 v2 with k | k | k
  · have : ¬ v2 < v1 := by omega
    simp [k, this]
  · exact absurd k h
  · have : ¬ v1 < v2 := by omega
    simp [k, this]
theorem above_o (v o1 : Int) (x1 : ByteArray) (o2 : Int) (x2 : ByteArray) (h : ¬ o1 = o2) : aboveB v o1 x1 v o2 x2 = decide (o2 < o1) := by
  unfold aboveB cmpE cmpI
  rcases Int.lt_trichotomy o1 o2 with k | k | k
  · have : ¬ o2 < o1 := by omega
    simp [k, this]
  · exact absurd k h
  · have : ¬ o1 < o2 := by omega
    simp [k, this]
theorem above_x (v o : Int) (x1 : ByteArray) (x2 : ByteArray) : aboveB v o x1 v o x2 = decide (cmpS x1 x2 = 1) := by
  unfold aboveB cmpE cmpI
  simp
end Go.Proofs.YtcdobhdbafpkiadDoor.Pl
