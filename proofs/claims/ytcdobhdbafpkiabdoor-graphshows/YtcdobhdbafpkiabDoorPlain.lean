/-
  Plain definitions and facts on bytes, texts and entries, with no program in sight.
-/
import Derived.WalkKit
namespace Go.Proofs.YtcdobhdbafpkiabDoor.Pl

/-- may a number be a byte of a key? -/
def kb (n : Int) : Bool := decide (97 ≤ n ∧ n ≤ 122) || decide (48 ≤ n ∧ n ≤ 57) || decide (n = 58)
theorem kb_true {n : Int} (h : (97 ≤ n ∧ n ≤ 122) ∨ (48 ≤ n ∧ n ≤ 57) ∨ n = 58) : kb n = true := by
  unfold kb; rcases h with h | h | h <;> simp [h]
theorem kb_false {n : Int} (h : ¬ ((97 ≤ n ∧ n ≤ 122) ∨ (48 ≤ n ∧ n ≤ 57) ∨ n = 58)) : kb n = false := by
  unfold kb; rw [decide_eq_false (by omega), decide_eq_false (by omega), decide_eq_false (by omega)]; rfl
theorem kb_eq (n : Int) : kb n = decide ((97 ≤ n ∧ n ≤ 122) ∨ (48 ≤ n ∧ n ≤ 57) ∨ n = 58) := by
  by_cases h : (97 ≤ n ∧ n ≤ 122) ∨ (48 ≤ n ∧ n ≤ 57) ∨ n = 58
  · rw [kb_true h, decide_eq_true h]
  · rw [kb_false h, decide_eq_false h]
def kbs (l : List UInt8) : Bool := l.all fun c => kb (c.toNat : Int)
/-- may a text be a key? -/
def keyB (s : ByteArray) : Bool := decide (1 ≤ s.size ∧ s.size ≤ 8) && kbs s.data.toList

theorem kbs_nil : kbs [] = true := rfl
theorem kbs_snoc (l : List UInt8) (c : UInt8) : kbs (l ++ [c]) = (kbs l && kb (c.toNat : Int)) := by
  simp [kbs, List.all_append]
theorem take_snoc (s : ByteArray) (k : Nat) (h : k < s.size) : s.data.toList.take (k + 1) = s.data.toList.take k ++ [s[k]] := by
  rw [List.take_succ_eq_append_getElem (by simpa using h)]; rfl
theorem kbs_take_succ (s : ByteArray) (k : Nat) (h : k < s.size) : kbs (s.data.toList.take (k + 1)) = (kbs (s.data.toList.take k) && kb (s[k].toNat : Int)) := by
  rw [take_snoc s k h, kbs_snoc]
theorem kbs_false_of (s : ByteArray) (k : Nat) (h : k < s.size) (hb : kb (s[k].toNat : Int) = false) : kbs s.data.toList = false := by
  rw [← List.take_append_drop (k + 1) s.data.toList]
  unfold kbs
  rw [List.all_append]
  have := kbs_take_succ s k h
  unfold kbs at this
  rw [this, hb]; simp
theorem keyB_false_of (s : ByteArray) (k : Nat) (h : k < s.size) (hb : kb (s[k].toNat : Int) = false) : keyB s = false := by
  unfold keyB; rw [kbs_false_of s k h hb]; simp
theorem keyB_false_of_size (s : ByteArray) (h : s.size < 1 ∨ 8 < s.size) : keyB s = false := by
  unfold keyB; rw [decide_eq_false (by omega)]; simp
theorem keyB_of_all (s : ByteArray) (h : kbs (s.data.toList.take s.size) = true) : keyB s = decide (1 ≤ s.size ∧ s.size ≤ 8) := by
  unfold keyB
  rw [List.take_of_length_le (by simp)] at h
  rw [h]; simp
end Go.Proofs.YtcdobhdbafpkiabDoor.Pl
