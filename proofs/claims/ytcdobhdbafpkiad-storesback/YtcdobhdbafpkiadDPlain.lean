/-
  Plain definitions: bytes read as a store; no program in sight.
-/
import Derived.Test.YtcdobhdbafpkiadBPlain
import Derived.Laws.BitsAllLaws
namespace Go.Proofs.Ytcdobhdbafpkiad.Pl

/-- one byte as a number: the number, what is wrong then, and what is left -/
def num (c : Int) (r : List UInt8) : Int × Int × List UInt8 :=
  if c = 0 then (match r with | [] => (0, 5, []) | x :: t => ((x.toNat : Int), 0, t)) else (0, c, [])
theorem num_bad {c : Int} {r : List UInt8} (h : ¬ c = 0) : num c r = (0, c, []) := by unfold num; rw [if_neg h]
theorem num_nil : num 0 [] = (0, 5, []) := rfl
theorem num_cons (x : UInt8) (t : List UInt8) : num 0 (x :: t) = ((x.toNat : Int), 0, t) := rfl
theorem num_range (c : Int) (r : List UInt8) : 0 ≤ (num c r).1 ∧ (num c r).1 ≤ 255 := by
  by_cases h : c = 0
  · subst h
    cases r with
    | nil => rw [num_nil]; simp
    | cons x t => rw [num_cons]; have := x.toNat_lt; simp; omega
  · rw [num_bad h]; simp
theorem num_left (c : Int) (r : List UInt8) : ¬ (num c r).2.1 = 0 → (num c r).2.2 = [] ∧ (num c r).1 = 0 := by
  by_cases h : c = 0
  · subst h
    cases r with
    | nil => rw [num_nil]; simp
    | cons x t => rw [num_cons]; simp
  · rw [num_bad h]; simp
/-- a text -/
def txt (c : Int) (r : List UInt8) : ByteArray × Int × List UInt8 :=
  if (num c r).2.1 = 0 then
    (if (num c r).1.toNat ≤ (num c r).2.2.length then (⟨((num c r).2.2.take (num c r).1.toNat).toArray⟩, 0, (num c r).2.2.drop (num c r).1.toNat) else (⟨#[]⟩, 5, []))
  else (⟨#[]⟩, (num c r).2.1, [])
theorem txt_left (c : Int) (r : List UInt8) : ¬ (txt c r).2.1 = 0 → (txt c r).2.2 = [] := by
  unfold txt; split
  · split <;> simp
  · intro _; rfl
/-- a number in sevens: so many rounds are left, so many bytes were read -/
def verF : Nat → Nat → Int → Int → List UInt8 → Int × Int × List UInt8
  | 0, _, _, c, _ => (0, c, [])
  | f + 1, k, v, c, r =>
    if (num c r).2.1 = 0 then
      (if k = 7 ∨ (0 < k ∧ (num c r).1 = 0) then (0, 4, [])
       else if (num c r).1 < 128 then (v + (num c r).1 % 128 * 128 ^ k, 0, (num c r).2.2) else verF f (k + 1) (v + (num c r).1 % 128 * 128 ^ k) 0 (num c r).2.2)
    else (0, (num c r).2.1, [])
def ver (c : Int) (r : List UInt8) : Int × Int × List UInt8 := verF 8 0 0 c r
theorem verF_left : ∀ (f k : Nat) (v c : Int) (r : List UInt8), ¬ (verF f k v c r).2.1 = 0 → (verF f k v c r).2.2 = []
  | 0, _, _, _, _ => fun _ => rfl
  | f + 1, k, v, c, r => by
    unfold verF
    split
    · split
      · intro _; rfl
      · split
        · intro h; exact absurd rfl h
        · exact verF_left f _ _ _ _
    · intro _; rfl
/-- an entry -/
def ent4 (c : Int) (r : List UInt8) : Ent × Int × List UInt8 :=
  (⟨(txt c r).1, (ver (txt c r).2.1 (txt c r).2.2).1, (num (ver (txt c r).2.1 (txt c r).2.2).2.1 (ver (txt c r).2.1 (txt c r).2.2).2.2).1,
    (txt (num (ver (txt c r).2.1 (txt c r).2.2).2.1 (ver (txt c r).2.1 (txt c r).2.2).2.2).2.1 (num (ver (txt c r).2.1 (txt c r).2.2).2.1 (ver (txt c r).2.1 (txt c r).2.2).2.2).2.2).1⟩,
   (txt (num (ver (txt c r).2.1 (txt c r).2.2).2.1 (ver (txt c r).2.1 (txt c r).2.2).2.2).2.1 (num (ver (txt c r).2.1 (txt c r).2.2).2.1 (ver (txt c r).2.1 (txt c r).2.2).2.2).2.2).2)
/-- so many entries more -/
def entsN : Nat → List Ent → Int → List UInt8 → List Ent × Int × List UInt8
  | 0, l, c, r => (l, c, r)
  | n + 1, l, c, r => if (ent4 c r).2.1 = 0 then entsN n (l ++ [(ent4 c r).1]) (ent4 c r).2.1 (ent4 c r).2.2 else ([], (ent4 c r).2.1, [])
/-- the entries, and what is wrong -/
def rdL (r : List UInt8) : List Ent × Int :=
  if (num 0 r).2.1 = 0 then
    (if (entsN (num 0 r).1.toNat [] (num 0 r).2.1 (num 0 r).2.2).2.1 = 0 then
      (if (entsN (num 0 r).1.toNat [] (num 0 r).2.1 (num 0 r).2.2).2.2 = [] then ((entsN (num 0 r).1.toNat [] (num 0 r).2.1 (num 0 r).2.2).1, 0) else ([], 4))
     else ([], (entsN (num 0 r).1.toNat [] (num 0 r).2.1 (num 0 r).2.2).2.1))
  else ([], (num 0 r).2.1)
/-- what is wrong with the frame -/
def frameC (b : List UInt8) : Int :=
  if 20000 < b.length then 1 else if b.length < 6 then 5 else if ¬ b.getD 0 0 = 116 then 4 else if ¬ sealL (b.take (b.length - 4)) = b.drop (b.length - 4) then 9 else 0
def decC (b : List UInt8) : Int :=
  if frameC b = 0 then (if (rdL ((b.take (b.length - 4)).drop 1)).2 = 0 then fault (rdL ((b.take (b.length - 4)).drop 1)).1 else (rdL ((b.take (b.length - 4)).drop 1)).2) else frameC b
def decO (b : List UInt8) : List Ent := if decC b = 0 then (rdL ((b.take (b.length - 4)).drop 1)).1 else []

theorem txt_size (c : Int) (r : List UInt8) : (txt c r).1.size ≤ 255 := by
  have := num_range c r
  unfold txt
  split
  · split
    · show (List.toArray _).size ≤ 255
      simp; omega
    · simp [ByteArray.size]
  · simp [ByteArray.size]
theorem pow_pos128 (k : Nat) : (1 : Int) ≤ 128 ^ k := by
  induction k with
  | zero => simp
  | succ k ih => rw [Int.pow_succ]; omega
theorem pow128_le {k : Nat} (h : k ≤ 7) : (128 : Int) ^ k ≤ 562949953421312 := by
  have e : k = 0 ∨ k = 1 ∨ k = 2 ∨ k = 3 ∨ k = 4 ∨ k = 5 ∨ k = 6 ∨ k = 7 := by omega
  rcases e with rfl | rfl | rfl | rfl | rfl | rfl | rfl | rfl <;> decide
theorem verF_range : ∀ (f k : Nat) (v c : Int) (r : List UInt8), f + k = 8 → 0 ≤ v → v < 128 ^ k → 0 ≤ (verF f k v c r).1 ∧ (verF f k v c r).1 ≤ 562949953421312
  | 0, _, _, _, _, _, _, _ => by simp [verF]
  | f + 1, k, v, c, r, hk, h0, h1 => by
    have hr := num_range c r
    have hp := pow_pos128 k
    unfold verF
    generalize num c r = q at *
    obtain ⟨n, c1, r1⟩ := q
    simp only at hr ⊢
    have hb : v + n % 128 * 128 ^ k < 128 ^ (k + 1) := by
      rw [Int.pow_succ]
      generalize (128 : Int) ^ k = P at *
      have h127 : n % 128 ≤ 127 := by omega
      have : n % 128 * P ≤ 127 * P := Int.mul_le_mul_of_nonneg_right h127 (by omega)
      omega
    have hn0 : 0 ≤ v + n % 128 * 128 ^ k := by
      have : 0 ≤ n % 128 * 128 ^ k := Int.mul_nonneg (by omega) (by omega)
      omega
    split
    · split
      · simp
      · rename_i hk7
        split
        · refine ⟨hn0, ?_⟩
          have := pow128_le (k := k + 1) (by omega)
          show v + n % 128 * 128 ^ k ≤ _
          omega
        · exact verF_range f (k + 1) _ 0 r1 (by omega) hn0 hb
    · simp
theorem ent4_ok (c : Int) (r : List UInt8) : (ent4 c r).1.ok := by
  have hv := verF_range 8 0 0 (txt c r).2.1 (txt c r).2.2 rfl (by omega) (by simp)
  refine ⟨?_, ?_, ?_, ?_⟩
  · have := txt_size c r
    show (txt c r).1.size ≤ maxLen
    unfold maxLen; omega
  · exact Go.WalkArith.wf_i64 (by show _ ≤ (ver _ _).1 ∧ (ver _ _).1 ≤ _; unfold ver; omega)
  · have := num_range (ver (txt c r).2.1 (txt c r).2.2).2.1 (ver (txt c r).2.1 (txt c r).2.2).2.2
    exact Go.WalkArith.wf_i64 (by show _ ≤ (num _ _).1 ∧ (num _ _).1 ≤ _; omega)
  · have := txt_size (num (ver (txt c r).2.1 (txt c r).2.2).2.1 (ver (txt c r).2.1 (txt c r).2.2).2.2).2.1 (num (ver (txt c r).2.1 (txt c r).2.2).2.1 (ver (txt c r).2.1 (txt c r).2.2).2.2).2.2
    show (txt _ _).1.size ≤ maxLen
    unfold maxLen; omega
theorem entsN_ok : ∀ (n : Nat) (l : List Ent) (c : Int) (r : List UInt8), (∀ e ∈ l, e.ok) → ∀ e ∈ (entsN n l c r).1, e.ok
  | 0, _, _, _, h => h
  | n + 1, l, c, r, h => by
    unfold entsN
    split
    · refine entsN_ok n _ _ _ (fun e he => ?_)
      rcases List.mem_append.1 he with he | he
      · exact h e he
      · simp at he; subst he; exact ent4_ok c r
    · intro e he; cases he
theorem rdL_ok (r : List UInt8) : ∀ e ∈ (rdL r).1, e.ok := by
  unfold rdL
  split
  · split
    · split
      · exact entsN_ok _ _ _ _ (fun e he => by cases he)
      · intro e he; cases he
    · intro e he; cases he
  · intro e he; cases he

/-- a number that is or-ed to lower bits is added -/
theorem i64_or_nat (a b : Nat) (ha : a < 9223372036854775808) (hb : b < 9223372036854775808) : bits .or .i64 (a : Int) (b : Int) = ((a ||| b : Nat) : Int) := by
  have hx : a ||| b < 2 ^ 63 := Nat.or_lt_two_pow (by omega) (by omega)
  show IntKind.i64.wrap ((BitVec.ofInt 64 (a : Int) ||| BitVec.ofInt 64 (b : Int)).toNat : Int) = _
  rw [BitVec.toNat_or, ofInt_u64 a (by omega), ofInt_u64 b (by omega), IntKind.wrap_i64]
  omega
theorem or_low (v x : Int) (i : Nat) (hv0 : 0 ≤ v) (hv : v < 2 ^ i) (hx0 : 0 ≤ x) (hx : x * 2 ^ i < 9223372036854775808) (hvm : v < 9223372036854775808) : bits .or .i64 v (x * 2 ^ i) = v + x * 2 ^ i := by
  obtain ⟨V, rfl⟩ := Int.eq_ofNat_of_zero_le hv0
  obtain ⟨X, rfl⟩ := Int.eq_ofNat_of_zero_le hx0
  have e : ((X : Int) * 2 ^ i) = ((X * 2 ^ i : Nat) : Int) := by simp
  rw [e] at hx ⊢
  rw [i64_or_nat V (X * 2 ^ i) (by omega) (by omega)]
  have h1 : V < 2 ^ i := by
    have : ((V : Int)) < ((2 ^ i : Nat) : Int) := by simpa using hv
    omega
  have := Nat.shiftLeft_add_eq_or_of_lt h1 X
  rw [Nat.shiftLeft_eq] at this
  rw [Nat.or_comm, ← this]
  omega
end Go.Proofs.Ytcdobhdbafpkiad.Pl
