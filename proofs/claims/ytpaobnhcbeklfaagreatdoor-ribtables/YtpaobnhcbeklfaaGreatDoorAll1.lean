/-
  Contracts and facts that the proof rests on, put together out of several texts.
-/
import Derived.WalkKit
import Derived.Test.YtpaobnhcbeklfaaGreatDoorProg
import Derived.WalkLawsBesides
import Derived.WalkSpells
import Derived.Deep.RegionWith
import Derived.Deep.QuietTactic
import Derived.BigQuiet
import Derived.Lib.Strings
import Derived.Lib.Slices
import Derived.Lib.Walk
import Derived.Lib.Bytealg
import Derived.Laws.AppendOwnNone
import Derived.OwnWalk
/-
  Plain definitions and facts on bytes, texts and entries, with no program in sight.
-/
namespace Go.Proofs.YtpaobnhcbeklfaaGreatDoor.Pl

/-- may a number be a byte of a key? -/
def kb (n : Int) : Bool := decide (97 ≤ n ∧ n ≤ 122) || decide (48 ≤ n ∧ n ≤ 57) || decide (n = 58)
theorem kb_true {n : Int} (h : (97 ≤ n ∧ n ≤ 122) ∨ (48 ≤ n ∧ n ≤ 57) ∨ n = 58) : kb n = true := by
  unfold kb; rcases h with h | h | h <;> simp [h]
theorem kb_false {n : Int} (h : ¬ ((97 ≤ n ∧ n ≤ 122) ∨ (48 ≤ n ∧ n ≤ 57) ∨ n = 58)) : kb n = false := by
  unfold kb; rw [decide_eq_false (by omega), decide_eq_false (by omega), decide_eq_false (by omega)]; rfl
theorem kb_eq (n : Int) : kb n = decide ((97 ≤ n ∧ n ≤ 122) ∨ (48 ≤ n ∧ n ≤ 57) ∨ n = 58) := by
  by_cases h : (97 ≤ n ∧ n ≤ 122) ∨ (48 ≤ n ∧ n ≤ 57) ∨ n = 58
  · rw [kb_true h, decide_eq_true h]
  · rw [kb_false h, decide_eq_false h]
def kbs (l : List UInt8) : Bool := l.all fun c => kb (c.toNat : Int)
/-- may a text be a key? -/
def keyB (s : ByteArray) : Bool := decide (1 ≤ s.size ∧ s.size ≤ 8) && kbs s.data.toList

theorem kbs_nil : kbs [] = true := rfl
theorem kbs_snoc (l : List UInt8) (c : UInt8) : kbs (l ++ [c]) = (kbs l && kb (c.toNat : Int)) := by
  simp [kbs, List.all_append]
theorem take_snoc (s : ByteArray) (k : Nat) (h : k < s.size) : s.data.toList.take (k + 1) = s.data.toList.take k ++ [s[k]] := by
  rw [List.take_succ_eq_append_getElem (by simpa using h)]; rfl
theorem kbs_take_succ (s : ByteArray) (k : Nat) (h : k < s.size) : kbs (s.data.toList.take (k + 1)) = (kbs (s.data.toList.take k) && kb (s[k].toNat : Int)) := by
  rw [take_snoc s k h, kbs_snoc]
theorem kbs_false_of (s : ByteArray) (k : Nat) (h : k < s.size) (hb : kb (s[k].toNat : Int) = false) : kbs s.data.toList = false := by
  rw [← List.take_append_drop (k + 1) s.data.toList]
  unfold kbs
  rw [List.all_append]
  have := kbs_take_succ s k h
  unfold kbs at this
  rw [this, hb]; simp
theorem keyB_false_of (s : ByteArray) (k : Nat) (h : k < s.size) (hb : kb (s[k].toNat : Int) = false) : keyB s = false := by
  unfold keyB; rw [kbs_false_of s k h hb]; simp
theorem keyB_false_of_size (s : ByteArray) (h : s.size < 1 ∨ 8 < s.size) : keyB s = false := by
  unfold keyB; rw [decide_eq_false (by omega)]; simp
theorem keyB_of_all (s : ByteArray) (h : kbs (s.data.toList.take s.size) = true) : keyB s = decide (1 ≤ s.size ∧ s.size ≤ 8) := by
  unfold keyB
  rw [List.take_of_length_le (by simp)] at h
  rw [h]; simp
end Go.Proofs.YtpaobnhcbeklfaaGreatDoor.Pl
/-
  Plain definitions: lists of pairs of numbers (sides of links, prefixes), what is wrong with one; no program in sight.
-/
namespace Go.Proofs.YtpaobnhcbeklfaaGreatDoor.Pl

/-- the pair at a place -/
def pr (ps : List (Int × Int)) (i : Nat) : Int × Int := ps.getD i (0, 0)
theorem pr_eq (ps : List (Int × Int)) (i : Nat) (h : i < ps.length) : pr ps i = ps[i] := by simp [pr, List.getD, h]
theorem pr_mem (ps : List (Int × Int)) (i : Nat) (h : i < ps.length) : pr ps i ∈ ps := by rw [pr_eq ps i h]; exact List.getElem_mem h
theorem drop_pr (ps : List (Int × Int)) (i : Nat) (h : i < ps.length) : ps.drop i = pr ps i :: ps.drop (i + 1) := by
  rw [pr_eq ps i h]; exact List.drop_eq_getElem_cons h
theorem pr_app_lt (ps qs : List (Int × Int)) (i : Nat) (h : i < ps.length) : pr (ps ++ qs) i = pr ps i := by
  rw [pr_eq ps i h, pr_eq _ i (by simp; omega), List.getElem_append_left h]
theorem pr_app_at (ps : List (Int × Int)) (p : Int × Int) : pr (ps ++ [p]) ps.length = p := by
  rw [pr_eq _ _ (by simp)]; simp

def pairOk (p : Int × Int) : Prop := (Lit.int .i64 p.1).wf = true ∧ (Lit.int .i64 p.2).wf = true

/-- may a side be told? -/
def sideB (n c : Int) : Bool := decide (0 ≤ n ∧ n ≤ 11) && decide (1 ≤ c ∧ c ≤ 1000)
/-- what is wrong with sides from a place on: so many are still to be looked at -/
def adjN (ps : List (Int × Int)) : Nat → Nat → Int
  | 0, _ => 0
  | n + 1, i => if sideB (pr ps i).1 (pr ps i).2 then (if 0 < i ∧ (pr ps i).1 ≤ (pr ps (i - 1)).1 then 7 else adjN ps n (i + 1)) else 2
def adjF (ps : List (Int × Int)) : Int := adjN ps ps.length 0
theorem adjN_range {ps : List (Int × Int)} {n i : Nat} (h : sideB (pr ps i).1 (pr ps i).2 = false) : adjN ps (n + 1) i = 2 := by simp [adjN, h]
theorem adjN_low {ps : List (Int × Int)} {n m : Nat} (h : sideB (pr ps (m + 1)).1 (pr ps (m + 1)).2 = true) (k : (pr ps (m + 1)).1 ≤ (pr ps m).1) : adjN ps (n + 1) (m + 1) = 7 := by simp [adjN, h, k]
theorem adjN_first {ps : List (Int × Int)} {n : Nat} (h : sideB (pr ps 0).1 (pr ps 0).2 = true) : adjN ps (n + 1) 0 = adjN ps n 1 := by simp [adjN, h]
theorem adjN_on {ps : List (Int × Int)} {n m : Nat} (h : sideB (pr ps (m + 1)).1 (pr ps (m + 1)).2 = true) (k : ¬ (pr ps (m + 1)).1 ≤ (pr ps m).1) : adjN ps (n + 1) (m + 1) = adjN ps n (m + 1 + 1) := by
  simp [adjN, h]; omega
end Go.Proofs.YtpaobnhcbeklfaaGreatDoor.Pl
/-
  Plain definitions: texts in their order, entries, which one is greater; no program in sight.
-/
namespace Go.Proofs.YtpaobnhcbeklfaaGreatDoor.Pl

theorem less_iff : ∀ (x y : List UInt8), Op.bytesLess x y = true ↔ x < y
  | [], [] => by simp [Op.bytesLess]
  | [], _ :: _ => by simp [Op.bytesLess]
  | _ :: _, [] => by simp [Op.bytesLess]
  | a :: x, b :: y => by
    simp only [Op.bytesLess]
    rw [List.cons_lt_cons_iff]
    by_cases h : a < b
    · simp [h]
    · by_cases e : a = b
      · subst e; simp [less_iff x y]
      · simp [h, e]

def ltB (a b : ByteArray) : Bool := Op.bytesLess a.toList b.toList
theorem ltB_def (a b : ByteArray) : Op.bytesLess a.toList b.toList = ltB a b := rfl
theorem ltB_iff (a b : ByteArray) : ltB a b = true ↔ a.toList < b.toList := by
  unfold ltB; exact less_iff _ _
theorem ltB_irrefl (a : ByteArray) : ltB a a = false := by
  rw [Bool.eq_false_iff, Ne, ltB_iff]; exact List.lt_irrefl _
theorem ltB_asymm {a b : ByteArray} (h : ltB a b = true) : ltB b a = false := by
  rw [ltB_iff] at h
  rw [Bool.eq_false_iff, Ne, ltB_iff]; exact List.lt_asymm h
theorem ltB_trans {a b c : ByteArray} (h : ltB a b = true) (k : ltB b c = true) : ltB a c = true := by
  rw [ltB_iff] at h k ⊢
  exact List.lt_trans h k
theorem toList_inj {a b : ByteArray} (h : a.toList = b.toList) : a = b := by
  rw [ByteArray.toList_eq, ByteArray.toList_eq] at h
  cases a; cases b; simp at h; simp [h]
theorem ltB_total {a b : ByteArray} (h : ltB a b = false) (k : ltB b a = false) : a = b := by
  rw [Bool.eq_false_iff, Ne, ltB_iff] at h k
  exact toList_inj (List.le_antisymm (List.not_lt.1 k) (List.not_lt.1 h))
theorem beqL (a b : ByteArray) : (a.toList == b.toList) = decide (a = b) := by
  rw [Bool.eq_iff_iff]; simp; exact ⟨toList_inj, fun h => h ▸ rfl⟩
theorem beqL_false {a b : ByteArray} (h : ¬ a = b) : (a.toList == b.toList) = false := by rw [beqL]; simp [h]
theorem ne_of_lt {a b : ByteArray} (h : ltB a b = true) : ¬ a = b := fun e => by rw [e, ltB_irrefl] at h; cases h
theorem tri (x y : ByteArray) : (Op.bytesLess x.toList y.toList = true ∧ Op.bytesLess y.toList x.toList = false ∧ ¬ x = y) ∨ x = y ∨ (Op.bytesLess x.toList y.toList = false ∧ Op.bytesLess y.toList x.toList = true ∧ ¬ x = y) := by
  show (ltB x y = true ∧ ltB y x = false ∧ ¬ x = y) ∨ x = y ∨ (ltB x y = false ∧ ltB y x = true ∧ ¬ x = y)
  cases h : ltB x y
  · cases k : ltB y x
    · exact .inr (.inl (ltB_total h k))
    · exact .inr (.inr ⟨rfl, rfl, fun e => ne_of_lt k e.symm⟩)
  · exact .inl ⟨rfl, ltB_asymm h, ne_of_lt h⟩

/-- which one of two numbers, of two texts comes first -/
def cmpI (a b : Int) : Int := if a < b then -1 else if b < a then 1 else 0
def cmpS (x y : ByteArray) : Int := if ltB x y then -1 else if ltB y x then 1 else 0
/-- which one of two entries is the greater one -/
def cmpE (v1 o1 : Int) (x1 : ByteArray) (v2 o2 : Int) (x2 : ByteArray) : Int :=
  if cmpI v1 v2 ≠ 0 then cmpI v1 v2 else if cmpI o1 o2 ≠ 0 then cmpI o1 o2 else cmpS x1 x2
theorem cmpI_lt {a b : Int} (h : a < b) : cmpI a b = -1 := by simp [cmpI, h]
theorem cmpI_gt {a b : Int} (h : b < a) : cmpI a b = 1 := by unfold cmpI; rw [if_neg (by omega), if_pos h]
theorem cmpI_eq (a : Int) : cmpI a a = 0 := by simp [cmpI]
theorem cmpS_lt {a b : ByteArray} (h : Op.bytesLess a.toList b.toList = true) : cmpS a b = -1 := by unfold cmpS; rw [if_pos (show ltB a b = true from h)]
theorem cmpS_gt {a b : ByteArray} (h : Op.bytesLess b.toList a.toList = true) : cmpS a b = 1 := by unfold cmpS; rw [if_neg (by rw [ltB_asymm h]; simp), if_pos (show ltB b a = true from h)]
theorem cmpS_eq (a : ByteArray) : cmpS a a = 0 := by simp [cmpS, ltB_irrefl]
/-- is the first one greater? -/
def aboveB (v1 o1 : Int) (x1 : ByteArray) (v2 o2 : Int) (x2 : ByteArray) : Bool := decide (cmpE v1 o1 x1 v2 o2 x2 = 1)
theorem cmpI_swap (a b : Int) : cmpI b a = - cmpI a b := by unfold cmpI; split <;> split <;> omega
theorem cmpI_vals (a b : Int) : cmpI a b = -1 ∨ cmpI a b = 0 ∨ cmpI a b = 1 := by unfold cmpI; split <;> (try split) <;> simp
theorem cmpS_swap (a b : ByteArray) : cmpS b a = - cmpS a b := by
  rcases tri a b with ⟨h, _, _⟩ | rfl | ⟨_, h, _⟩
  · rw [cmpS_lt h, cmpS_gt h]; rfl
  · rw [cmpS_eq]; rfl
  · rw [cmpS_lt h, cmpS_gt h]
theorem cmpS_vals (a b : ByteArray) : cmpS a b = -1 ∨ cmpS a b = 0 ∨ cmpS a b = 1 := by
  rcases tri a b with ⟨h, _, _⟩ | rfl | ⟨_, h, _⟩
  · rw [cmpS_lt h]; simp
  · rw [cmpS_eq]; simp
  · rw [cmpS_gt h]; simp
theorem cmpE_swap (v1 o1 : Int) (x1 : ByteArray) (v2 o2 : Int) (x2 : ByteArray) : cmpE v2 o2 x2 v1 o1 x1 = - cmpE v1 o1 x1 v2 o2 x2 := by
  unfold cmpE
  rw [cmpI_swap v1 v2, cmpI_swap o1 o2, cmpS_swap x1 x2]
  generalize cmpI v1 v2 = a; generalize cmpI o1 o2 = b; generalize cmpS x1 x2 = c
  by_cases ha : a = 0 <;> by_cases hb : b = 0 <;> simp [ha, hb]
theorem cmpE_vals (v1 o1 : Int) (x1 : ByteArray) (v2 o2 : Int) (x2 : ByteArray) : cmpE v1 o1 x1 v2 o2 x2 = -1 ∨ cmpE v1 o1 x1 v2 o2 x2 = 0 ∨ cmpE v1 o1 x1 v2 o2 x2 = 1 := by
  unfold cmpE
  have h1 := cmpI_vals v1 v2; have h2 := cmpI_vals o1 o2; have h3 := cmpS_vals x1 x2
  generalize cmpI v1 v2 = a at *; generalize cmpI o1 o2 = b at *; generalize cmpS x1 x2 = c at *
  split
  · exact h1
  · split
    · exact h2
    · exact h3
theorem above_v (v1 o1 : Int) (x1 : ByteArray) (v2 o2 : Int) (x2 : ByteArray) (h : ¬ v1 = v2) : aboveB v1 o1 x1 v2 o2 x2 = decide (v2 < v1) := by
  unfold aboveB cmpE cmpI
  rcases Int.lt_trichotomy v1 v2 with k | k | k
  · have : ¬ v2 < v1 := by omega
    simp [k, this]
  · exact absurd k h
  · have : ¬ v1 < v2 := by omega
    simp [k, this]
theorem above_o (v o1 : Int) (x1 : ByteArray) (o2 : Int) (x2 : ByteArray) (h : ¬ o1 = o2) : aboveB v o1 x1 v o2 x2 = decide (o2 < o1) := by
  unfold aboveB cmpE cmpI
  rcases Int.lt_trichotomy o1 o2 with k | k | k
  · have : ¬ o2 < o1 := by omega
    simp [k, this]
  · exact absurd k h
  · have : ¬ o1 < o2 := by omega
    simp [k, this]
theorem above_x (v o : Int) (x1 : ByteArray) (x2 : ByteArray) : aboveB v o x1 v o x2 = decide (cmpS x1 x2 = 1) := by
  unfold aboveB cmpE cmpI
  simp
end Go.Proofs.YtpaobnhcbeklfaaGreatDoor.Pl
/-
  Plain definitions: what is wrong with prefixes; no program in sight.
-/
namespace Go.Proofs.YtpaobnhcbeklfaaGreatDoor.Pl

/-- how many addresses have so many highest bits in common -/
def span (b : Int) : Int := ((256 / 2 ^ b.toNat : Nat) : Int)
def inP (p : Int × Int) : Bool := decide (0 ≤ p.2 ∧ p.2 ≤ 8) && decide (0 ≤ p.1 ∧ p.1 ≤ 255)
/-- what is wrong with one prefix -/
def pfx1 (p : Int × Int) : Int := if inP p then (if p.1 % span p.2 = 0 then 0 else 4) else 2
/-- does one not stand behind another? -/
def pfxLow (p q : Int × Int) : Bool := decide (10 * q.1 + q.2 ≤ 10 * p.1 + p.2)
def pfxN (ps : List (Int × Int)) : Nat → Nat → Int
  | 0, _ => 0
  | n + 1, i => if pfx1 (pr ps i) = 0 then (if 0 < i ∧ pfxLow (pr ps (i - 1)) (pr ps i) = true then 7 else pfxN ps n (i + 1)) else pfx1 (pr ps i)
def pfxF (ps : List (Int × Int)) : Int := if ps.length ≤ 6 then pfxN ps ps.length 0 else 1
theorem pfxF_size {ps : List (Int × Int)} (h : 6 < ps.length) : pfxF ps = 1 := by unfold pfxF; rw [if_neg (by omega)]
theorem pfxF_from {ps : List (Int × Int)} (h : ps.length ≤ 6) : pfxF ps = pfxN ps ps.length 0 := by unfold pfxF; rw [if_pos h]
theorem pfxN_bad {ps : List (Int × Int)} {n i : Nat} (h : pfx1 (pr ps i) ≠ 0) : pfxN ps (n + 1) i = pfx1 (pr ps i) := by simp [pfxN, h]
theorem pfxN_first {ps : List (Int × Int)} {n : Nat} (h : pfx1 (pr ps 0) = 0) : pfxN ps (n + 1) 0 = pfxN ps n 1 := by simp [pfxN, h]
theorem pfxN_low {ps : List (Int × Int)} {n m : Nat} (h : pfx1 (pr ps (m + 1)) = 0) (k : pfxLow (pr ps m) (pr ps (m + 1)) = true) : pfxN ps (n + 1) (m + 1) = 7 := by simp [pfxN, h, k]
theorem pfxN_on {ps : List (Int × Int)} {n m : Nat} (h : pfx1 (pr ps (m + 1)) = 0) (k : pfxLow (pr ps m) (pr ps (m + 1)) = false) : pfxN ps (n + 1) (m + 1) = pfxN ps n (m + 1 + 1) := by simp [pfxN, h, k]
theorem pfx1_zero {p : Int × Int} (h : pfx1 p = 0) : (0 ≤ p.2 ∧ p.2 ≤ 8) ∧ (0 ≤ p.1 ∧ p.1 ≤ 255) := by
  unfold pfx1 at h
  split at h
  · rename_i hh
    unfold inP at hh
    simp at hh
    exact hh
  · cases h
/-- the number that tells which of two prefixes comes first -/
def pfxC (p q : Int × Int) : Int := if cmpI p.1 q.1 ≠ 0 then cmpI p.1 q.1 else cmpI p.2 q.2
theorem pfxC_low {p q : Int × Int} (hp : (0 ≤ p.2 ∧ p.2 ≤ 8) ∧ (0 ≤ p.1 ∧ p.1 ≤ 255)) (hq : (0 ≤ q.2 ∧ q.2 ≤ 8) ∧ (0 ≤ q.1 ∧ q.1 ≤ 255)) : decide (0 ≤ pfxC p q) = pfxLow p q := by
  unfold pfxC pfxLow cmpI
  rw [Bool.eq_iff_iff]
  simp only [decide_eq_true_eq]
  split <;> split <;> (try split) <;> (try split) <;> omega
theorem span_table : span 0 = 256 ∧ span 1 = 128 ∧ span 2 = 64 ∧ span 3 = 32 ∧ span 4 = 16 ∧ span 5 = 8 ∧ span 6 = 4 ∧ span 7 = 2 ∧ span 8 = 1 := by decide
theorem bits_cases {b : Int} (h : 0 ≤ b ∧ b ≤ 8) : b = 0 ∨ b = 1 ∨ b = 2 ∨ b = 3 ∨ b = 4 ∨ b = 5 ∨ b = 6 ∨ b = 7 ∨ b = 8 := by omega
end Go.Proofs.YtpaobnhcbeklfaaGreatDoor.Pl
/-
  Plain definitions: routes, tables, what is wrong with one, the place of a prefix; no program in sight.
-/
namespace Go.Proofs.YtpaobnhcbeklfaaGreatDoor.Pl

/-- a route: its prefix, is it here, its cost, its hops -/
structure Rt where
  p : Int × Int
  here : Bool
  cost : Int
  hops : List Int
def Rt.none : Rt := ⟨(0, 0), false, 0, []⟩
/-- the route at a place -/
def rt (rs : List Rt) (i : Nat) : Rt := rs.getD i Rt.none
theorem rt_eq (rs : List Rt) (i : Nat) (h : i < rs.length) : rt rs i = rs[i] := by simp [rt, List.getD, h]
theorem rt_mem (rs : List Rt) (i : Nat) (h : i < rs.length) : rt rs i ∈ rs := by rw [rt_eq rs i h]; exact List.getElem_mem h
theorem rt_cons_succ (e : Rt) (es : List Rt) (i : Nat) : rt (e :: es) (i + 1) = rt es i := by simp [rt]
theorem rt_cons_zero (e : Rt) (es : List Rt) : rt (e :: es) 0 = e := by simp [rt]
theorem drop_rt (rs : List Rt) (i : Nat) (h : i < rs.length) : rs.drop i = rt rs i :: rs.drop (i + 1) := by
  rw [rt_eq rs i h]; exact List.drop_eq_getElem_cons h

/-- the number at a place -/
def nm (l : List Int) (i : Nat) : Int := l.getD i 0
theorem nm_eq (l : List Int) (i : Nat) (h : i < l.length) : nm l i = l[i] := by simp [nm, List.getD, h]

/-- may the hop at a place be? -/
def hopB (l : List Int) (i : Nat) : Bool := decide (0 ≤ nm l i ∧ nm l i ≤ 11) && (decide (i = 0) || decide (nm l (i - 1) < nm l i))
def hopsB (l : List Int) : Bool := (List.range l.length).all (hopB l)
theorem hopsB_false {l : List Int} {k : Nat} (hk : k < l.length) (h : hopB l k = false) : hopsB l = false := by
  unfold hopsB
  rw [List.all_eq_false]
  exact ⟨k, List.mem_range.2 hk, by simp [h]⟩
theorem hopsB_true {l : List Int} (h : ∀ k, k < l.length → hopB l k = true) : hopsB l = true := by
  unfold hopsB
  rw [List.all_eq_true]
  intro k hk
  exact h k (List.mem_range.1 hk)
theorem hopsB_at {l : List Int} (h : hopsB l = true) (k : Nat) (hk : k < l.length) : hopB l k = true := by
  unfold hopsB at h
  rw [List.all_eq_true] at h
  exact h k (List.mem_range.2 hk)
theorem hopB_zero (l : List Int) : hopB l 0 = decide (0 ≤ nm l 0 ∧ nm l 0 ≤ 11) := by simp [hopB]
theorem hopB_succ (l : List Int) (m : Nat) : hopB l (m + 1) = (decide (0 ≤ nm l (m + 1) ∧ nm l (m + 1) ≤ 11) && decide (nm l m < nm l (m + 1))) := by simp [hopB]

/-- may a route be? -/
def routeB (r : Rt) : Bool := decide (pfx1 r.p = 0) && decide (0 ≤ r.cost ∧ r.cost ≤ 1048576) && (if r.here then decide (r.cost = 0) && decide (r.hops = []) else decide (r.hops ≠ [])) && hopsB r.hops

/-- does a prefix stand ahead of another one? -/
def pltB (p q : Int × Int) : Bool := decide (p.1 < q.1 ∨ p.1 = q.1 ∧ p.2 < q.2)
theorem pltB_iff {p q : Int × Int} : pltB p q = true ↔ (p.1 < q.1 ∨ p.1 = q.1 ∧ p.2 < q.2) := by simp [pltB]
theorem pltB_not {p q : Int × Int} : pltB p q = false ↔ (q.1 < p.1 ∨ q.1 = p.1 ∧ q.2 ≤ p.2) := by
  rw [Bool.eq_false_iff, Ne, pltB_iff]; omega
theorem pltB_irrefl (p : Int × Int) : pltB p p = false := by rw [pltB_not]; omega
theorem pltB_asymm {p q : Int × Int} (h : pltB p q = true) : pltB q p = false := by rw [pltB_iff] at h; rw [pltB_not]; omega
theorem pltB_trans {p q r : Int × Int} (h : pltB p q = true) (k : pltB q r = true) : pltB p r = true := by rw [pltB_iff] at h k ⊢; omega
theorem pltB_total {p q : Int × Int} (h : pltB p q = false) (k : pltB q p = false) : p = q := by
  rw [pltB_not] at h k
  obtain ⟨a, b⟩ := p; obtain ⟨c, d⟩ := q
  simp only [Prod.mk.injEq] at *
  omega
theorem pltB_ne {p q : Int × Int} (h : pltB p q = true) : ¬ p = q := fun e => by rw [e, pltB_irrefl] at h; cases h
theorem pfxC_ge (p q : Int × Int) : decide (0 ≤ pfxC p q) = !pltB p q := by
  unfold pfxC cmpI pltB
  rw [Bool.eq_iff_iff]
  simp only [decide_eq_true_eq, Bool.not_eq_true', decide_eq_false_iff_not]
  split <;> (try split) <;> (try split) <;> (try split) <;> omega
theorem pair_eq_iff (p q : Int × Int) : p = q ↔ p.1 = q.1 ∧ p.2 = q.2 := by
  obtain ⟨a, b⟩ := p; obtain ⟨c, d⟩ := q; simp

/-- does the prefix at a place not stand behind that of the route ahead? -/
def lowR (rs : List Rt) (i : Nat) : Bool := decide (0 < i) && !pltB (rt rs (i - 1)).p (rt rs i).p
theorem lowR_zero (rs : List Rt) : lowR rs 0 = false := by simp [lowR]
theorem lowR_succ (rs : List Rt) (m : Nat) : lowR rs (m + 1) = !pltB (rt rs m).p (rt rs (m + 1)).p := by simp [lowR]
/-- what is wrong with a table from a place on: so many are still to be looked at -/
def tabN (rs : List Rt) : Nat → Nat → Int
  | 0, _ => 0
  | n + 1, i => if routeB (rt rs i) then (if lowR rs i then 7 else tabN rs n (i + 1)) else 4
def tabF (rs : List Rt) : Int := if rs.length ≤ 200 then tabN rs rs.length 0 else 1
theorem tabF_size {rs : List Rt} (h : 200 < rs.length) : tabF rs = 1 := by unfold tabF; rw [if_neg (by omega)]
theorem tabF_from {rs : List Rt} (h : rs.length ≤ 200) : tabF rs = tabN rs rs.length 0 := by unfold tabF; rw [if_pos h]
theorem tabN_form {rs : List Rt} {n i : Nat} (h : routeB (rt rs i) = false) : tabN rs (n + 1) i = 4 := by simp [tabN, h]
theorem tabN_low {rs : List Rt} {n i : Nat} (h : routeB (rt rs i) = true) (k : lowR rs i = true) : tabN rs (n + 1) i = 7 := by simp [tabN, h, k]
theorem tabN_on {rs : List Rt} {n i : Nat} (h : routeB (rt rs i) = true) (k : lowR rs i = false) : tabN rs (n + 1) i = tabN rs n (i + 1) := by simp [tabN, h, k]

/-- prefixes in their order -/
def AscP (ps : List (Int × Int)) : Prop := ∀ i j, i < j → j < ps.length → pltB (pr ps i) (pr ps j) = true
theorem pr_map (rs : List Rt) (i : Nat) (h : i < rs.length) : pr (rs.map Rt.p) i = (rt rs i).p := by
  rw [pr_eq _ _ (by simpa using h), rt_eq rs i h]; simp
theorem tabN_zero (rs : List Rt) : ∀ n i, tabN rs n i = 0 → ∀ j, i ≤ j → j < i + n → routeB (rt rs j) = true ∧ lowR rs j = false
  | 0, _, _, j, h1, h2 => by omega
  | n + 1, i, h, j, h1, h2 => by
    simp only [tabN] at h
    cases hm : routeB (rt rs i)
    · simp [hm] at h
    · cases hl : lowR rs i
      · simp only [hm, hl] at h
        rcases Nat.lt_or_ge i j with k | k
        · exact tabN_zero rs n (i + 1) (by simpa using h) j (by omega) (by omega)
        · obtain rfl : j = i := by omega
          exact ⟨hm, hl⟩
      · simp [hm, hl] at h
theorem good_of_tabF {rs : List Rt} (h : tabF rs = 0) : rs.length ≤ 200 ∧ (∀ i, i < rs.length → routeB (rt rs i) = true) ∧ AscP (rs.map Rt.p) := by
  unfold tabF at h
  split at h
  · rename_i hl
    have hz := tabN_zero rs rs.length 0 h
    refine ⟨hl, fun i hi => (hz i (by omega) (by omega)).1, ?_⟩
    intro i j hij hj
    simp only [List.length_map] at hj
    rw [pr_map rs i (by omega), pr_map rs j hj]
    induction j with
    | zero => omega
    | succ m ih =>
      have hlow := (hz (m + 1) (by omega) (by omega)).2
      have hstep : pltB (rt rs m).p (rt rs (m + 1)).p = true := by
        rw [lowR_succ] at hlow
        simpa using hlow
      rcases Nat.lt_or_ge i m with k | k
      · exact pltB_trans (ih k (by omega)) hstep
      · obtain rfl : i = m := by omega
        exact hstep
  · cases h
theorem tabN_of_good (rs : List Rt) (h : ∀ j, j < rs.length → routeB (rt rs j) = true ∧ lowR rs j = false) : ∀ n i, i + n ≤ rs.length → tabN rs n i = 0
  | 0, _, _ => rfl
  | n + 1, i, hi => by
    obtain ⟨h1, h2⟩ := h i (by omega)
    rw [tabN_on h1 h2]
    exact tabN_of_good rs h n (i + 1) (by omega)
theorem tabF_of_good {rs : List Rt} (hl : rs.length ≤ 200) (hm : ∀ i, i < rs.length → routeB (rt rs i) = true) (ha : AscP (rs.map Rt.p)) : tabF rs = 0 := by
  rw [tabF_from hl]
  refine tabN_of_good rs (fun j hj => ⟨hm j hj, ?_⟩) _ _ (by omega)
  rcases Nat.eq_zero_or_pos j with rfl | k
  · exact lowR_zero _
  · obtain ⟨m, rfl⟩ : ∃ m, j = m + 1 := ⟨j - 1, by omega⟩
    rw [lowR_succ]
    have := ha m (m + 1) (by omega) (by simpa using hj)
    rw [pr_map rs m (by omega), pr_map rs (m + 1) hj] at this
    rw [this]; rfl

/-- the place of a prefix, or that at which it would come -/
def posP : List (Int × Int) → Int × Int → Nat
  | [], _ => 0
  | e :: r, p => if pltB e p then posP r p + 1 else 0
theorem pr_cons_succ (e : Int × Int) (es : List (Int × Int)) (i : Nat) : pr (e :: es) (i + 1) = pr es i := by simp [pr]
theorem pr_cons_zero (e : Int × Int) (es : List (Int × Int)) : pr (e :: es) 0 = e := by simp [pr]
theorem posP_le : ∀ (ps : List (Int × Int)) (p : Int × Int), posP ps p ≤ ps.length
  | [], _ => Nat.le_refl _
  | e :: r, p => by
    simp only [posP, List.length_cons]
    have := posP_le r p
    split <;> omega
theorem posP_lt : ∀ (ps : List (Int × Int)) (p : Int × Int) (i : Nat), i < posP ps p → pltB (pr ps i) p = true
  | [], _, i, h => by simp [posP] at h
  | e :: r, p, i, h => by
    simp only [posP] at h
    split at h
    · rename_i he
      cases i with
      | zero => simpa [pr] using he
      | succ i => rw [pr_cons_succ]; exact posP_lt r p i (by omega)
    · omega
theorem posP_at : ∀ (ps : List (Int × Int)) (p : Int × Int), posP ps p < ps.length → pltB (pr ps (posP ps p)) p = false
  | [], _, h => by simp at h
  | e :: r, p, h => by
    cases he : pltB e p
    · simp [posP, he, pr]
    · simp only [posP, he, if_true] at h ⊢
      rw [pr_cons_succ]
      exact posP_at r p (by simpa using h)
theorem posP_of {ps : List (Int × Int)} {p : Int × Int} {i : Nat} (hi : i ≤ ps.length) (h1 : ∀ t, t < i → pltB (pr ps t) p = true) (h2 : i < ps.length → pltB (pr ps i) p = false) : posP ps p = i := by
  rcases Nat.lt_trichotomy (posP ps p) i with k | k | k
  · have a := h1 _ k
    rw [posP_at ps p (by omega)] at a; cases a
  · exact k
  · have a := posP_lt ps p i k
    have b := posP_le ps p
    rw [h2 (by omega)] at a; cases a
/-- is the prefix there? -/
def thereP (ps : List (Int × Int)) (p : Int × Int) : Bool := decide (posP ps p < ps.length) && decide (pr ps (posP ps p) = p)
theorem thereP_lt {ps : List (Int × Int)} {p : Int × Int} (h : thereP ps p = true) : posP ps p < ps.length := by
  unfold thereP at h
  simp only [Bool.and_eq_true, decide_eq_true_eq] at h
  exact h.1
theorem thereP_eq {ps : List (Int × Int)} {p : Int × Int} (h : thereP ps p = true) : pr ps (posP ps p) = p := by
  unfold thereP at h
  simp only [Bool.and_eq_true, decide_eq_true_eq] at h
  exact h.2
theorem ascP_lt {ps : List (Int × Int)} (h : AscP ps) {p : Int × Int} {t m : Nat} (hm : m < ps.length) (ht : t ≤ m) (k : pltB (pr ps m) p = true) : pltB (pr ps t) p = true := by
  rcases Nat.lt_or_ge t m with q | q
  · exact pltB_trans (h t m q hm) k
  · obtain rfl : t = m := by omega
    exact k
theorem ascP_ge {ps : List (Int × Int)} (h : AscP ps) {p : Int × Int} {t m : Nat} (ht : t < ps.length) (hm : m ≤ t) (k : pltB (pr ps m) p = false) : pltB (pr ps t) p = false := by
  cases q : pltB (pr ps t) p
  · rfl
  · rw [ascP_lt h ht hm q] at k; cases k
/-- in order, a prefix is there just where it is one of them -/
theorem thereP_mem {ps : List (Int × Int)} (h : AscP ps) {p : Int × Int} {i : Nat} (hi : i < ps.length) (e : pr ps i = p) : posP ps p = i ∧ thereP ps p = true := by
  have hp : posP ps p = i := by
    refine posP_of (by omega) (fun u hu => ?_) (fun _ => by rw [e]; exact pltB_irrefl _)
    have := h u i hu hi
    rwa [e] at this
  refine ⟨hp, ?_⟩
  unfold thereP
  rw [hp, e]
  simp [hi]
theorem thereP_iff {ps : List (Int × Int)} (h : AscP ps) (p : Int × Int) : thereP ps p = true ↔ p ∈ ps := by
  constructor
  · intro ht
    rw [← thereP_eq ht]
    exact pr_mem ps _ (thereP_lt ht)
  · intro hm
    obtain ⟨i, hi, e⟩ := List.getElem_of_mem hm
    exact (thereP_mem h hi (by rw [pr_eq ps i hi]; exact e)).2
end Go.Proofs.YtpaobnhcbeklfaaGreatDoor.Pl
/-
  Plain definitions and facts: what is found in a table, what parts two tables, a table that is patched; no program in sight.
-/
namespace Go.Proofs.YtpaobnhcbeklfaaGreatDoor.Pl

/-- the prefix of so many bits to which an address belongs -/
def pfxAt (addr : Int) (bits : Nat) : Int × Int := (addr - addr % span bits, bits)
/-- the place of what is found, of so many bits and fewer -/
def lookN (ps : List (Int × Int)) (addr : Int) : Nat → Option Nat
  | 0 => none
  | n + 1 => if thereP ps (pfxAt addr n) then some (posP ps (pfxAt addr n)) else lookN ps addr n
theorem lookN_lt {ps : List (Int × Int)} {addr : Int} : ∀ {n i : Nat}, lookN ps addr n = some i → i < ps.length
  | 0, i, h => by simp [lookN] at h
  | n + 1, i, h => by
    unfold lookN at h
    split at h
    · rename_i ht
      cases h
      exact thereP_lt ht
    · exact lookN_lt h
/-- what is wrong with looking up -/
def lookC (rs : List Rt) (addr : Int) : Int :=
  if tabF rs = 0 then (if 0 ≤ addr ∧ addr ≤ 255 then (match lookN (rs.map Rt.p) addr 9 with | some _ => 0 | none => 6) else 2) else tabF rs
def lookR (rs : List Rt) (addr : Int) : Rt :=
  if tabF rs = 0 then (if 0 ≤ addr ∧ addr ≤ 255 then (match lookN (rs.map Rt.p) addr 9 with | some i => rt rs i | none => Rt.none) else Rt.none) else Rt.none

/-- are two routes of a prefix the same? -/
def sameR (a b : Rt) : Bool := decide (a.here = b.here) && decide (a.cost = b.cost) && decide (a.hops = b.hops)
/-- is a route there, and the same? -/
def keptB (a : List Rt) (r : Rt) : Bool := thereP (a.map Rt.p) r.p && sameR (rt a (posP (a.map Rt.p) r.p)) r
/-- what is to be set, what is to go -/
def setL (a b : List Rt) : List Rt := b.filter fun r => !keptB a r
def goneL (a b : List Rt) : List (Int × Int) := (a.filter fun r => !thereP (b.map Rt.p) r.p).map Rt.p

/-- without the route of a prefix -/
def delR (rs : List Rt) (p : Int × Int) : List Rt := if thereP (rs.map Rt.p) p then rs.take (posP (rs.map Rt.p) p) ++ rs.drop (posP (rs.map Rt.p) p + 1) else rs
def delsR (rs : List Rt) (ps : List (Int × Int)) : List Rt := ps.foldl delR rs
/-- a route comes to its place, instead of that with its prefix -/
def insR : List Rt → Rt → List Rt
  | [], x => [x]
  | e :: r, x => if pltB e.p x.p then e :: insR r x else if e.p = x.p then x :: r else x :: e :: r
def inssR (rs : List Rt) (set : List Rt) : List Rt := set.foldl insR rs
/-- what is laid at a place -/
def layR (rs : List Rt) (i : Nat) (instead : Bool) (x : Rt) : List Rt := rs.take i ++ x :: rs.drop (if instead then i + 1 else i)

/-- in order, as pairs -/
def SrtR (rs : List Rt) : Prop := rs.Pairwise fun a b => pltB a.p b.p = true
theorem ascP_srt (rs : List Rt) : AscP (rs.map Rt.p) ↔ SrtR rs := by
  unfold AscP SrtR
  rw [List.pairwise_iff_getElem]
  constructor
  · intro h i j hi hj hij
    have := h i j hij (by simpa using hj)
    rwa [pr_map rs i hi, pr_map rs j hj, rt_eq rs i hi, rt_eq rs j hj] at this
  · intro h i j hij hj
    simp only [List.length_map] at hj
    have := h i j (by omega) hj hij
    rwa [pr_map rs i (by omega), pr_map rs j hj, rt_eq rs i (by omega), rt_eq rs j hj]
/-- a table that may be -/
def GoodT (rs : List Rt) : Prop := rs.length ≤ 200 ∧ (∀ r ∈ rs, routeB r = true) ∧ SrtR rs
theorem goodT_iff (rs : List Rt) : tabF rs = 0 ↔ GoodT rs := by
  constructor
  · intro h
    obtain ⟨h1, h2, h3⟩ := good_of_tabF h
    refine ⟨h1, fun r hr => ?_, (ascP_srt rs).1 h3⟩
    obtain ⟨i, hi, rfl⟩ := List.getElem_of_mem hr
    rw [← rt_eq rs i hi]; exact h2 i hi
  · rintro ⟨h1, h2, h3⟩
    exact tabF_of_good h1 (fun i hi => h2 _ (rt_mem rs i hi)) ((ascP_srt rs).2 h3)

theorem thereP_cons_lt {e : Int × Int} {r : List (Int × Int)} {p : Int × Int} (h : pltB e p = true) : thereP (e :: r) p = thereP r p := by
  unfold thereP
  simp only [posP, h, if_true, pr_cons_succ, List.length_cons]
  simp
theorem thereP_cons_ge {e : Int × Int} {r : List (Int × Int)} {p : Int × Int} (h : pltB e p = false) : thereP (e :: r) p = decide (e = p) := by
  unfold thereP
  simp [posP, h, pr]
theorem lay_insR : ∀ (rs : List Rt) (x : Rt), layR rs (posP (rs.map Rt.p) x.p) (thereP (rs.map Rt.p) x.p) x = insR rs x
  | [], x => by simp [layR, insR, posP, thereP]
  | e :: r, x => by
    cases h : pltB e.p x.p
    · rw [List.map_cons, thereP_cons_ge h]
      simp only [posP, h, insR, layR]
      by_cases k : e.p = x.p
      · simp [k]
      · simp [k]
    · rw [List.map_cons, thereP_cons_lt h]
      have ih := lay_insR r x
      unfold layR at ih ⊢
      simp only [posP, h, if_true, insR, List.take_succ_cons, List.cons_append]
      rw [← ih]
      cases thereP (r.map Rt.p) x.p <;> simp
theorem mem_insR {rs : List Rt} {x e : Rt} (h : e ∈ insR rs x) : e = x ∨ e ∈ rs := by
  induction rs with
  | nil => simp [insR] at h; exact .inl h
  | cons a r ih =>
    unfold insR at h
    split at h
    · rcases List.mem_cons.1 h with rfl | h
      · exact .inr (by simp)
      · rcases ih h with h | h
        · exact .inl h
        · exact .inr (by simp [h])
    · split at h
      · rcases List.mem_cons.1 h with rfl | h
        · exact .inl rfl
        · exact .inr (by simp [h])
      · rcases List.mem_cons.1 h with rfl | h
        · exact .inl rfl
        · exact .inr h
theorem insR_srt {rs : List Rt} {x : Rt} (h : SrtR rs) : SrtR (insR rs x) := by
  induction rs with
  | nil => simp [SrtR, insR]
  | cons a r ih =>
    unfold SrtR at h ih ⊢
    rw [List.pairwise_cons] at h
    obtain ⟨h1, h2⟩ := h
    unfold insR
    split
    · rename_i hl
      refine List.pairwise_cons.2 ⟨fun e he => ?_, ih h2⟩
      rcases mem_insR he with rfl | he
      · exact hl
      · exact h1 e he
    · rename_i hl
      split
      · rename_i he
        refine List.pairwise_cons.2 ⟨fun e hm => ?_, h2⟩
        rw [← he]; exact h1 e hm
      · rename_i he
        have hlt : pltB x.p a.p = true := by
          cases k : pltB x.p a.p
          · exact absurd (pltB_total (by simpa using hl) k) he
          · rfl
        refine List.pairwise_cons.2 ⟨fun e hm => ?_, List.pairwise_cons.2 ⟨h1, h2⟩⟩
        rcases List.mem_cons.1 hm with rfl | hm
        · exact hlt
        · exact pltB_trans hlt (h1 e hm)
theorem insR_len : ∀ (rs : List Rt) (x : Rt), (insR rs x).length = if thereP (rs.map Rt.p) x.p then rs.length else rs.length + 1
  | [], x => by simp [insR, thereP]
  | e :: r, x => by
    have ih := insR_len r x
    cases h : pltB e.p x.p
    · rw [List.map_cons, thereP_cons_ge h]
      simp only [insR, h]
      by_cases k : e.p = x.p <;> simp [k]
    · rw [List.map_cons, thereP_cons_lt h]
      simp only [insR, h, if_true, List.length_cons, ih]
      cases thereP (r.map Rt.p) x.p <;> simp
theorem insR_len_ge (rs : List Rt) (x : Rt) : rs.length ≤ (insR rs x).length := by
  rw [insR_len]; split <;> omega
theorem inssR_len_ge : ∀ (set rs : List Rt), rs.length ≤ (inssR rs set).length
  | [], _ => Nat.le_refl _
  | x :: r, rs => Nat.le_trans (insR_len_ge rs x) (inssR_len_ge r (insR rs x))
theorem inssR_len_le : ∀ (set rs : List Rt), (inssR rs set).length ≤ rs.length + set.length
  | [], rs => by simp [inssR]
  | x :: r, rs => by
    have h1 := inssR_len_le r (insR rs x)
    have h2 : (insR rs x).length ≤ rs.length + 1 := by rw [insR_len]; split <;> omega
    show (inssR (insR rs x) r).length ≤ _
    simp only [List.length_cons]
    omega
theorem inssR_srt : ∀ (set rs : List Rt), SrtR rs → SrtR (inssR rs set)
  | [], _, h => h
  | _ :: r, _, h => inssR_srt r _ (insR_srt h)

/-- the document's way to lay a route -/
def wR : List Rt → Bool → Rt → List Rt
  | [], done, x => if done then [] else [x]
  | e :: r, done, x => (if !done && !pltB e.p x.p then [x] else []) ++ ((if e.p = x.p then [] else [e]) ++ wR r (done || !pltB e.p x.p) x)
theorem wR_done : ∀ (rs : List Rt) (x : Rt), (∀ e ∈ rs, ¬ e.p = x.p) → wR rs true x = rs
  | [], _, _ => rfl
  | e :: r, x, h => by
    have h0 := h e (by simp)
    simp [wR, h0, wR_done r x (fun e he => h e (by simp [he]))]
theorem wR_insR : ∀ (rs : List Rt) (x : Rt), SrtR rs → wR rs false x = insR rs x
  | [], x, _ => rfl
  | e :: r, x, h => by
    unfold SrtR at h
    rw [List.pairwise_cons] at h
    obtain ⟨h1, h2⟩ := h
    cases hl : pltB e.p x.p
    · have hrest : ∀ a ∈ r, ¬ a.p = x.p := by
        intro a ha he
        have := h1 a ha
        rw [he, hl] at this; cases this
      simp only [wR, insR, hl, Bool.not_false, Bool.and_self, if_true, Bool.or_true]
      rw [wR_done r x hrest]
      by_cases k : e.p = x.p <;> simp [k]
    · have k : ¬ e.p = x.p := pltB_ne hl
      simp [wR, insR, hl, k, wR_insR r x h2]

theorem delR_filter : ∀ (rs : List Rt) (p : Int × Int), SrtR rs → delR rs p = rs.filter fun r => decide (¬ r.p = p)
  | [], p, _ => by simp [delR, thereP]
  | e :: r, p, h => by
    unfold SrtR at h
    rw [List.pairwise_cons] at h
    obtain ⟨h1, h2⟩ := h
    have ih := delR_filter r p h2
    cases hl : pltB e.p p
    · have hrest : ∀ a ∈ r, ¬ a.p = p := by
        intro a ha he
        have := h1 a ha
        rw [he, hl] at this; cases this
      have hall : (r.filter fun r => decide (¬ r.p = p)) = r := List.filter_eq_self.2 fun a ha => by simpa using hrest a ha
      unfold delR
      rw [List.map_cons, thereP_cons_ge hl]
      simp only [posP, hl]
      by_cases k : e.p = p
      · simp only [k, decide_true, if_true]
        rw [List.filter_cons_of_neg (by simp [k]), hall]
        simp
      · simp only [k, decide_false]
        rw [List.filter_cons_of_pos (by simp [k]), hall]
        simp
    · have k : ¬ e.p = p := pltB_ne hl
      rw [List.filter_cons_of_pos (by simp [k]), ← ih]
      unfold delR
      rw [List.map_cons, thereP_cons_lt hl]
      simp only [posP, hl, if_true, List.take_succ_cons, List.drop_succ_cons]
      split <;> simp
theorem filter_srt {rs : List Rt} (f : Rt → Bool) (h : SrtR rs) : SrtR (rs.filter f) := List.Pairwise.filter _ h
theorem delsR_filter : ∀ (ps : List (Int × Int)) (rs : List Rt), SrtR rs → delsR rs ps = rs.filter fun r => decide (¬ r.p ∈ ps)
  | [], rs, _ => by
    simp only [delsR, List.foldl_nil, List.not_mem_nil, not_false_eq_true, decide_true]
    exact (List.filter_eq_self.2 fun _ _ => rfl).symm
  | p :: ps, rs, h => by
    show delsR (delR rs p) ps = _
    rw [delR_filter rs p h, delsR_filter ps _ (filter_srt _ h), List.filter_filter]
    congr 1
    funext r
    rw [Bool.eq_iff_iff]
    simp
    exact And.comm
theorem delsR_srt {rs : List Rt} {ps : List (Int × Int)} (h : SrtR rs) : SrtR (delsR rs ps) := by rw [delsR_filter ps rs h]; exact filter_srt _ h
theorem delsR_len {rs : List Rt} {ps : List (Int × Int)} (h : SrtR rs) : (delsR rs ps).length ≤ rs.length := by rw [delsR_filter ps rs h]; exact List.length_filter_le _ _

/-- what comes of a patch, and what is wrong with it -/
def patR (a set : List Rt) (gone : List (Int × Int)) : List Rt := inssR (delsR a gone) set
def patC (a set : List Rt) (gone : List (Int × Int)) : Int := if tabF a = 0 then tabF (patR a set gone) else tabF a
def patL (a set : List Rt) (gone : List (Int × Int)) : List Rt := if tabF a = 0 then (if tabF (patR a set gone) = 0 then patR a set gone else []) else []
end Go.Proofs.YtpaobnhcbeklfaaGreatDoor.Pl
/-
  Plain: the cheapest ways: a search that takes the nearest node each time, and twelve rounds over all links, find the same.
-/
namespace Go.Proofs.YtpaobnhcbeklfaaGreatDoor.Pl

/-- a way from f to a node, its first step to k; drained nodes are not passed, nor is f itself -/
inductive Way (L : Nat → Nat → Int) (D : Nat → Bool) (f k : Nat) : Nat → Int → Prop
  | base : k < 12 → k ≠ f → 0 < L f k → Way L D f k k (L f k)
  | step {a b : Nat} {c : Int} : Way L D f k a c → D a = false → b < 12 → b ≠ f → 0 < L a b → Way L D f k b (c + L a b)

theorem Way.pos {L D f k v c} (h : Way L D f k v c) : 0 < c := by
  induction h with
  | base _ _ h => exact h
  | step _ _ _ _ h ih => omega
theorem Way.lt {L D f k v c} (h : Way L D f k v c) : v < 12 := by cases h <;> assumption
theorem Way.ne {L D f k v c} (h : Way L D f k v c) : v ≠ f := by cases h <;> assumption
theorem Way.klt {L D f k v c} (h : Way L D f k v c) : k < 12 ∧ k ≠ f := by
  induction h with
  | base h1 h2 _ => exact ⟨h1, h2⟩
  | step _ _ _ _ _ ih => exact ih

/-- the least number of those, or -1 -/
def IsMin (P : Int → Prop) (m : Int) : Prop := (m = -1 ∧ ∀ c, ¬ P c) ∨ (0 ≤ m ∧ P m ∧ ∀ c, P c → m ≤ c)
theorem IsMin.unique {P m n} (h : IsMin P m) (g : IsMin P n) : m = n := by
  rcases h with ⟨rfl, h⟩ | ⟨h0, h1, h2⟩ <;> rcases g with ⟨rfl, g⟩ | ⟨g0, g1, g2⟩
  · rfl
  · exact absurd g1 (h _)
  · exact absurd h1 (g _)
  · have := h2 _ g1; have := g2 _ h1; omega

def upd {α : Type} (f : Nat → α) (i : Nat) (v : α) : Nat → α := fun j => if j = i then v else f j
theorem upd_same {α : Type} (f : Nat → α) (i : Nat) (v : α) : upd f i v i = v := by simp [upd]
theorem upd_ne {α : Type} (f : Nat → α) {i j : Nat} (v : α) (h : j ≠ i) : upd f i v j = f j := by simp [upd, h]

/-- a search: what it costs to go to each node, over which hops, which are done -/
structure DS where
  cost : Nat → Int
  hops : Nat → Nat → Bool
  done : Nat → Bool

def dInit (f : Nat) : DS := ⟨fun j => if j = f then 0 else -1, fun _ _ => false, fun _ => false⟩
/-- a cheaper way comes instead of all others -/
def dS1 (j : Nat) (c : Int) (s : DS) : DS :=
  if s.cost j = -1 ∨ c < s.cost j then ⟨upd s.cost j c, upd s.hops j (fun _ => false), s.done⟩ else s
def dS2 (f n j : Nat) (h : Nat → Nat → Bool) : Nat → Nat → Bool := if n = f then upd h j (upd (h j) j true) else h
def dS3 (n j i : Nat) (h : Nat → Nat → Bool) : Nat → Nat → Bool := upd h j (fun k => h j k || (decide (k < i) && h n k))
def dStep (f n j : Nat) (c : Int) (s : DS) : DS :=
  if (dS1 j c s).cost j < c then dS1 j c s
  else ⟨(dS1 j c s).cost, dS3 n j 12 (dS2 f n j (dS1 j c s).hops), (dS1 j c s).done⟩
def dRow (L : Nat → Nat → Int) (f n : Nat) (s : DS) : Nat → DS
  | 0 => s
  | i + 1 => if 0 < L n i then dStep f n i ((dRow L f n s i).cost n + L n i) (dRow L f n s i) else dRow L f n s i
def near (s : DS) : Nat → Int
  | 0 => -1
  | i + 1 => if s.cost i = -1 ∨ s.done i = true then near s i else if near s i = -1 ∨ s.cost i < s.cost (near s i).toNat then i else near s i
def dDone (s : DS) (n : Nat) : DS := ⟨s.cost, s.hops, upd s.done n true⟩
def dProc (L : Nat → Nat → Int) (D : Nat → Bool) (f : Nat) (s : DS) (n : Nat) : DS :=
  if D n = true ∧ n ≠ f then dDone s n else dRow L f n (dDone s n) 12
def dIter (L : Nat → Nat → Int) (D : Nat → Bool) (f : Nat) : Nat → DS
  | 0 => dInit f
  | k + 1 => if near (dIter L D f k) 12 = -1 then dIter L D f k else dProc L D f (dIter L D f k) (near (dIter L D f k) 12).toNat

/-! nearest -/
theorem near_spec (s : DS) (i : Nat) :
    (near s i = -1 ∧ ∀ v, v < i → s.cost v = -1 ∨ s.done v = true) ∨
    (∃ n : Nat, near s i = n ∧ n < i ∧ s.cost n ≠ -1 ∧ s.done n = false ∧ ∀ v, v < i → s.cost v ≠ -1 → s.done v = false → s.cost n ≤ s.cost v) := by
  induction i with
  | zero => left; exact ⟨rfl, by omega⟩
  | succ i ih =>
    unfold near
    by_cases h : s.cost i = -1 ∨ s.done i = true
    · rw [if_pos h]
      rcases ih with ⟨h1, h2⟩ | ⟨n, h1, h2, h3, h4, h5⟩
      · left
        refine ⟨h1, fun v hv => ?_⟩
        by_cases hvi : v = i
        · subst hvi; exact h
        · exact h2 v (by omega)
      · right
        refine ⟨n, h1, by omega, h3, h4, fun v hv g1 g2 => ?_⟩
        by_cases hvi : v = i
        · subst hvi; rcases h with h | h
          · exact absurd h g1
          · rw [h] at g2; cases g2
        · exact h5 v (by omega) g1 g2
    · rw [if_neg h]
      have hc : s.cost i ≠ -1 := fun x => h (.inl x)
      have hd : s.done i = false := by
        cases hh : s.done i with
        | false => rfl
        | true => exact absurd (.inr hh) h
      right
      rcases ih with ⟨h1, h2⟩ | ⟨n, h1, h2, h3, h4, h5⟩
      · rw [if_pos (.inl h1)]
        refine ⟨i, rfl, by omega, hc, hd, fun v hv g1 g2 => ?_⟩
        by_cases hvi : v = i
        · subst hvi; exact Int.le_refl _
        · rcases h2 v (by omega) with x | x
          · exact absurd x g1
          · rw [x] at g2; cases g2
      · rw [h1, Int.toNat_natCast]
        by_cases hl : s.cost i < s.cost n
        · rw [if_pos (.inr hl)]
          refine ⟨i, rfl, by omega, hc, hd, fun v hv g1 g2 => ?_⟩
          by_cases hvi : v = i
          · subst hvi; exact Int.le_refl _
          · have := h5 v (by omega) g1 g2; omega
        · rw [if_neg (by omega)]
          refine ⟨n, rfl, by omega, h3, h4, fun v hv g1 g2 => ?_⟩
          by_cases hvi : v = i
          · subst hvi; omega
          · exact h5 v (by omega) g1 g2

/-- what holds of a search while node n is looked at, up to the i-th link (n = 12: between two nodes) -/
structure DInv (L : Nat → Nat → Int) (D : Nat → Bool) (f n i : Nat) (s : DS) : Prop where
  c0 : s.cost f = 0
  h0 : ∀ k, s.hops f k = false
  cw : ∀ v, v ≠ f → s.cost v ≠ -1 → ∃ k, Way L D f k v (s.cost v)
  hw : ∀ v k, s.hops v k = true → Way L D f k v (s.cost v)
  rl : ∀ u v, s.done u = true → (u = n → v < i) → (u = f ∨ D u = false) → v < 12 → v ≠ f → 0 < L u v →
    s.cost v ≠ -1 ∧ s.cost v ≤ s.cost u + L u v ∧ (s.cost v = s.cost u + L u v → (u = f → s.hops v v = true) ∧ ∀ k, s.hops u k = true → s.hops v k = true)
  dc : ∀ u, s.done u = true → s.cost u ≠ -1
  od : ∀ u v, s.done u = true → s.done v = false → s.cost v ≠ -1 → s.cost u ≤ s.cost v
  mx : n < 12 → ∀ u, s.done u = true → s.cost u ≤ s.cost n

theorem DInv.pos {L D f n i s} (h : DInv L D f n i s) (v : Nat) (hc : s.cost v ≠ -1) : 0 ≤ s.cost v := by
  by_cases hv : v = f
  · subst hv; rw [h.c0]; omega
  · obtain ⟨k, hk⟩ := h.cw v hv hc; have := hk.pos; omega

theorem DInv.init (L D f) : DInv L D f 12 0 (dInit f) where
  c0 := by simp [dInit]
  h0 := by simp [dInit]
  cw := by intro v hv hc; simp [dInit, hv] at hc
  hw := by simp [dInit]
  rl := by simp [dInit]
  dc := by simp [dInit]
  od := by simp [dInit]
  mx := by simp [dInit]

theorem dS1_done (j c s) : (dS1 j c s).done = s.done := by unfold dS1; split <;> rfl
theorem dStep_done (f n j c s) : (dStep f n j c s).done = s.done := by unfold dStep; split <;> simp [dS1_done]
theorem dRow_done (L f n s i) : (dRow L f n s i).done = s.done := by
  induction i with
  | zero => rfl
  | succ i ih => unfold dRow; split <;> simp [dStep_done, ih]

/-- a step to where it costs less already does nothing -/
theorem dStep_idle {f n j : Nat} {c : Int} {s : DS} (h1 : s.cost j ≠ -1) (h2 : s.cost j < c) : dStep f n j c s = s := by
  have : dS1 j c s = s := by unfold dS1; rw [if_neg (by omega)]
  unfold dStep; rw [this, if_pos h2]
/-- a step elsewhere -/
theorem dStep_cost_ne {f n j v : Nat} {c : Int} {s : DS} (h : v ≠ j) : (dStep f n j c s).cost v = s.cost v := by
  unfold dStep dS1; split <;> split <;> simp_all [upd]
theorem dStep_hops_ne {f n j v : Nat} {c : Int} {s : DS} (h : v ≠ j) : (dStep f n j c s).hops v = s.hops v := by
  unfold dStep dS1 dS2 dS3; split <;> split <;> (try split) <;> simp_all [upd]

theorem dStep_at {f n j : Nat} {c : Int} {s : DS} (hn : n ≠ j) :
    (dStep f n j c s).cost j = (if s.cost j = -1 ∨ c < s.cost j then c else s.cost j) ∧
    ∀ k, (dStep f n j c s).hops j k = (if s.cost j = -1 ∨ c < s.cost j then (decide (n = f ∧ k = j) || (decide (k < 12) && s.hops n k))
      else if s.cost j = c then (s.hops j k || decide (n = f ∧ k = j) || (decide (k < 12) && s.hops n k)) else s.hops j k) := by
  by_cases h : s.cost j = -1 ∨ c < s.cost j
  · have e1 : dS1 j c s = ⟨upd s.cost j c, upd s.hops j (fun _ => false), s.done⟩ := by unfold dS1; rw [if_pos h]
    have e2 : ¬ ((dS1 j c s).cost j < c) := by rw [e1]; simp [upd]
    unfold dStep
    rw [if_neg e2, e1]
    simp only [if_pos h]
    refine ⟨by simp [upd], fun k => ?_⟩
    simp only [dS3, upd_same]
    by_cases hf : n = f
    · simp only [dS2, if_pos hf, upd_same, upd_ne _ _ hn]
      by_cases hk : k = j
      · subst hk; simp [upd, hf]
      · simp [upd, hk]
    · simp only [dS2, if_neg hf, upd_same, upd_ne _ _ hn]
      simp [hf]
  · have e1 : dS1 j c s = s := by unfold dS1; rw [if_neg h]
    simp only [if_neg h]
    by_cases hlt : s.cost j < c
    · rw [dStep_idle (by omega) hlt]
      refine ⟨rfl, fun k => ?_⟩
      rw [if_neg (by omega)]
    · have heq : s.cost j = c := by omega
      unfold dStep
      rw [e1, if_neg hlt]
      refine ⟨rfl, fun k => ?_⟩
      rw [if_pos heq]
      simp only [dS3, upd_same]
      by_cases hf : n = f
      · simp only [dS2, if_pos hf, upd_same, upd_ne _ _ hn]
        by_cases hk : k = j
        · subst hk; simp [upd, hf]
        · simp [upd, hk]
      · simp only [dS2, if_neg hf]
        simp [hf]

theorem bfalse {b : Bool} (h : b ≠ true) : b = false := by cases b <;> simp_all

theorem DInv.step {L M : Nat → Nat → Int} {D : Nat → Bool} {f n i : Nat} {s : DS} (hM : ∀ a b, a ≠ b → M a b = L a b) (hL : ∀ a, L a a = 0)
    (h : DInv L D f n i s) (hn : n < 12) (hi : i < 12) (hd : s.done n = true) (ho : n = f ∨ D n = false) :
    DInv L D f n (i + 1) (if 0 < M n i then dStep f n i (s.cost n + M n i) s else s) := by
  have idle : (0 < L n i → i ≠ f → s.cost i ≠ -1 ∧ s.cost i < s.cost n + L n i) → DInv L D f n (i + 1) s := by
    intro g
    refine { h with rl := ?_ }
    · · intro u v h1 h2 h3 h4 h5 h6
        by_cases hu : u = n ∧ v = i
        · obtain ⟨rfl, rfl⟩ := hu
          obtain ⟨g1, g2⟩ := g h6 h5
          exact ⟨g1, by omega, fun x => by omega⟩
        · exact h.rl u v h1 (fun x => by have := h2 x; omega) h3 h4 h5 h6
  by_cases hm : 0 < M n i
  case neg =>
    rw [if_neg hm]
    refine idle fun g => ?_
    by_cases hni : n = i
    · subst hni; rw [hL] at g; omega
    · rw [hM n i hni] at hm; omega
  rw [if_pos hm]
  have hpn := h.pos n (h.dc n hd)
  by_cases hni : n = i
  · subst hni
    rw [dStep_idle (h.dc n hd) (by omega)]
    exact idle fun g => by rw [hL] at g; omega
  rw [hM n i hni] at hm ⊢
  by_cases hid : s.done i = true
  · have h1 := h.mx hn i hid
    have h2 := h.dc i hid
    rw [dStep_idle h2 (by omega)]
    exact idle fun _ _ => ⟨h2, by omega⟩
  have hid := bfalse hid
  by_cases hif : i = f
  · subst hif
    have := h.c0
    rw [dStep_idle (by omega) (by omega)]
    exact idle fun _ x => absurd rfl x
  obtain ⟨e1, e2⟩ := dStep_at (f := f) (c := s.cost n + L n i) (s := s) hni
  have n1 : ∀ v, v ≠ i → (dStep f n i (s.cost n + L n i) s).cost v = s.cost v := fun v hv => dStep_cost_ne hv
  have n2 : ∀ v, v ≠ i → (dStep f n i (s.cost n + L n i) s).hops v = s.hops v := fun v hv => dStep_hops_ne hv
  have n3 : (dStep f n i (s.cost n + L n i) s).done = s.done := dStep_done ..
  have wn : ∀ k, s.hops n k = true → Way L D f k i (s.cost n + L n i) := fun k hk => by
    have hw := h.hw n k hk
    rcases ho with rfl | ho
    · exact absurd rfl hw.ne
    · exact hw.step ho hi hif hm
  have wf : n = f → Way L D f i i (s.cost n + L n i) := fun hf => by
    subst hf; rw [h.c0, Int.zero_add]; exact .base hi hif hm
  have we : ∃ k, Way L D f k i (s.cost n + L n i) := by
    by_cases hf : n = f
    · exact ⟨i, wf hf⟩
    · obtain ⟨k, hk⟩ := h.cw n hf (h.dc n hd)
      exact ⟨k, hk.step (ho.resolve_left hf) hi hif hm⟩
  have hpi := h.pos i
  have e3 : s.cost i = -1 ∨ s.cost n + L n i < s.cost i ∨ (0 ≤ s.cost i ∧ s.cost i ≤ s.cost n + L n i) := by
    by_cases hc : s.cost i = -1
    · exact .inl hc
    · have := hpi hc; omega
  generalize dStep f n i (s.cost n + L n i) s = t at *
  refine ⟨?_, ?_, ?_, ?_, ?_, ?_, ?_, ?_⟩
  · rw [n1 f (Ne.symm hif)]; exact h.c0
  · intro k; rw [n2 f (Ne.symm hif)]; exact h.h0 k
  · intro v hv hc
    by_cases hvi : v = i
    · subst hvi
      rw [e1] at hc ⊢
      split
      · exact we
      · rename_i hx; rw [if_neg hx] at hc; exact h.cw v hv hc
    · rw [n1 v hvi] at hc ⊢; exact h.cw v hv hc
  · intro v k hk
    by_cases hvi : v = i
    · subst hvi
      rw [e2] at hk
      rw [e1]
      by_cases hx : s.cost v = -1 ∨ s.cost n + L n v < s.cost v
      · rw [if_pos hx] at hk ⊢
        simp only [Bool.or_eq_true, Bool.and_eq_true, decide_eq_true_eq] at hk
        rcases hk with ⟨g1, rfl⟩ | ⟨_, g⟩
        · exact wf g1
        · exact wn k g
      · rw [if_neg hx] at hk ⊢
        by_cases hy : s.cost v = s.cost n + L n v
        · rw [if_pos hy] at hk
          simp only [Bool.or_eq_true, Bool.and_eq_true, decide_eq_true_eq] at hk
          rcases hk with (g | ⟨g1, rfl⟩) | ⟨_, g⟩
          · exact h.hw v k g
          · rw [hy]; exact wf g1
          · rw [hy]; exact wn k g
        · rw [if_neg hy] at hk; exact h.hw v k hk
    · rw [n2 v hvi] at hk; rw [n1 v hvi]; exact h.hw v k hk
  · intro u v h1 h2 h3 h4 h5 h6
    rw [n3] at h1
    have hui : u ≠ i := fun x => by rw [x, hid] at h1; cases h1
    rw [n1 u hui, n2 u hui]
    by_cases hvi : v = i
    · subst hvi
      rw [e1]
      by_cases hun : u = n
      · subst hun
        by_cases hx : s.cost v = -1 ∨ s.cost u + L u v < s.cost v
        · rw [if_pos hx]
          refine ⟨by omega, by omega, fun _ => ⟨fun g => ?_, fun k g => ?_⟩⟩
          · rw [e2, if_pos hx]; simp [g]
          · rw [e2, if_pos hx]; have := (h.hw u k g).klt.1; simp [g, this]
        · rw [if_neg hx]
          refine ⟨by omega, by omega, fun x => ⟨fun g => ?_, fun k g => ?_⟩⟩
          · rw [e2, if_neg hx, if_pos x]; simp [g]
          · rw [e2, if_neg hx, if_pos x]; have := (h.hw u k g).klt.1; simp [g, this]
      · obtain ⟨r1, r2, r3⟩ := h.rl u v h1 (fun x => absurd x hun) h3 h4 h5 h6
        by_cases hx : s.cost v = -1 ∨ s.cost n + L n v < s.cost v
        · rw [if_pos hx]
          exact ⟨by omega, by omega, fun x => by omega⟩
        · rw [if_neg hx]
          refine ⟨r1, r2, fun x => ?_⟩
          obtain ⟨q1, q2⟩ := r3 x
          refine ⟨fun g => ?_, fun k g => ?_⟩
          · rw [e2, if_neg hx]; split
            · simp [q1 g]
            · exact q1 g
          · rw [e2, if_neg hx]; split
            · simp [q2 k g]
            · exact q2 k g
    · rw [n1 v hvi, n2 v hvi]
      exact h.rl u v h1 (fun x => by have := h2 x; omega) h3 h4 h5 h6
  · intro u hu
    rw [n3] at hu
    have hui : u ≠ i := fun x => by rw [x, hid] at hu; cases hu
    rw [n1 u hui]; exact h.dc u hu
  · intro u v hu hv hc
    rw [n3] at hu hv
    have hui : u ≠ i := fun x => by rw [x, hid] at hu; cases hu
    rw [n1 u hui]
    by_cases hvi : v = i
    · subst hvi
      rw [e1] at hc ⊢
      have := h.mx hn u hu
      split
      · omega
      · rename_i hx; rw [if_neg hx] at hc; exact h.od u v hu hv hc
    · rw [n1 v hvi] at hc ⊢; exact h.od u v hu hv hc
  · intro _ u hu
    rw [n3] at hu
    have hui : u ≠ i := fun x => by rw [x, hid] at hu; cases hu
    rw [n1 u hui, n1 n hni]; exact h.mx hn u hu

theorem DInv.row {L M : Nat → Nat → Int} {D : Nat → Bool} {f n : Nat} {s : DS} (hM : ∀ a b, a ≠ b → M a b = L a b) (hL : ∀ a, L a a = 0)
    (h : DInv L D f n 0 s) (hn : n < 12) (hd : s.done n = true) (ho : n = f ∨ D n = false) (i : Nat) (hi : i ≤ 12) : DInv L D f n i (dRow M f n s i) := by
  induction i with
  | zero => exact h
  | succ i ih => exact DInv.step hM hL (ih (by omega)) hn (by omega) (by rw [dRow_done]; exact hd) ho

theorem DInv.at {L : Nat → Nat → Int} {D : Nat → Bool} {f n : Nat} {s : DS} (h : DInv L D f 12 0 s) (hf : f < 12) (hn : n < 12) (hc : s.cost n ≠ -1) (hd : s.done n = false)
    (hm : ∀ v, v < 12 → s.cost v ≠ -1 → s.done v = false → s.cost n ≤ s.cost v) : DInv L D f n 0 (dDone s n) where
  c0 := h.c0
  h0 := h.h0
  cw := h.cw
  hw := h.hw
  rl := by
    intro u v h1 h2 h3 h4 h5 h6
    by_cases hu : u = n
    · have := h2 hu; omega
    · simp only [dDone, upd_ne _ _ hu] at h1
      exact h.rl u v h1 (fun x => by subst x; exact absurd (h.dc 12 h1) (fun g => by
        have := h.cw 12 (by omega) g; obtain ⟨k, hk⟩ := this; have := hk.lt; omega)) h3 h4 h5 h6
  dc := by
    intro u h1
    by_cases hu : u = n
    · subst hu; exact hc
    · simp only [dDone, upd_ne _ _ hu] at h1; exact h.dc u h1
  od := by
    intro u v h1 h2 h3
    have hv : v ≠ n := fun x => by simp [dDone, x, upd] at h2
    simp only [dDone, upd_ne _ _ hv] at h2
    have hv12 : v < 12 := by
      by_cases x : v = f
      · omega
      · obtain ⟨k, hk⟩ := h.cw v x h3; exact hk.lt
    by_cases hu : u = n
    · subst hu; exact hm v hv12 h3 h2
    · simp only [dDone, upd_ne _ _ hu] at h1; exact h.od u v h1 h2 h3
  mx := by
    intro _ u h1
    by_cases hu : u = n
    · subst hu; exact Int.le_refl _
    · simp only [dDone, upd_ne _ _ hu] at h1; exact h.od u n h1 hd hc

theorem DInv.proc {L M : Nat → Nat → Int} {D : Nat → Bool} {f n : Nat} {s : DS} (hM : ∀ a b, a ≠ b → M a b = L a b) (hL : ∀ a, L a a = 0)
    (h : DInv L D f 12 0 s) (hf : f < 12) (hn : n < 12) (hc : s.cost n ≠ -1) (hd : s.done n = false)
    (hm : ∀ v, v < 12 → s.cost v ≠ -1 → s.done v = false → s.cost n ≤ s.cost v) : DInv L D f 12 0 (dProc M D f s n) := by
  have h1 := h.at hf hn hc hd hm
  unfold dProc
  by_cases hx : D n = true ∧ n ≠ f
  · rw [if_pos hx]
    exact { h1 with
      rl := fun u v g1 _ g3 g4 g5 g6 => h1.rl u v g1 (fun y => by
        subst y; rcases g3 with g | g
        · exact absurd g hx.2
        · rw [hx.1] at g; cases g) g3 g4 g5 g6
      mx := fun x => absurd x (by omega) }
  · rw [if_neg hx]
    have ho : n = f ∨ D n = false := by
      by_cases g : n = f
      · exact .inl g
      · exact .inr (bfalse fun y => hx ⟨y, g⟩)
    have h2 := h1.row hM hL hn (by simp [dDone, upd]) ho 12 (by omega)
    exact { h2 with
      rl := fun u v g1 _ g3 g4 g5 g6 => h2.rl u v g1 (fun _ => g4) g3 g4 g5 g6
      mx := fun x => absurd x (by omega) }

theorem DInv.iter {L M : Nat → Nat → Int} {D : Nat → Bool} {f : Nat} (hM : ∀ a b, a ≠ b → M a b = L a b) (hL : ∀ a, L a a = 0) (hf : f < 12) (k : Nat) :
    DInv L D f 12 0 (dIter M D f k) := by
  induction k with
  | zero => exact DInv.init L D f
  | succ k ih =>
    unfold dIter
    rcases near_spec (dIter M D f k) 12 with ⟨h1, _⟩ | ⟨n, h1, h2, h3, h4, h5⟩
    · rw [if_pos h1]; exact ih
    · rw [h1, if_neg (by omega), Int.toNat_natCast]
      exact ih.proc hM hL hf h2 h3 h4 h5

/-! how often -/
def cnt (d : Nat → Bool) : Nat → Nat
  | 0 => 0
  | i + 1 => cnt d i + if d i = true then 1 else 0
theorem cnt_le (d : Nat → Bool) (i : Nat) : cnt d i ≤ i := by
  induction i with
  | zero => exact Nat.le_refl _
  | succ i ih => unfold cnt; split <;> omega
theorem cnt_mono {d e : Nat → Bool} (h : ∀ v, d v = true → e v = true) (i : Nat) : cnt d i ≤ cnt e i := by
  induction i with
  | zero => exact Nat.le_refl _
  | succ i ih =>
    unfold cnt
    by_cases hd : d i = true
    · rw [if_pos hd, if_pos (h i hd)]; omega
    · rw [if_neg hd]; omega
theorem cnt_lt {d e : Nat → Bool} (h : ∀ v, d v = true → e v = true) {u i : Nat} (hu : u < i) (h1 : d u = false) (h2 : e u = true) : cnt d i < cnt e i := by
  induction i with
  | zero => omega
  | succ i ih =>
    unfold cnt
    by_cases hi : u = i
    · subst hi
      rw [h1, h2, if_neg (by decide), if_pos rfl]
      have := cnt_mono h u; omega
    · have := ih (by omega)
      by_cases hd : d i = true
      · rw [if_pos hd, if_pos (h i hd)]; omega
      · rw [if_neg hd]; omega
theorem cnt_all (i : Nat) : cnt (fun _ => true) i = i := by
  induction i with
  | zero => rfl
  | succ i ih => simp [cnt, ih]
theorem cnt_lt_all {d : Nat → Bool} {u i : Nat} (hu : u < i) (h1 : d u = false) : cnt d i < i := by
  have := cnt_lt (d := d) (e := fun _ => true) (fun _ _ => rfl) hu h1 rfl
  rw [cnt_all] at this; exact this
theorem cnt_upd {d : Nat → Bool} {u i : Nat} (hu : u < i) (h1 : d u = false) : cnt d i < cnt (upd d u true) i :=
  cnt_lt (fun v hv => by by_cases h : v = u <;> simp [upd, h, hv]) hu h1 (by simp [upd])

theorem dProc_done (L D f s n) : (dProc L D f s n).done = upd s.done n true := by
  unfold dProc; split <;> simp [dDone, dRow_done]
theorem dIter_cnt (L D f) (k : Nat) : near (dIter L D f k) 12 = -1 ∨ k ≤ cnt (dIter L D f k).done 12 := by
  induction k with
  | zero => right; omega
  | succ k ih =>
    rcases near_spec (dIter L D f k) 12 with ⟨h1, _⟩ | ⟨n, h1, h2, h3, h4, h5⟩
    · left; unfold dIter; rw [if_pos h1]; exact h1
    · right
      have h6 := ih.resolve_left (by omega)
      unfold dIter
      rw [h1, if_neg (by omega), Int.toNat_natCast, dProc_done]
      have := cnt_upd (d := (dIter L D f k).done) h2 h4
      omega
/-- it goes on twelve times at most -/
theorem dIter_lt {L D f k} (h : near (dIter L D f k) 12 ≠ -1) : k < 12 := by
  have h6 := (dIter_cnt L D f k).resolve_left h
  rcases near_spec (dIter L D f k) 12 with ⟨h1, _⟩ | ⟨n, h1, h2, h3, h4, h5⟩
  · exact absurd h1 h
  · have := cnt_lt_all h2 h4; omega
theorem dIter_end (L D f) : near (dIter L D f 12) 12 = -1 := by
  by_cases h : near (dIter L D f 12) 12 = -1
  · exact h
  · have := dIter_lt h; omega
theorem dIter_stay {L D f k} (h : near (dIter L D f k) 12 = -1) (j : Nat) : dIter L D f (k + j) = dIter L D f k := by
  induction j with
  | zero => rfl
  | succ j ih => show (if near (dIter L D f (k + j)) 12 = -1 then dIter L D f (k + j) else _) = _; rw [ih, if_pos h]
theorem dIter_stop {L D f k} (h : near (dIter L D f k) 12 = -1) (hk : k ≤ 12) : dIter L D f k = dIter L D f 12 := by
  have := dIter_stay h (12 - k)
  rw [← this]; congr 1; omega

/-- what the search finds -/
theorem found {L M : Nat → Nat → Int} {D : Nat → Bool} {f : Nat} (hM : ∀ a b, a ≠ b → M a b = L a b) (hL : ∀ a, L a a = 0) (hf : f < 12) {k v : Nat} {c : Int}
    (h : Way L D f k v c) : (dIter M D f 12).cost v ≠ -1 ∧ (dIter M D f 12).cost v ≤ c ∧ ((dIter M D f 12).cost v = c → (dIter M D f 12).hops v k = true) := by
  have I := DInv.iter (D := D) hM hL hf 12
  have E := dIter_end M D f
  rcases near_spec (dIter M D f 12) 12 with ⟨_, N⟩ | ⟨n, h1, _⟩
  case inr => omega
  generalize dIter M D f 12 = s at *
  have fd : s.done f = true := (N f hf).resolve_left (by rw [I.c0]; omega)
  induction h with
  | base h1 h2 h3 =>
    obtain ⟨r1, r2, r3⟩ := I.rl f k fd (by omega) (.inl rfl) h1 h2 h3
    rw [I.c0, Int.zero_add] at r2 r3
    exact ⟨r1, r2, fun x => (r3 x).1 rfl⟩
  | @step a b c h1 h2 h3 h4 h5 ih =>
    obtain ⟨i1, i2, i3⟩ := ih
    have ad : s.done a = true := (N a h1.lt).resolve_left i1
    have al := h1.lt
    obtain ⟨r1, r2, r3⟩ := I.rl a b ad (by omega) (.inr h2) h3 h4 h5
    refine ⟨r1, by omega, fun x => ?_⟩
    have e : s.cost a = c := by omega
    exact (r3 (by omega)).2 k (i3 e)
theorem found_min {L M : Nat → Nat → Int} {D : Nat → Bool} {f : Nat} (hM : ∀ a b, a ≠ b → M a b = L a b) (hL : ∀ a, L a a = 0) (hf : f < 12) {v : Nat} (hv : v ≠ f) :
    IsMin (fun c => ∃ k, Way L D f k v c) ((dIter M D f 12).cost v) := by
  have I := DInv.iter (D := D) hM hL hf 12
  by_cases h : (dIter M D f 12).cost v = -1
  · exact .inl ⟨h, fun c ⟨k, hk⟩ => (found hM hL hf hk).1 h⟩
  · exact .inr ⟨I.pos v h, I.cw v hv h, fun c ⟨k, hk⟩ => (found hM hL hf hk).2.1⟩
theorem found_hops {L M : Nat → Nat → Int} {D : Nat → Bool} {f : Nat} (hM : ∀ a b, a ≠ b → M a b = L a b) (hL : ∀ a, L a a = 0) (hf : f < 12) (v k : Nat) :
    (dIter M D f 12).hops v k = true ↔ Way L D f k v ((dIter M D f 12).cost v) := by
  have I := DInv.iter (D := D) hM hL hf 12
  exact ⟨I.hw v k, fun h => (found hM hL hf h).2.2 rfl⟩

/-! the document's side -/
def bRelax (L : Nat → Nat → Int) (D : Nat → Bool) (f a b : Nat) (best : Nat → Int) : Nat → Int :=
  if a = f ∨ b = f ∨ best a < 0 ∨ D a = true ∨ L a b = 0 then best
  else if best b < 0 ∨ best a + L a b < best b then upd best b (best a + L a b) else best
def bRow (L : Nat → Nat → Int) (D : Nat → Bool) (f a : Nat) (best : Nat → Int) : Nat → Nat → Int
  | 0 => best
  | j + 1 => bRelax L D f a j (bRow L D f a best j)
def bRound (L : Nat → Nat → Int) (D : Nat → Bool) (f : Nat) (best : Nat → Int) : Nat → Nat → Int
  | 0 => best
  | i + 1 => bRow L D f i (bRound L D f best i) 12
def bInit (L : Nat → Nat → Int) (f : Nat) (first : Int) : Nat → Int := fun i => if i ≠ f ∧ 0 < L f i ∧ (first < 0 ∨ first = i) then L f i else -1
def bBest (L : Nat → Nat → Int) (D : Nat → Bool) (f : Nat) (first : Int) : Nat → Nat → Int
  | 0 => bInit L f first
  | r + 1 => bRound L D f (bBest L D f first r) 12

def BW (L : Nat → Nat → Int) (D : Nat → Bool) (f : Nat) (first : Int) (v : Nat) (c : Int) : Prop := ∃ k : Nat, (first < 0 ∨ first = k) ∧ Way L D f k v c
def Snd (L : Nat → Nat → Int) (D : Nat → Bool) (f : Nat) (first : Int) (best : Nat → Int) : Prop := ∀ v, v < 12 → best v = -1 ∨ BW L D f first v (best v)
def Les (x y : Nat → Int) : Prop := ∀ v, 0 ≤ x v → 0 ≤ y v ∧ y v ≤ x v
theorem Les.refl (x) : Les x x := fun _ h => ⟨h, Int.le_refl _⟩
theorem Les.trans {x y z} (h : Les x y) (g : Les y z) : Les x z := fun v hv => by have := h v hv; have := g v this.1; omega
theorem BW.pos {L D f first v c} (h : BW L D f first v c) : 0 < c := by obtain ⟨k, _, hk⟩ := h; exact hk.pos

theorem bRelax_spec {L : Nat → Nat → Int} {D f a b first best} (hL : ∀ a b, 0 ≤ L a b) (ha : a < 12) (hb : b < 12) (h : Snd L D f first best) :
    Snd L D f first (bRelax L D f a b best) ∧ Les best (bRelax L D f a b best) ∧
    (a ≠ f → b ≠ f → 0 ≤ best a → D a = false → 0 < L a b → 0 ≤ bRelax L D f a b best b ∧ bRelax L D f a b best b ≤ best a + L a b) := by
  unfold bRelax
  split
  · rename_i hx
    refine ⟨h, Les.refl _, fun h1 h2 h3 h4 h5 => ?_⟩
    rcases hx with x | x | x | x | x
    · exact absurd x h1
    · exact absurd x h2
    · omega
    · rw [h4] at x; cases x
    · omega
  · rename_i hx
    have x1 : a ≠ f := fun g => hx (.inl g)
    have x2 : b ≠ f := fun g => hx (.inr (.inl g))
    have x3 : 0 ≤ best a := by omega
    have x4 : D a = false := bfalse fun g => hx (.inr (.inr (.inr (.inl g))))
    have x5 : 0 < L a b := by have := hL a b; omega
    split
    · rename_i hy
      refine ⟨fun v hv => ?_, fun v hv => ?_, fun _ _ _ _ _ => ?_⟩
      · by_cases g : v = b
        · subst g
          right
          rw [upd_same]
          obtain ⟨k, hk, hw⟩ := (h a ha).resolve_left (by omega)
          exact ⟨k, hk, hw.step x4 hb x2 x5⟩
        · rw [upd_ne _ _ g]; exact h v hv
      · by_cases g : v = b
        · subst g; rw [upd_same]; omega
        · rw [upd_ne _ _ g]; omega
      · rw [upd_same]; omega
    · rename_i hy
      exact ⟨h, Les.refl _, fun _ _ _ _ _ => by omega⟩
theorem bRow_spec {L : Nat → Nat → Int} {D f a first best} (hL : ∀ a b, 0 ≤ L a b) (ha : a < 12) (h : Snd L D f first best) (j : Nat) (hj : j ≤ 12) :
    Snd L D f first (bRow L D f a best j) ∧ Les best (bRow L D f a best j) ∧
    (∀ b, b < j → a ≠ f → b ≠ f → 0 ≤ best a → D a = false → 0 < L a b → 0 ≤ bRow L D f a best j b ∧ bRow L D f a best j b ≤ best a + L a b) := by
  induction j with
  | zero => exact ⟨h, Les.refl _, fun b hb => by omega⟩
  | succ j ih =>
    obtain ⟨i1, i2, i3⟩ := ih (by omega)
    obtain ⟨r1, r2, r3⟩ := bRelax_spec (a := a) (b := j) hL ha (by omega) i1
    unfold bRow
    refine ⟨r1, i2.trans r2, fun b hb g1 g2 g3 g4 g5 => ?_⟩
    by_cases hbj : b = j
    · subst hbj
      have := i2 a g3
      have := r3 g1 g2 this.1 g4 g5
      omega
    · have := i3 b (by omega) g1 g2 g3 g4 g5
      have := r2 b this.1
      omega
theorem bRound_spec {L : Nat → Nat → Int} {D f first best} (hL : ∀ a b, 0 ≤ L a b) (h : Snd L D f first best) (i : Nat) (hi : i ≤ 12) :
    Snd L D f first (bRound L D f best i) ∧ Les best (bRound L D f best i) ∧
    (∀ a b, a < i → b < 12 → a ≠ f → b ≠ f → 0 ≤ best a → D a = false → 0 < L a b → 0 ≤ bRound L D f best i b ∧ bRound L D f best i b ≤ best a + L a b) := by
  induction i with
  | zero => exact ⟨h, Les.refl _, fun a b hb => by omega⟩
  | succ i ih =>
    obtain ⟨i1, i2, i3⟩ := ih (by omega)
    obtain ⟨r1, r2, r3⟩ := bRow_spec (a := i) hL (by omega) i1 12 (Nat.le_refl _)
    unfold bRound
    refine ⟨r1, i2.trans r2, fun a b ha hb g1 g2 g3 g4 g5 => ?_⟩
    by_cases hai : a = i
    · subst hai
      have := i2 a g3
      have := r3 b hb g1 g2 this.1 g4 g5
      omega
    · have := i3 a b (by omega) hb g1 g2 g3 g4 g5
      have := r2 b this.1
      omega

theorem least (P : Int → Prop) (h : ∀ c, P c → 0 ≤ c) : ∃ m, IsMin P m := by
  by_cases hx : ∃ c, P c
  · obtain ⟨c, hc⟩ := hx
    have key : ∀ n : Nat, ∀ c : Int, P c → c = n → ∃ m, IsMin P m := by
      intro n
      induction n using Nat.strongRecOn with
      | _ n ih =>
        intro c hc hn
        by_cases hy : ∃ d, P d ∧ d < c
        · obtain ⟨d, hd, hl⟩ := hy
          have := h d hd
          exact ih d.toNat (by omega) d hd (by omega)
        · exact ⟨c, .inr ⟨h c hc, hc, fun d hd => by
            by_cases g : d < c
            · exact absurd ⟨d, hd, g⟩ hy
            · omega⟩⟩
    have := h c hc
    exact key c.toNat c hc (by omega)
  · exact ⟨-1, .inl ⟨rfl, fun c hc => hx ⟨c, hc⟩⟩⟩

theorem bBest_min {L : Nat → Nat → Int} {D : Nat → Bool} {f : Nat} (first : Int) (hL : ∀ a b, 0 ≤ L a b) (v : Nat) (hv : v < 12) :
    IsMin (BW L D f first v) (bBest L D f first 12 v) := by
  obtain ⟨δ, hδ⟩ := Classical.axiomOfChoice (r := fun v m => IsMin (BW L D f first v) m) fun v => least (BW L D f first v) fun c hc => by have := hc.pos; omega
  have key : ∀ r, Snd L D f first (bBest L D f first r) ∧
      (∀ v : Nat, v < 12 → v ≠ f → 0 < L f v → (first < 0 ∨ first = (v : Int)) → 0 ≤ bBest L D f first r v ∧ bBest L D f first r v ≤ L f v) ∧
      (∀ v, v < 12 → 0 ≤ δ v → cnt (fun u => decide (0 ≤ δ u ∧ δ u < δ v)) 12 < r → bBest L D f first r v = δ v) := by
    intro r
    induction r with
    | zero =>
      refine ⟨fun v hv => ?_, fun v hv h1 h2 h3 => ?_, fun v _ _ h => by omega⟩
      · unfold bBest bInit
        by_cases hx : v ≠ f ∧ 0 < L f v ∧ (first < 0 ∨ first = (v : Int))
        · rw [if_pos hx]; exact .inr ⟨v, hx.2.2, .base hv hx.1 hx.2.1⟩
        · rw [if_neg hx]; exact .inl rfl
      · unfold bBest bInit
        rw [if_pos ⟨h1, h2, h3⟩]; omega
    | succ r ih =>
      obtain ⟨i1, i2, i3⟩ := ih
      obtain ⟨r1, r2, r3⟩ := bRound_spec hL i1 12 (Nat.le_refl _)
      unfold bBest
      refine ⟨r1, fun v hv h1 h2 h3 => ?_, fun v hv h1 h2 => ?_⟩
      · have := i2 v hv h1 h2 h3; have := r2 v this.1; omega
      · obtain ⟨_, hw, hm⟩ : 0 ≤ δ v ∧ BW L D f first v (δ v) ∧ ∀ c, BW L D f first v c → δ v ≤ c := by
          rcases hδ v with ⟨x, _⟩ | x
          · omega
          · exact x
        have low : ∀ x, 0 ≤ x → x ≤ δ v → (bRound L D f (bBest L D f first r) 12 v = x) → x = δ v := fun x x0 x1 x2 => by
          have := (r1 v hv).resolve_left (by omega)
          rw [x2] at this
          have := hm _ this; omega
        obtain ⟨k, hk, hw⟩ := hw
        generalize hdv : δ v = dv at *
        cases hw with
        | base g1 g2 g3 =>
          have a1 := i2 v hv g2 g3 hk
          have a2 := r2 v a1.1
          exact low _ a2.1 (by omega) rfl
        | @step a _ c g1 g2 g3 g4 g5 =>
          have hwa : BW L D f first a c := ⟨k, hk, g1⟩
          rcases hδ a with ⟨_, x⟩ | ⟨d0, d1, d2⟩
          · exact absurd hwa (x c)
          · have d3 := d2 c hwa
            have d4 := cnt_lt (d := fun u => decide (0 ≤ δ u ∧ δ u < δ a)) (e := fun u => decide (0 ≤ δ u ∧ δ u < c + L a v)) (u := a) (i := 12)
              (fun u hu => by simp only [decide_eq_true_eq] at hu ⊢; omega) g1.lt (by simp) (by simp only [decide_eq_true_eq]; omega)
            have a1 := i3 a g1.lt d0 (by omega)
            have a2 := r3 a v g1.lt hv g1.ne g4 (by omega) g2 g5
            exact low _ a2.1 (by omega) rfl
  obtain ⟨k1, _, k3⟩ := key 12
  rcases hδ v with ⟨x, hx⟩ | ⟨d0, d1, d2⟩
  · rcases k1 v hv with y | y
    · exact .inl ⟨y, hx⟩
    · exact absurd y (hx _)
  · rw [k3 v hv d0 (cnt_lt_all hv (by simp))]
    exact .inr ⟨d0, d1, d2⟩

/-- both find the same -/
theorem same_cost {L M : Nat → Nat → Int} {D : Nat → Bool} {f : Nat} (hM : ∀ a b, a ≠ b → M a b = L a b) (hL : ∀ a, L a a = 0) (h0 : ∀ a b, 0 ≤ L a b) (hf : f < 12) {v : Nat} (hv : v < 12) (hvf : v ≠ f) :
    (dIter M D f 12).cost v = bBest L D f (-1) 12 v := by
  refine (found_min hM hL hf hvf).unique ?_
  have := bBest_min (D := D) (f := f) (-1) h0 v hv
  have e : BW L D f (-1) v = fun c => ∃ k, Way L D f k v c := by
    funext c; unfold BW; simp
  rw [e] at this; exact this
theorem same_hops {L M : Nat → Nat → Int} {D : Nat → Bool} {f : Nat} (hM : ∀ a b, a ≠ b → M a b = L a b) (hL : ∀ a, L a a = 0) (h0 : ∀ a b, 0 ≤ L a b) (hf : f < 12) {v : Nat} (hv : v < 12) (k : Nat) :
    (dIter M D f 12).hops v k = decide (v ≠ f ∧ 0 ≤ (dIter M D f 12).cost v ∧ bBest L D f k 12 v = (dIter M D f 12).cost v) := by
  rw [Bool.eq_iff_iff, decide_eq_true_eq, found_hops hM hL hf]
  have hb := bBest_min (D := D) (f := f) k h0 v hv
  have hk : BW L D f k v = Way L D f k v := by
    funext c; unfold BW
    refine propext ⟨fun ⟨j, h1, h2⟩ => ?_, fun h => ⟨k, .inr rfl, h⟩⟩
    have : (k : Int) = j := by omega
    have : k = j := by omega
    rw [this]; exact h2
  rw [hk] at hb
  constructor
  · intro h
    have hp := h.pos
    refine ⟨h.ne, by omega, ?_⟩
    rcases hb with ⟨_, x⟩ | ⟨b0, b1, b2⟩
    · exact absurd h (x _)
    · have := b2 _ h
      have := (found hM hL hf b1).2.1
      omega
  · rintro ⟨_, h1, h2⟩
    rcases hb with ⟨x, _⟩ | ⟨b0, b1, b2⟩
    · omega
    · rw [h2] at b1; exact b1
theorem from_cost {L M : Nat → Nat → Int} {D : Nat → Bool} {f : Nat} (hM : ∀ a b, a ≠ b → M a b = L a b) (hL : ∀ a, L a a = 0) (hf : f < 12) : (dIter M D f 12).cost f = 0 :=
  (DInv.iter (D := D) hM hL hf 12).c0
end Go.Proofs.YtpaobnhcbeklfaaGreatDoor.Pl
/-
  Contracts: what Key and KeyMay, and the small functions that they call, answer: at every text and number.
-/
namespace Go.Proofs.YtpaobnhcbeklfaaGreatDoor
open Go.RowKit
set_option maxRecDepth 20000

theorem hid {p : Prop} (h : p) : Hid p := h
theorem ret_bool {a b : Bool} (h : a = b) : Ending.returned (.bool a) = .returned (.bool b) := by rw [h]
theorem ret_int {k : IntKind} {a b : Int} (h : a = b) : Ending.returned (.int k a) = .returned (.int k b) := by rw [h]
theorem bcell {W w1 : World} (hb : Below W.heap.size W w1) : (∀ b o, b < W.heap.size → w1.cell? ⟨b, o, none⟩ = W.cell? ⟨b, o, none⟩) ∧ (∀ b o, b < W.heap.size → w1.frozen? ⟨b, o, none⟩ = W.frozen? ⟨b, o, none⟩) :=
  ⟨fun b o h => hb.cell (p := ⟨b, o, none⟩) h, fun b o h => hb.frozen (p := ⟨b, o, none⟩) h⟩
theorem add_none (b off k : Nat) : Addr.add ⟨b, off, none⟩ k = ⟨b, off + k, none⟩ := by
  unfold Addr.add; split <;> simp_all
theorem byte_le (c : UInt8) : (c.toNat : Int) ≤ 255 := by have := c.toNat_lt; omega

set_option maxHeartbeats 400000 in
theorem isKeyByte_any (n : Int) (w : World) (h0 : 0 ≤ n) (h1 : n ≤ 255) :
    Calls Tryz.prog 75 #[.int .u8 n] w fun e w' => e = .returned (.bool (Pl.kb n)) ∧ w' = w := by
  by_cases a1 : 97 ≤ n
  all_goals by_cases a2 : n ≤ 122
  all_goals by_cases a3 : 48 ≤ n
  all_goals by_cases a4 : n ≤ 57
  all_goals by_cases a5 : n = 58
  all_goals first | (exfalso; omega) | skip
  all_goals
    go_enter Tryz.func75, Tryz.ntmps75
    go_wp2
    go_ret
    exact ⟨ret_bool (by unfold Pl.kb; rw [Bool.eq_iff_iff]; simp <;> omega), rfl⟩

set_option maxHeartbeats 400000 in
theorem In_any (n a b : Int) (w : World) :
    Calls Tryz.prog 30 #[.int .i64 n, .int .i64 a, .int .i64 b] w fun e w' => e = .returned (.bool (decide (a ≤ n ∧ n ≤ b))) ∧ w' = w := by
  by_cases a1 : a ≤ n
  all_goals by_cases a2 : n ≤ b
  all_goals
    go_enter Tryz.func30, Tryz.ntmps30
    go_wp2
    go_ret
    exact ⟨ret_bool (by rw [Bool.eq_iff_iff]; simp; omega), rfl⟩

theorem In_yes (n a b : Int) (w : World) (h : a ≤ n ∧ n ≤ b) :
    Calls Tryz.prog 30 #[.int .i64 n, .int .i64 a, .int .i64 b] w fun e w' => e = .returned (.bool true) ∧ w' = w := by
  have := In_any n a b w
  rwa [decide_eq_true h] at this
theorem In_no (n a b : Int) (w : World) (h : n < a ∨ b < n) :
    Calls Tryz.prog 30 #[.int .i64 n, .int .i64 a, .int .i64 b] w fun e w' => e = .returned (.bool false) ∧ w' = w := by
  have := In_any n a b w
  rwa [decide_eq_false (by omega)] at this

set_option maxHeartbeats 400000 in
theorem isNode_any (n : Int) (w : World) :
    Calls Tryz.prog 17 #[.int .i64 n] w fun e w' => e = .returned (.bool (decide (0 ≤ n ∧ n ≤ 11))) ∧ w' = w := by
  by_cases a1 : 0 ≤ n
  all_goals by_cases a2 : n < 12
  all_goals
    go_enter Tryz.func17, Tryz.ntmps17
    go_wp2
    go_ret
    exact ⟨ret_bool (by rw [Bool.eq_iff_iff]; simp; omega), rfl⟩

set_option maxHeartbeats 400000 in
theorem Key_any (s : ByteArray) (w : World) (hs : s.size ≤ maxLen) :
    Calls Tryz.prog 58 #[.string s] w fun e w' => e = .returned (.bool (Pl.keyB s)) ∧ w' = w := by
  unfold maxLen at hs
  by_cases h1 : s.size < 1
  · go_enter Tryz.func58, Tryz.ntmps58
    go_wp2
    go_ret
    exact ⟨ret_bool (Pl.keyB_false_of_size s (by omega)).symm, rfl⟩
  by_cases h8 : 8 < s.size
  · go_enter Tryz.func58, Tryz.ntmps58
    go_wp2
    go_ret
    exact ⟨ret_bool (Pl.keyB_false_of_size s (by omega)).symm, rfl⟩
  go_enter Tryz.func58, Tryz.ntmps58
  go_wp2
  go_loop [14] (fun i => ∃ k : Nat, k ≤ s.size ∧ i = .int .i64 k ∧ Hid (Pl.kbs (s.data.toList.take k) = true)) (fun i => s.size - (intOf i).toNat)
  case atStart => exact ⟨0, Nat.zero_le _, rfl, rfl⟩
  case round =>
    obtain ⟨k, hk, rfl, HK⟩ := hrel
    by_cases hlt : k < s.size
    · cases hb : Pl.kb (s[k].toNat : Int)
      · have HB : Hid (Pl.kb (s[k].toNat : Int) = false) := hb
        clear hb
        go_wp2_with (go_at_call 75; refine (isKeyByte_any _ _ (by omega) (byte_le _)).mono ?_; rw [HB.out]; rintro e w' ⟨rfl, rfl⟩)
        go_ret
        exact ⟨ret_bool (Pl.keyB_false_of s k hlt HB.out).symm, rfl⟩
      · have HB : Hid (Pl.kb (s[k].toNat : Int) = true) := hb
        clear hb
        go_wp2_with (go_at_call 75; refine (isKeyByte_any _ _ (by omega) (byte_le _)).mono ?_; rw [HB.out]; rintro e w' ⟨rfl, rfl⟩)
        go_round
        case rel => exact ⟨k + 1, by omega, by go_num, by show _ = _; rw [Pl.kbs_take_succ s k hlt, HK.out, HB.out]; rfl⟩
        case measure => simp [intOf]; omega
    · obtain rfl : k = s.size := by omega
      go_wp2
      go_ret
      exact ⟨ret_bool (by rw [Pl.keyB_of_all s HK.out]; simp; omega), rfl⟩

set_option maxHeartbeats 1000000 in
theorem KeyMay_any (s : ByteArray) (w : World) (hs : s.size ≤ maxLen) :
    Calls Tryz.prog 52 #[.string s] w fun e w' => e = .returned (.bool (Pl.keyB s)) ∧ w' = w := by
  unfold maxLen at hs
  go_enter Tryz.func52, Tryz.ntmps52
  go_wp2
  go_loop [3] (fun i => ∃ k : Nat, k ≤ s.size ∧ i = .int .i64 k ∧ Hid (Pl.kbs (s.data.toList.take k) = true)) (fun i => s.size - (intOf i).toNat)
  case atStart => exact ⟨0, Nat.zero_le _, rfl, rfl⟩
  case round =>
    obtain ⟨k, hk, rfl, HK⟩ := hrel
    by_cases hlt : k < s.size
    · have hbl := byte_le s[k]
      have H1 := Pl.kbs_take_succ s k hlt
      have H2 := Pl.keyB_false_of s k hlt
      have HX : Hid ((Pl.kbs (s.data.toList.take (k + 1)) = (Pl.kbs (s.data.toList.take k) && Pl.kb (s[k].toNat : Int))) ∧ (Pl.kb (s[k].toNat : Int) = false → Pl.keyB s = false)) := ⟨H1, H2⟩
      clear H1 H2
      by_cases a1 : 97 ≤ (s[k].toNat : Int) ∧ (s[k].toNat : Int) ≤ 122
      all_goals by_cases a2 : 48 ≤ (s[k].toNat : Int) ∧ (s[k].toNat : Int) ≤ 57
      all_goals by_cases a3 : (s[k].toNat : Int) = 58
      all_goals first | (exfalso; omega) | skip
      all_goals (have HB : Hid (Pl.kb (s[k].toNat : Int) = decide ((97 ≤ (s[k].toNat : Int) ∧ (s[k].toNat : Int) ≤ 122) ∨ (48 ≤ (s[k].toNat : Int) ∧ (s[k].toNat : Int) ≤ 57) ∨ (s[k].toNat : Int) = 58)) := Pl.kb_eq _)
      all_goals (have hn : ((s[k].toNat : Int) != 58) = decide (¬ (s[k].toNat : Int) = 58) := by rw [Bool.eq_iff_iff]; simp)
      all_goals
        go_wp2_with (go_at_call 30; first | (refine (In_yes _ _ _ _ (by omega)).mono ?_; rintro e w' ⟨rfl, rfl⟩) | (refine (In_no _ _ _ _ (by omega)).mono ?_; rintro e w' ⟨rfl, rfl⟩))
      all_goals first
        | (go_ret
           exact ⟨ret_bool (HX.out.2 (HB.out.trans (decide_eq_false (by omega)))).symm, rfl⟩)
        | (go_round
           case rel => exact ⟨k + 1, by omega, by go_num, by show _ = _; rw [HX.out.1, HK.out, HB.out, decide_eq_true (by omega)]; rfl⟩
           case measure => simp [intOf]; omega)
    · obtain rfl : k = s.size := by omega
      go_wp2_with (go_at_call 30; refine (In_any _ _ _ _).mono ?_; rintro e w' ⟨rfl, rfl⟩)
      go_ret
      exact ⟨ret_bool (by rw [Pl.keyB_of_all s HK.out]; rw [Bool.eq_iff_iff]; simp; omega), rfl⟩
end Go.Proofs.YtpaobnhcbeklfaaGreatDoor
/-
  Plain definitions: texts of pairs of numbers and how they are read; no program in sight.
-/
namespace Go.Proofs.YtpaobnhcbeklfaaGreatDoor.Pl

/-- a text cut at the first of a sign: what is ahead of it, and what behind -/
def cutL (c : UInt8) : List UInt8 → List UInt8 × Option (List UInt8)
  | [] => ([], none)
  | b :: r => if b = c then ([], some r) else (b :: (cutL c r).1, (cutL c r).2)
def behind (x : Option (List UInt8)) : List UInt8 := x.getD []
theorem cutL_none {c : UInt8} : ∀ {l : List UInt8}, c ∉ l → cutL c l = (l, none)
  | [], _ => rfl
  | b :: r, h => by
    simp only [List.mem_cons, not_or] at h
    rw [cutL, if_neg (fun e => h.1 e.symm), cutL_none h.2]
theorem cutL_some {c : UInt8} : ∀ {l : List UInt8} {i : Nat} (_ : i < l.length), l[i]? = some c → c ∉ l.take i → cutL c l = (l.take i, some (l.drop (i + 1)))
  | [], i, h, _, _ => by simp at h
  | b :: r, 0, _, h, _ => by simp at h; simp [cutL, h]
  | b :: r, i + 1, hi, h, k => by
    simp only [List.take_succ_cons, List.mem_cons, not_or] at k
    have := cutL_some (c := c) (l := r) (i := i) (by simpa using hi) (by simpa using h) k.2
    rw [cutL, if_neg (fun e => k.1 e.symm), this]; simp
theorem cutL_len (c : UInt8) : ∀ l : List UInt8, (cutL c l).1.length ≤ l.length ∧ (∀ r, (cutL c l).2 = some r → (cutL c l).1.length + r.length + 1 = l.length)
  | [] => ⟨by simp [cutL], by simp [cutL]⟩
  | b :: r => by
    obtain ⟨h1, h2⟩ := cutL_len c r
    by_cases e : b = c
    · simp [cutL, e]
    · rw [cutL, if_neg e]
      refine ⟨by simpa using h1, fun x hx => ?_⟩
      have := h2 x hx
      simp; omega

def dg (c : UInt8) : Bool := decide (48 ≤ (c.toNat : Int) ∧ (c.toNat : Int) ≤ 57)
def dgs (l : List UInt8) : Bool := l.all dg
def val (l : List UInt8) : Int := l.foldl (fun n c => 10 * n + ((c.toNat : Int) - 48)) 0
theorem val_snoc (l : List UInt8) (c : UInt8) : val (l ++ [c]) = 10 * val l + ((c.toNat : Int) - 48) := by simp [val]
theorem dgs_snoc (l : List UInt8) (c : UInt8) : dgs (l ++ [c]) = (dgs l && dg c) := by simp [dgs]
theorem val_nonneg : ∀ (n : Nat) (l : List UInt8), l.length = n → dgs l = true → 0 ≤ val l ∧ val l < 10 ^ n
  | 0, l, h, _ => by rw [List.length_eq_zero_iff.1 h]; simp [val]
  | n + 1, l, h, k => by
    obtain ⟨a, c, rfl⟩ : ∃ a c, l = a ++ [c] := ⟨l.dropLast, l.getLast (by intro e; simp [e] at h), (List.dropLast_concat_getLast _).symm⟩
    rw [dgs_snoc, Bool.and_eq_true] at k
    obtain ⟨h1, h2⟩ := val_nonneg n a (by simpa using h) k.1
    have hc := of_decide_eq_true k.2
    rw [val_snoc]
    have e : (10 : Int) ^ (n + 1) = 10 * 10 ^ n := by rw [Int.pow_succ]; omega
    rw [e]; omega
/-- the number that a text tells -/
def numL (l : List UInt8) : Option Int :=
  if 1 ≤ l.length ∧ l.length ≤ 6 ∧ ¬ (l.head? = some 48 ∧ 1 < l.length) ∧ dgs l = true ∧ val l ≤ 100000 then some (val l) else none
theorem numL_size {l : List UInt8} (h : l.length < 1 ∨ 6 < l.length) : numL l = none := by unfold numL; rw [if_neg (by omega)]
theorem numL_zero {l : List UInt8} (h : l.head? = some 48) (k : 1 < l.length) : numL l = none := by unfold numL; rw [if_neg (by simp [h, k])]
theorem numL_bad {l : List UInt8} (h : dgs l = false) : numL l = none := by unfold numL; rw [if_neg (by simp [h])]
theorem numL_great {l : List UInt8} (h : ¬ val l ≤ 100000) : numL l = none := by unfold numL; rw [if_neg (by simp [h])]
theorem numL_some {l : List UInt8} (h1 : 1 ≤ l.length) (h2 : l.length ≤ 6) (h3 : ¬ (l.head? = some 48 ∧ 1 < l.length)) (h4 : dgs l = true) (h5 : val l ≤ 100000) : numL l = some (val l) := by
  unfold numL; rw [if_pos ⟨h1, h2, h3, h4, h5⟩]
theorem numL_range {l : List UInt8} {n : Int} (h : numL l = some n) : 0 ≤ n ∧ n ≤ 100000 := by
  unfold numL at h
  split at h
  · rename_i hh
    obtain ⟨_, _, _, h4, h5⟩ := hh
    cases h
    exact ⟨(val_nonneg _ l rfl h4).1, h5⟩
  · cases h
theorem dgs_false {l : List UInt8} {k : Nat} (h : k < l.length) (hb : dg l[k] = false) : dgs l = false := by
  unfold dgs; rw [Bool.eq_false_iff]; intro hh
  rw [List.all_eq_true] at hh
  rw [hh _ (List.getElem_mem h)] at hb; cases hb

def pairL (m : UInt8) (l : List UInt8) : Option (Int × Int) :=
  match numL (cutL m l).1, numL (behind (cutL m l).2) with
  | some a, some b => some (a, b)
  | _, _ => none
theorem numL_nil : numL [] = none := rfl
theorem pairL_some {m : UInt8} {l : List UInt8} {a b : Int} (ha : numL (cutL m l).1 = some a) (hb : numL (behind (cutL m l).2) = some b) : pairL m l = some (a, b) := by unfold pairL; rw [ha, hb]
theorem pairL_left {m : UInt8} {l : List UInt8} (ha : numL (cutL m l).1 = none) : pairL m l = none := by unfold pairL; rw [ha]
theorem pairL_right {m : UInt8} {l : List UInt8} (hb : numL (behind (cutL m l).2) = none) : pairL m l = none := by unfold pairL; rw [hb]; split <;> simp_all
theorem pairL_ok {m : UInt8} {l : List UInt8} {p : Int × Int} (h : pairL m l = some p) : 0 ≤ p.1 ∧ p.1 ≤ 100000 ∧ 0 ≤ p.2 ∧ p.2 ≤ 100000 := by
  unfold pairL at h
  split at h
  · rename_i a b ha hb
    cases h
    exact ⟨(numL_range ha).1, (numL_range ha).2, (numL_range hb).1, (numL_range hb).2⟩
  · cases h

/-- a text in parts, cut at each comma -/
def partsN : Nat → List UInt8 → List (List UInt8)
  | 0, _ => []
  | n + 1, l => match (cutL 44 l).2 with
    | none => [(cutL 44 l).1]
    | some r => (cutL 44 l).1 :: partsN n r
def parts (l : List UInt8) : List (List UInt8) := partsN (l.length + 1) l
theorem partsN_eq : ∀ (n m : Nat) (l : List UInt8), l.length < n → l.length < m → partsN n l = partsN m l
  | 0, _, _, h, _ => by omega
  | _, 0, _, _, h => by omega
  | n + 1, m + 1, l, h, k => by
    rw [partsN, partsN]
    split
    · rfl
    · rename_i r hr
      have := (cutL_len 44 l).2 r hr
      rw [partsN_eq n m r (by omega) (by omega)]
theorem parts_none {l : List UInt8} (h : (cutL 44 l).2 = none) : parts l = [(cutL 44 l).1] := by
  unfold parts; rw [partsN, h]
theorem parts_some {l r : List UInt8} (h : (cutL 44 l).2 = some r) : parts l = (cutL 44 l).1 :: parts r := by
  unfold parts; rw [partsN, h]
  have := (cutL_len 44 l).2 r h
  simp only
  rw [partsN_eq l.length (r.length + 1) r (by omega) (by omega)]
/-- what the parts tell -/
def pairsP (m : UInt8) : List (List UInt8) → Option (List (Int × Int))
  | [] => some []
  | p :: r => match pairL m p, pairsP m r with
    | some x, some y => some (x :: y)
    | _, _ => none
/-- what a text tells -/
def pairsL (m : UInt8) (l : List UInt8) : Option (List (Int × Int)) := if l = [] then some [] else pairsP m (parts l)
/-- what is there already, and what is to come -/
def andThen (a : List (Int × Int)) (x : Option (List (Int × Int))) : Option (List (Int × Int)) := x.map (a ++ ·)
theorem pairsP_none {m : UInt8} {p : List UInt8} {r : List (List UInt8)} (h : pairL m p = none) : pairsP m (p :: r) = none := by rw [pairsP, h]
theorem pairsP_some {m : UInt8} {p : List UInt8} {r : List (List UInt8)} {x : Int × Int} {a : List (Int × Int)} (h : pairL m p = some x) : andThen a (pairsP m (p :: r)) = andThen (a ++ [x]) (pairsP m r) := by
  rw [pairsP, h]
  cases pairsP m r <;> simp [andThen]
theorem pairsP_ok {m : UInt8} : ∀ {ps : List (List UInt8)} {a : List (Int × Int)}, pairsP m ps = some a → ∀ p ∈ a, 0 ≤ p.1 ∧ p.1 ≤ 100000 ∧ 0 ≤ p.2 ∧ p.2 ≤ 100000
  | [], a, h => by cases h; simp
  | p :: r, a, h => by
    rw [pairsP] at h
    split at h
    · rename_i x y hx hy
      cases h
      intro q hq
      rcases List.mem_cons.1 hq with rfl | hq
      · exact pairL_ok hx
      · exact pairsP_ok hy q hq
    · cases h
theorem pairOk_of {p : Int × Int} (h : 0 ≤ p.1 ∧ p.1 ≤ 100000 ∧ 0 ≤ p.2 ∧ p.2 ≤ 100000) : pairOk p := by
  obtain ⟨h1, h2, h3, h4⟩ := h
  constructor
  all_goals
    simp [Lit.wf, IntKind.min, IntKind.max, IntKind.signed, IntKind.bits]
    omega
end Go.Proofs.YtpaobnhcbeklfaaGreatDoor.Pl
/-
  Contracts: cutting a text at the first of a sign (strings.Cut at a sign of one byte), and cutting a sign off its head.
-/
namespace Go.Proofs.YtpaobnhcbeklfaaGreatDoor
open Go.RowKit
set_option maxRecDepth 20000

theorem Pl.index_cut (c : UInt8) : ∀ l : List UInt8, (Lib.indexByte l c = -1 ∧ Pl.cutL c l = (l, none)) ∨ ∃ i : Nat, i < l.length ∧ Lib.indexByte l c = i ∧ Pl.cutL c l = (l.take i, some (l.drop (i + 1)))
  | [] => .inl ⟨rfl, rfl⟩
  | b :: r => by
    by_cases e : b = c
    · right
      exact ⟨0, by simp, by simp [Lib.indexByte, e], by simp [Pl.cutL, e]⟩
    · rcases Pl.index_cut c r with ⟨h1, h2⟩ | ⟨i, hi, h1, h2⟩
      · left
        exact ⟨by simp [Lib.indexByte, e, h1], by simp [Pl.cutL, e, h2]⟩
      · right
        refine ⟨i + 1, by simpa using hi, ?_, by simp [Pl.cutL, e, h2]⟩
        rw [Lib.indexByte]
        simp only [beq_iff_eq, e, if_false, h1]
        rw [if_neg (by omega)]
        rfl
theorem ext_list (s : ByteArray) (i j : Nat) : (s.extract i j).data.toList = (s.data.toList.drop i).take (j - i) := by
  rw [ByteArray.data_extract, Array.toList_extract]
theorem sz_list (s : ByteArray) : s.data.toList.length = s.size := by simp
theorem u8_back (c : UInt8) : ((c.toNat : Int)).toNat.toUInt8 = c := by simp

set_option maxHeartbeats 1000000 in
set_option maxRecDepth 100000 in
theorem lIndexByte_any (s : ByteArray) (c : Int) (w : World) :
    Calls Tryz.prog 107 #[.string s, .int .u8 c] w fun e w' => e = .returned (.int .i64 (Lib.indexByte s.data.toList c.toNat.toUInt8)) ∧ w' = w := by
  go_enter Tryz.func107, Tryz.ntmps107
  go_wp2
  rw [run_callFunc_extern Tryz.func118 (by kernel_rfl) (by kernel_rfl) (by kernel_rfl) (e := Extern.BytealgIndexByte.indexByte) (by kernel_rfl), Lib.run_indexByteString]
  simp only [Result.andThen]
  rw [Oper.upon_value]
  go_wp2
  go_ret
  exact ⟨rfl, rfl⟩

set_option maxHeartbeats 1000000 in
theorem lIndex_any (s : ByteArray) (c : UInt8) (w : World) :
    Calls Tryz.prog 91 #[.string s, .string ⟨#[c]⟩] w fun e w' => e = .returned (.int .i64 (Lib.indexByte s.data.toList c)) ∧ w' = w := by
  go_enter Tryz.func91, Tryz.ntmps91
  go_wp2_with (go_at_call 107; refine (lIndexByte_any _ _ _).mono ?_; rintro e w' ⟨rfl, rfl⟩)
  · have h : ([c] == s.toList) = true := by assumption
    go_ret
    refine ⟨?_, rfl⟩
    have e : s.data.toList = [c] := by rw [← Lib.toList_data]; exact (beq_iff_eq.1 h).symm
    rw [e]
    simp [Lib.indexByte]
  · go_ret
    exact ⟨rfl, rfl⟩

set_option maxHeartbeats 1000000 in
theorem lCut_any (s : ByteArray) (c : UInt8) (w : World) (hs : s.size ≤ maxLen) :
    Calls Tryz.prog 78 #[.string s, .string ⟨#[c]⟩] w fun e w' => ∃ a b : ByteArray, e = .returned (.tuple #[.string a, .string b, .bool (Pl.cutL c s.data.toList).2.isSome]) ∧
      a.data.toList = (Pl.cutL c s.data.toList).1 ∧ b.data.toList = Pl.behind (Pl.cutL c s.data.toList).2 ∧ ∃ n, w' = w.drewN n := by
  unfold maxLen at hs
  rcases Pl.index_cut c s.data.toList with ⟨h1, h2⟩ | ⟨i, hi, h1, h2⟩
  · have H1 := hid h1
    have H2 := hid h2
    clear h1 h2
    go_enter Tryz.func78, Tryz.ntmps78
    go_wp2_with (go_at_call 91; refine (lIndex_any _ _ _).mono ?_; rw [H1.out]; rintro e w' ⟨rfl, rfl⟩)
    go_ret3
    exact ⟨s, ⟨#[]⟩, by rw [H2.out]; rfl, by rw [H2.out], by rw [H2.out]; rfl, 0, rfl⟩
  · have H1 := hid h1
    have H2 := hid h2
    clear h1 h2
    rw [sz_list] at hi
    go_enter Tryz.func78, Tryz.ntmps78
    go_wp2_with (go_at_call 91; refine (lIndex_any _ _ _).mono ?_; rw [H1.out]; rintro e w' ⟨rfl, rfl⟩)
    go_quiet (fail)
    go_wp2
    go_ret3
    refine ⟨_, _, by rw [H2.out]; rfl, ?_, ?_, _, rfl⟩
    · rw [H2.out, ext_list]; simp
    · rw [H2.out, ext_list, List.take_of_length_le (by simp)]; rfl

set_option maxHeartbeats 1000000 in
theorem Cut_any (s : ByteArray) (c : UInt8) (w : World) (hs : s.size ≤ maxLen) :
    Calls Tryz.prog 63 #[.string s, .string ⟨#[c]⟩] w fun e w' => ∃ a b : ByteArray, e = .returned (.tuple #[.string a, .string b, .bool (Pl.cutL c s.data.toList).2.isSome]) ∧
      a.data.toList = (Pl.cutL c s.data.toList).1 ∧ b.data.toList = Pl.behind (Pl.cutL c s.data.toList).2 ∧ ∃ n, w' = w.drewN n := by
  obtain ⟨x, HX⟩ : ∃ x, Hid (Pl.cutL c s.data.toList = x) := ⟨_, rfl⟩
  rw [HX.out]
  go_enter Tryz.func63, Tryz.ntmps63
  go_wp2_with (go_at_call 78; refine (lCut_any _ _ _ hs).mono ?_; rw [HX.out]; rintro e w' ⟨a, b, rfl, ha, hb, n, rfl⟩)
  go_ret3
  exact ⟨a, b, rfl, ha, hb, n, rfl⟩

/-- is a sign the first of a text? -/
def Pl.headB (c : UInt8) (l : List UInt8) : Bool := l.head? == some c
/-- a text without the sign at its head -/
def Pl.tailB (c : UInt8) (l : List UInt8) : List UInt8 := if Pl.headB c l then l.tail else l

set_option maxHeartbeats 1000000 in
theorem CutPrefix_any (s : ByteArray) (c : UInt8) (w : World) (hs : s.size ≤ maxLen) :
    Calls Tryz.prog 59 #[.string s, .string ⟨#[c]⟩] w fun e w' => ∃ a : ByteArray, e = .returned (.tuple #[.string a, .bool (Pl.headB c s.data.toList)]) ∧
      a.data.toList = Pl.tailB c s.data.toList ∧ w' = w := by
  unfold maxLen at hs
  by_cases h : Pl.headB c s.data.toList = true
  · have h1 : 1 ≤ s.size := by
      rw [← sz_list]
      unfold Pl.headB at h
      cases hl : s.data.toList <;> simp [hl] at h ⊢
    have h2 : ((s.extract 0 1).toList == [c]) = true := by
      rw [Lib.toList_data, ext_list]
      unfold Pl.headB at h
      cases hl : s.data.toList <;> simp [hl] at h ⊢
      exact h
    have H := hid h
    clear h
    go_enter Tryz.func59, Tryz.ntmps59
    go_wp2
    go_ret2
    refine ⟨_, by rw [H.out]; rfl, ?_, rfl⟩
    rw [ext_list]
    unfold Pl.tailB
    rw [H.out, List.take_of_length_le (by simp)]
    simp
  · have H : Hid (Pl.headB c s.data.toList = false) := hid (by simpa using h)
    clear h
    rcases Nat.lt_or_ge s.size 1 with h1 | h1
    · go_enter Tryz.func59, Tryz.ntmps59
      go_wp2
      go_ret2
      exact ⟨s, by rw [H.out]; rfl, by unfold Pl.tailB; rw [H.out]; rfl, rfl⟩
    · have h2 : ((s.extract 0 1).toList == [c]) = false := by
        rw [Lib.toList_data, ext_list]
        have h := H.out
        unfold Pl.headB at h
        rw [← sz_list] at h1
        cases hl : s.data.toList <;> simp [hl] at h h1 ⊢
        exact h
      go_enter Tryz.func59, Tryz.ntmps59
      go_wp2
      go_ret2
      exact ⟨s, by rw [H.out]; rfl, by unfold Pl.tailB; rw [H.out]; rfl, rfl⟩
end Go.Proofs.YtpaobnhcbeklfaaGreatDoor
/-
  Contracts: the number that a text tells: readNumber and the document's numOf.
-/
namespace Go.Proofs.YtpaobnhcbeklfaaGreatDoor
open Go.RowKit
set_option maxRecDepth 20000

theorem Pl.val_take (s : ByteArray) (k : Nat) (h : k < s.size) : Pl.val (s.data.toList.take (k + 1)) = 10 * Pl.val (s.data.toList.take k) + ((s[k].toNat : Int) - 48) := by
  rw [Pl.take_snoc s k h, Pl.val_snoc]
theorem Pl.dgs_take (s : ByteArray) (k : Nat) (h : k < s.size) : Pl.dgs (s.data.toList.take (k + 1)) = (Pl.dgs (s.data.toList.take k) && Pl.dg s[k]) := by
  rw [Pl.take_snoc s k h, Pl.dgs_snoc]
theorem Pl.dgs_bad (s : ByteArray) (k : Nat) (h : k < s.size) (hb : Pl.dg s[k] = false) : Pl.dgs s.data.toList = false :=
  Pl.dgs_false (l := s.data.toList) (k := k) (by simpa using h) hb
theorem Pl.val_bound {l : List UInt8} (h : l.length ≤ 6) (k : Pl.dgs l = true) : 0 ≤ Pl.val l ∧ Pl.val l < 1000000 := by
  obtain ⟨h1, h2⟩ := Pl.val_nonneg _ l rfl k
  refine ⟨h1, ?_⟩
  have h3 : (10 : Int) ^ l.length ≤ 10 ^ 6 := by
    have : l.length = 0 ∨ l.length = 1 ∨ l.length = 2 ∨ l.length = 3 ∨ l.length = 4 ∨ l.length = 5 ∨ l.length = 6 := by omega
    rcases this with h | h | h | h | h | h | h <;> rw [h] <;> decide
  omega
theorem Pl.head_get (s : ByteArray) (h : 0 < s.size) : s.data.toList.head? = some s[0] := by
  rw [List.head?_eq_getElem?, List.getElem?_eq_getElem (by simpa using h)]; rfl
theorem take_all (s : ByteArray) : s.data.toList.take s.size = s.data.toList := List.take_of_length_le (by simp)

set_option maxHeartbeats 1000000 in
theorem readNumber_any (s : ByteArray) (w : World) (hs : s.size ≤ maxLen) :
    Calls Tryz.prog 79 #[.string s] w fun e w' => ∃ x : Int, e = .returned (.tuple #[.int .i64 x, .bool (Pl.numL s.data.toList).isSome]) ∧
      (∀ n, Pl.numL s.data.toList = some n → x = n) ∧ w' = w := by
  unfold maxLen at hs
  rcases Nat.lt_or_ge s.size 1 with h0 | h0
  · have hN := hid (Pl.numL_size (l := s.data.toList) (by rw [sz_list]; omega))
    have he : s.toList = [] := by rw [Lib.toList_data]; exact List.length_eq_zero_iff.1 (by rw [sz_list]; omega)
    go_enter Tryz.func79, Tryz.ntmps79
    go_wp2
    go_ret2
    exact ⟨0, by rw [hN.out]; rfl, by rw [hN.out]; simp, rfl⟩
  have he : (s.toList == []) = false := by
    rw [Lib.toList_data]
    cases hl : s.data.toList
    · have := sz_list s; rw [hl] at this; simp at this; omega
    · rfl
  rcases Nat.lt_or_ge 6 s.size with h6 | h6
  · have hN := hid (Pl.numL_size (l := s.data.toList) (by rw [sz_list]; omega))
    go_enter Tryz.func79, Tryz.ntmps79
    go_wp2
    go_ret2
    exact ⟨0, by rw [hN.out]; rfl, by rw [hN.out]; simp, rfl⟩
  have hH := hid (Pl.head_get s h0)
  by_cases hz : (s[0].toNat : Int) = 48 ∧ 1 < s.size
  · obtain ⟨hz1, hz2⟩ := hz
    have hN : Hid (Pl.numL s.data.toList = none) := hid (Pl.numL_zero (by rw [hH.out]; congr 1; apply UInt8.toNat_inj.1; show _ = 48; omega) (by rw [sz_list]; omega))
    have hq : (s.toList == [48]) = false := by
      rw [Lib.toList_data]
      rw [beq_eq_false_iff_ne]; intro e
      have := sz_list s; rw [e] at this; simp at this; omega
    go_enter Tryz.func79, Tryz.ntmps79
    go_wp2
    go_ret2
    exact ⟨0, by rw [hN.out]; rfl, by rw [hN.out]; simp, rfl⟩
  · have HZ : Hid (¬ (s.data.toList.head? = some 48 ∧ 1 < s.data.toList.length)) := by
      refine hid ?_
      rw [hH.out, sz_list]
      rintro ⟨e, k⟩
      simp at e
      exact hz ⟨by rw [e]; rfl, k⟩
    have hgo : ((s[0].toNat : Int) = 48 ∧ (s.toList == [48]) = true) ∨ ((s[0].toNat : Int) == 48) = false := by
      by_cases e : (s[0].toNat : Int) = 48
      · left
        refine ⟨e, ?_⟩
        have hs1 : s.size = 1 := by
          rcases Nat.lt_or_ge 1 s.size with h | h
          · exact absurd ⟨e, h⟩ hz
          · omega
        rw [Lib.toList_data, beq_iff_eq]
        have h1 := hH.out
        have h2 := sz_list s
        rw [hs1] at h2
        match hl : s.data.toList, h2 with
        | [x], _ =>
          rw [hl] at h1
          simp at h1
          rw [h1]
          congr 1
          apply UInt8.toNat_inj.1
          show _ = 48
          omega
      · right
        simpa using e
    clear hz
    rcases hgo with ⟨hg1, hg2⟩ | hg1
    all_goals
      go_enter Tryz.func79, Tryz.ntmps79
      go_wp2
      go_loop [4, 24] (fun n i => ∃ (k : Nat) (v : Int), k ≤ s.size ∧ i = .int .i64 k ∧ n = .int .i64 v ∧ Hid (v = Pl.val (s.data.toList.take k)) ∧ Hid (Pl.dgs (s.data.toList.take k) = true) ∧ 0 ≤ v ∧ v < 1000000) (fun _ i => s.size - (intOf i).toNat)
      case atStart => exact ⟨0, 0, Nat.zero_le _, rfl, rfl, rfl, rfl, by omega, by omega⟩
      case round =>
        obtain ⟨k, v, hk, rfl, rfl, HV, HD, hv0, hv1⟩ := hrel
        by_cases hlt : k < s.size
        · have hbl := byte_le s[k]
          by_cases a1 : (s[k].toNat : Int) < 48
          · have HB : Hid (Pl.numL s.data.toList = none) := hid (Pl.numL_bad (Pl.dgs_bad s k hlt (by unfold Pl.dg; rw [decide_eq_false (by omega)])))
            go_wp2
            go_ret2
            exact ⟨0, by rw [HB.out]; rfl, by rw [HB.out]; simp, rfl⟩
          · by_cases a2 : 57 < (s[k].toNat : Int)
            · have HB : Hid (Pl.numL s.data.toList = none) := hid (Pl.numL_bad (Pl.dgs_bad s k hlt (by unfold Pl.dg; rw [decide_eq_false (by omega)])))
              go_wp2
              go_ret2
              exact ⟨0, by rw [HB.out]; rfl, by rw [HB.out]; simp, rfl⟩
            · have HX : Hid (Pl.val (s.data.toList.take (k + 1)) = 10 * v + ((s[k].toNat : Int) - 48) ∧ Pl.dgs (s.data.toList.take (k + 1)) = true) := by
                refine hid ⟨?_, ?_⟩
                · rw [Pl.val_take s k hlt, HV.out]
                · rw [Pl.dgs_take s k hlt, HD.out]; unfold Pl.dg; rw [decide_eq_true (by omega)]; rfl
              have hB := Pl.val_bound (l := s.data.toList.take (k + 1)) (by simp; omega) HX.out.2
              rw [HX.out.1] at hB
              have hwr : IntKind.u8.wrap ((s[k].toNat : Int) - 48) = (s[k].toNat : Int) - 48 := by
                simp [IntKind.wrap, IntKind.signed, IntKind.bits]; omega
              go_wp2
              go_round
              case rel => exact ⟨k + 1, 10 * v + ((s[k].toNat : Int) - 48), by omega, by go_num, by go_num, hid HX.out.1.symm, HX.out.2, by omega, by omega⟩
              case measure => simp [intOf]; omega
        · obtain rfl : k = s.size := by omega
          have HT := hid (take_all s)
          have HV' : Hid (v = Pl.val s.data.toList) := by rw [HT.out] at HV; exact HV
          have HD' : Hid (Pl.dgs s.data.toList = true) := by rw [HT.out] at HD; exact HD
          by_cases hgr : v ≤ 100000
          · have HN := hid (Pl.numL_some (l := s.data.toList) (by rw [sz_list]; omega) (by rw [sz_list]; omega) HZ.out HD'.out (by rw [← HV'.out]; exact hgr))
            go_wp2
            go_ret2
            exact ⟨v, by rw [HN.out]; simp, by rw [HN.out, ← HV'.out]; simp, rfl⟩
          · have HN := hid (Pl.numL_great (l := s.data.toList) (by rw [← HV'.out]; exact hgr))
            go_wp2
            go_ret2
            exact ⟨v, by rw [HN.out]; simp, by rw [HN.out]; simp, rfl⟩

/-- a number, or -1 -/
def Pl.numI (l : List UInt8) : Int := (Pl.numL l).getD (-1)

set_option maxHeartbeats 1000000 in
theorem numOf_any (s : ByteArray) (w : World) (hs : s.size ≤ maxLen) :
    Calls Tryz.prog 74 #[.string s] w fun e w' => e = .returned (.int .i64 (Pl.numI s.data.toList)) ∧ w' = w := by
  unfold maxLen at hs
  rcases Nat.lt_or_ge s.size 1 with h0 | h0
  · have hN := hid (Pl.numL_size (l := s.data.toList) (by rw [sz_list]; omega))
    go_enter Tryz.func74, Tryz.ntmps74
    go_wp2_with (go_at_call 30; refine (In_no _ _ _ _ (by omega)).mono ?_; rintro e w' ⟨rfl, rfl⟩)
    go_ret
    exact ⟨ret_int (by unfold Pl.numI; rw [hN.out]; rfl), rfl⟩
  rcases Nat.lt_or_ge 6 s.size with h6 | h6
  · have hN := hid (Pl.numL_size (l := s.data.toList) (by rw [sz_list]; omega))
    go_enter Tryz.func74, Tryz.ntmps74
    go_wp2_with (go_at_call 30; refine (In_no _ _ _ _ (by omega)).mono ?_; rintro e w' ⟨rfl, rfl⟩)
    go_ret
    exact ⟨ret_int (by unfold Pl.numI; rw [hN.out]; rfl), rfl⟩
  have hH := hid (Pl.head_get s h0)
  by_cases hz : (s[0].toNat : Int) = 48 ∧ 1 < s.size
  · obtain ⟨hz1, hz2⟩ := hz
    have hN : Hid (Pl.numL s.data.toList = none) := hid (Pl.numL_zero (by rw [hH.out]; congr 1; apply UInt8.toNat_inj.1; show _ = 48; omega) (by rw [sz_list]; omega))
    go_enter Tryz.func74, Tryz.ntmps74
    go_wp2_with (go_at_call 30; refine (In_yes _ _ _ _ (by omega)).mono ?_; rintro e w' ⟨rfl, rfl⟩)
    go_ret
    exact ⟨ret_int (by unfold Pl.numI; rw [hN.out]; rfl), rfl⟩
  · have HZ : Hid (¬ (s.data.toList.head? = some 48 ∧ 1 < s.data.toList.length)) := by
      refine hid ?_
      rw [hH.out, sz_list]
      rintro ⟨e, k⟩
      simp at e
      exact hz ⟨by rw [e]; rfl, k⟩
    have hgo : (1 < s.size ∧ ((s[0].toNat : Int) == 48) = false) ∨ s.size ≤ 1 := by
      by_cases e : (s[0].toNat : Int) = 48
      · right
        rcases Nat.lt_or_ge 1 s.size with h | h
        · exact absurd ⟨e, h⟩ hz
        · omega
      · rcases Nat.lt_or_ge 1 s.size with h | h
        · left; exact ⟨h, by simpa using e⟩
        · right; omega
    clear hz
    rcases hgo with ⟨hg1, hg2⟩ | hg1
    all_goals
      go_enter Tryz.func74, Tryz.ntmps74
      go_wp2_with (go_at_call 30; refine (In_yes _ _ _ _ (by omega)).mono ?_; rintro e w' ⟨rfl, rfl⟩)
      go_loop [3, 4] (fun n i => ∃ (k : Nat) (v : Int), k ≤ s.size ∧ i = .int .i64 k ∧ n = .int .i64 v ∧ Hid (v = Pl.val (s.data.toList.take k)) ∧ Hid (Pl.dgs (s.data.toList.take k) = true) ∧ 0 ≤ v ∧ v < 1000000) (fun _ i => s.size - (intOf i).toNat)
      case atStart => exact ⟨0, 0, Nat.zero_le _, rfl, rfl, rfl, rfl, by omega, by omega⟩
      case round =>
        obtain ⟨k, v, hk, rfl, rfl, HV, HD, hv0, hv1⟩ := hrel
        by_cases hlt : k < s.size
        · have hbl := byte_le s[k]
          by_cases a1 : 48 ≤ (s[k].toNat : Int) ∧ (s[k].toNat : Int) ≤ 57
          · have HX : Hid (Pl.val (s.data.toList.take (k + 1)) = 10 * v + ((s[k].toNat : Int) - 48) ∧ Pl.dgs (s.data.toList.take (k + 1)) = true) := by
              refine hid ⟨?_, ?_⟩
              · rw [Pl.val_take s k hlt, HV.out]
              · rw [Pl.dgs_take s k hlt, HD.out]; unfold Pl.dg; rw [decide_eq_true (by omega)]; rfl
            have hB := Pl.val_bound (l := s.data.toList.take (k + 1)) (by simp; omega) HX.out.2
            rw [HX.out.1] at hB
            obtain ⟨a1, a2⟩ := a1
            go_wp2_with (go_at_call 30; refine (In_yes _ _ _ _ (by omega)).mono ?_; rintro e w' ⟨rfl, rfl⟩)
            go_round
            case rel => exact ⟨k + 1, 10 * v + ((s[k].toNat : Int) - 48), by omega, by go_num, by go_num, hid HX.out.1.symm, HX.out.2, by omega, by omega⟩
            case measure => simp [intOf]; omega
          · have HB : Hid (Pl.numL s.data.toList = none) := hid (Pl.numL_bad (Pl.dgs_bad s k hlt (by unfold Pl.dg; rw [decide_eq_false a1])))
            go_wp2_with (go_at_call 30; refine (In_no _ _ _ _ (by omega)).mono ?_; rintro e w' ⟨rfl, rfl⟩)
            go_ret
            exact ⟨ret_int (by unfold Pl.numI; rw [HB.out]; rfl), rfl⟩
        · obtain rfl : k = s.size := by omega
          have HT := hid (take_all s)
          have HV' : Hid (v = Pl.val s.data.toList) := by rw [HT.out] at HV; exact HV
          have HD' : Hid (Pl.dgs s.data.toList = true) := by rw [HT.out] at HD; exact HD
          by_cases hgr : v ≤ 100000
          · have HN := hid (Pl.numL_some (l := s.data.toList) (by rw [sz_list]; omega) (by rw [sz_list]; omega) HZ.out HD'.out (by rw [← HV'.out]; exact hgr))
            go_wp2
            go_ret
            exact ⟨ret_int (by unfold Pl.numI; rw [HN.out, ← HV'.out]; rfl), rfl⟩
          · have HN := hid (Pl.numL_great (l := s.data.toList) (by rw [← HV'.out]; exact hgr))
            go_wp2
            go_ret
            exact ⟨ret_int (by unfold Pl.numI; rw [HN.out]; rfl), rfl⟩
end Go.Proofs.YtpaobnhcbeklfaaGreatDoor
/-
  Slices of pairs of numbers in memory.
-/
namespace Go.Proofs.YtpaobnhcbeklfaaGreatDoor
open Go.RowKit
set_option maxRecDepth 20000

/-- the cells of pairs, one behind the other -/
def PairsAt (w : World) (b off : Nat) (ps : List (Int × Int)) : Prop := ∀ i, i < ps.length →
  w.cell? ⟨b, off + i * 2, none⟩ = some (.int .i64 (Pl.pr ps i).1) ∧ w.cell? ⟨b, off + i * 2 + 1, none⟩ = some (.int .i64 (Pl.pr ps i).2)

/-- a slice of pairs -/
def IsPairs (w : World) (a : Option Addr) (len cap : Nat) (ps : List (Int × Int)) : Prop :=
  ps.length = len ∧ len ≤ cap ∧ cap ≤ maxLen ∧ (∀ p ∈ ps, Pl.pairOk p) ∧ (ps = [] ∨ ∃ b off, a = some ⟨b, off, none⟩ ∧ b < w.heap.size ∧ PairsAt w b off ps)

theorem PairsAt.below {w w' : World} {b off : Nat} {ps : List (Int × Int)} (h : PairsAt w b off ps) (hb : b < w.heap.size) (k : Below w.heap.size w w') : PairsAt w' b off ps := by
  intro i hi
  obtain ⟨c0, c1⟩ := h i hi
  exact ⟨(k.cell (p := ⟨b, _, none⟩) hb).trans c0, (k.cell (p := ⟨b, _, none⟩) hb).trans c1⟩

theorem IsPairs.below {w w' : World} {a : Option Addr} {len cap : Nat} {ps : List (Int × Int)} (h : IsPairs w a len cap ps) (k : Below w.heap.size w w') : IsPairs w' a len cap ps := by
  obtain ⟨h1, h2, h3, h4, h5⟩ := h
  refine ⟨h1, h2, h3, h4, ?_⟩
  rcases h5 with h5 | ⟨b, off, rfl, hb, hr⟩
  · exact .inl h5
  · exact .inr ⟨b, off, rfl, Nat.lt_of_lt_of_le hb k.size, hr.below hb k⟩

theorem below_drew {B : Nat} {a w : World} (h : Below B a w) (n : Nat) : Below B a (w.drewN n) := h.trans ⟨rfl, rfl, rfl, Nat.le_refl _, fun _ _ => rfl⟩

theorem box2 {w w3 : World} {c0 c1 : Value} {T : TypeId} (hb : Below (w.heap.size + 1) (w.alloc (.cells #[c0, c1] T)) w3) :
    w3.cell? ⟨w.heap.size, 0, none⟩ = some c0 ∧ w3.cell? ⟨w.heap.size, 1, none⟩ = some c1 ∧ w.heap.size < w3.heap.size ∧ Below w.heap.size w w3 := by
  have hz := hb.size
  simp only [World.alloc, Array.size_push] at hz
  have h0 := hb.cell (p := ⟨w.heap.size, 0, none⟩) (by simp)
  have h1 := hb.cell (p := ⟨w.heap.size, 1, none⟩) (by simp)
  refine ⟨h0.trans ?_, h1.trans ?_, by omega, ((Below.refl _ _).alloc (Nat.le_refl _) _).trans (hb.mono (by omega))⟩
  all_goals simp
end Go.Proofs.YtpaobnhcbeklfaaGreatDoor
/-
  Contracts: a pair of numbers that a text tells: readPair and the document's pairOf.
-/
namespace Go.Proofs.YtpaobnhcbeklfaaGreatDoor
open Go.RowKit
set_option maxRecDepth 20000

theorem Pl.cut_size {m : UInt8} {s a b : ByteArray} (ha : a.data.toList = (Pl.cutL m s.data.toList).1) (hb : b.data.toList = Pl.behind (Pl.cutL m s.data.toList).2) : a.size ≤ s.size ∧ b.size ≤ s.size := by
  rw [← sz_list a, ← sz_list b, ← sz_list s, ha, hb]
  obtain ⟨h1, h2⟩ := Pl.cutL_len m s.data.toList
  refine ⟨h1, ?_⟩
  cases h : (Pl.cutL m s.data.toList).2
  · simp [Pl.behind]
  · have := h2 _ h; simp only [Pl.behind, Option.getD_some]; omega

set_option maxHeartbeats 1000000 in
theorem readPair_any (s : ByteArray) (m : UInt8) (w : World) (hs : s.size ≤ maxLen) :
    Calls Tryz.prog 64 #[.string s, .string ⟨#[m]⟩] w fun e w' => ∃ x y : Int, e = .returned (.tuple #[.agg #[.int .i64 x, .int .i64 y], .bool (Pl.pairL m s.data.toList).isSome]) ∧
      (∀ p, Pl.pairL m s.data.toList = some p → (x, y) = p) ∧ Below w.heap.size w w' := by
  have HS := hid hs
  clear hs
  obtain ⟨na, HA⟩ : ∃ x, Hid (Pl.numL (Pl.cutL m s.data.toList).1 = x) := ⟨_, rfl⟩
  obtain ⟨nb, HB⟩ : ∃ x, Hid (Pl.numL (Pl.behind (Pl.cutL m s.data.toList).2) = x) := ⟨_, rfl⟩
  obtain ⟨np, HP⟩ : ∃ x, Hid (Pl.pairL m s.data.toList = x) := ⟨_, rfl⟩
  have HC : Hid (∀ x y : Int, (∀ n, na = some n → x = n) → (∀ n, nb = some n → y = n) → (na.isSome && nb.isSome) = np.isSome ∧ (∀ p, np = some p → (x, y) = p)) := by
    refine hid fun x y hx hy => ?_
    have hp := HP.out
    unfold Pl.pairL at hp
    rw [HA.out, HB.out] at hp
    cases na <;> cases nb <;> simp at hp hx hy <;> subst hp <;> simp [hx, hy]
  rw [HP.out]
  go_enter Tryz.func64, Tryz.ntmps64
  go_wp2_with (go_at_call 63; refine (Cut_any _ _ _ HS.out).mono ?_; rintro e w1 ⟨a, b, rfl, ha, hb, n, rfl⟩)
  have HSZ := hid (Pl.cut_size ha hb)
  have HA1 := hid ha
  have HB1 := hid hb
  clear ha hb
  refine (readNumber_any a _ (Nat.le_trans HSZ.out.1 HS.out)).mono ?_
  rw [HA1.out, HA.out]
  rintro e w2 ⟨x, rfl, hx, rfl⟩
  have HX := hid hx
  clear hx
  go_wp2_with (go_at_call 79; refine (readNumber_any b _ (Nat.le_trans HSZ.out.2 HS.out)).mono ?_; rw [HB1.out, HB.out]; rintro e w3 ⟨y, rfl, hy, rfl⟩; have HY := hid hy; clear hy)
  all_goals
    refine bodyPost_ret (v := .tuple #[.agg #[.int .i64 x, .int .i64 y], .bool np.isSome]) (by rw [← (HC.out x y HX.out HY.out).1]; simp_all [results, Tryz.results64, go_sem]) rfl ⟨x, y, rfl, (HC.out x y HX.out HY.out).2, ((below_drew ((Below.refl _ _).alloc (Nat.le_refl _) _) n).setCell (Nat.le_refl _) _).setCell (Nat.le_refl _) _⟩

set_option maxHeartbeats 1000000 in
theorem pairOf_any (s : ByteArray) (m : UInt8) (w : World) (hs : s.size ≤ maxLen) :
    Calls Tryz.prog 56 #[.string s, .int .u8 (m.toNat : Int)] w fun e w' => ∃ x y : Int, e = .returned (.tuple #[.int .i64 x, .int .i64 y, .bool (Pl.pairL m s.data.toList).isSome]) ∧
      (∀ p, Pl.pairL m s.data.toList = some p → (x, y) = p) ∧ w' = w := by
  have HS := hid hs
  unfold maxLen at hs
  obtain ⟨np, HP⟩ : ∃ x, Hid (Pl.pairL m s.data.toList = x) := ⟨_, rfl⟩
  rw [HP.out]
  go_enter Tryz.func56, Tryz.ntmps56
  go_wp2
  go_loop [7] (fun i => ∃ k : Nat, k ≤ s.size ∧ i = .int .i64 k ∧ Hid (m ∉ s.data.toList.take k)) (fun i => s.size - (intOf i).toNat)
  case atStart => exact ⟨0, Nat.zero_le _, rfl, hid (by simp)⟩
  case round =>
    obtain ⟨k, hk, rfl, HM⟩ := hrel
    by_cases hlt : k < s.size
    · by_cases he : (s[k].toNat : Int) = (m.toNat : Int)
      · have hem : s[k] = m := by apply UInt8.toNat_inj.1; omega
        have HCUT : Hid (Pl.cutL m s.data.toList = (s.data.toList.take k, some (s.data.toList.drop (k + 1)))) := hid (Pl.cutL_some (by rw [sz_list]; exact hlt) (by rw [List.getElem?_eq_getElem (by rw [sz_list]; exact hlt)]; rw [← hem]; rfl) HM.out)
        have HE1 : Hid ((s.extract 0 k).data.toList = (Pl.cutL m s.data.toList).1) := hid (by rw [ext_list, HCUT.out]; simp)
        have HE2 : Hid ((s.extract (k + 1) s.size).data.toList = Pl.behind (Pl.cutL m s.data.toList).2) := hid (by rw [ext_list, HCUT.out, List.take_of_length_le (by simp)]; rfl)
        have HSZ := hid (Pl.cut_size HE1.out HE2.out)
        obtain ⟨na, HA⟩ : ∃ x, Hid (Pl.numL (Pl.cutL m s.data.toList).1 = x) := ⟨_, rfl⟩
        obtain ⟨nb, HB⟩ : ∃ x, Hid (Pl.numL (Pl.behind (Pl.cutL m s.data.toList).2) = x) := ⟨_, rfl⟩
        obtain ⟨ia, HIA⟩ : ∃ x, Hid (Pl.numI (Pl.cutL m s.data.toList).1 = x) := ⟨_, rfl⟩
        obtain ⟨ib, HIB⟩ : ∃ x, Hid (Pl.numI (Pl.behind (Pl.cutL m s.data.toList).2) = x) := ⟨_, rfl⟩
        have HC : Hid ((decide (0 ≤ ia) && decide (0 ≤ ib)) = np.isSome ∧ (∀ p, np = some p → (ia, ib) = p)) := by
          refine hid ?_
          have hp := HP.out
          unfold Pl.pairL at hp
          rw [HA.out, HB.out] at hp
          have h1 := HIA.out
          have h2 := HIB.out
          unfold Pl.numI at h1 h2
          rw [HA.out] at h1
          rw [HB.out] at h2
          have r1 := fun n => Pl.numL_range (l := (Pl.cutL m s.data.toList).1) (n := n)
          have r2 := fun n => Pl.numL_range (l := Pl.behind (Pl.cutL m s.data.toList).2) (n := n)
          rw [HA.out] at r1
          rw [HB.out] at r2
          cases na <;> cases nb <;> simp at hp h1 h2 r1 r2 <;> subst hp <;> subst h1 <;> subst h2 <;> simp [r1, r2]
        by_cases p1 : 0 ≤ ia
        all_goals
          go_wp2_with fail
          refine (numOf_any (s.extract 0 k) _ (Nat.le_trans HSZ.out.1 HS.out)).mono ?_
          rw [HE1.out, HIA.out]
          rintro e w' ⟨rfl, rfl⟩
          go_wp2_with fail
          refine (numOf_any (s.extract (k + 1) s.size) _ (Nat.le_trans HSZ.out.2 HS.out)).mono ?_
          rw [HE2.out, HIB.out]
          rintro e w' ⟨rfl, rfl⟩
          go_wp2_with fail
          go_ret3
          exact ⟨ia, ib, by rw [← HC.out.1]; first | (rw [decide_eq_true (p := 0 ≤ ia) (by omega)]; rfl) | (rw [decide_eq_false (p := 0 ≤ ia) (by omega)]; rfl), by first | exact HC.out.2 | (intro a b h; have := HC.out.2 _ h; simpa using this), rfl⟩
      · have hen : s[k] ≠ m := by rintro rfl; exact he rfl
        go_wp2
        go_round
        case rel => exact ⟨k + 1, by omega, by go_num, hid (by rw [Pl.take_snoc s k hlt]; simp only [List.mem_append, List.mem_singleton, not_or]; exact ⟨HM.out, fun e => hen e.symm⟩)⟩
        case measure => simp [intOf]; omega
    · obtain rfl : k = s.size := by omega
      have HCUT : Hid (np = none) := by
        refine hid ?_
        have h := HM.out
        rw [take_all] at h
        rw [← HP.out, Pl.pairL_right]
        rw [Pl.cutL_none h]; rfl
      go_wp2
      go_ret3
      exact ⟨0, 0, by rw [HCUT.out]; rfl, by rw [HCUT.out]; simp, rfl⟩
end Go.Proofs.YtpaobnhcbeklfaaGreatDoor
/-
  Rows of pairs, and of texts, that a call itself has made: what they hold, and how one more is appended.
-/
namespace Go.Proofs.YtpaobnhcbeklfaaGreatDoor
open Go.RowKit
set_option maxRecDepth 20000

def cellsP : List (Int × Int) → List Value
  | [] => []
  | p :: r => .int .i64 p.1 :: .int .i64 p.2 :: cellsP r
theorem cellsP_len : ∀ ps : List (Int × Int), (cellsP ps).length = ps.length * 2
  | [] => rfl
  | p :: r => by simp [cellsP, cellsP_len r]; omega
theorem cellsP_append : ∀ (a b : List (Int × Int)), cellsP (a ++ b) = cellsP a ++ cellsP b
  | [], _ => rfl
  | p :: r, b => by simp [cellsP, cellsP_append r b]
theorem cellsP_one : ∀ ps : List (Int × Int), ∀ u ∈ cellsP ps, u.oneCell' = true
  | [], u, h => by simp [cellsP] at h
  | p :: r, u, h => by
    simp only [cellsP, List.mem_cons] at h
    rcases h with rfl | rfl | h
    · rfl
    · rfl
    · exact cellsP_one r u h
theorem cellsP_get : ∀ (ps : List (Int × Int)) (i : Nat), i < ps.length → (cellsP ps)[i * 2]? = some (.int .i64 (Pl.pr ps i).1) ∧ (cellsP ps)[i * 2 + 1]? = some (.int .i64 (Pl.pr ps i).2)
  | [], i, h => by simp at h
  | p :: r, 0, _ => by simp [cellsP, Pl.pr]
  | p :: r, i + 1, h => by
    have := cellsP_get r i (by simpa using h)
    rw [show (i + 1) * 2 = i * 2 + 2 by omega]
    simpa [cellsP, Pl.pr] using this

theorem blockLt {w : World} {g : Nat} {o : Obj} (h : w.heap[g]? = some o) : g < w.heap.size := by
  rcases Nat.lt_or_ge g w.heap.size with h' | h'
  · exact h'
  · rw [Array.getElem?_eq_none h'] at h; cases h

/-- a slice value over a row of pairs of the call's own; T: the pairs' type -/
def OwnP (T : TypeId) (w : World) (base : Nat) (v : Value) (ps : List (Int × Int)) : Prop := w.ownsRow base T 2 v ps.length (cellsP ps)
theorem ownsRow_under {w w' : World} {base : Nat} {e : TypeId} {sz : Nat} {v : Value} {n : Nat} {xs : List Value} (h : w.ownsRow base e sz v n xs) (k : Below w.heap.size w w') : w'.ownsRow base e sz v n xs := by
  obtain ⟨h0, h1⟩ := h
  refine ⟨h0, ?_⟩
  rcases h1 with h1 | ⟨g, cap, cur, rfl, hb, hh, hr⟩
  · exact .inl h1
  · exact .inr ⟨g, cap, cur, rfl, hb, (k.block g (blockLt hh)).trans hh, hr⟩
theorem OwnP.below {T : TypeId} {w w' : World} {base : Nat} {v : Value} {ps : List (Int × Int)} (h : OwnP T w base v ps) (k : Below w.heap.size w w') : OwnP T w' base v ps := ownsRow_under h k
theorem OwnP.nil (T : TypeId) (w : World) (base : Nat) : OwnP T w base (.slice none 0 0) [] := World.ownsRow_nil _ _ _ _
theorem OwnP.mono {T : TypeId} {w : World} {base base' : Nat} {v : Value} {ps : List (Int × Int)} (h : OwnP T w base v ps) (k : base' ≤ base) : OwnP T w base' v ps := by
  obtain ⟨h0, h1⟩ := h
  refine ⟨h0, ?_⟩
  rcases h1 with h1 | ⟨g, cap, cur, rfl, hb, hr⟩
  · exact .inl h1
  · exact .inr ⟨g, cap, cur, rfl, by omega, hr⟩
theorem OwnP.shape {T : TypeId} {w : World} {base : Nat} {v : Value} {ps : List (Int × Int)} (h : OwnP T w base v ps) (hok : ∀ p ∈ ps, Pl.pairOk p) :
    ∃ a cap, v = .slice a ps.length cap ∧ IsPairs w a ps.length cap ps ∧ (a = none → cap = 0) ∧ (∀ x, a = some x → base ≤ x.block) := by
  obtain ⟨_, h | ⟨g, cap, cur, rfl, hb, hh, hn, hm, hs, hx⟩⟩ := h
  · obtain ⟨rfl, hn⟩ := h
    have hes : ps = [] := List.length_eq_zero_iff.1 hn
    subst hes
    exact ⟨none, 0, rfl, ⟨rfl, Nat.le_refl _, by simp, hok, .inl rfl⟩, fun _ => rfl, by simp⟩
  · refine ⟨some ⟨g, 0, none⟩, cap, rfl, ⟨rfl, hn, hm, hok, ?_⟩, by simp, by rintro x ⟨⟩; exact hb⟩
    rcases ps with _ | ⟨e, r⟩
    · exact .inl rfl
    · right
      refine ⟨g, 0, rfl, blockLt hh, ?_⟩
      have hcell : ∀ j u, (cellsP (e :: r))[j]? = some u → w.cell? ⟨g, 0 + j, none⟩ = some u := by
        intro j u hj
        rw [← hx] at hj
        have hj' : cur[j]? = some u := by
          rw [List.getElem?_take] at hj
          split at hj
          · rw [← Array.getElem?_toList]; exact hj
          · cases hj
        simp [World.cell?, hh, hj']
      intro i hi
      obtain ⟨h0, h1⟩ := cellsP_get _ i hi
      have c0 := hcell _ _ h0
      have c1 := hcell _ _ h1
      exact ⟨c0, by rw [Nat.add_assoc]; exact c1⟩
theorem OwnP.slice {T : TypeId} {w : World} {base : Nat} {v : Value} {ps : List (Int × Int)} (h : OwnP T w base v ps) : ∃ a n cap, v = .slice a n cap := by
  obtain ⟨_, h | ⟨g, cap, cur, rfl, _⟩⟩ := h
  · exact ⟨_, _, _, h.1⟩
  · exact ⟨_, _, _, rfl⟩
theorem partsOf {t : TypeId} {z : Value} {n m : Nat} (h : (Tryz.prog.info? t).map (fun i => (i.zero, i.size, i.bytes)) = some (some z, n, m)) : ∃ i, Tryz.prog.info? t = some i ∧ i.zero = some z ∧ i.size = n ∧ i.bytes = m := by
  cases hi : Tryz.prog.info? t with
  | none => rw [hi] at h; cases h
  | some i => rw [hi] at h; simp at h; exact ⟨i, rfl, h.1, h.2.1, h.2.2⟩

theorem append_pairT {tS tE : TypeId} (hS : Tryz.prog.underlying tS = some (.slice tE)) (hI : (Tryz.prog.info? tE).map (fun i => (i.zero, i.size, i.bytes)) = some (some (.agg #[.int .i64 0, .int .i64 0]), 2, 16))
    {w : World} {ops : Array Oper} {rest : List Oper} {o : Oper} {a : Act} {Q : Exit → Act → World → Prop} (hgd : o.guard = none) (s x : Operand)
    (ho : o.op = .call { callee := .builtin .append, args := #[s, x], argTypes := #[tS, tS] })
    (base : Nat) (v : Value) (ps : List (Int × Int)) (p : Int × Int) (hs : a.eval s = v) (hown : OwnP tE w base v ps) (hbase : base ≤ w.heap.size) (hx : a.eval x = .slice (some ⟨w.heap.size, 0, none⟩) 1 1) (hb : (ps.length + 1) * 16 ≤ 140737488355328)
    (h : ∀ v' w', OwnP tE w' base v' (ps ++ [p]) → Below base w w' → (w.alloc (.cells #[.int .i64 p.1, .int .i64 p.2] tE)).grownBy w' v.ownBlock → wpList Tryz.prog ops Q rest (a.put o.dst v') w') :
    wpList Tryz.prog ops Q (o :: rest) a (w.alloc (.cells #[.int .i64 p.1, .int .i64 p.2] tE)) := by
  obtain ⟨i0, hi0, hz0, hz1, hz2⟩ := partsOf hI
  refine wpList_append_own (w := _) hgd s x tS ho base tE i0 _ 2 16 hS hi0 hz0 hz1 hz2 rfl (by decide) _ ps.length (cellsP ps) hs (World.ownsRow.alloc hown _) ⟨w.heap.size, 0, none⟩ 1 1 [.int .i64 p.1, .int .i64 p.2] hx rfl ?_ ?_ (by unfold maxLen; omega) hb (by simp; omega) ?_
  · intro j u hj
    rw [add_none]
    match j, hj with
    | 0, hj => simp at hj; subst hj; simp
    | 1, hj => simp at hj; subst hj; simp
  · intro u hu; simp at hu; rcases hu with rfl | rfl <;> rfl
  · intro v' w' hown' hg _
    have hlt := World.ownsRow.lt hown
    refine h v' w' ?_ (((Below.refl _ _).alloc hbase _).grown hg (by simp; omega) (fun k hk => (hlt k hk).1)) hg
    unfold OwnP
    rw [cellsP_append]
    simpa [cellsP] using hown'
end Go.Proofs.YtpaobnhcbeklfaaGreatDoor
/-
  Contracts: the pairs that a text tells: readPairs and, cut at each comma, the document's cuts.
-/
namespace Go.Proofs.YtpaobnhcbeklfaaGreatDoor
open Go.RowKit
set_option maxRecDepth 20000

def mz : Value → Value → Nat
  | .string t, .bool true => t.size + 1
  | _, _ => 0
theorem infoPair : (Tryz.prog.info? 93).map (fun i => (i.zero, i.size, i.bytes)) = some (some (.agg #[.int .i64 0, .int .i64 0]), 2, 16) := by kernel_rfl
theorem toList_ne (s : ByteArray) (h : 0 < s.size) : (s.toList == []) = false := by
  rw [Lib.toList_data]
  cases hl : s.data.toList
  · have := sz_list s; rw [hl] at this; simp at this; omega
  · rfl

set_option maxHeartbeats 2000000 in
theorem readPairs_any (s : ByteArray) (m : UInt8) (w : World) (hs : s.size ≤ 4398046511104) :
    Calls Tryz.prog 44 #[.string s, .string ⟨#[m]⟩] w fun e w' => ∃ vl : Value, e = .returned (.tuple #[vl, .bool (Pl.pairsL m s.data.toList).isSome]) ∧
      OwnP 93 w' w.heap.size vl ((Pl.pairsL m s.data.toList).getD []) ∧ Below w.heap.size w w' := by
  obtain ⟨np, HP⟩ : ∃ x, Hid (Pl.pairsL m s.data.toList = x) := ⟨_, rfl⟩
  rw [HP.out]
  rcases Nat.eq_zero_or_pos s.size with h0 | h0
  · have he : s.toList = [] := by rw [Lib.toList_data]; exact List.length_eq_zero_iff.1 (by rw [sz_list]; omega)
    have HN : Hid (np = some []) := hid (by rw [← HP.out]; unfold Pl.pairsL; rw [if_pos (List.length_eq_zero_iff.1 (by rw [sz_list]; omega))])
    go_enter Tryz.func44, Tryz.ntmps44
    go_wp2
    go_ret2
    exact ⟨_, by rw [HN.out]; rfl, by rw [HN.out]; exact OwnP.nil _ _ _, Below.refl _ _⟩
  · have he := toList_ne s h0
    have HN : Hid (np = Pl.andThen [] (Pl.pairsP m (Pl.parts s.data.toList))) := by
      refine hid ?_
      rw [← HP.out]; unfold Pl.pairsL
      rw [if_neg (by intro h; have := sz_list s; rw [h] at this; simp at this; omega)]
      cases Pl.pairsP m (Pl.parts s.data.toList) <;> simp [Pl.andThen]
    go_enter Tryz.func44, Tryz.ntmps44
    go_wp2
    go_loopw [0, 6, 7] (fun s' vl mo wr => ∃ (t : ByteArray) (acc : List (Int × Int)) (b : Bool) (vv : Value), vv = vl ∧ s' = .string t ∧ mo = .bool b ∧ Hid (OwnP 93 wr w.heap.size vv acc) ∧ acc.length + t.size ≤ s.size + 1 ∧ t.size ≤ s.size ∧ (b = true → acc.length + t.size ≤ s.size) ∧ Hid (b = true → np = Pl.andThen acc (Pl.pairsP m (Pl.parts t.data.toList))) ∧ Hid (b = false → np = some acc) ∧ Below w.heap.size w wr) (fun s' _ mo _ => mz s' mo)
    case atStart => exact ⟨s, [], true, _, rfl, rfl, rfl, hid (OwnP.nil _ _ _), by simp, Nat.le_refl _, by simp, hid (fun _ => HN.out), hid (by simp), Below.refl _ _⟩
    case round =>
      obtain ⟨t, acc, b, vl, rfl, rfl, rfl, HO, hsz, htz, hsb, HT, HF, hb⟩ := hrel
      cases b
      · have HF' := hid (HF.out rfl)
        clear HF HT hsb
        go_wp2
        go_ret2
        exact ⟨vl, by rw [HF'.out]; rfl, by rw [HF'.out]; exact HO.out, hb⟩
      · have hsb' := hsb rfl
        clear hsb
        obtain ⟨cu, HCU⟩ : ∃ x, Hid (Pl.cutL 44 t.data.toList = x) := ⟨_, rfl⟩
        obtain ⟨c1, c2⟩ := cu
        obtain ⟨q, HQ⟩ : ∃ x, Hid (Pl.pairL m c1 = x) := ⟨_, rfl⟩
        have HTS : Hid (t.size ≤ maxLen) := hid (by unfold maxLen; omega)
        have HT' := hid (HT.out rfl)
        clear HT HF
        cases q with
        | none =>
          have HNN : Hid (np = none) := by
            refine hid ?_
            rw [HT'.out]
            cases c2 with
            | none => rw [Pl.parts_none (by rw [HCU.out]), HCU.out, Pl.pairsP_none HQ.out]; rfl
            | some r => rw [Pl.parts_some (r := r) (by rw [HCU.out]), HCU.out, Pl.pairsP_none HQ.out]; rfl
          go_wp2_with fail
          refine (Cut_any t 44 _ HTS.out).mono ?_
          rw [HCU.out]
          rintro e w1 ⟨a, d, rfl, ha, hd, n, rfl⟩
          have HA := hid ha
          have HSZ := hid (Pl.cut_size (m := 44) (s := t) (a := a) (b := d) (by rw [HCU.out]; exact ha) (by rw [HCU.out]; exact hd))
          clear ha hd
          go_wp2_with fail
          refine (readPair_any a m _ (Nat.le_trans HSZ.out.1 HTS.out)).mono ?_
          rw [HA.out, HQ.out]
          rintro e w2 ⟨x, y, rfl, _, hb2⟩
          go_wp2_with fail
          go_ret2
          exact ⟨_, by rw [HNN.out]; rfl, by rw [HNN.out]; exact OwnP.nil _ _ _, by have hb3 := (below_drew hb n).trans (hb2.mono hb.size); exact hb3.alloc (hb3.size) _⟩
        | some p =>
          go_wp2_with fail
          refine (Cut_any t 44 _ HTS.out).mono ?_
          rw [HCU.out]
          rintro e w1 ⟨a, d, rfl, ha, hd, n, rfl⟩
          have HA := hid ha
          have HD := hid hd
          have HSZ := hid (Pl.cut_size (m := 44) (s := t) (a := a) (b := d) (by rw [HCU.out]; exact ha) (by rw [HCU.out]; exact hd))
          clear ha hd
          go_wp2_with fail
          refine (readPair_any a m _ (Nat.le_trans HSZ.out.1 HTS.out)).mono ?_
          rw [HA.out, HQ.out]
          rintro e w2 ⟨x, y, rfl, hxy, hb2⟩
          obtain rfl := hxy p rfl
          clear hxy
          have hb3 : Below w.heap.size w w2 := (below_drew hb n).trans (hb2.mono hb.size)
          have hb4 : Below w.heap.size w (w2.alloc (.cells #[.int .i64 x, .int .i64 y] 93)) := hb3.alloc hb3.size _
          have hb5 : Below wr.heap.size wr (w2.alloc (.cells #[.int .i64 x, .int .i64 y] 93)) := ((below_drew (Below.refl _ _) n).trans hb2).alloc hb2.size _
          have HO4 := hid (HO.out.below hb5)
          have hz4 := hb4.size
          have HW4 := hid hb4
          clear hb5 hb2 hb4
          go_wp2_with (at_builtin; refine append_pairT Tryz.underlying89 infoPair rfl (.tmp 28) (.tmp 30) rfl w.heap.size vl acc (x, y) rfl HO4.out hz4 (by show Value.slice (some ⟨w2.heap.size + 1, 0, none⟩) 1 1 = _; simp) (by omega) ?_; intro v5 w5 ho5 hb5 _; have HO5 := hid ho5; clear ho5)
          have hb6 : Below w.heap.size w w5 := HW4.out.trans (hb5.mono (Nat.le_refl _))
          cases c2 with
          | none =>
            have HN' : Hid (np = some (acc ++ [(x, y)])) := by
              refine hid ?_
              rw [HT'.out, Pl.parts_none (by rw [HCU.out]), HCU.out, Pl.pairsP_some HQ.out]; simp [Pl.pairsP, Pl.andThen]
            have hdz : d.size = 0 := by rw [← sz_list, HD.out]; rfl
            go_roundw
            case rel => exact ⟨d, acc ++ [(x, y)], false, _, rfl, rfl, rfl, HO5, by simp; omega, by omega, by simp, hid (by simp), hid (fun _ => HN'.out), hb6⟩
            case measure => simp [mz]
          | some r =>
            have HN' : Hid (np = Pl.andThen (acc ++ [(x, y)]) (Pl.pairsP m (Pl.parts d.data.toList))) := by
              refine hid ?_
              rw [HT'.out, Pl.parts_some (r := r) (by rw [HCU.out]), HCU.out, Pl.pairsP_some HQ.out, HD.out]; rfl
            have hdz : d.size + 1 ≤ t.size := by
              have h := (Pl.cutL_len 44 t.data.toList).2 r (by rw [HCU.out])
              rw [← sz_list d, HD.out, ← sz_list t]
              show r.length + 1 ≤ _
              omega
            go_roundw
            case rel => exact ⟨d, acc ++ [(x, y)], true, _, rfl, rfl, rfl, HO5, by simp; omega, by omega, by simp; omega, hid (fun _ => HN'.out), hid (by simp), hb6⟩
            case measure => simp [mz]; omega
end Go.Proofs.YtpaobnhcbeklfaaGreatDoor
/-
  Contract: a text, cut at each comma: the document's cuts.
-/
namespace Go.Proofs.YtpaobnhcbeklfaaGreatDoor
open Go.RowKit
set_option maxRecDepth 20000

/-- a slice value over a row of texts of the call's own -/
def OwnT (w : World) (base : Nat) (v : Value) (ks : List ByteArray) : Prop := w.ownsRow base 9 1 v ks.length (ks.map Value.string)
theorem infoText : (Tryz.prog.info? 9).map (fun i => (i.zero, i.size, i.bytes)) = some (some (.string ⟨#[]⟩), 1, 16) := by kernel_rfl
theorem OwnT.below {w w' : World} {base : Nat} {v : Value} {ks : List ByteArray} (h : OwnT w base v ks) (k : Below w.heap.size w w') : OwnT w' base v ks := ownsRow_under h k
theorem OwnT.nil (w : World) (base : Nat) : OwnT w base (.slice none 0 0) [] := World.ownsRow_nil _ _ _ _
theorem OwnT.shape {w : World} {base : Nat} {v : Value} {ks : List ByteArray} (h : OwnT w base v ks) :
    ∃ a cap, v = .slice a ks.length cap ∧ ks.length ≤ cap ∧ cap ≤ maxLen ∧ (ks = [] ∨ ∃ b, a = some ⟨b, 0, none⟩ ∧ base ≤ b ∧ b < w.heap.size ∧ ∀ (i : Nat) (hi : i < ks.length), w.cell? ⟨b, 0 + i, none⟩ = some (.string ks[i])) := by
  obtain ⟨_, h | ⟨g, cap, cur, rfl, hb, hh, hn, hm, hs, hx⟩⟩ := h
  · obtain ⟨rfl, hn⟩ := h
    have hes : ks = [] := List.length_eq_zero_iff.1 hn
    subst hes
    exact ⟨none, 0, rfl, Nat.le_refl _, by simp, .inl rfl⟩
  · refine ⟨some ⟨g, 0, none⟩, cap, rfl, hn, hm, .inr ⟨g, rfl, hb, blockLt hh, ?_⟩⟩
    intro i hi
    have hj : (List.take (ks.length * 1) cur.toList)[i]? = some (.string ks[i]) := by
      rw [hx]; simp [hi]
    have hj' : cur[i]? = some (.string ks[i]) := by
      rw [List.getElem?_take] at hj
      split at hj
      · rw [← Array.getElem?_toList]; exact hj
      · cases hj
    simp [World.cell?, hh, hj']
theorem append_text {w : World} {ops : Array Oper} {rest : List Oper} {o : Oper} {a : Act} {Q : Exit → Act → World → Prop} (hgd : o.guard = none) (s x : Operand)
    (ho : o.op = .call { callee := .builtin .append, args := #[s, x], argTypes := #[102, 102] })
    (base : Nat) (v : Value) (ks : List ByteArray) (key : ByteArray) (hs : a.eval s = v) (hown : OwnT w base v ks) (hbase : base ≤ w.heap.size) (hx : a.eval x = .slice (some ⟨w.heap.size, 0, none⟩) 1 1) (hb : (ks.length + 1) * 16 ≤ 140737488355328)
    (h : ∀ v' w', OwnT w' base v' (ks ++ [key]) → Below base w w' → wpList Tryz.prog ops Q rest (a.put o.dst v') w') :
    wpList Tryz.prog ops Q (o :: rest) a (w.alloc (.cells #[.string key] 9)) := by
  obtain ⟨i0, hi0, hz0, hz1, hz2⟩ := partsOf infoText
  refine wpList_append_own (w := _) hgd s x 102 ho base 9 i0 _ 1 16 Tryz.underlying102 hi0 hz0 hz1 hz2 rfl (by decide) _ ks.length (ks.map Value.string) hs (World.ownsRow.alloc hown _) ⟨w.heap.size, 0, none⟩ 1 1 [.string key] hx rfl ?_ ?_ (by unfold maxLen; omega) hb (by simp; omega) ?_
  · intro j u hj
    match j, hj with
    | 0, hj => simp at hj; subst hj; rw [add_none]; simp
  · intro u hu; simp at hu; subst hu; rfl
  · intro v' w' hown' hg _
    have hlt := World.ownsRow.lt hown
    refine h v' w' ?_ (((Below.refl _ _).alloc hbase _).grown hg (by simp; omega) (fun k hk => (hlt k hk).1))
    unfold OwnT
    simpa using hown'

def Pl.lists (ks : List ByteArray) : List (List UInt8) := ks.map fun b => b.data.toList
def Pl.cutsL (l : List UInt8) : List (List UInt8) := if l = [] then [] else Pl.parts l

theorem Pl.parts_last {l : List UInt8} (h : (44 : UInt8) ∉ l) : Pl.parts l = [l] := by
  rw [Pl.parts_none (by rw [Pl.cutL_none h]), Pl.cutL_none h]
theorem Pl.parts_at {l : List UInt8} {i : Nat} (hi : i < l.length) (h : l[i]? = some 44) (k : (44 : UInt8) ∉ l.take i) : Pl.parts l = l.take i :: Pl.parts (l.drop (i + 1)) := by
  have e := Pl.cutL_some hi h k
  rw [Pl.parts_some (r := l.drop (i + 1)) (by rw [e]), e]

set_option maxHeartbeats 2000000 in
theorem cuts_any (s : ByteArray) (w : World) (hs : s.size ≤ 4398046511104) :
    Calls Tryz.prog 55 #[.string s] w fun e w' => ∃ (vl : Value) (ks : List ByteArray), e = .returned vl ∧ OwnT w' w.heap.size vl ks ∧ Pl.lists ks = Pl.cutsL s.data.toList ∧ (∀ x ∈ ks, x.size ≤ s.size) ∧ ks.length ≤ s.size + 1 ∧ Below w.heap.size w w' := by
  rcases Nat.eq_zero_or_pos s.size with h0 | h0
  · have HN : Hid (Pl.cutsL s.data.toList = []) := hid (by unfold Pl.cutsL; rw [if_pos (List.length_eq_zero_iff.1 (by rw [sz_list]; omega))])
    go_enter Tryz.func55, Tryz.ntmps55
    go_wp2
    go_loopw [3, 5] (fun vo i wr => vo = .slice none 0 0 ∧ i = .int .i64 0 ∧ wr = w) (fun _ _ _ => 0)
    case atStart => exact ⟨rfl, rfl, rfl⟩
    case round =>
      obtain ⟨rfl, rfl, rfl⟩ := hrel
      go_wp2
      go_ret
      exact ⟨_, [], rfl, OwnT.nil _ _, by rw [HN.out]; rfl, by simp, by simp, Below.refl _ _⟩
  · have HN : Hid (Pl.cutsL s.data.toList = Pl.parts s.data.toList) := by
      refine hid ?_
      unfold Pl.cutsL
      rw [if_neg (by intro h; have := sz_list s; rw [h] at this; simp at this; omega)]
    go_enter Tryz.func55, Tryz.ntmps55
    go_wp2
    go_loopw [3, 4, 5] (fun vo f i wr => ∃ (k g : Nat) (ks : List ByteArray) (vv : Value), vv = vo ∧ i = .int .i64 k ∧ f = .int .i64 g ∧ k ≤ s.size + 1 ∧ g ≤ k ∧ Hid (OwnT wr w.heap.size vv ks) ∧ ks.length ≤ k ∧ Hid (∀ x ∈ ks, x.size ≤ s.size) ∧ Hid (k ≤ s.size → (44 : UInt8) ∉ (s.data.toList.drop g).take (k - g) ∧ Pl.parts s.data.toList = Pl.lists ks ++ Pl.parts (s.data.toList.drop g)) ∧ Hid (k = s.size + 1 → Pl.parts s.data.toList = Pl.lists ks) ∧ Below w.heap.size w wr) (fun _ _ i _ => s.size + 1 - (intOf i).toNat)
    case atStart => exact ⟨0, 0, [], _, rfl, rfl, rfl, by omega, by omega, hid (OwnT.nil _ _), by simp, hid (by simp), hid (fun _ => ⟨by simp, by simp [Pl.lists]⟩), hid (by intro h; omega), Below.refl _ _⟩
    case round =>
      obtain ⟨k, g, ks, vo, rfl, rfl, rfl, hk, hg, HO, hkl, HZ, HA, HB, hb⟩ := hrel
      by_cases hle : k ≤ s.size
      · have HA' := hid (HA.out hle)
        clear HA HB
        by_cases heq : k = s.size
        · subst heq
          have HE : Hid ((s.extract g s.size).data.toList = s.data.toList.drop g) := hid (by rw [ext_list, List.take_of_length_le (by simp)])
          have HP : Hid (Pl.parts s.data.toList = Pl.lists (ks ++ [s.extract g s.size])) := by
            refine hid ?_
            have h := HA'.out.1
            rw [List.take_of_length_le (by simp)] at h
            rw [HA'.out.2, Pl.parts_last h]
            unfold Pl.lists
            rw [List.map_append, List.map_cons, List.map_nil, HE.out]
          have HZ' : Hid (∀ x ∈ ks ++ [s.extract g s.size], x.size ≤ s.size) := by
            refine hid fun x hx => ?_
            rcases List.mem_append.1 hx with hx | hx
            · exact HZ.out x hx
            · simp at hx; subst hx; simp
          have hbz := hb.size
          go_wp2_with (at_builtin; refine append_text rfl (.tmp 27) (.tmp 32) rfl w.heap.size vo ks (s.extract g s.size) rfl HO.out hbz rfl (by omega) ?_; intro v5 w5 ho5 hb5; have HO5 := hid ho5; clear ho5)
          have hb6 : Below w.heap.size w w5 := hb.trans hb5
          go_roundw
          case rel => exact ⟨s.size + 1, s.size + 1, ks ++ [s.extract g s.size], _, rfl, by go_num, by go_num, by omega, by omega, HO5, by simp; omega, HZ', hid (by intro h; omega), hid (fun _ => HP.out), hb6⟩
          case measure => simp [intOf]
        · have hlt : k < s.size := by omega
          clear heq
          by_cases hc : (s[k].toNat : Int) = 44
          · have hck : s[k] = 44 := by apply UInt8.toNat_inj.1; show _ = 44; omega
            have HE : Hid ((s.extract g k).data.toList = (s.data.toList.drop g).take (k - g)) := hid (by rw [ext_list])
            have HP : Hid (Pl.parts s.data.toList = Pl.lists (ks ++ [s.extract g k]) ++ Pl.parts (s.data.toList.drop (k + 1))) := by
              refine hid ?_
              rw [HA'.out.2, Pl.parts_at (i := k - g) (by rw [List.length_drop, sz_list]; omega) (by rw [List.getElem?_drop, List.getElem?_eq_getElem (by rw [sz_list]; omega)]; congr 1; rw [← hck]; simp only [show g + (k - g) = k by omega]; rfl) HA'.out.1]
              rw [List.drop_drop, show g + (k - g + 1) = k + 1 by omega]
              unfold Pl.lists
              rw [List.map_append, List.map_cons, List.map_nil, HE.out, List.append_assoc]
              rfl
            have HZ' : Hid (∀ x ∈ ks ++ [s.extract g k], x.size ≤ s.size) := by
              refine hid fun x hx => ?_
              rcases List.mem_append.1 hx with hx | hx
              · exact HZ.out x hx
              · simp at hx; subst hx; simp; omega
            have hbz := hb.size
            go_wp2_with (at_builtin; refine append_text rfl (.tmp 27) (.tmp 32) rfl w.heap.size vo ks (s.extract g k) rfl HO.out hbz rfl (by omega) ?_; intro v5 w5 ho5 hb5; have HO5 := hid ho5; clear ho5)
            have hb6 : Below w.heap.size w w5 := hb.trans hb5
            go_roundw
            case rel => exact ⟨k + 1, k + 1, ks ++ [s.extract g k], _, rfl, by go_num, by go_num, by omega, by omega, HO5, by simp; omega, HZ', hid (fun _ => ⟨by simp, HP.out⟩), hid (by intro h; omega), hb6⟩
            case measure => simp [intOf]; omega
          · have hck : s[k] ≠ 44 := by intro h; rw [h] at hc; exact hc rfl
            have HM : Hid ((44 : UInt8) ∉ (s.data.toList.drop g).take (k + 1 - g)) := by
              refine hid ?_
              rw [show k + 1 - g = (k - g) + 1 by omega, List.take_succ_eq_append_getElem (by rw [List.length_drop, sz_list]; omega)]
              simp only [List.mem_append, List.mem_singleton, not_or]
              refine ⟨HA'.out.1, ?_⟩
              rw [List.getElem_drop]
              simp only [show g + (k - g) = k by omega]
              exact fun e => hck e.symm
            have HP := hid HA'.out.2
            clear HA'
            have hd : ((s[k].toNat : Int) == 44) = false := by simpa using hc
            clear hc
            go_wp2
            go_roundw
            case rel => exact ⟨k + 1, g, ks, _, rfl, by go_num, rfl, by omega, by omega, HO, by omega, HZ, hid (fun _ => ⟨HM.out, HP.out⟩), hid (by intro h; omega), hb⟩
            case measure => simp [intOf]; omega
      · have hk1 : k = s.size + 1 := by omega
        have HB' := hid (HB.out hk1)
        clear HA HB
        go_wp2
        go_ret
        exact ⟨_, rfl, ks, HO.out, by rw [HN.out, HB'.out], HZ.out, by omega, hb⟩
end Go.Proofs.YtpaobnhcbeklfaaGreatDoor
/-
  Contracts: what CheckAdj and AdjFault answer at every list of sides.
-/
namespace Go.Proofs.YtpaobnhcbeklfaaGreatDoor
open Go.RowKit
set_option maxRecDepth 20000

set_option maxHeartbeats 1000000 in
theorem CheckAdj_any (d : Bool) (a : Option Addr) (len cap : Nat) (ps : List (Int × Int)) (w : World) (h : IsPairs w a len cap ps) :
    Calls Tryz.prog 60 #[.agg #[.bool d, .slice a len cap]] w fun e w' => e = .returned (.int .i64 (Pl.adjF ps)) ∧ Below w.heap.size w w' := by
  obtain ⟨hl, hc, hm, hok, hrow⟩ := h
  unfold maxLen at hm
  go_enter Tryz.func60, Tryz.ntmps60
  go_wp2
  go_loopw [8] (fun i wr => ∃ k : Nat, k ≤ len ∧ i = .int .i64 k ∧ Hid (Pl.adjF ps = Pl.adjN ps (len - k) k) ∧ Below (w.heap.size + 1) (w.alloc (.cells #[.bool d, .slice a len cap] 50)) wr) (fun i _ => len - (intOf i).toNat)
  case atStart => exact ⟨0, Nat.zero_le _, rfl, by show _ = _; rw [← hl]; rfl, Below.refl _ _⟩
  case round =>
    obtain ⟨k, hk, rfl, HF, hb⟩ := hrel
    obtain ⟨x0, x1, xs, hbb⟩ := box2 hb
    by_cases hlt : k < len
    · obtain ⟨b, off, rfl, hbw, hr⟩ : ∃ b off, a = some ⟨b, off, none⟩ ∧ b < w.heap.size ∧ PairsAt w b off ps := by
        rcases hrow with rfl | h
        · simp at hl; omega
        · exact h
      clear hrow
      have hr' := hr.below hbw hbb
      obtain ⟨c0, c1⟩ := hr' k (by omega)
      obtain ⟨n, hn⟩ : ∃ n, len - k = n + 1 := ⟨len - k - 1, by omega⟩
      have HN : Hid (len - k = n + 1) := hn
      clear hn
      have hbr : b < wr.heap.size := by omega
      obtain ⟨q0, HQ0⟩ : ∃ q0, Hid ((Pl.pr ps k).1 = q0) := ⟨_, rfl⟩
      obtain ⟨q1, HQ1⟩ : ∃ q1, Hid ((Pl.pr ps k).2 = q1) := ⟨_, rfl⟩
      rw [HQ0.out] at c0
      rw [HQ1.out] at c1
      obtain ⟨oo, HO⟩ : ∃ oo, Hid (decide (0 ≤ q0 ∧ q0 ≤ 11) = oo) := ⟨_, rfl⟩
      have HS : Hid (Pl.sideB (Pl.pr ps k).1 (Pl.pr ps k).2 = (oo && decide (1 ≤ q1 ∧ q1 ≤ 1000))) := by
        show _ = _
        unfold Pl.sideB
        rw [HQ0.out, HQ1.out, HO.out]
      by_cases hg : oo = true ∧ 1 ≤ q1 ∧ q1 ≤ 1000
      · obtain ⟨rfl, h1, h2⟩ := hg
        have HM : Hid (Pl.sideB (Pl.pr ps k).1 (Pl.pr ps k).2 = true) := by show _ = _; rw [HS.out]; simp [h1, h2]
        rcases Nat.eq_zero_or_pos k with hk0 | hk0
        · have hd : decide (0 < k) = false := by simp; omega
          have HK0 : Hid (k = 0) := hk0
          clear hk0
          go_wp2_with (go_at_call 17; refine (isNode_any _ _).mono ?_; rw [HO.out]; rintro e w' ⟨rfl, rfl⟩)
          go_quiet (fail)
          go_wp2
          go_roundw
          case rel => exact ⟨k + 1, by omega, by go_num, by show _ = _; have h := HN.out; rw [HF.out, h]; have hm := HM.out; rw [HK0.out] at hm ⊢; rw [Pl.adjN_first hm]; congr 1; have h0 := HK0.out; omega, below_drew (hb.alloc (by omega) _) _⟩
          case measure => simp [intOf]; omega
        · obtain ⟨m, rfl⟩ : ∃ m, k = m + 1 := ⟨k - 1, by omega⟩
          obtain ⟨d0, d1⟩ := hr' m (by omega)
          obtain ⟨r0, HR0⟩ : ∃ r0, Hid ((Pl.pr ps m).1 = r0) := ⟨_, rfl⟩
          rw [HR0.out] at d0
          by_cases hle : q0 ≤ r0
          · go_wp2_with (go_at_call 17; refine (isNode_any _ _).mono ?_; rw [HO.out]; rintro e w' ⟨rfl, rfl⟩)
            go_quiet (fail)
            go_wp2
            go_ret
            exact ⟨ret_int (by rw [HF.out, HN.out, Pl.adjN_low HM.out (by rw [HQ0.out, HR0.out]; omega)]), below_drew (hbb.alloc (by omega) _) _⟩
          · go_wp2_with (go_at_call 17; refine (isNode_any _ _).mono ?_; rw [HO.out]; rintro e w' ⟨rfl, rfl⟩)
            go_quiet (fail)
            go_wp2
            go_roundw
            case rel => exact ⟨m + 1 + 1, by omega, by go_num, by show _ = _; rw [HF.out, HN.out, Pl.adjN_on HM.out (by rw [HQ0.out, HR0.out]; omega)]; congr 1; have := HN.out; omega, below_drew (hb.alloc (by omega) _) _⟩
            case measure => simp [intOf]; omega
      · have HR : Hid (Pl.adjF ps = 2) := by
          show _ = _
          rw [HF.out, HN.out, Pl.adjN_range]
          rw [HS.out]
          cases oo
          · rfl
          · simp at hg ⊢; omega
        cases oo
        all_goals rcases Int.lt_or_le q1 1 with h1 | h1
        all_goals rcases Int.lt_or_le 1000 q1 with h2 | h2
        all_goals first | (exfalso; omega) | skip
        all_goals first | (exfalso; apply hg; refine ⟨rfl, ?_, ?_⟩ <;> assumption) | skip
        all_goals
          go_wp2_with (go_at_call 17; refine (isNode_any _ _).mono ?_; rw [HO.out]; rintro e w' ⟨rfl, rfl⟩)
          go_ret
          exact ⟨ret_int HR.out.symm, hbb.alloc (by omega) _⟩
    · obtain rfl : k = len := by omega
      go_wp2
      go_ret
      exact ⟨ret_int (by rw [HF.out]; simp [Pl.adjN]), hbb⟩

set_option maxHeartbeats 1000000 in
theorem AdjFault_any (d : Bool) (a : Option Addr) (len cap : Nat) (ps : List (Int × Int)) (w : World) (h : IsPairs w a len cap ps) :
    Calls Tryz.prog 85 #[.agg #[.bool d, .slice a len cap]] w fun e w' => e = .returned (.int .i64 (Pl.adjF ps)) ∧ Below w.heap.size w w' := by
  obtain ⟨hl, hc, hm, hok, hrow⟩ := h
  unfold maxLen at hm
  go_enter Tryz.func85, Tryz.ntmps85
  go_wp2
  go_loopw [3] (fun i wr => ∃ k : Nat, k ≤ len ∧ i = .int .i64 k ∧ Hid (Pl.adjF ps = Pl.adjN ps (len - k) k) ∧ Below (w.heap.size + 1) (w.alloc (.cells #[.bool d, .slice a len cap] 50)) wr) (fun i _ => len - (intOf i).toNat)
  case atStart => exact ⟨0, Nat.zero_le _, rfl, by show _ = _; rw [← hl]; rfl, Below.refl _ _⟩
  case round =>
    obtain ⟨k, hk, rfl, HF, hb⟩ := hrel
    obtain ⟨x0, x1, xs, hbb⟩ := box2 hb
    by_cases hlt : k < len
    · obtain ⟨b, off, rfl, hbw, hr⟩ : ∃ b off, a = some ⟨b, off, none⟩ ∧ b < w.heap.size ∧ PairsAt w b off ps := by
        rcases hrow with rfl | h
        · simp at hl; omega
        · exact h
      clear hrow
      have hr' := hr.below hbw hbb
      obtain ⟨c0, c1⟩ := hr' k (by omega)
      obtain ⟨n, hn⟩ : ∃ n, len - k = n + 1 := ⟨len - k - 1, by omega⟩
      have HN : Hid (len - k = n + 1) := hn
      clear hn
      have hbr : b < wr.heap.size := by omega
      obtain ⟨q0, HQ0⟩ : ∃ q0, Hid ((Pl.pr ps k).1 = q0) := ⟨_, rfl⟩
      obtain ⟨q1, HQ1⟩ : ∃ q1, Hid ((Pl.pr ps k).2 = q1) := ⟨_, rfl⟩
      rw [HQ0.out] at c0
      rw [HQ1.out] at c1
      obtain ⟨oo, HO⟩ : ∃ oo, Hid (decide (0 ≤ q0 ∧ q0 ≤ 11) = oo) := ⟨_, rfl⟩
      obtain ⟨cc, HC⟩ : ∃ cc, Hid (decide (1 ≤ q1 ∧ q1 ≤ 1000) = cc) := ⟨_, rfl⟩
      have HS : Hid (Pl.sideB (Pl.pr ps k).1 (Pl.pr ps k).2 = (oo && cc)) := by
        show _ = _
        unfold Pl.sideB
        rw [HQ0.out, HQ1.out, HO.out, HC.out]
      by_cases hg : (oo && cc) = true
      · simp only [Bool.and_eq_true] at hg
        obtain ⟨rfl, rfl⟩ := hg
        have HM : Hid (Pl.sideB (Pl.pr ps k).1 (Pl.pr ps k).2 = true) := by show _ = _; rw [HS.out]; rfl
        rcases Nat.eq_zero_or_pos k with hk0 | hk0
        · have hd : decide (0 < k) = false := by simp; omega
          have HK0 : Hid (k = 0) := hk0
          clear hk0
          go_wp2_with (go_at_call 30; refine (In_any _ _ _ _).mono ?_; (first | rw [HO.out] | rw [HC.out]); rintro e w' ⟨rfl, rfl⟩)
          go_quiet (fail)
          go_wp2
          go_roundw
          case rel => exact ⟨k + 1, by omega, by go_num, by show _ = _; have h := HN.out; rw [HF.out, h]; have hm := HM.out; rw [HK0.out] at hm ⊢; rw [Pl.adjN_first hm]; congr 1; have h0 := HK0.out; omega, below_drew hb _⟩
          case measure => simp [intOf]; omega
        · obtain ⟨m, rfl⟩ : ∃ m, k = m + 1 := ⟨k - 1, by omega⟩
          obtain ⟨d0, d1⟩ := hr' m (by omega)
          obtain ⟨r0, HR0⟩ : ∃ r0, Hid ((Pl.pr ps m).1 = r0) := ⟨_, rfl⟩
          rw [HR0.out] at d0
          by_cases hle : q0 ≤ r0
          · go_wp2_with (go_at_call 30; refine (In_any _ _ _ _).mono ?_; (first | rw [HO.out] | rw [HC.out]); rintro e w' ⟨rfl, rfl⟩)
            go_quiet (fail)
            go_wp2
            go_ret
            exact ⟨ret_int (by rw [HF.out, HN.out, Pl.adjN_low HM.out (by rw [HQ0.out, HR0.out]; omega)]), below_drew hbb _⟩
          · go_wp2_with (go_at_call 30; refine (In_any _ _ _ _).mono ?_; (first | rw [HO.out] | rw [HC.out]); rintro e w' ⟨rfl, rfl⟩)
            go_quiet (fail)
            go_wp2
            go_roundw
            case rel => exact ⟨m + 1 + 1, by omega, by go_num, by show _ = _; rw [HF.out, HN.out, Pl.adjN_on HM.out (by rw [HQ0.out, HR0.out]; omega)]; congr 1; have := HN.out; omega, below_drew hb _⟩
            case measure => simp [intOf]; omega
      · have HR : Hid (Pl.adjF ps = 2) := by
          show _ = _
          rw [HF.out, HN.out, Pl.adjN_range]
          rw [HS.out]
          simpa using hg
        cases oo
        all_goals cases cc
        all_goals first | (exact absurd rfl hg) | skip
        all_goals
          go_wp2_with (go_at_call 30; refine (In_any _ _ _ _).mono ?_; (first | rw [HO.out] | rw [HC.out]); rintro e w' ⟨rfl, rfl⟩)
          go_ret
          exact ⟨ret_int HR.out.symm, hbb⟩
    · obtain rfl : k = len := by omega
      go_wp2
      go_ret
      exact ⟨ret_int (by rw [HF.out]; simp [Pl.adjN]), hbb⟩
end Go.Proofs.YtpaobnhcbeklfaaGreatDoor
