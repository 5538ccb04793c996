/-
  Plain definitions: lists of entries as stores, what is wrong with one; no program in sight.
-/
import Derived.WalkKit
import Derived.Test.YtcdobhdbafpkiadDoorEnts
namespace Go.Proofs.YtcdobhdbafpkiadDoor.Pl

structure Ent where
  key : ByteArray
  ver : Int
  org : Int
  val : ByteArray

def Ent.none : Ent := ⟨⟨#[]⟩, 0, 0, ⟨#[]⟩⟩
/-- the entry at a place -/
def ent (es : List Ent) (i : Nat) : Ent := es.getD i Ent.none
theorem ent_cons_succ (e : Ent) (es : List Ent) (i : Nat) : ent (e :: es) (i + 1) = ent es i := by simp [ent]
theorem ent_cons_zero (e : Ent) (es : List Ent) : ent (e :: es) 0 = e := by simp [ent]
theorem ent_eq (es : List Ent) (i : Nat) (h : i < es.length) : ent es i = es[i] := by simp [ent, List.getD, h]
theorem ent_mem (es : List Ent) (i : Nat) (h : i < es.length) : ent es i ∈ es := by rw [ent_eq es i h]; exact List.getElem_mem h
theorem drop_ent (es : List Ent) (i : Nat) (h : i < es.length) : es.drop i = ent es i :: es.drop (i + 1) := by
  rw [ent_eq es i h]; exact List.drop_eq_getElem_cons h

/-- what fits the kinds -/
def Ent.ok (e : Ent) : Prop := e.key.size ≤ maxLen ∧ (Lit.int .i64 e.ver).wf = true ∧ (Lit.int .i64 e.org).wf = true ∧ e.val.size ≤ maxLen

/-- may an entry be one of a store? -/
def entB (k : ByteArray) (v o : Int) (x : ByteArray) : Bool := keyB k && decide (1 ≤ v ∧ v ≤ 1099511627776) && decide (0 ≤ o ∧ o ≤ 11) && decide (x.size ≤ 120)
def Ent.may (e : Ent) : Bool := entB e.key e.ver e.org e.val
theorem entB_eq {k : ByteArray} {v o : Int} {x : ByteArray} (hk : keyB k = true) : entB k v o x = (decide (1 ≤ v) && decide (v ≤ 1099511627776) && decide (0 ≤ o ∧ o ≤ 11) && decide ((x.size : Int) ≤ 120)) := by
  unfold entB; rw [hk, Bool.eq_iff_iff]; simp; omega
theorem entB_of {k : ByteArray} {v o : Int} {x : ByteArray} (hk : keyB k = true) (h1 : 1 ≤ v) (h2 : v ≤ 1099511627776) (h3 : 0 ≤ o ∧ o ≤ 11) (h4 : x.size ≤ 120) : entB k v o x = true := by
  simp [entB, hk, h1, h2, h3, h4]
theorem entB_k {k : ByteArray} {v o : Int} {x : ByteArray} (hk : keyB k = false) : entB k v o x = false := by simp [entB, hk]
theorem entB_v {k : ByteArray} {v o : Int} {x : ByteArray} (h : ¬ (1 ≤ v ∧ v ≤ 1099511627776)) : entB k v o x = false := by
  unfold entB; rw [decide_eq_false h]; simp
theorem entB_o {k : ByteArray} {v o : Int} {x : ByteArray} (h : ¬ (0 ≤ o ∧ o ≤ 11)) : entB k v o x = false := by
  unfold entB; rw [decide_eq_false h]; simp
theorem entB_x {k : ByteArray} {v o : Int} {x : ByteArray} (h : ¬ x.size ≤ 120) : entB k v o x = false := by
  unfold entB; rw [decide_eq_false h]; simp

/-- is a place's key not above that of the one ahead? -/
def lowB (es : List Ent) (i : Nat) : Bool := decide (0 < i) && !ltB (ent es (i - 1)).key (ent es i).key
theorem lowB_true {es : List Ent} {m : Nat} (h : Op.bytesLess (ent es (m + 1)).key.toList (ent es m).key.toList = true ∨ ((ent es (m + 1)).key.toList == (ent es m).key.toList) = true) : lowB es (m + 1) = true := by
  unfold lowB
  simp only [Nat.zero_lt_succ, decide_true, Nat.add_sub_cancel, Bool.true_and, Bool.not_eq_true']
  rcases h with h | h
  · exact ltB_asymm h
  · rw [beqL] at h
    rw [of_decide_eq_true h]; exact ltB_irrefl _
theorem lowB_false {es : List Ent} {m : Nat} (h : Op.bytesLess (ent es (m + 1)).key.toList (ent es m).key.toList = false ∧ ((ent es (m + 1)).key.toList == (ent es m).key.toList) = false) : lowB es (m + 1) = false := by
  unfold lowB
  simp only [Nat.zero_lt_succ, decide_true, Nat.add_sub_cancel, Bool.true_and, Bool.not_eq_false']
  obtain ⟨h1, h2⟩ := h
  rw [beqL] at h2
  cases k : ltB (ent es m).key (ent es (m + 1)).key
  · exact absurd (ltB_total h1 k) (of_decide_eq_false h2)
  · rfl
/-- what is wrong from a place on: so many are still to be looked at -/
def faultN (es : List Ent) : Nat → Nat → Int
  | 0, _ => 0
  | n + 1, i => if (ent es i).may then (if lowB es i then 7 else faultN es n (i + 1)) else 4
def fault (es : List Ent) : Int := if es.length ≤ 60 then faultN es es.length 0 else 1
theorem fault_size {es : List Ent} (h : 60 < es.length) : fault es = 1 := by unfold fault; rw [if_neg (by omega)]
theorem fault_from {es : List Ent} (h : es.length ≤ 60) : fault es = faultN es es.length 0 := by unfold fault; rw [if_pos h]
theorem faultN_form {es : List Ent} {n i : Nat} (h : (ent es i).may = false) : faultN es (n + 1) i = 4 := by simp [faultN, h]
theorem faultN_low {es : List Ent} {n i : Nat} (h : (ent es i).may = true) (k : lowB es i = true) : faultN es (n + 1) i = 7 := by simp [faultN, h, k]
theorem faultN_on {es : List Ent} {n i : Nat} (h : (ent es i).may = true) (k : lowB es i = false) : faultN es (n + 1) i = faultN es n (i + 1) := by simp [faultN, h, k]
end Go.Proofs.YtcdobhdbafpkiadDoor.Pl
