/-
  A rule of our own: a region that draws its order, by an invariant over what has been carried out, the frame and the world.
-/
import Derived.Test.YtcdobhdbafpkiabDoorKey
import Derived.Orders
namespace Go.Proofs.YtcdobhdbafpkiabDoor
open Go.RowKit

/-- how many operations are still to be carried out -/
def left (n : Nat) (listed : Array Bool) : Nat := (List.range n).countP (fun j => !listed.getD j true)

theorem left_set {n i : Nat} {listed : Array Bool} (hi : i < n) (h : listed.getD i true = false) : left n (listed.setIfInBounds i true) + 1 ≤ left n listed := by
  unfold left
  have hs : ∀ j, j ≠ i → (listed.setIfInBounds i true).getD j true = listed.getD j true := fun j hj => getD_set_ne true (Ne.symm hj)
  have hi1 : (listed.setIfInBounds i true).getD i true = true := by
    have hlt : i < listed.size := by
      rcases Nat.lt_or_ge i listed.size with h' | h'
      · exact h'
      · simp [Array.getElem?_eq_none h'] at h
    simp [hlt]
  have key : ∀ m, (List.range m).countP (fun j => !(listed.setIfInBounds i true).getD j true) + (if i < m then 1 else 0) = (List.range m).countP (fun j => !listed.getD j true) := by
    intro m
    induction m with
    | zero => simp
    | succ m ih =>
      rw [List.range_succ, List.countP_append, List.countP_append, List.countP_singleton, List.countP_singleton]
      by_cases hm : m = i
      · subst hm
        rw [hi1, h]
        rw [if_neg (Nat.lt_irrefl _)] at ih
        simp at ih ⊢
        exact ih
      · rw [hs m hm]
        have e : (i < m + 1) ↔ (i < m) := by omega
        simp only [e]
        omega
  have := key n
  rw [if_pos hi] at this
  omega

theorem ready_none {md : Region.Mode} {ops : Array Oper} {listed : Array Bool} (h : left ops.size listed = 0) : Region.ready md ops listed = [] := by
  rw [List.eq_nil_iff_forall_not_mem]
  intro j hj
  rw [mem_ready] at hj
  obtain ⟨h0, o, ho, _⟩ := hj
  have hlt : j < ops.size := (Array.getElem?_eq_some_iff.1 ho).1
  unfold left at h
  rw [List.countP_eq_zero] at h
  have := h j (List.mem_range.2 hlt)
  rw [h0] at this
  simp at this

theorem wpAny_inv {P : Program} {md : Region.Mode} {ops : Array Oper} {Q : Exit → Act → World → Prop} (Inv : Array Bool → Act → World → Prop)
    (hstep : ∀ i listed a w, i ∈ Region.ready md ops listed → Inv listed a w → wpOp P ops Q i (Inv (listed.setIfInBounds i true)) a w)
    (hend : ∀ listed a w, Region.ready md ops listed = [] → Inv listed a w → Q .normal a w) :
    ∀ (fuel : Nat) (listed : Array Bool) (a : Act) (w : World), left ops.size listed ≤ fuel → Inv listed a w → wpAny P md ops Q fuel listed a w := by
  intro fuel
  induction fuel with
  | zero =>
    intro listed a w hf hI
    have hr := ready_none (md := md) (Nat.le_zero.1 hf)
    exact ⟨hr, hend _ _ _ hr hI⟩
  | succ fuel ih =>
    intro listed a w hf hI
    refine ⟨fun hr => hend _ _ _ hr hI, fun i hi => ?_⟩
    have hm := mem_ready.1 hi
    obtain ⟨h0, o, ho, _⟩ := hm
    have hlt : i < ops.size := (Array.getElem?_eq_some_iff.1 ho).1
    have hl := left_set hlt h0
    exact wpOp_mono (fun a' w' h => ih _ a' w' (by omega) h) (hstep i listed a w hi hI)

/-- where each operation waits only for earlier ones: if none may come up, all have come up -/
theorem all_listed {md : Region.Mode} {ops : Array Oper} {listed : Array Bool} (hb0 : (List.range ops.size).all (fun i => (ops[i]?.map (fun o => o.after.all (fun e => decide (e.on < i)))).getD true) = true) (hs : listed.size = ops.size) (hr : Region.ready md ops listed = []) :
    ∀ i, i < ops.size → listed.getD i false = true := by
  have hb : ∀ (i : Nat) (o : Oper), ops[i]? = some o → ∀ e ∈ o.after, e.on < i := by
    intro i o ho e he
    have hi : i < ops.size := (Array.getElem?_eq_some_iff.1 ho).1
    have := List.all_eq_true.1 hb0 i (List.mem_range.2 hi)
    rw [ho] at this
    simp only [Option.map_some, Option.getD_some] at this
    have := Array.all_eq_true_iff_forall_mem.1 this e he
    exact of_decide_eq_true this
  intro i
  induction i using Nat.strongRecOn with
  | _ i ih =>
    intro hi
    cases hl : listed.getD i false with
    | true => rfl
    | false =>
      exfalso
      have hm : i ∈ Region.ready md ops listed := by
        rw [mem_ready]
        refine ⟨?_, ops[i], Array.getElem?_eq_getElem hi, fun e he _ => ?_⟩
        · have : i < listed.size := by omega
          simp [this] at hl ⊢
          exact hl
        · have he' := hb i ops[i] (Array.getElem?_eq_getElem hi) e he
          exact ih e.on he' (by omega)
      rw [hr] at hm
      cases hm

/-- what has been carried out stands behind all that it waits for -/
def Closed (md : Region.Mode) (ops : Array Oper) (listed : Array Bool) : Prop :=
  ∀ (i : Nat) (o : Oper), ops[i]? = some o → listed.getD i false = true → ∀ e ∈ o.after, Region.binds md e = true → listed.getD e.on false = true
theorem set_stays {listed : Array Bool} {i k : Nat} (h : listed.getD k false = true) : (listed.setIfInBounds i true).getD k false = true := by
  by_cases e : i = k
  · subst e
    have : i < listed.size := by
      rcases Nat.lt_or_ge i listed.size with h' | h'
      · exact h'
      · simp [Array.getElem?_eq_none h'] at h
    simp [this]
  · rw [getD_set_ne false e]; exact h
theorem closed_step {md : Region.Mode} {ops : Array Oper} {listed : Array Bool} {i : Nat} (hi : i ∈ Region.ready md ops listed) (h : Closed md ops listed) : Closed md ops (listed.setIfInBounds i true) := by
  intro j o ho hj e he hb
  by_cases e' : i = j
  · subst e'
    obtain ⟨_, o', ho', hall⟩ := mem_ready.1 hi
    rw [ho] at ho'
    cases ho'
    exact set_stays (hall e he hb)
  · rw [getD_set_ne false e'] at hj
    exact set_stays (h j o ho hj e he hb)
theorem closed_start (md : Region.Mode) (ops : Array Oper) (n : Nat) : Closed md ops (Array.replicate n false) := by
  intro i o _ h
  rw [show (Array.replicate n false).getD i false = false from by by_cases hk' : i < n <;> simp [hk']] at h
  cases h
theorem wpAny_inv2 {P : Program} {md : Region.Mode} {ops : Array Oper} {Q : Exit → Act → World → Prop} (Inv : Array Bool → Act → World → Prop)
    (hstep : ∀ i listed a w, i ∈ Region.ready md ops listed → Closed md ops listed → Inv listed a w → wpOp P ops Q i (Inv (listed.setIfInBounds i true)) a w)
    (hend : ∀ listed a w, Region.ready md ops listed = [] → Inv listed a w → Q .normal a w)
    (fuel : Nat) (listed : Array Bool) (a : Act) (w : World) (hf : left ops.size listed ≤ fuel) (hI : Inv listed a w) (hC : Closed md ops listed) : wpAny P md ops Q fuel listed a w :=
  wpAny_inv (fun l a w => Inv l a w ∧ Closed md ops l) (fun i l a w hi h => wpOp_mono (fun _ _ h' => ⟨h', closed_step hi h.2⟩) (hstep i l a w hi h.2 h.1)) (fun l a w hr h => hend l a w hr h.1) fuel listed a w hf ⟨hI, hC⟩

theorem wpOp_of {P : Program} {ops : Array Oper} {Q : Exit → Act → World → Prop} {i : Nat} {o : Oper} {K : Act → World → Prop} {a : Act} {w : World}
    (h : ops[i]? = some o) (hg : o.guard = none) (hw : o.wp P a w K Q) : wpOp P ops Q i K a w := by
  unfold wpOp
  simp only [h]
  rw [if_pos (by simp [Region.wanted, hg])]
  exact .inl hw
theorem eval_ne {a : Act} {n m : Nat} {v : Value} (h : m ≠ n) : (a.put (some m) v).tmps[n]?.getD undef = a.tmps[n]?.getD undef := by
  simp [Act.put, Array.getElem?_setIfInBounds_ne h]
theorem eval_eq {a : Act} {m : Nat} {v : Value} (h : m < a.tmps.size) : (a.put (some m) v).tmps[m]?.getD undef = v := by
  simp [Act.put, h]
end Go.Proofs.YtcdobhdbafpkiabDoor
