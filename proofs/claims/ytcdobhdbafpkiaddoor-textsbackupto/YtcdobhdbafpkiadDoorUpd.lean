/-
  Plain facts: an entry laid into a store, and stores merged; no program in sight.
-/
import Derived.Test.YtcdobhdbafpkiadDoorSrt
namespace Go.Proofs.YtcdobhdbafpkiadDoor.Pl
open Go.RowKit
set_option maxRecDepth 20000

def Srt (es : List Ent) : Prop := es.Pairwise fun a b => ltB a.key b.key = true
theorem asc_iff (es : List Ent) : Asc es ↔ Srt es := by
  unfold Asc Srt
  rw [List.pairwise_iff_getElem]
  constructor
  · intro h i j hi hj hij
    have := h i j hij hj
    rwa [ent_eq es i hi, ent_eq es j hj] at this
  · intro h i j hij hj
    have := h i j (by omega) hj hij
    rwa [ent_eq es i (by omega), ent_eq es j hj]
theorem may_iff (es : List Ent) : May es ↔ ∀ e ∈ es, e.may = true := by
  unfold May
  constructor
  · intro h e he
    obtain ⟨i, hi, rfl⟩ := List.getElem_of_mem he
    rw [← ent_eq es i hi]; exact h i hi
  · intro h i hi
    exact h _ (ent_mem es i hi)
/-- a store that may be -/
def Good (es : List Ent) : Prop := es.length ≤ 60 ∧ (∀ e ∈ es, e.may = true) ∧ Srt es
theorem good_iff (es : List Ent) : fault es = 0 ↔ Good es := by
  constructor
  · intro h
    obtain ⟨h1, h2, h3⟩ := good_of_fault h
    exact ⟨h1, (may_iff es).1 h2, (asc_iff es).1 h3⟩
  · rintro ⟨h1, h2, h3⟩
    exact fault_of_good h1 ((may_iff es).2 h2) ((asc_iff es).2 h3)
theorem may_ok {e : Ent} (h : e.may = true) : e.ok := by
  unfold Ent.may entB keyB at h
  simp only [Bool.and_eq_true, decide_eq_true_eq] at h
  obtain ⟨⟨⟨⟨h1, _⟩, h2⟩, h3⟩, h4⟩ := h
  unfold Ent.ok maxLen
  refine ⟨by omega, ?_, ?_, by omega⟩
  · exact Go.WalkArith.wf_i64 (by omega)
  · exact Go.WalkArith.wf_i64 (by omega)

/-- an entry comes to its place, instead of that with its key -/
def ins : List Ent → Ent → List Ent
  | [], x => [x]
  | e :: r, x => if ltB e.key x.key then e :: ins r x else if e.key = x.key then x :: r else x :: e :: r
/-- what is laid at a place -/
def layL (es : List Ent) (i : Nat) (instead : Bool) (x : Ent) : List Ent := es.take i ++ x :: es.drop (if instead then i + 1 else i)

theorem there_cons_lt {e : Ent} {r : List Ent} {key : ByteArray} (h : ltB e.key key = true) : there (e :: r) key = there r key := by
  unfold there
  simp only [pos, h, if_true, ent_cons_succ, List.length_cons]
  simp
theorem there_cons_ge {e : Ent} {r : List Ent} {key : ByteArray} (h : ltB e.key key = false) : there (e :: r) key = decide (e.key = key) := by
  unfold there
  simp [pos, h, ent]
theorem lay_ins : ∀ (es : List Ent) (x : Ent), layL es (pos es x.key) (there es x.key) x = ins es x
  | [], x => by simp [layL, ins, pos, there]
  | e :: r, x => by
    cases h : ltB e.key x.key
    · rw [there_cons_ge h]
      simp only [pos, h, ins, layL]
      by_cases k : e.key = x.key
      · simp [k]
      · simp [k]
    · rw [there_cons_lt h]
      have ih := lay_ins r x
      unfold layL at ih ⊢
      simp only [pos, h, if_true, ins, List.take_succ_cons, List.cons_append]
      rw [← ih]
      cases there r x.key <;> simp

theorem mem_ins {es : List Ent} {x e : Ent} (h : e ∈ ins es x) : e = x ∨ e ∈ es := by
  induction es with
  | nil => simp [ins] at h; exact .inl h
  | cons a r ih =>
    unfold ins at h
    split at h
    · rcases List.mem_cons.1 h with rfl | h
      · exact .inr (by simp)
      · rcases ih h with h | h
        · exact .inl h
        · exact .inr (by simp [h])
    · split at h
      · rcases List.mem_cons.1 h with rfl | h
        · exact .inl rfl
        · exact .inr (by simp [h])
      · rcases List.mem_cons.1 h with rfl | h
        · exact .inl rfl
        · exact .inr h
theorem ins_srt {es : List Ent} {x : Ent} (h : Srt es) : Srt (ins es x) := by
  induction es with
  | nil => simp [Srt, ins]
  | cons a r ih =>
    unfold Srt at h ih ⊢
    rw [List.pairwise_cons] at h
    obtain ⟨h1, h2⟩ := h
    unfold ins
    split
    · rename_i hl
      refine List.pairwise_cons.2 ⟨fun e he => ?_, ih h2⟩
      rcases mem_ins he with rfl | he
      · exact hl
      · exact h1 e he
    · rename_i hl
      split
      · rename_i he
        refine List.pairwise_cons.2 ⟨fun e hm => ?_, h2⟩
        rw [← he]; exact h1 e hm
      · rename_i he
        have hlt : ltB x.key a.key = true := by
          cases k : ltB x.key a.key
          · exact absurd (ltB_total (by simpa using hl) k) he
          · rfl
        refine List.pairwise_cons.2 ⟨fun e hm => ?_, List.pairwise_cons.2 ⟨h1, h2⟩⟩
        rcases List.mem_cons.1 hm with rfl | hm
        · exact hlt
        · exact ltB_trans hlt (h1 e hm)
theorem ins_len : ∀ (es : List Ent) (x : Ent), (ins es x).length = if there es x.key then es.length else es.length + 1
  | [], x => by simp [ins, there]
  | e :: r, x => by
    have ih := ins_len r x
    cases h : ltB e.key x.key
    · rw [there_cons_ge h]
      simp only [ins, h]
      by_cases k : e.key = x.key <;> simp [k]
    · rw [there_cons_lt h]
      simp only [ins, h, if_true, List.length_cons, ih]
      cases there r x.key <;> simp

/-- the document's way to lay an entry -/
def wE : List Ent → Bool → Ent → List Ent
  | [], done, x => if done then [] else [x]
  | e :: r, done, x => (if !done && !ltB e.key x.key then [x] else []) ++ ((if e.key = x.key then [] else [e]) ++ wE r (done || !ltB e.key x.key) x)
theorem wE_done : ∀ (es : List Ent) (x : Ent), (∀ e ∈ es, ¬ e.key = x.key) → wE es true x = es
  | [], _, _ => rfl
  | e :: r, x, h => by
    have h0 := h e (by simp)
    simp [wE, h0, wE_done r x (fun e he => h e (by simp [he]))]
theorem wE_ins : ∀ (es : List Ent) (x : Ent), Srt es → wE es false x = ins es x
  | [], x, _ => rfl
  | e :: r, x, h => by
    unfold Srt at h
    rw [List.pairwise_cons] at h
    obtain ⟨h1, h2⟩ := h
    cases hl : ltB e.key x.key
    · have hrest : ∀ a ∈ r, ¬ a.key = x.key := by
        intro a ha he
        have := h1 a ha
        rw [he, hl] at this; cases this
      simp only [wE, ins, hl, Bool.not_false, Bool.and_self, if_true, Bool.or_true]
      rw [wE_done r x hrest]
      by_cases k : e.key = x.key <;> simp [k]
    · have k : ¬ e.key = x.key := ne_of_lt hl
      simp [wE, ins, hl, k, wE_ins r x h2]

/-- does an entry come? -/
def comesB (es : List Ent) (x : Ent) : Bool := if there es x.key then decide (0 < cmpE x.ver x.org x.val (ent es (pos es x.key)).ver (ent es (pos es x.key)).org (ent es (pos es x.key)).val) else decide (es.length < 60)
theorem ins_good {es : List Ent} {x : Ent} (h : Good es) (hx : x.may = true) (hc : comesB es x = true) : Good (ins es x) := by
  obtain ⟨h1, h2, h3⟩ := h
  refine ⟨?_, ?_, ins_srt h3⟩
  · rw [ins_len]
    unfold comesB at hc
    cases ht : there es x.key
    · rw [ht] at hc; simp at hc; simp; omega
    · simpa using h1
  · intro e he
    rcases mem_ins he with rfl | he
    · exact hx
    · exact h2 e he
/-- a merge, one by one -/
def mrg : List Ent → List ByteArray → List Ent → List Ent × List ByteArray
  | out, ks, [] => (out, ks)
  | out, ks, x :: r => if comesB out x then mrg (ins out x) (ks ++ [x.key]) r else mrg out ks r
theorem mrg_good : ∀ (b out : List Ent) (ks : List ByteArray), Good out → (∀ e ∈ b, e.may = true) → Good (mrg out ks b).1
  | [], _, _, h, _ => h
  | x :: r, out, ks, h, hb => by
    unfold mrg
    split
    · rename_i hc
      exact mrg_good r _ _ (ins_good h (hb x (by simp)) hc) (fun e he => hb e (by simp [he]))
    · exact mrg_good r _ _ h (fun e he => hb e (by simp [he]))
end Go.Proofs.YtcdobhdbafpkiadDoor.Pl
