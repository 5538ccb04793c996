/-
  Plain facts: stores in their order, the place of a key; no program in sight.
-/
import Derived.Test.YtcdobhdbafpkiadDoorList
namespace Go.Proofs.YtcdobhdbafpkiadDoor.Pl

/-- the keys ascend -/
def Asc (es : List Ent) : Prop := ∀ i j, i < j → j < es.length → ltB (ent es i).key (ent es j).key = true
/-- all entries may be -/
def May (es : List Ent) : Prop := ∀ i, i < es.length → (ent es i).may = true

theorem faultN_zero (es : List Ent) : ∀ n i, faultN es n i = 0 → ∀ j, i ≤ j → j < i + n → (ent es j).may = true ∧ lowB es j = false
  | 0, _, _, j, h1, h2 => by omega
  | n + 1, i, h, j, h1, h2 => by
    simp only [faultN] at h
    cases hm : (ent es i).may
    · simp [hm] at h
    · cases hl : lowB es i
      · simp only [hm, hl] at h
        rcases Nat.lt_or_ge i j with k | k
        · exact faultN_zero es n (i + 1) (by simpa using h) j (by omega) (by omega)
        · obtain rfl : j = i := by omega
          exact ⟨hm, hl⟩
      · simp [hm, hl] at h

theorem good_of_fault {es : List Ent} (h : fault es = 0) : es.length ≤ 60 ∧ May es ∧ Asc es := by
  unfold fault at h
  split at h
  · rename_i hl
    have hz := faultN_zero es es.length 0 h
    refine ⟨hl, fun i hi => (hz i (by omega) (by omega)).1, ?_⟩
    intro i j hij hj
    induction j with
    | zero => omega
    | succ m ih =>
      have hlow := (hz (m + 1) (by omega) (by omega)).2
      have hstep : ltB (ent es m).key (ent es (m + 1)).key = true := by
        unfold lowB at hlow
        simpa using hlow
      rcases Nat.lt_or_ge i m with k | k
      · exact ltB_trans (ih k (by omega)) hstep
      · obtain rfl : i = m := by omega
        exact hstep
  · cases h

theorem faultN_of_good (es : List Ent) (h : ∀ j, j < es.length → (ent es j).may = true ∧ lowB es j = false) : ∀ n i, i + n ≤ es.length → faultN es n i = 0
  | 0, _, _ => rfl
  | n + 1, i, hi => by
    obtain ⟨h1, h2⟩ := h i (by omega)
    rw [faultN_on h1 h2]
    exact faultN_of_good es h n (i + 1) (by omega)

theorem fault_of_good {es : List Ent} (hl : es.length ≤ 60) (hm : May es) (ha : Asc es) : fault es = 0 := by
  rw [fault_from hl]
  refine faultN_of_good es (fun j hj => ⟨hm j hj, ?_⟩) _ _ (by omega)
  unfold lowB
  rcases Nat.eq_zero_or_pos j with rfl | k
  · rfl
  · rw [ha (j - 1) j (by omega) hj]; simp

/-- the place of a key, or that at which it would come -/
def pos : List Ent → ByteArray → Nat
  | [], _ => 0
  | e :: r, key => if ltB e.key key then pos r key + 1 else 0

theorem pos_le : ∀ (es : List Ent) (key : ByteArray), pos es key ≤ es.length
  | [], _ => Nat.le_refl _
  | e :: r, key => by
    simp only [pos, List.length_cons]
    have := pos_le r key
    split <;> omega
theorem pos_lt : ∀ (es : List Ent) (key : ByteArray) (i : Nat), i < pos es key → ltB (ent es i).key key = true
  | [], _, i, h => by simp [pos] at h
  | e :: r, key, i, h => by
    simp only [pos] at h
    split at h
    · rename_i he
      cases i with
      | zero => simpa [ent] using he
      | succ i => rw [ent_cons_succ]; exact pos_lt r key i (by omega)
    · omega
theorem pos_at : ∀ (es : List Ent) (key : ByteArray), pos es key < es.length → ltB (ent es (pos es key)).key key = false
  | [], _, h => by simp at h
  | e :: r, key, h => by
    cases he : ltB e.key key
    · simp [pos, he, ent]
    · simp only [pos, he, if_true] at h ⊢
      rw [ent_cons_succ]
      exact pos_at r key (by simpa using h)
theorem pos_of {es : List Ent} {key : ByteArray} {i : Nat} (hi : i ≤ es.length) (h1 : ∀ t, t < i → ltB (ent es t).key key = true) (h2 : i < es.length → ltB (ent es i).key key = false) : pos es key = i := by
  rcases Nat.lt_trichotomy (pos es key) i with k | k | k
  · have a := h1 _ k
    rw [pos_at es key (by omega)] at a; cases a
  · exact k
  · have a := pos_lt es key i k
    have b := pos_le es key
    rw [h2 (by omega)] at a; cases a

/-- is the key there? -/
def there (es : List Ent) (key : ByteArray) : Bool := decide (pos es key < es.length) && decide ((ent es (pos es key)).key = key)

theorem asc_lt {es : List Ent} (h : Asc es) {key : ByteArray} {t m : Nat} (hm : m < es.length) (ht : t ≤ m) (k : ltB (ent es m).key key = true) : ltB (ent es t).key key = true := by
  rcases Nat.lt_or_ge t m with q | q
  · exact ltB_trans (h t m q hm) k
  · obtain rfl : t = m := by omega
    exact k
theorem asc_ge {es : List Ent} (h : Asc es) {key : ByteArray} {t m : Nat} (ht : t < es.length) (hm : m ≤ t) (k : ltB (ent es m).key key = false) : ltB (ent es t).key key = false := by
  cases q : ltB (ent es t).key key
  · rfl
  · rw [asc_lt h ht hm q] at k; cases k

/-- the first place of a key, or the length -/
def idx : List Ent → ByteArray → Nat
  | [], _ => 0
  | e :: r, key => if e.key = key then 0 else idx r key + 1
def idxI (es : List Ent) (key : ByteArray) : Int := if idx es key < es.length then (idx es key : Int) else -1
theorem idx_le : ∀ (es : List Ent) (key : ByteArray), idx es key ≤ es.length
  | [], _ => Nat.le_refl _
  | e :: r, key => by
    simp only [idx, List.length_cons]
    have := idx_le r key
    split <;> omega
theorem idx_of : ∀ (es : List Ent) (key : ByteArray) (i : Nat), i ≤ es.length → (∀ t, t < i → ¬ (ent es t).key = key) → (i < es.length → (ent es i).key = key) → idx es key = i
  | [], _, i, h, _, _ => by simp at h; simp [idx, h]
  | e :: r, key, i, h, h1, h2 => by
    cases i with
    | zero =>
      have : e.key = key := by simpa [ent] using h2 (by simp)
      simp [idx, this]
    | succ i =>
      have h0 : ¬ e.key = key := by simpa [ent] using h1 0 (by omega)
      simp only [idx, h0, if_false]
      rw [idx_of r key i (by simpa using h) (fun t ht => by have := h1 (t + 1) (by omega); rwa [ent_cons_succ] at this) (fun hi => by have := h2 (by simpa using hi); rwa [ent_cons_succ] at this)]
theorem idx_asc {es : List Ent} (h : Asc es) (key : ByteArray) : idx es key = if there es key then pos es key else es.length := by
  have hle := pos_le es key
  cases ht : there es key
  · simp only [Bool.false_eq_true, if_false]
    refine idx_of es key _ (Nat.le_refl _) (fun t hlt he => ?_) (fun k => by omega)
    have hp : pos es key = t := by
      refine pos_of (by omega) (fun u hu => ?_) (fun _ => by rw [he]; exact ltB_irrefl _)
      have := h u t hu hlt
      rwa [he] at this
    unfold there at ht
    rw [hp] at ht
    simp [hlt, he] at ht
  · unfold there at ht
    simp only [Bool.and_eq_true, decide_eq_true_eq] at ht
    simp only [if_true]
    refine idx_of es key _ hle (fun t hlt he => ?_) (fun _ => ht.2)
    have := pos_lt es key t hlt
    rw [he, ltB_irrefl] at this; cases this
theorem idxI_asc {es : List Ent} (h : Asc es) (key : ByteArray) : idxI es key = if there es key then (pos es key : Int) else -1 := by
  unfold idxI
  rw [idx_asc h key]
  cases ht : there es key
  · simp
  · simp only [if_true]
    unfold there at ht
    simp only [Bool.and_eq_true, decide_eq_true_eq] at ht
    rw [if_pos ht.1]
end Go.Proofs.YtcdobhdbafpkiadDoor.Pl
