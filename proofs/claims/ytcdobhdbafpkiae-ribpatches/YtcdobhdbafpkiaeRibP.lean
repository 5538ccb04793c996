/-
  Plain definitions: routes, tables, what is wrong with one, the place of a prefix; no program in sight.
-/
import Derived.WalkKit
import Derived.Test.YtcdobhdbafpkiaePfxP
namespace Go.Proofs.Ytcdobhdbafpkiae.Pl

/-- a route: its prefix, is it here, its cost, its hops -/
structure Rt where
  p : Int × Int
  here : Bool
  cost : Int
  hops : List Int
def Rt.none : Rt := ⟨(0, 0), false, 0, []⟩
/-- the route at a place -/
def rt (rs : List Rt) (i : Nat) : Rt := rs.getD i Rt.none
theorem rt_eq (rs : List Rt) (i : Nat) (h : i < rs.length) : rt rs i = rs[i] := by simp [rt, List.getD, h]
theorem rt_mem (rs : List Rt) (i : Nat) (h : i < rs.length) : rt rs i ∈ rs := by rw [rt_eq rs i h]; exact List.getElem_mem h
theorem rt_cons_succ (e : Rt) (es : List Rt) (i : Nat) : rt (e :: es) (i + 1) = rt es i := by simp [rt]
theorem rt_cons_zero (e : Rt) (es : List Rt) : rt (e :: es) 0 = e := by simp [rt]
theorem drop_rt (rs : List Rt) (i : Nat) (h : i < rs.length) : rs.drop i = rt rs i :: rs.drop (i + 1) := by
  rw [rt_eq rs i h]; exact List.drop_eq_getElem_cons h

/-- the number at a place -/
def nm (l : List Int) (i : Nat) : Int := l.getD i 0
theorem nm_eq (l : List Int) (i : Nat) (h : i < l.length) : nm l i = l[i] := by simp [nm, List.getD, h]

/-- may the hop at a place be? -/
def hopB (l : List Int) (i : Nat) : Bool := decide (0 ≤ nm l i ∧ nm l i ≤ 11) && (decide (i = 0) || decide (nm l (i - 1) < nm l i))
def hopsB (l : List Int) : Bool := (List.range l.length).all (hopB l)
theorem hopsB_false {l : List Int} {k : Nat} (hk : k < l.length) (h : hopB l k = false) : hopsB l = false := by
  unfold hopsB
  rw [List.all_eq_false]
  exact ⟨k, List.mem_range.2 hk, by simp [h]⟩
theorem hopsB_true {l : List Int} (h : ∀ k, k < l.length → hopB l k = true) : hopsB l = true := by
  unfold hopsB
  rw [List.all_eq_true]
  intro k hk
  exact h k (List.mem_range.1 hk)
theorem hopsB_at {l : List Int} (h : hopsB l = true) (k : Nat) (hk : k < l.length) : hopB l k = true := by
  unfold hopsB at h
  rw [List.all_eq_true] at h
  exact h k (List.mem_range.2 hk)
theorem hopB_zero (l : List Int) : hopB l 0 = decide (0 ≤ nm l 0 ∧ nm l 0 ≤ 11) := by simp [hopB]
theorem hopB_succ (l : List Int) (m : Nat) : hopB l (m + 1) = (decide (0 ≤ nm l (m + 1) ∧ nm l (m + 1) ≤ 11) && decide (nm l m < nm l (m + 1))) := by simp [hopB]

/-- may a route be? -/
def routeB (r : Rt) : Bool := decide (pfx1 r.p = 0) && decide (0 ≤ r.cost ∧ r.cost ≤ 1048576) && (if r.here then decide (r.cost = 0) && decide (r.hops = []) else decide (r.hops ≠ [])) && hopsB r.hops

/-- does a prefix stand ahead of another one? -/
def pltB (p q : Int × Int) : Bool := decide (p.1 < q.1 ∨ p.1 = q.1 ∧ p.2 < q.2)
theorem pltB_iff {p q : Int × Int} : pltB p q = true ↔ (p.1 < q.1 ∨ p.1 = q.1 ∧ p.2 < q.2) := by simp [pltB]
theorem pltB_not {p q : Int × Int} : pltB p q = false ↔ (q.1 < p.1 ∨ q.1 = p.1 ∧ q.2 ≤ p.2) := by
  rw [Bool.eq_false_iff, Ne, pltB_iff]; omega
theorem pltB_irrefl (p : Int × Int) : pltB p p = false := by rw [pltB_not]; omega
theorem pltB_asymm {p q : Int × Int} (h : pltB p q = true) : pltB q p = false := by rw [pltB_iff] at h; rw [pltB_not]; omega
theorem pltB_trans {p q r : Int × Int} (h : pltB p q = true) (k : pltB q r = true) : pltB p r = true := by rw [pltB_iff] at h k ⊢; omega
theorem pltB_total {p q : Int × Int} (h : pltB p q = false) (k : pltB q p = false) : p = q := by
  rw [pltB_not] at h k
  obtain ⟨a, b⟩ := p; obtain ⟨c, d⟩ := q
  simp only [Prod.mk.injEq] at *
  omega
theorem pltB_ne {p q : Int × Int} (h : pltB p q = true) : ¬ p = q := fun e => by rw [e, pltB_irrefl] at h; cases h
theorem pfxC_ge (p q : Int × Int) : decide (0 ≤ pfxC p q) = !pltB p q := by
  unfold pfxC cmpI pltB
  rw [Bool.eq_iff_iff]
  simp only [decide_eq_true_eq, Bool.not_eq_true', decide_eq_false_iff_not]
  split <;> (try split) <;> (try split) <;> (try split) <;> omega
theorem pair_eq_iff (p q : Int × Int) : p = q ↔ p.1 = q.1 ∧ p.2 = q.2 := by
  obtain ⟨a, b⟩ := p; obtain ⟨c, d⟩ := q; simp

/-- does the prefix at a place not stand behind that of the route ahead? -/
def lowR (rs : List Rt) (i : Nat) : Bool := decide (0 < i) && !pltB (rt rs (i - 1)).p (rt rs i).p
theorem lowR_zero (rs : List Rt) : lowR rs 0 = false := by simp [lowR]
theorem lowR_succ (rs : List Rt) (m : Nat) : lowR rs (m + 1) = !pltB (rt rs m).p (rt rs (m + 1)).p := by simp [lowR]
/-- what is wrong with a table from a place on: so many are still to be looked at -/
def tabN (rs : List Rt) : Nat → Nat → Int
  | 0, _ => 0
  | n + 1, i => if routeB (rt rs i) then (if lowR rs i then 7 else tabN rs n (i + 1)) else 4
def tabF (rs : List Rt) : Int := if rs.length ≤ 200 then tabN rs rs.length 0 else 1
theorem tabF_size {rs : List Rt} (h : 200 < rs.length) : tabF rs = 1 := by unfold tabF; rw [if_neg (by omega)]
theorem tabF_from {rs : List Rt} (h : rs.length ≤ 200) : tabF rs = tabN rs rs.length 0 := by unfold tabF; rw [if_pos h]
theorem tabN_form {rs : List Rt} {n i : Nat} (h : routeB (rt rs i) = false) : tabN rs (n + 1) i = 4 := by simp [tabN, h]
theorem tabN_low {rs : List Rt} {n i : Nat} (h : routeB (rt rs i) = true) (k : lowR rs i = true) : tabN rs (n + 1) i = 7 := by simp [tabN, h, k]
theorem tabN_on {rs : List Rt} {n i : Nat} (h : routeB (rt rs i) = true) (k : lowR rs i = false) : tabN rs (n + 1) i = tabN rs n (i + 1) := by simp [tabN, h, k]

/-- prefixes in their order -/
def AscP (ps : List (Int × Int)) : Prop := ∀ i j, i < j → j < ps.length → pltB (pr ps i) (pr ps j) = true
theorem pr_map (rs : List Rt) (i : Nat) (h : i < rs.length) : pr (rs.map Rt.p) i = (rt rs i).p := by
  rw [pr_eq _ _ (by simpa using h), rt_eq rs i h]; simp
theorem tabN_zero (rs : List Rt) : ∀ n i, tabN rs n i = 0 → ∀ j, i ≤ j → j < i + n → routeB (rt rs j) = true ∧ lowR rs j = false
  | 0, _, _, j, h1, h2 => by omega
  | n + 1, i, h, j, h1, h2 => by
    simp only [tabN] at h
    cases hm : routeB (rt rs i)
    · simp [hm] at h
    · cases hl : lowR rs i
      · simp only [hm, hl] at h
        rcases Nat.lt_or_ge i j with k | k
        · exact tabN_zero rs n (i + 1) (by simpa using h) j (by omega) (by omega)
        · obtain rfl : j = i := by omega
          exact ⟨hm, hl⟩
      · simp [hm, hl] at h
theorem good_of_tabF {rs : List Rt} (h : tabF rs = 0) : rs.length ≤ 200 ∧ (∀ i, i < rs.length → routeB (rt rs i) = true) ∧ AscP (rs.map Rt.p) := by
  unfold tabF at h
  split at h
  · rename_i hl
    have hz := tabN_zero rs rs.length 0 h
    refine ⟨hl, fun i hi => (hz i (by omega) (by omega)).1, ?_⟩
    intro i j hij hj
    simp only [List.length_map] at hj
    rw [pr_map rs i (by omega), pr_map rs j hj]
    induction j with
    | zero => omega
    | succ m ih =>
      have hlow := (hz (m + 1) (by omega) (by omega)).2
      have hstep : pltB (rt rs m).p (rt rs (m + 1)).p = true := by
        rw [lowR_succ] at hlow
        simpa using hlow
      rcases Nat.lt_or_ge i m with k | k
      · exact pltB_trans (ih k (by omega)) hstep
      · obtain rfl : i = m := by omega
        exact hstep
  · cases h
theorem tabN_of_good (rs : List Rt) (h : ∀ j, j < rs.length → routeB (rt rs j) = true ∧ lowR rs j = false) : ∀ n i, i + n ≤ rs.length → tabN rs n i = 0
  | 0, _, _ => rfl
  | n + 1, i, hi => by
    obtain ⟨h1, h2⟩ := h i (by omega)
    rw [tabN_on h1 h2]
    exact tabN_of_good rs h n (i + 1) (by omega)
theorem tabF_of_good {rs : List Rt} (hl : rs.length ≤ 200) (hm : ∀ i, i < rs.length → routeB (rt rs i) = true) (ha : AscP (rs.map Rt.p)) : tabF rs = 0 := by
  rw [tabF_from hl]
  refine tabN_of_good rs (fun j hj => ⟨hm j hj, ?_⟩) _ _ (by omega)
  rcases Nat.eq_zero_or_pos j with rfl | k
  · exact lowR_zero _
  · obtain ⟨m, rfl⟩ : ∃ m, j = m + 1 := ⟨j - 1, by omega⟩
    rw [lowR_succ]
    have := ha m (m + 1) (by omega) (by simpa using hj)
    rw [pr_map rs m (by omega), pr_map rs (m + 1) hj] at this
    rw [this]; rfl

/-- the place of a prefix, or that at which it would come -/
def posP : List (Int × Int) → Int × Int → Nat
  | [], _ => 0
  | e :: r, p => if pltB e p then posP r p + 1 else 0
theorem pr_cons_succ (e : Int × Int) (es : List (Int × Int)) (i : Nat) : pr (e :: es) (i + 1) = pr es i := by simp [pr]
theorem pr_cons_zero (e : Int × Int) (es : List (Int × Int)) : pr (e :: es) 0 = e := by simp [pr]
theorem posP_le : ∀ (ps : List (Int × Int)) (p : Int × Int), posP ps p ≤ ps.length
  | [], _ => Nat.le_refl _
  | e :: r, p => by
    simp only [posP, List.length_cons]
    have := posP_le r p
    split <;> omega
theorem posP_lt : ∀ (ps : List (Int × Int)) (p : Int × Int) (i : Nat), i < posP ps p → pltB (pr ps i) p = true
  | [], _, i, h => by simp [posP] at h
  | e :: r, p, i, h => by
    simp only [posP] at h
    split at h
    · rename_i he
      cases i with
      | zero => simpa [pr] using he
      | succ i => rw [pr_cons_succ]; exact posP_lt r p i (by omega)
    · omega
theorem posP_at : ∀ (ps : List (Int × Int)) (p : Int × Int), posP ps p < ps.length → pltB (pr ps (posP ps p)) p = false
  | [], _, h => by simp at h
  | e :: r, p, h => by
    cases he : pltB e p
    · simp [posP, he, pr]
    · simp only [posP, he, if_true] at h ⊢
      rw [pr_cons_succ]
      exact posP_at r p (by simpa using h)
theorem posP_of {ps : List (Int × Int)} {p : Int × Int} {i : Nat} (hi : i ≤ ps.length) (h1 : ∀ t, t < i → pltB (pr ps t) p = true) (h2 : i < ps.length → pltB (pr ps i) p = false) : posP ps p = i := by
  rcases Nat.lt_trichotomy (posP ps p) i with k | k | k
  · have a := h1 _ k
    rw [posP_at ps p (by omega)] at a; cases a
  · exact k
  · have a := posP_lt ps p i k
    have b := posP_le ps p
    rw [h2 (by omega)] at a; cases a
/-- is the prefix there? -/
def thereP (ps : List (Int × Int)) (p : Int × Int) : Bool := decide (posP ps p < ps.length) && decide (pr ps (posP ps p) = p)
theorem thereP_lt {ps : List (Int × Int)} {p : Int × Int} (h : thereP ps p = true) : posP ps p < ps.length := by
  unfold thereP at h
  simp only [Bool.and_eq_true, decide_eq_true_eq] at h
  exact h.1
theorem thereP_eq {ps : List (Int × Int)} {p : Int × Int} (h : thereP ps p = true) : pr ps (posP ps p) = p := by
  unfold thereP at h
  simp only [Bool.and_eq_true, decide_eq_true_eq] at h
  exact h.2
theorem ascP_lt {ps : List (Int × Int)} (h : AscP ps) {p : Int × Int} {t m : Nat} (hm : m < ps.length) (ht : t ≤ m) (k : pltB (pr ps m) p = true) : pltB (pr ps t) p = true := by
  rcases Nat.lt_or_ge t m with q | q
  · exact pltB_trans (h t m q hm) k
  · obtain rfl : t = m := by omega
    exact k
theorem ascP_ge {ps : List (Int × Int)} (h : AscP ps) {p : Int × Int} {t m : Nat} (ht : t < ps.length) (hm : m ≤ t) (k : pltB (pr ps m) p = false) : pltB (pr ps t) p = false := by
  cases q : pltB (pr ps t) p
  · rfl
  · rw [ascP_lt h ht hm q] at k; cases k
/-- in order, a prefix is there just where it is one of them -/
theorem thereP_mem {ps : List (Int × Int)} (h : AscP ps) {p : Int × Int} {i : Nat} (hi : i < ps.length) (e : pr ps i = p) : posP ps p = i ∧ thereP ps p = true := by
  have hp : posP ps p = i := by
    refine posP_of (by omega) (fun u hu => ?_) (fun _ => by rw [e]; exact pltB_irrefl _)
    have := h u i hu hi
    rwa [e] at this
  refine ⟨hp, ?_⟩
  unfold thereP
  rw [hp, e]
  simp [hi]
theorem thereP_iff {ps : List (Int × Int)} (h : AscP ps) (p : Int × Int) : thereP ps p = true ↔ p ∈ ps := by
  constructor
  · intro ht
    rw [← thereP_eq ht]
    exact pr_mem ps _ (thereP_lt ht)
  · intro hm
    obtain ⟨i, hi, e⟩ := List.getElem_of_mem hm
    exact (thereP_mem h hi (by rw [pr_eq ps i hi]; exact e)).2
end Go.Proofs.Ytcdobhdbafpkiae.Pl
