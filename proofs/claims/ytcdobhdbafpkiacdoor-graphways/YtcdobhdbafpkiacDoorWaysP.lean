/-
  Plain: the cheapest ways: a search that takes the nearest node each time, and twelve rounds over all links, find the same.
-/
import Derived.WalkKit
namespace Go.Proofs.YtcdobhdbafpkiacDoor.Pl

/-- a way from f to a node, its first step to k; drained nodes are not passed, nor is f itself -/
inductive Way (L : Nat → Nat → Int) (D : Nat → Bool) (f k : Nat) : Nat → Int → Prop
  | base : k < 12 → k ≠ f → 0 < L f k → Way L D f k k (L f k)
  | step {a b : Nat} {c : Int} : Way L D f k a c → D a = false → b < 12 → b ≠ f → 0 < L a b → Way L D f k b (c + L a b)

theorem Way.pos {L D f k v c} (h : Way L D f k v c) : 0 < c := by
  induction h with
  | base _ _ h => exact h
  | step _ _ _ _ h ih => omega
theorem Way.lt {L D f k v c} (h : Way L D f k v c) : v < 12 := by cases h <;> assumption
theorem Way.ne {L D f k v c} (h : Way L D f k v c) : v ≠ f := by cases h <;> assumption
theorem Way.klt {L D f k v c} (h : Way L D f k v c) : k < 12 ∧ k ≠ f := by
  induction h with
  | base h1 h2 _ => exact ⟨h1, h2⟩
  | step _ _ _ _ _ ih => exact ih

/-- the least number of those, or -1 -/
def IsMin (P : Int → Prop) (m : Int) : Prop := (m = -1 ∧ ∀ c, ¬ P c) ∨ (0 ≤ m ∧ P m ∧ ∀ c, P c → m ≤ c)
theorem IsMin.unique {P m n} (h : IsMin P m) (g : IsMin P n) : m = n := by
  rcases h with ⟨rfl, h⟩ | ⟨h0, h1, h2⟩ <;> rcases g with ⟨rfl, g⟩ | ⟨g0, g1, g2⟩
  · rfl
  · exact absurd g1 (h _)
  · exact absurd h1 (g _)
  · have := h2 _ g1; have := g2 _ h1; omega

def upd {α : Type} (f : Nat → α) (i : Nat) (v : α) : Nat → α := fun j => if j = i then v else f j
theorem upd_same {α : Type} (f : Nat → α) (i : Nat) (v : α) : upd f i v i = v := by simp [upd]
theorem upd_ne {α : Type} (f : Nat → α) {i j : Nat} (v : α) (h : j ≠ i) : upd f i v j = f j := by simp [upd, h]

/-- a search: what it costs to go to each node, over which hops, which are done -/
structure DS where
  cost : Nat → Int
  hops : Nat → Nat → Bool
  done : Nat → Bool

def dInit (f : Nat) : DS := ⟨fun j => if j = f then 0 else -1, fun _ _ => false, fun _ => false⟩
/-- a cheaper way comes instead of all others -/
def dS1 (j : Nat) (c : Int) (s : DS) : DS :=
  if s.cost j = -1 ∨ c < s.cost j then ⟨upd s.cost j c, upd s.hops j (fun _ => false), s.done⟩ else s
def dS2 (f n j : Nat) (h : Nat → Nat → Bool) : Nat → Nat → Bool := if n = f then upd h j (upd (h j) j true) else h
def dS3 (n j i : Nat) (h : Nat → Nat → Bool) : Nat → Nat → Bool := upd h j (fun k => h j k || (decide (k < i) && h n k))
def dStep (f n j : Nat) (c : Int) (s : DS) : DS :=
  if (dS1 j c s).cost j < c then dS1 j c s
  else ⟨(dS1 j c s).cost, dS3 n j 12 (dS2 f n j (dS1 j c s).hops), (dS1 j c s).done⟩
def dRow (L : Nat → Nat → Int) (f n : Nat) (s : DS) : Nat → DS
  | 0 => s
  | i + 1 => if 0 < L n i then dStep f n i ((dRow L f n s i).cost n + L n i) (dRow L f n s i) else dRow L f n s i
def near (s : DS) : Nat → Int
  | 0 => -1
  | i + 1 => if s.cost i = -1 ∨ s.done i = true then near s i else if near s i = -1 ∨ s.cost i < s.cost (near s i).toNat then i else near s i
def dDone (s : DS) (n : Nat) : DS := ⟨s.cost, s.hops, upd s.done n true⟩
def dProc (L : Nat → Nat → Int) (D : Nat → Bool) (f : Nat) (s : DS) (n : Nat) : DS :=
  if D n = true ∧ n ≠ f then dDone s n else dRow L f n (dDone s n) 12
def dIter (L : Nat → Nat → Int) (D : Nat → Bool) (f : Nat) : Nat → DS
  | 0 => dInit f
  | k + 1 => if near (dIter L D f k) 12 = -1 then dIter L D f k else dProc L D f (dIter L D f k) (near (dIter L D f k) 12).toNat

/-! nearest -/
theorem near_spec (s : DS) (i : Nat) :
    (near s i = -1 ∧ ∀ v, v < i → s.cost v = -1 ∨ s.done v = true) ∨
    (∃ n : Nat, near s i = n ∧ n < i ∧ s.cost n ≠ -1 ∧ s.done n = false ∧ ∀ v, v < i → s.cost v ≠ -1 → s.done v = false → s.cost n ≤ s.cost v) := by
  induction i with
  | zero => left; exact ⟨rfl, by omega⟩
  | succ i ih =>
    unfold near
    by_cases h : s.cost i = -1 ∨ s.done i = true
    · rw [if_pos h]
      rcases ih with ⟨h1, h2⟩ | ⟨n, h1, h2, h3, h4, h5⟩
      · left
        refine ⟨h1, fun v hv => ?_⟩
        by_cases hvi : v = i
        · subst hvi; exact h
        · exact h2 v (by omega)
      · right
        refine ⟨n, h1, by omega, h3, h4, fun v hv g1 g2 => ?_⟩
        by_cases hvi : v = i
        · subst hvi; rcases h with h | h
          · exact absurd h g1
          · rw [h] at g2; cases g2
        · exact h5 v (by omega) g1 g2
    · rw [if_neg h]
      have hc : s.cost i ≠ -1 := fun x => h (.inl x)
      have hd : s.done i = false := by
        cases hh : s.done i with
        | false => rfl
        | true => exact absurd (.inr hh) h
      right
      rcases ih with ⟨h1, h2⟩ | ⟨n, h1, h2, h3, h4, h5⟩
      · rw [if_pos (.inl h1)]
        refine ⟨i, rfl, by omega, hc, hd, fun v hv g1 g2 => ?_⟩
        by_cases hvi : v = i
        · subst hvi; exact Int.le_refl _
        · rcases h2 v (by omega) with x | x
          · exact absurd x g1
          · rw [x] at g2; cases g2
      · rw [h1, Int.toNat_natCast]
        by_cases hl : s.cost i < s.cost n
        · rw [if_pos (.inr hl)]
          refine ⟨i, rfl, by omega, hc, hd, fun v hv g1 g2 => ?_⟩
          by_cases hvi : v = i
          · subst hvi; exact Int.le_refl _
          · have := h5 v (by omega) g1 g2; omega
        · rw [if_neg (by omega)]
          refine ⟨n, rfl, by omega, h3, h4, fun v hv g1 g2 => ?_⟩
          by_cases hvi : v = i
          · subst hvi; omega
          · exact h5 v (by omega) g1 g2

/-- what holds of a search while node n is looked at, up to the i-th link (n = 12: between two nodes) -/
structure DInv (L : Nat → Nat → Int) (D : Nat → Bool) (f n i : Nat) (s : DS) : Prop where
  c0 : s.cost f = 0
  h0 : ∀ k, s.hops f k = false
  cw : ∀ v, v ≠ f → s.cost v ≠ -1 → ∃ k, Way L D f k v (s.cost v)
  hw : ∀ v k, s.hops v k = true → Way L D f k v (s.cost v)
  rl : ∀ u v, s.done u = true → (u = n → v < i) → (u = f ∨ D u = false) → v < 12 → v ≠ f → 0 < L u v →
    s.cost v ≠ -1 ∧ s.cost v ≤ s.cost u + L u v ∧ (s.cost v = s.cost u + L u v → (u = f → s.hops v v = true) ∧ ∀ k, s.hops u k = true → s.hops v k = true)
  dc : ∀ u, s.done u = true → s.cost u ≠ -1
  od : ∀ u v, s.done u = true → s.done v = false → s.cost v ≠ -1 → s.cost u ≤ s.cost v
  mx : n < 12 → ∀ u, s.done u = true → s.cost u ≤ s.cost n

theorem DInv.pos {L D f n i s} (h : DInv L D f n i s) (v : Nat) (hc : s.cost v ≠ -1) : 0 ≤ s.cost v := by
  by_cases hv : v = f
  · subst hv; rw [h.c0]; omega
  · obtain ⟨k, hk⟩ := h.cw v hv hc; have := hk.pos; omega

theorem DInv.init (L D f) : DInv L D f 12 0 (dInit f) where
  c0 := by simp [dInit]
  h0 := by simp [dInit]
  cw := by intro v hv hc; simp [dInit, hv] at hc
  hw := by simp [dInit]
  rl := by simp [dInit]
  dc := by simp [dInit]
  od := by simp [dInit]
  mx := by simp [dInit]

theorem dS1_done (j c s) : (dS1 j c s).done = s.done := by unfold dS1; split <;> rfl
theorem dStep_done (f n j c s) : (dStep f n j c s).done = s.done := by unfold dStep; split <;> simp [dS1_done]
theorem dRow_done (L f n s i) : (dRow L f n s i).done = s.done := by
  induction i with
  | zero => rfl
  | succ i ih => unfold dRow; split <;> simp [dStep_done, ih]

/-- a step to where it costs less already does nothing -/
theorem dStep_idle {f n j : Nat} {c : Int} {s : DS} (h1 : s.cost j ≠ -1) (h2 : s.cost j < c) : dStep f n j c s = s := by
  have : dS1 j c s = s := by unfold dS1; rw [if_neg (by omega)]
  unfold dStep; rw [this, if_pos h2]
/-- a step elsewhere -/
theorem dStep_cost_ne {f n j v : Nat} {c : Int} {s : DS} (h : v ≠ j) : (dStep f n j c s).cost v = s.cost v := by
  unfold dStep dS1; split <;> split <;> simp_all [upd]
theorem dStep_hops_ne {f n j v : Nat} {c : Int} {s : DS} (h : v ≠ j) : (dStep f n j c s).hops v = s.hops v := by
  unfold dStep dS1 dS2 dS3; split <;> split <;> (try split) <;> simp_all [upd]

theorem dStep_at {f n j : Nat} {c : Int} {s : DS} (hn : n ≠ j) :
    (dStep f n j c s).cost j = (if s.cost j = -1 ∨ c < s.cost j then c else s.cost j) ∧
    ∀ k, (dStep f n j c s).hops j k = (if s.cost j = -1 ∨ c < s.cost j then (decide (n = f ∧ k = j) || (decide (k < 12) && s.hops n k))
      else if s.cost j = c then (s.hops j k || decide (n = f ∧ k = j) || (decide (k < 12) && s.hops n k)) else s.hops j k) := by
  by_cases h : s.cost j = -1 ∨ c < s.cost j
  · have e1 : dS1 j c s = ⟨upd s.cost j c, upd s.hops j (fun _ => false), s.done⟩ := by unfold dS1; rw [if_pos h]
    have e2 : ¬ ((dS1 j c s).cost j < c) := by rw [e1]; simp [upd]
    unfold dStep
    rw [if_neg e2, e1]
    simp only [if_pos h]
    refine ⟨by simp [upd], fun k => ?_⟩
    simp only [dS3, upd_same]
    by_cases hf : n = f
    · simp only [dS2, if_pos hf, upd_same, upd_ne _ _ hn]
      by_cases hk : k = j
      · subst hk; simp [upd, hf]
      · simp [upd, hk]
    · simp only [dS2, if_neg hf, upd_same, upd_ne _ _ hn]
      simp [hf]
  · have e1 : dS1 j c s = s := by unfold dS1; rw [if_neg h]
    simp only [if_neg h]
    by_cases hlt : s.cost j < c
    · rw [dStep_idle (by omega) hlt]
      refine ⟨rfl, fun k => ?_⟩
      rw [if_neg (by omega)]
    · have heq : s.cost j = c := by omega
      unfold dStep
      rw [e1, if_neg hlt]
      refine ⟨rfl, fun k => ?_⟩
      rw [if_pos heq]
      simp only [dS3, upd_same]
      by_cases hf : n = f
      · simp only [dS2, if_pos hf, upd_same, upd_ne _ _ hn]
        by_cases hk : k = j
        · subst hk; simp [upd, hf]
        · simp [upd, hk]
      · simp only [dS2, if_neg hf]
        simp [hf]

theorem bfalse {b : Bool} (h : b ≠ true) : b = false := by cases b <;> simp_all

theorem DInv.step {L M : Nat → Nat → Int} {D : Nat → Bool} {f n i : Nat} {s : DS} (hM : ∀ a b, a ≠ b → M a b = L a b) (hL : ∀ a, L a a = 0)
    (h : DInv L D f n i s) (hn : n < 12) (hi : i < 12) (hd : s.done n = true) (ho : n = f ∨ D n = false) :
    DInv L D f n (i + 1) (if 0 < M n i then dStep f n i (s.cost n + M n i) s else s) := by
  have idle : (0 < L n i → i ≠ f → s.cost i ≠ -1 ∧ s.cost i < s.cost n + L n i) → DInv L D f n (i + 1) s := by
    intro g
    refine { h with rl := ?_ }
    · · intro u v h1 h2 h3 h4 h5 h6
        by_cases hu : u = n ∧ v = i
        · obtain ⟨rfl, rfl⟩ := hu
          obtain ⟨g1, g2⟩ := g h6 h5
          exact ⟨g1, by omega, fun x => by omega⟩
        · exact h.rl u v h1 (fun x => by have := h2 x; omega) h3 h4 h5 h6
  by_cases hm : 0 < M n i
  case neg =>
    rw [if_neg hm]
    refine idle fun g => ?_
    by_cases hni : n = i
    · subst hni; rw [hL] at g; omega
    · rw [hM n i hni] at hm; omega
  rw [if_pos hm]
  have hpn := h.pos n (h.dc n hd)
  by_cases hni : n = i
  · subst hni
    rw [dStep_idle (h.dc n hd) (by omega)]
    exact idle fun g => by rw [hL] at g; omega
  rw [hM n i hni] at hm ⊢
  by_cases hid : s.done i = true
  · have h1 := h.mx hn i hid
    have h2 := h.dc i hid
    rw [dStep_idle h2 (by omega)]
    exact idle fun _ _ => ⟨h2, by omega⟩
  have hid := bfalse hid
  by_cases hif : i = f
  · subst hif
    have := h.c0
    rw [dStep_idle (by omega) (by omega)]
    exact idle fun _ x => absurd rfl x
  obtain ⟨e1, e2⟩ := dStep_at (f := f) (c := s.cost n + L n i) (s := s) hni
  have n1 : ∀ v, v ≠ i → (dStep f n i (s.cost n + L n i) s).cost v = s.cost v := fun v hv => dStep_cost_ne hv
  have n2 : ∀ v, v ≠ i → (dStep f n i (s.cost n + L n i) s).hops v = s.hops v := fun v hv => dStep_hops_ne hv
  have n3 : (dStep f n i (s.cost n + L n i) s).done = s.done := dStep_done ..
  have wn : ∀ k, s.hops n k = true → Way L D f k i (s.cost n + L n i) := fun k hk => by
    have hw := h.hw n k hk
    rcases ho with rfl | ho
    · exact absurd rfl hw.ne
    · exact hw.step ho hi hif hm
  have wf : n = f → Way L D f i i (s.cost n + L n i) := fun hf => by
    subst hf; rw [h.c0, Int.zero_add]; exact .base hi hif hm
  have we : ∃ k, Way L D f k i (s.cost n + L n i) := by
    by_cases hf : n = f
    · exact ⟨i, wf hf⟩
    · obtain ⟨k, hk⟩ := h.cw n hf (h.dc n hd)
      exact ⟨k, hk.step (ho.resolve_left hf) hi hif hm⟩
  have hpi := h.pos i
  have e3 : s.cost i = -1 ∨ s.cost n + L n i < s.cost i ∨ (0 ≤ s.cost i ∧ s.cost i ≤ s.cost n + L n i) := by
    by_cases hc : s.cost i = -1
    · exact .inl hc
    · have := hpi hc; omega
  generalize dStep f n i (s.cost n + L n i) s = t at *
  refine ⟨?_, ?_, ?_, ?_, ?_, ?_, ?_, ?_⟩
  · rw [n1 f (Ne.symm hif)]; exact h.c0
  · intro k; rw [n2 f (Ne.symm hif)]; exact h.h0 k
  · intro v hv hc
    by_cases hvi : v = i
    · subst hvi
      rw [e1] at hc ⊢
      split
      · exact we
      · rename_i hx; rw [if_neg hx] at hc; exact h.cw v hv hc
    · rw [n1 v hvi] at hc ⊢; exact h.cw v hv hc
  · intro v k hk
    by_cases hvi : v = i
    · subst hvi
      rw [e2] at hk
      rw [e1]
      by_cases hx : s.cost v = -1 ∨ s.cost n + L n v < s.cost v
      · rw [if_pos hx] at hk ⊢
        simp only [Bool.or_eq_true, Bool.and_eq_true, decide_eq_true_eq] at hk
        rcases hk with ⟨g1, rfl⟩ | ⟨_, g⟩
        · exact wf g1
        · exact wn k g
      · rw [if_neg hx] at hk ⊢
        by_cases hy : s.cost v = s.cost n + L n v
        · rw [if_pos hy] at hk
          simp only [Bool.or_eq_true, Bool.and_eq_true, decide_eq_true_eq] at hk
          rcases hk with (g | ⟨g1, rfl⟩) | ⟨_, g⟩
          · exact h.hw v k g
          · rw [hy]; exact wf g1
          · rw [hy]; exact wn k g
        · rw [if_neg hy] at hk; exact h.hw v k hk
    · rw [n2 v hvi] at hk; rw [n1 v hvi]; exact h.hw v k hk
  · intro u v h1 h2 h3 h4 h5 h6
    rw [n3] at h1
    have hui : u ≠ i := fun x => by rw [x, hid] at h1; cases h1
    rw [n1 u hui, n2 u hui]
    by_cases hvi : v = i
    · subst hvi
      rw [e1]
      by_cases hun : u = n
      · subst hun
        by_cases hx : s.cost v = -1 ∨ s.cost u + L u v < s.cost v
        · rw [if_pos hx]
          refine ⟨by omega, by omega, fun _ => ⟨fun g => ?_, fun k g => ?_⟩⟩
          · rw [e2, if_pos hx]; simp [g]
          · rw [e2, if_pos hx]; have := (h.hw u k g).klt.1; simp [g, this]
        · rw [if_neg hx]
          refine ⟨by omega, by omega, fun x => ⟨fun g => ?_, fun k g => ?_⟩⟩
          · rw [e2, if_neg hx, if_pos x]; simp [g]
          · rw [e2, if_neg hx, if_pos x]; have := (h.hw u k g).klt.1; simp [g, this]
      · obtain ⟨r1, r2, r3⟩ := h.rl u v h1 (fun x => absurd x hun) h3 h4 h5 h6
        by_cases hx : s.cost v = -1 ∨ s.cost n + L n v < s.cost v
        · rw [if_pos hx]
          exact ⟨by omega, by omega, fun x => by omega⟩
        · rw [if_neg hx]
          refine ⟨r1, r2, fun x => ?_⟩
          obtain ⟨q1, q2⟩ := r3 x
          refine ⟨fun g => ?_, fun k g => ?_⟩
          · rw [e2, if_neg hx]; split
            · simp [q1 g]
            · exact q1 g
          · rw [e2, if_neg hx]; split
            · simp [q2 k g]
            · exact q2 k g
    · rw [n1 v hvi, n2 v hvi]
      exact h.rl u v h1 (fun x => by have := h2 x; omega) h3 h4 h5 h6
  · intro u hu
    rw [n3] at hu
    have hui : u ≠ i := fun x => by rw [x, hid] at hu; cases hu
    rw [n1 u hui]; exact h.dc u hu
  · intro u v hu hv hc
    rw [n3] at hu hv
    have hui : u ≠ i := fun x => by rw [x, hid] at hu; cases hu
    rw [n1 u hui]
    by_cases hvi : v = i
    · subst hvi
      rw [e1] at hc ⊢
      have := h.mx hn u hu
      split
      · omega
      · rename_i hx; rw [if_neg hx] at hc; exact h.od u v hu hv hc
    · rw [n1 v hvi] at hc ⊢; exact h.od u v hu hv hc
  · intro _ u hu
    rw [n3] at hu
    have hui : u ≠ i := fun x => by rw [x, hid] at hu; cases hu
    rw [n1 u hui, n1 n hni]; exact h.mx hn u hu

theorem DInv.row {L M : Nat → Nat → Int} {D : Nat → Bool} {f n : Nat} {s : DS} (hM : ∀ a b, a ≠ b → M a b = L a b) (hL : ∀ a, L a a = 0)
    (h : DInv L D f n 0 s) (hn : n < 12) (hd : s.done n = true) (ho : n = f ∨ D n = false) (i : Nat) (hi : i ≤ 12) : DInv L D f n i (dRow M f n s i) := by
  induction i with
  | zero => exact h
  | succ i ih => exact DInv.step hM hL (ih (by omega)) hn (by omega) (by rw [dRow_done]; exact hd) ho

theorem DInv.at {L : Nat → Nat → Int} {D : Nat → Bool} {f n : Nat} {s : DS} (h : DInv L D f 12 0 s) (hf : f < 12) (hn : n < 12) (hc : s.cost n ≠ -1) (hd : s.done n = false)
    (hm : ∀ v, v < 12 → s.cost v ≠ -1 → s.done v = false → s.cost n ≤ s.cost v) : DInv L D f n 0 (dDone s n) where
  c0 := h.c0
  h0 := h.h0
  cw := h.cw
  hw := h.hw
  rl := by
    intro u v h1 h2 h3 h4 h5 h6
    by_cases hu : u = n
    · have := h2 hu; omega
    · simp only [dDone, upd_ne _ _ hu] at h1
      exact h.rl u v h1 (fun x => by subst x; exact absurd (h.dc 12 h1) (fun g => by
        have := h.cw 12 (by omega) g; obtain ⟨k, hk⟩ := this; have := hk.lt; omega)) h3 h4 h5 h6
  dc := by
    intro u h1
    by_cases hu : u = n
    · subst hu; exact hc
    · simp only [dDone, upd_ne _ _ hu] at h1; exact h.dc u h1
  od := by
    intro u v h1 h2 h3
    have hv : v ≠ n := fun x => by simp [dDone, x, upd] at h2
    simp only [dDone, upd_ne _ _ hv] at h2
    have hv12 : v < 12 := by
      by_cases x : v = f
      · omega
      · obtain ⟨k, hk⟩ := h.cw v x h3; exact hk.lt
    by_cases hu : u = n
    · subst hu; exact hm v hv12 h3 h2
    · simp only [dDone, upd_ne _ _ hu] at h1; exact h.od u v h1 h2 h3
  mx := by
    intro _ u h1
    by_cases hu : u = n
    · subst hu; exact Int.le_refl _
    · simp only [dDone, upd_ne _ _ hu] at h1; exact h.od u n h1 hd hc

theorem DInv.proc {L M : Nat → Nat → Int} {D : Nat → Bool} {f n : Nat} {s : DS} (hM : ∀ a b, a ≠ b → M a b = L a b) (hL : ∀ a, L a a = 0)
    (h : DInv L D f 12 0 s) (hf : f < 12) (hn : n < 12) (hc : s.cost n ≠ -1) (hd : s.done n = false)
    (hm : ∀ v, v < 12 → s.cost v ≠ -1 → s.done v = false → s.cost n ≤ s.cost v) : DInv L D f 12 0 (dProc M D f s n) := by
  have h1 := h.at hf hn hc hd hm
  unfold dProc
  by_cases hx : D n = true ∧ n ≠ f
  · rw [if_pos hx]
    exact { h1 with
      rl := fun u v g1 _ g3 g4 g5 g6 => h1.rl u v g1 (fun y => by
        subst y; rcases g3 with g | g
        · exact absurd g hx.2
        · rw [hx.1] at g; cases g) g3 g4 g5 g6
      mx := fun x => absurd x (by omega) }
  · rw [if_neg hx]
    have ho : n = f ∨ D n = false := by
      by_cases g : n = f
      · exact .inl g
      · exact .inr (bfalse fun y => hx ⟨y, g⟩)
    have h2 := h1.row hM hL hn (by simp [dDone, upd]) ho 12 (by omega)
    exact { h2 with
      rl := fun u v g1 _ g3 g4 g5 g6 => h2.rl u v g1 (fun _ => g4) g3 g4 g5 g6
      mx := fun x => absurd x (by omega) }

theorem DInv.iter {L M : Nat → Nat → Int} {D : Nat → Bool} {f : Nat} (hM : ∀ a b, a ≠ b → M a b = L a b) (hL : ∀ a, L a a = 0) (hf : f < 12) (k : Nat) :
    DInv L D f 12 0 (dIter M D f k) := by
  induction k with
  | zero => exact DInv.init L D f
  | succ k ih =>
    unfold dIter
    rcases near_spec (dIter M D f k) 12 with ⟨h1, _⟩ | ⟨n, h1, h2, h3, h4, h5⟩
    · rw [if_pos h1]; exact ih
    · rw [h1, if_neg (by omega), Int.toNat_natCast]
      exact ih.proc hM hL hf h2 h3 h4 h5

/-! how often -/
def cnt (d : Nat → Bool) : Nat → Nat
  | 0 => 0
  | i + 1 => cnt d i + if d i = true then 1 else 0
theorem cnt_le (d : Nat → Bool) (i : Nat) : cnt d i ≤ i := by
  induction i with
  | zero => exact Nat.le_refl _
  | succ i ih => unfold cnt; split <;> omega
theorem cnt_mono {d e : Nat → Bool} (h : ∀ v, d v = true → e v = true) (i : Nat) : cnt d i ≤ cnt e i := by
  induction i with
  | zero => exact Nat.le_refl _
  | succ i ih =>
    unfold cnt
    by_cases hd : d i = true
    · rw [if_pos hd, if_pos (h i hd)]; omega
    · rw [if_neg hd]; omega
theorem cnt_lt {d e : Nat → Bool} (h : ∀ v, d v = true → e v = true) {u i : Nat} (hu : u < i) (h1 : d u = false) (h2 : e u = true) : cnt d i < cnt e i := by
  induction i with
  | zero => omega
  | succ i ih =>
    unfold cnt
    by_cases hi : u = i
    · subst hi
      rw [h1, h2, if_neg (by decide), if_pos rfl]
      have := cnt_mono h u; omega
    · have := ih (by omega)
      by_cases hd : d i = true
      · rw [if_pos hd, if_pos (h i hd)]; omega
      · rw [if_neg hd]; omega
theorem cnt_all (i : Nat) : cnt (fun _ => true) i = i := by
  induction i with
  | zero => rfl
  | succ i ih => simp [cnt, ih]
theorem cnt_lt_all {d : Nat → Bool} {u i : Nat} (hu : u < i) (h1 : d u = false) : cnt d i < i := by
  have := cnt_lt (d := d) (e := fun _ => true) (fun _ _ => rfl) hu h1 rfl
  rw [cnt_all] at this; exact this
theorem cnt_upd {d : Nat → Bool} {u i : Nat} (hu : u < i) (h1 : d u = false) : cnt d i < cnt (upd d u true) i :=
  cnt_lt (fun v hv => by by_cases h : v = u <;> simp [upd, h, hv]) hu h1 (by simp [upd])

theorem dProc_done (L D f s n) : (dProc L D f s n).done = upd s.done n true := by
  unfold dProc; split <;> simp [dDone, dRow_done]
theorem dIter_cnt (L D f) (k : Nat) : near (dIter L D f k) 12 = -1 ∨ k ≤ cnt (dIter L D f k).done 12 := by
  induction k with
  | zero => right; omega
  | succ k ih =>
    rcases near_spec (dIter L D f k) 12 with ⟨h1, _⟩ | ⟨n, h1, h2, h3, h4, h5⟩
    · left; unfold dIter; rw [if_pos h1]; exact h1
    · right
      have h6 := ih.resolve_left (by omega)
      unfold dIter
      rw [h1, if_neg (by omega), Int.toNat_natCast, dProc_done]
      have := cnt_upd (d := (dIter L D f k).done) h2 h4
      omega
/-- it goes on twelve times at most -/
theorem dIter_lt {L D f k} (h : near (dIter L D f k) 12 ≠ -1) : k < 12 := by
  have h6 := (dIter_cnt L D f k).resolve_left h
  rcases near_spec (dIter L D f k) 12 with ⟨h1, _⟩ | ⟨n, h1, h2, h3, h4, h5⟩
  · exact absurd h1 h
  · have := cnt_lt_all h2 h4; omega
theorem dIter_end (L D f) : near (dIter L D f 12) 12 = -1 := by
  by_cases h : near (dIter L D f 12) 12 = -1
  · exact h
  · have := dIter_lt h; omega
theorem dIter_stay {L D f k} (h : near (dIter L D f k) 12 = -1) (j : Nat) : dIter L D f (k + j) = dIter L D f k := by
  induction j with
  | zero => rfl
  | succ j ih => show (if near (dIter L D f (k + j)) 12 = -1 then dIter L D f (k + j) else _) = _; rw [ih, if_pos h]
theorem dIter_stop {L D f k} (h : near (dIter L D f k) 12 = -1) (hk : k ≤ 12) : dIter L D f k = dIter L D f 12 := by
  have := dIter_stay h (12 - k)
  rw [← this]; congr 1; omega

/-- what the search finds -/
theorem found {L M : Nat → Nat → Int} {D : Nat → Bool} {f : Nat} (hM : ∀ a b, a ≠ b → M a b = L a b) (hL : ∀ a, L a a = 0) (hf : f < 12) {k v : Nat} {c : Int}
    (h : Way L D f k v c) : (dIter M D f 12).cost v ≠ -1 ∧ (dIter M D f 12).cost v ≤ c ∧ ((dIter M D f 12).cost v = c → (dIter M D f 12).hops v k = true) := by
  have I := DInv.iter (D := D) hM hL hf 12
  have E := dIter_end M D f
  rcases near_spec (dIter M D f 12) 12 with ⟨_, N⟩ | ⟨n, h1, _⟩
  case inr => omega
  generalize dIter M D f 12 = s at *
  have fd : s.done f = true := (N f hf).resolve_left (by rw [I.c0]; omega)
  induction h with
  | base h1 h2 h3 =>
    obtain ⟨r1, r2, r3⟩ := I.rl f k fd (by omega) (.inl rfl) h1 h2 h3
    rw [I.c0, Int.zero_add] at r2 r3
    exact ⟨r1, r2, fun x => (r3 x).1 rfl⟩
  | @step a b c h1 h2 h3 h4 h5 ih =>
    obtain ⟨i1, i2, i3⟩ := ih
    have ad : s.done a = true := (N a h1.lt).resolve_left i1
    have al := h1.lt
    obtain ⟨r1, r2, r3⟩ := I.rl a b ad (by omega) (.inr h2) h3 h4 h5
    refine ⟨r1, by omega, fun x => ?_⟩
    have e : s.cost a = c := by omega
    exact (r3 (by omega)).2 k (i3 e)
theorem found_min {L M : Nat → Nat → Int} {D : Nat → Bool} {f : Nat} (hM : ∀ a b, a ≠ b → M a b = L a b) (hL : ∀ a, L a a = 0) (hf : f < 12) {v : Nat} (hv : v ≠ f) :
    IsMin (fun c => ∃ k, Way L D f k v c) ((dIter M D f 12).cost v) := by
  have I := DInv.iter (D := D) hM hL hf 12
  by_cases h : (dIter M D f 12).cost v = -1
  · exact .inl ⟨h, fun c ⟨k, hk⟩ => (found hM hL hf hk).1 h⟩
  · exact .inr ⟨I.pos v h, I.cw v hv h, fun c ⟨k, hk⟩ => (found hM hL hf hk).2.1⟩
theorem found_hops {L M : Nat → Nat → Int} {D : Nat → Bool} {f : Nat} (hM : ∀ a b, a ≠ b → M a b = L a b) (hL : ∀ a, L a a = 0) (hf : f < 12) (v k : Nat) :
    (dIter M D f 12).hops v k = true ↔ Way L D f k v ((dIter M D f 12).cost v) := by
  have I := DInv.iter (D := D) hM hL hf 12
  exact ⟨I.hw v k, fun h => (found hM hL hf h).2.2 rfl⟩

/-! the document's side -/
def bRelax (L : Nat → Nat → Int) (D : Nat → Bool) (f a b : Nat) (best : Nat → Int) : Nat → Int :=
  if a = f ∨ b = f ∨ best a < 0 ∨ D a = true ∨ L a b = 0 then best
  else if best b < 0 ∨ best a + L a b < best b then upd best b (best a + L a b) else best
def bRow (L : Nat → Nat → Int) (D : Nat → Bool) (f a : Nat) (best : Nat → Int) : Nat → Nat → Int
  | 0 => best
  | j + 1 => bRelax L D f a j (bRow L D f a best j)
def bRound (L : Nat → Nat → Int) (D : Nat → Bool) (f : Nat) (best : Nat → Int) : Nat → Nat → Int
  | 0 => best
  | i + 1 => bRow L D f i (bRound L D f best i) 12
def bInit (L : Nat → Nat → Int) (f : Nat) (first : Int) : Nat → Int := fun i => if i ≠ f ∧ 0 < L f i ∧ (first < 0 ∨ first = i) then L f i else -1
def bBest (L : Nat → Nat → Int) (D : Nat → Bool) (f : Nat) (first : Int) : Nat → Nat → Int
  | 0 => bInit L f first
  | r + 1 => bRound L D f (bBest L D f first r) 12

def BW (L : Nat → Nat → Int) (D : Nat → Bool) (f : Nat) (first : Int) (v : Nat) (c : Int) : Prop := ∃ k : Nat, (first < 0 ∨ first = k) ∧ Way L D f k v c
def Snd (L : Nat → Nat → Int) (D : Nat → Bool) (f : Nat) (first : Int) (best : Nat → Int) : Prop := ∀ v, v < 12 → best v = -1 ∨ BW L D f first v (best v)
def Les (x y : Nat → Int) : Prop := ∀ v, 0 ≤ x v → 0 ≤ y v ∧ y v ≤ x v
theorem Les.refl (x) : Les x x := fun _ h => ⟨h, Int.le_refl _⟩
theorem Les.trans {x y z} (h : Les x y) (g : Les y z) : Les x z := fun v hv => by have := h v hv; have := g v this.1; omega
theorem BW.pos {L D f first v c} (h : BW L D f first v c) : 0 < c := by obtain ⟨k, _, hk⟩ := h; exact hk.pos

theorem bRelax_spec {L : Nat → Nat → Int} {D f a b first best} (hL : ∀ a b, 0 ≤ L a b) (ha : a < 12) (hb : b < 12) (h : Snd L D f first best) :
    Snd L D f first (bRelax L D f a b best) ∧ Les best (bRelax L D f a b best) ∧
    (a ≠ f → b ≠ f → 0 ≤ best a → D a = false → 0 < L a b → 0 ≤ bRelax L D f a b best b ∧ bRelax L D f a b best b ≤ best a + L a b) := by
  unfold bRelax
  split
  · rename_i hx
    refine ⟨h, Les.refl _, fun h1 h2 h3 h4 h5 => ?_⟩
    rcases hx with x | x | x | x | x
    · exact absurd x h1
    · exact absurd x h2
    · omega
    · rw [h4] at x; cases x
    · omega
  · rename_i hx
    have x1 : a ≠ f := fun g => hx (.inl g)
    have x2 : b ≠ f := fun g => hx (.inr (.inl g))
    have x3 : 0 ≤ best a := by omega
    have x4 : D a = false := bfalse fun g => hx (.inr (.inr (.inr (.inl g))))
    have x5 : 0 < L a b := by have := hL a b; omega
    split
    · rename_i hy
      refine ⟨fun v hv => ?_, fun v hv => ?_, fun _ _ _ _ _ => ?_⟩
      · by_cases g : v = b
        · subst g
          right
          rw [upd_same]
          obtain ⟨k, hk, hw⟩ := (h a ha).resolve_left (by omega)
          exact ⟨k, hk, hw.step x4 hb x2 x5⟩
        · rw [upd_ne _ _ g]; exact h v hv
      · by_cases g : v = b
        · subst g; rw [upd_same]; omega
        · rw [upd_ne _ _ g]; omega
      · rw [upd_same]; omega
    · rename_i hy
      exact ⟨h, Les.refl _, fun _ _ _ _ _ => by omega⟩
theorem bRow_spec {L : Nat → Nat → Int} {D f a first best} (hL : ∀ a b, 0 ≤ L a b) (ha : a < 12) (h : Snd L D f first best) (j : Nat) (hj : j ≤ 12) :
    Snd L D f first (bRow L D f a best j) ∧ Les best (bRow L D f a best j) ∧
    (∀ b, b < j → a ≠ f → b ≠ f → 0 ≤ best a → D a = false → 0 < L a b → 0 ≤ bRow L D f a best j b ∧ bRow L D f a best j b ≤ best a + L a b) := by
  induction j with
  | zero => exact ⟨h, Les.refl _, fun b hb => by omega⟩
  | succ j ih =>
    obtain ⟨i1, i2, i3⟩ := ih (by omega)
    obtain ⟨r1, r2, r3⟩ := bRelax_spec (a := a) (b := j) hL ha (by omega) i1
    unfold bRow
    refine ⟨r1, i2.trans r2, fun b hb g1 g2 g3 g4 g5 => ?_⟩
    by_cases hbj : b = j
    · subst hbj
      have := i2 a g3
      have := r3 g1 g2 this.1 g4 g5
      omega
    · have := i3 b (by omega) g1 g2 g3 g4 g5
      have := r2 b this.1
      omega
theorem bRound_spec {L : Nat → Nat → Int} {D f first best} (hL : ∀ a b, 0 ≤ L a b) (h : Snd L D f first best) (i : Nat) (hi : i ≤ 12) :
    Snd L D f first (bRound L D f best i) ∧ Les best (bRound L D f best i) ∧
    (∀ a b, a < i → b < 12 → a ≠ f → b ≠ f → 0 ≤ best a → D a = false → 0 < L a b → 0 ≤ bRound L D f best i b ∧ bRound L D f best i b ≤ best a + L a b) := by
  induction i with
  | zero => exact ⟨h, Les.refl _, fun a b hb => by omega⟩
  | succ i ih =>
    obtain ⟨i1, i2, i3⟩ := ih (by omega)
    obtain ⟨r1, r2, r3⟩ := bRow_spec (a := i) hL (by omega) i1 12 (Nat.le_refl _)
    unfold bRound
    refine ⟨r1, i2.trans r2, fun a b ha hb g1 g2 g3 g4 g5 => ?_⟩
    by_cases hai : a = i
    · subst hai
      have := i2 a g3
      have := r3 b hb g1 g2 this.1 g4 g5
      omega
    · have := i3 a b (by omega) hb g1 g2 g3 g4 g5
      have := r2 b this.1
      omega

theorem least (P : Int → Prop) (h : ∀ c, P c → 0 ≤ c) : ∃ m, IsMin P m := by
  by_cases hx : ∃ c, P c
  · obtain ⟨c, hc⟩ := hx
    have key : ∀ n : Nat, ∀ c : Int, P c → c = n → ∃ m, IsMin P m := by
      intro n
      induction n using Nat.strongRecOn with
      | _ n ih =>
        intro c hc hn
        by_cases hy : ∃ d, P d ∧ d < c
        · obtain ⟨d, hd, hl⟩ := hy
          have := h d hd
          exact ih d.toNat (by omega) d hd (by omega)
        · exact ⟨c, .inr ⟨h c hc, hc, fun d hd => by
            by_cases g : d < c
            · exact absurd ⟨d, hd, g⟩ hy
            · omega⟩⟩
    have := h c hc
    exact key c.toNat c hc (by omega)
  · exact ⟨-1, .inl ⟨rfl, fun c hc => hx ⟨c, hc⟩⟩⟩

theorem bBest_min {L : Nat → Nat → Int} {D : Nat → Bool} {f : Nat} (first : Int) (hL : ∀ a b, 0 ≤ L a b) (v : Nat) (hv : v < 12) :
    IsMin (BW L D f first v) (bBest L D f first 12 v) := by
  obtain ⟨δ, hδ⟩ := Classical.axiomOfChoice (r := fun v m => IsMin (BW L D f first v) m) fun v => least (BW L D f first v) fun c hc => by have := hc.pos; omega
  have key : ∀ r, Snd L D f first (bBest L D f first r) ∧
      (∀ v : Nat, v < 12 → v ≠ f → 0 < L f v → (first < 0 ∨ first = (v : Int)) → 0 ≤ bBest L D f first r v ∧ bBest L D f first r v ≤ L f v) ∧
      (∀ v, v < 12 → 0 ≤ δ v → cnt (fun u => decide (0 ≤ δ u ∧ δ u < δ v)) 12 < r → bBest L D f first r v = δ v) := by
    intro r
    induction r with
    | zero =>
      refine ⟨fun v hv => ?_, fun v hv h1 h2 h3 => ?_, fun v _ _ h => by omega⟩
      · unfold bBest bInit
        by_cases hx : v ≠ f ∧ 0 < L f v ∧ (first < 0 ∨ first = (v : Int))
        · rw [if_pos hx]; exact .inr ⟨v, hx.2.2, .base hv hx.1 hx.2.1⟩
        · rw [if_neg hx]; exact .inl rfl
      · unfold bBest bInit
        rw [if_pos ⟨h1, h2, h3⟩]; omega
    | succ r ih =>
      obtain ⟨i1, i2, i3⟩ := ih
      obtain ⟨r1, r2, r3⟩ := bRound_spec hL i1 12 (Nat.le_refl _)
      unfold bBest
      refine ⟨r1, fun v hv h1 h2 h3 => ?_, fun v hv h1 h2 => ?_⟩
      · have := i2 v hv h1 h2 h3; have := r2 v this.1; omega
      · obtain ⟨_, hw, hm⟩ : 0 ≤ δ v ∧ BW L D f first v (δ v) ∧ ∀ c, BW L D f first v c → δ v ≤ c := by
          rcases hδ v with ⟨x, _⟩ | x
          · omega
          · exact x
        have low : ∀ x, 0 ≤ x → x ≤ δ v → (bRound L D f (bBest L D f first r) 12 v = x) → x = δ v := fun x x0 x1 x2 => by
          have := (r1 v hv).resolve_left (by omega)
          rw [x2] at this
          have := hm _ this; omega
        obtain ⟨k, hk, hw⟩ := hw
        generalize hdv : δ v = dv at *
        cases hw with
        | base g1 g2 g3 =>
          have a1 := i2 v hv g2 g3 hk
          have a2 := r2 v a1.1
          exact low _ a2.1 (by omega) rfl
        | @step a _ c g1 g2 g3 g4 g5 =>
          have hwa : BW L D f first a c := ⟨k, hk, g1⟩
          rcases hδ a with ⟨_, x⟩ | ⟨d0, d1, d2⟩
          · exact absurd hwa (x c)
          · have d3 := d2 c hwa
            have d4 := cnt_lt (d := fun u => decide (0 ≤ δ u ∧ δ u < δ a)) (e := fun u => decide (0 ≤ δ u ∧ δ u < c + L a v)) (u := a) (i := 12)
              (fun u hu => by simp only [decide_eq_true_eq] at hu ⊢; omega) g1.lt (by simp) (by simp only [decide_eq_true_eq]; omega)
            have a1 := i3 a g1.lt d0 (by omega)
            have a2 := r3 a v g1.lt hv g1.ne g4 (by omega) g2 g5
            exact low _ a2.1 (by omega) rfl
  obtain ⟨k1, _, k3⟩ := key 12
  rcases hδ v with ⟨x, hx⟩ | ⟨d0, d1, d2⟩
  · rcases k1 v hv with y | y
    · exact .inl ⟨y, hx⟩
    · exact absurd y (hx _)
  · rw [k3 v hv d0 (cnt_lt_all hv (by simp))]
    exact .inr ⟨d0, d1, d2⟩

/-- both find the same -/
theorem same_cost {L M : Nat → Nat → Int} {D : Nat → Bool} {f : Nat} (hM : ∀ a b, a ≠ b → M a b = L a b) (hL : ∀ a, L a a = 0) (h0 : ∀ a b, 0 ≤ L a b) (hf : f < 12) {v : Nat} (hv : v < 12) (hvf : v ≠ f) :
    (dIter M D f 12).cost v = bBest L D f (-1) 12 v := by
  refine (found_min hM hL hf hvf).unique ?_
  have := bBest_min (D := D) (f := f) (-1) h0 v hv
  have e : BW L D f (-1) v = fun c => ∃ k, Way L D f k v c := by
    funext c; unfold BW; simp
  rw [e] at this; exact this
theorem same_hops {L M : Nat → Nat → Int} {D : Nat → Bool} {f : Nat} (hM : ∀ a b, a ≠ b → M a b = L a b) (hL : ∀ a, L a a = 0) (h0 : ∀ a b, 0 ≤ L a b) (hf : f < 12) {v : Nat} (hv : v < 12) (k : Nat) :
    (dIter M D f 12).hops v k = decide (v ≠ f ∧ 0 ≤ (dIter M D f 12).cost v ∧ bBest L D f k 12 v = (dIter M D f 12).cost v) := by
  rw [Bool.eq_iff_iff, decide_eq_true_eq, found_hops hM hL hf]
  have hb := bBest_min (D := D) (f := f) k h0 v hv
  have hk : BW L D f k v = Way L D f k v := by
    funext c; unfold BW
    refine propext ⟨fun ⟨j, h1, h2⟩ => ?_, fun h => ⟨k, .inr rfl, h⟩⟩
    have : (k : Int) = j := by omega
    have : k = j := by omega
    rw [this]; exact h2
  rw [hk] at hb
  constructor
  · intro h
    have hp := h.pos
    refine ⟨h.ne, by omega, ?_⟩
    rcases hb with ⟨_, x⟩ | ⟨b0, b1, b2⟩
    · exact absurd h (x _)
    · have := b2 _ h
      have := (found hM hL hf b1).2.1
      omega
  · rintro ⟨_, h1, h2⟩
    rcases hb with ⟨x, _⟩ | ⟨b0, b1, b2⟩
    · omega
    · rw [h2] at b1; exact b1
theorem from_cost {L M : Nat → Nat → Int} {D : Nat → Bool} {f : Nat} (hM : ∀ a b, a ≠ b → M a b = L a b) (hL : ∀ a, L a a = 0) (hf : f < 12) : (dIter M D f 12).cost f = 0 :=
  (DInv.iter (D := D) hM hL hf 12).c0
end Go.Proofs.YtcdobhdbafpkiacDoor.Pl
