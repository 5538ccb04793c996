/-
  Plain: a table that is made route by route; what stands at each prefix of it; no program in sight.
-/
import Derived.Test.YtjjelkdajdeikaaGreatDoorTopStepsC3
import Derived.Test.YtjjelkdajdeikaaGreatDoorTopStepsC4
namespace Go.Proofs.YtjjelkdajdeikaaGreatDoor
open Go.RowKit
set_option maxRecDepth 20000

theorem Pl.mem_hopsL {h : Nat → Bool} {k : Nat} {x : Int} : x ∈ Pl.hopsL h k ↔ ∃ j, j < k ∧ x = (j : Int) ∧ h j = true := by
  induction k with
  | zero => simp [Pl.hopsL]
  | succ k ih =>
    cases e : h k
    · rw [Pl.hopsL_off e, ih]
      constructor
      · rintro ⟨j, h1, h2, h3⟩; exact ⟨j, by omega, h2, h3⟩
      · rintro ⟨j, h1, h2, h3⟩
        refine ⟨j, ?_, h2, h3⟩
        rcases Nat.lt_or_ge j k with g | g
        · exact g
        · obtain rfl : j = k := by omega
          rw [e] at h3; cases h3
    · rw [Pl.hopsL_on e, List.mem_append, List.mem_singleton, ih]
      constructor
      · rintro (⟨j, h1, h2, h3⟩ | rfl)
        · exact ⟨j, by omega, h2, h3⟩
        · exact ⟨k, by omega, rfl, e⟩
      · rintro ⟨j, h1, h2, h3⟩
        rcases Nat.lt_or_ge j k with g | g
        · exact .inl ⟨j, g, h2, h3⟩
        · obtain rfl : j = k := by omega
          exact .inr h2
theorem Pl.hopsL_up (h : Nat → Bool) (k : Nat) : (Pl.hopsL h k).Pairwise (· < ·) := by
  induction k with
  | zero => exact List.Pairwise.nil
  | succ k ih =>
    cases e : h k
    · rw [Pl.hopsL_off e]; exact ih
    · rw [Pl.hopsL_on e, List.pairwise_append]
      refine ⟨ih, by simp, fun x hx y hy => ?_⟩
      obtain ⟨j, h1, h2, _⟩ := Pl.mem_hopsL.1 hx
      simp at hy
      omega
theorem Pl.hopsB_of {l : List Int} (h1 : ∀ x ∈ l, 0 ≤ x ∧ x ≤ 11) (h2 : l.Pairwise (· < ·)) : Pl.hopsB l = true := by
  refine Pl.hopsB_true fun k hk => ?_
  have g := h1 _ (List.getElem_mem hk)
  rw [← Pl.nm_eq l k hk] at g
  cases k with
  | zero => rw [Pl.hopB_zero]; simpa using g
  | succ m =>
    rw [Pl.hopB_succ]
    have := List.pairwise_iff_getElem.1 h2 m (m + 1) (by omega) hk (by omega)
    rw [← Pl.nm_eq l m (by omega), ← Pl.nm_eq l (m + 1) hk] at this
    simp only [Bool.and_eq_true, decide_eq_true_eq]
    exact ⟨g, this⟩
theorem Pl.hopsB_range {l : List Int} (h : Pl.hopsB l = true) : ∀ x ∈ l, 0 ≤ x ∧ x ≤ 11 := by
  intro x hx
  obtain ⟨i, hi, rfl⟩ := List.getElem_of_mem hx
  have := Pl.hopsB_at h i hi
  unfold Pl.hopB at this
  simp only [Bool.and_eq_true, decide_eq_true_eq] at this
  rw [← Pl.nm_eq l i hi]
  exact this.1
theorem Pl.hopsL_B (h : Nat → Bool) {k : Nat} (hk : k ≤ 12) : Pl.hopsB (Pl.hopsL h k) = true :=
  Pl.hopsB_of (fun x hx => by obtain ⟨j, h1, h2, _⟩ := Pl.mem_hopsL.1 hx; omega) (Pl.hopsL_up h k)
theorem Pl.up_ext : ∀ {a b : List Int}, a.Pairwise (· < ·) → b.Pairwise (· < ·) → (∀ x, x ∈ a ↔ x ∈ b) → a = b
  | [], [], _, _, _ => rfl
  | [], y :: b, _, _, h => absurd ((h y).2 (by simp)) (by simp)
  | x :: a, [], _, _, h => absurd ((h x).1 (by simp)) (by simp)
  | x :: a, y :: b, ha, hb, h => by
    rw [List.pairwise_cons] at ha hb
    have e : x = y := by
      have h1 := (h x).1 (by simp)
      have h2 := (h y).2 (by simp)
      rcases List.mem_cons.1 h1 with h1 | h1
      · exact h1
      · rcases List.mem_cons.1 h2 with h2 | h2
        · exact h2.symm
        · have := hb.1 x h1; have := ha.1 y h2; omega
    subst e
    rw [Pl.up_ext ha.2 hb.2 fun z => ?_]
    constructor
    · intro hz
      rcases List.mem_cons.1 ((h z).1 (by simp [hz])) with g | g
      · have := ha.1 z hz; omega
      · exact g
    · intro hz
      rcases List.mem_cons.1 ((h z).2 (by simp [hz])) with g | g
      · have := hb.1 z hz; omega
      · exact g

def Pl.unite (a b : List Int) : List Int := Pl.hopsL (fun k => decide ((k : Int) ∈ a) || decide ((k : Int) ∈ b)) 12
theorem Pl.mem_unite {a b : List Int} {x : Int} (ha : ∀ x ∈ a, 0 ≤ x ∧ x ≤ 11) (hb : ∀ x ∈ b, 0 ≤ x ∧ x ≤ 11) : x ∈ Pl.unite a b ↔ x ∈ a ∨ x ∈ b := by
  unfold Pl.unite
  rw [Pl.mem_hopsL]
  constructor
  · rintro ⟨j, _, rfl, h⟩; simpa using h
  · intro h
    have hx : 0 ≤ x ∧ x ≤ 11 := h.elim (ha x) (hb x)
    refine ⟨x.toNat, by omega, by omega, ?_⟩
    rw [show ((x.toNat : Nat) : Int) = x by omega]
    simpa using h
def Pl.bestR (a b : Pl.Rt) : Pl.Rt := if b.cost < a.cost then b else if b.cost = a.cost then ⟨a.p, a.here, a.cost, Pl.unite a.hops b.hops⟩ else a
def Pl.offX (rs : List Pl.Rt) (r : Pl.Rt) : Pl.Rt := if Pl.thereP (rs.map Pl.Rt.p) r.p then Pl.bestR (Pl.rt rs (Pl.posP (rs.map Pl.Rt.p) r.p)) r else r
def Pl.offR (rs : List Pl.Rt) (r : Pl.Rt) : List Pl.Rt := Pl.insR rs (Pl.offX rs r)
def Pl.getR : List Pl.Rt → Int × Int → Option Pl.Rt
  | [], _ => none
  | e :: r, q => if e.p = q then some e else Pl.getR r q
theorem Pl.getR_none {rs : List Pl.Rt} {q : Int × Int} (h : ∀ r ∈ rs, ¬ r.p = q) : Pl.getR rs q = none := by
  induction rs with
  | nil => rfl
  | cons e r ih => unfold Pl.getR; rw [if_neg (h e (by simp))]; exact ih fun x hx => h x (by simp [hx])
theorem Pl.getR_some {rs : List Pl.Rt} {q : Int × Int} {x : Pl.Rt} (h : Pl.getR rs q = some x) : x ∈ rs ∧ x.p = q := by
  induction rs with
  | nil => cases h
  | cons e r ih =>
    unfold Pl.getR at h
    split at h
    · rename_i g; cases h; exact ⟨by simp, g⟩
    · obtain ⟨h1, h2⟩ := ih h; exact ⟨by simp [h1], h2⟩
theorem Pl.getR_mem {rs : List Pl.Rt} (hs : Pl.SrtR rs) {x : Pl.Rt} (h : x ∈ rs) : Pl.getR rs x.p = some x := by
  induction rs with
  | nil => simp at h
  | cons e r ih =>
    unfold Pl.SrtR at hs ih
    rw [List.pairwise_cons] at hs
    unfold Pl.getR
    rcases List.mem_cons.1 h with rfl | h
    · rw [if_pos rfl]
    · rw [if_neg (Pl.pltB_ne (hs.1 x h))]; exact ih hs.2 h
theorem Pl.getR_there {rs : List Pl.Rt} (hs : Pl.SrtR rs) (q : Int × Int) : Pl.getR rs q = if Pl.thereP (rs.map Pl.Rt.p) q then some (Pl.rt rs (Pl.posP (rs.map Pl.Rt.p) q)) else none := by
  induction rs with
  | nil => simp [Pl.getR, Pl.thereP]
  | cons e r ih =>
    unfold Pl.SrtR at hs ih
    rw [List.pairwise_cons] at hs
    unfold Pl.getR
    cases h : Pl.pltB e.p q
    · rw [List.map_cons, Pl.thereP_cons_ge h]
      by_cases g : e.p = q
      · simp [g, Pl.posP, Pl.pltB_irrefl, Pl.rt]
      · rw [if_neg g, if_neg (by simpa using g)]
        refine Pl.getR_none fun x hx e' => ?_
        have := hs.1 x hx
        rw [e', h] at this; cases this
    · rw [if_neg (Pl.pltB_ne h), List.map_cons, Pl.thereP_cons_lt h, ih hs.2]
      simp [Pl.posP, h, Pl.rt_cons_succ]
theorem Pl.getR_ins {rs : List Pl.Rt} (hs : Pl.SrtR rs) (x : Pl.Rt) (q : Int × Int) : Pl.getR (Pl.insR rs x) q = if x.p = q then some x else Pl.getR rs q := by
  induction rs with
  | nil => simp [Pl.insR, Pl.getR]
  | cons e r ih =>
    unfold Pl.SrtR at hs ih
    rw [List.pairwise_cons] at hs
    unfold Pl.insR
    split
    · rename_i h
      unfold Pl.getR
      rw [ih hs.2]
      by_cases g : e.p = q
      · rw [if_pos g, if_pos g, if_neg (by intro e'; exact Pl.pltB_ne h (g.trans e'.symm))]
      · rw [if_neg g, if_neg g]
    · split
      · rename_i h1 h2
        unfold Pl.getR
        rw [h2]
        by_cases g : x.p = q
        · rw [if_pos g, if_pos g]
        · rw [if_neg g, if_neg g, if_neg g]
      · rfl
theorem Pl.srtR_ext : ∀ {a b : List Pl.Rt}, Pl.SrtR a → Pl.SrtR b → (∀ q, Pl.getR a q = Pl.getR b q) → a = b
  | [], [], _, _, _ => rfl
  | [], y :: b, _, _, h => by have := h y.p; simp [Pl.getR] at this
  | x :: a, [], _, _, h => by have := h x.p; simp [Pl.getR] at this
  | x :: a, y :: b, ha, hb, h => by
    have hx := h x.p
    have hy := h y.p
    have hx1 : Pl.getR (x :: a) x.p = some x := by simp [Pl.getR]
    have hy1 : Pl.getR (y :: b) y.p = some y := by simp [Pl.getR]
    have hxb := Pl.getR_some (hx.symm.trans hx1)
    have hya := Pl.getR_some (hy.trans hy1)
    unfold Pl.SrtR at ha hb
    rw [List.pairwise_cons] at ha hb
    have e : x = y := by
      rcases List.mem_cons.1 hxb.1 with g | g
      · exact g
      · rcases List.mem_cons.1 hya.1 with g2 | g2
        · exact g2.symm
        · have h1 := hb.1 x g
          have h2 := ha.1 y g2
          rw [Pl.pltB_asymm h1] at h2; cases h2
    subst e
    rw [Pl.srtR_ext ha.2 hb.2 fun q => ?_]
    by_cases g : x.p = q
    · subst g
      rw [Pl.getR_none fun r hr e => ?_, Pl.getR_none fun r hr e => ?_]
      · have := hb.1 r hr; rw [e, Pl.pltB_irrefl] at this; cases this
      · have := ha.1 r hr; rw [e, Pl.pltB_irrefl] at this; cases this
    · have := h q
      unfold Pl.getR at this
      rwa [if_neg g, if_neg g] at this

theorem Pl.bestR_p {a b : Pl.Rt} (h : a.p = b.p) : (Pl.bestR a b).p = b.p := by
  unfold Pl.bestR
  split
  · rfl
  · split
    · exact h
    · exact h
theorem Pl.offX_p (rs : List Pl.Rt) (r : Pl.Rt) : (Pl.offX rs r).p = r.p := by
  unfold Pl.offX
  split
  · rename_i h
    refine Pl.bestR_p ?_
    have h1 := Pl.thereP_eq h
    have h2 := Pl.thereP_lt h
    rw [Pl.pr_map rs _ (by simpa using h2)] at h1
    exact h1
  · rfl
def Pl.more (o : Option Pl.Rt) (r : Pl.Rt) : Pl.Rt := match o with | none => r | some a => Pl.bestR a r
theorem Pl.offX_more {rs : List Pl.Rt} (hs : Pl.SrtR rs) (r : Pl.Rt) : Pl.offX rs r = Pl.more (Pl.getR rs r.p) r := by
  unfold Pl.offX Pl.more
  rw [Pl.getR_there hs]
  split
  · rfl
  · rfl
theorem Pl.offR_srt {rs : List Pl.Rt} (hs : Pl.SrtR rs) (r : Pl.Rt) : Pl.SrtR (Pl.offR rs r) := Pl.insR_srt hs
theorem Pl.getR_off {rs : List Pl.Rt} (hs : Pl.SrtR rs) (r : Pl.Rt) (q : Int × Int) : Pl.getR (Pl.offR rs r) q = if r.p = q then some (Pl.more (Pl.getR rs q) r) else Pl.getR rs q := by
  unfold Pl.offR
  rw [Pl.getR_ins hs, Pl.offX_p]
  split
  · rename_i h; rw [Pl.offX_more hs, h]
  · rfl
theorem Pl.offR_len (rs : List Pl.Rt) (r : Pl.Rt) : (Pl.offR rs r).length ≤ rs.length + 1 := by
  unfold Pl.offR
  rw [Pl.insR_len]; split <;> omega

def Pl.mkR (C : Nat → Int) (H : Nat → List Int) (node n : Nat) (p : Int × Int) : Pl.Rt := ⟨p, decide ((n : Int) = (node : Int)), C n, H n⟩
def Pl.offs (C : Nat → Int) (H : Nat → List Int) (node n : Nat) (rs : List Pl.Rt) (ps : List (Int × Int)) : List Pl.Rt := ps.foldl (fun rs p => Pl.offR rs (Pl.mkR C H node n p)) rs
def Pl.tabK (C : Nat → Int) (H : Nat → List Int) (P : Nat → List (Int × Int)) (node : Nat) : Nat → List Pl.Rt
  | 0 => []
  | k + 1 => if C k < 0 then Pl.tabK C H P node k else Pl.offs C H node k (Pl.tabK C H P node k) (P k)
def Pl.getT (C : Nat → Int) (H : Nat → List Int) (P : Nat → List (Int × Int)) (node : Nat) (q : Int × Int) : Nat → Option Pl.Rt
  | 0 => none
  | k + 1 => if C k < 0 ∨ ¬ q ∈ P k then Pl.getT C H P node q k else some (Pl.more (Pl.getT C H P node q k) (Pl.mkR C H node k q))
theorem Pl.offs_srt (C H node n) : ∀ (ps : List (Int × Int)) (rs : List Pl.Rt), Pl.SrtR rs → Pl.SrtR (Pl.offs C H node n rs ps)
  | [], _, h => h
  | _ :: ps, _, h => Pl.offs_srt C H node n ps _ (Pl.offR_srt h _)
theorem Pl.offs_len (C H node n) : ∀ (ps : List (Int × Int)) (rs : List Pl.Rt), (Pl.offs C H node n rs ps).length ≤ rs.length + ps.length
  | [], _ => by simp [Pl.offs]
  | p :: ps, rs => by
    have h1 := Pl.offs_len C H node n ps (Pl.offR rs (Pl.mkR C H node n p))
    have h2 := Pl.offR_len rs (Pl.mkR C H node n p)
    show (Pl.offs C H node n (Pl.offR rs (Pl.mkR C H node n p)) ps).length ≤ _
    simp only [List.length_cons]; omega
theorem Pl.offs_get (C H node n) (q : Int × Int) : ∀ (ps : List (Int × Int)) (rs : List Pl.Rt), Pl.SrtR rs → ps.Nodup → Pl.getR (Pl.offs C H node n rs ps) q = if q ∈ ps then some (Pl.more (Pl.getR rs q) (Pl.mkR C H node n q)) else Pl.getR rs q
  | [], rs, _, _ => by simp [Pl.offs]
  | p :: ps, rs, h, hn => by
    rw [List.nodup_cons] at hn
    show Pl.getR (Pl.offs C H node n (Pl.offR rs (Pl.mkR C H node n p)) ps) q = _
    rw [Pl.offs_get C H node n q ps _ (Pl.offR_srt h _) hn.2, Pl.getR_off h]
    show (if q ∈ ps then some (Pl.more (if p = q then _ else _) _) else if p = q then _ else _) = _
    by_cases g : p = q
    · subst g
      rw [if_neg hn.1, if_pos rfl, if_pos (by simp)]
    · simp only [if_neg g]
      by_cases g2 : q ∈ ps
      · rw [if_pos g2, if_pos (by simp [g2])]
      · rw [if_neg g2, if_neg (by simp [g2, Ne.symm g])]
theorem Pl.tabK_srt (C H P node) : ∀ k, Pl.SrtR (Pl.tabK C H P node k)
  | 0 => List.Pairwise.nil
  | k + 1 => by
    unfold Pl.tabK
    split
    · exact Pl.tabK_srt C H P node k
    · exact Pl.offs_srt _ _ _ _ _ _ (Pl.tabK_srt C H P node k)
theorem Pl.tabK_len {C H P node} (hP : ∀ i, (P i).length ≤ 6) : ∀ k, (Pl.tabK C H P node k).length ≤ k * 6
  | 0 => by simp [Pl.tabK]
  | k + 1 => by
    have h1 := Pl.tabK_len (C := C) (H := H) (node := node) hP k
    unfold Pl.tabK
    split
    · omega
    · have := Pl.offs_len C H node k (P k) (Pl.tabK C H P node k)
      have := hP k
      omega
theorem Pl.tabK_get {C H P node} (hP : ∀ i, (P i).Nodup) (q : Int × Int) : ∀ k, Pl.getR (Pl.tabK C H P node k) q = Pl.getT C H P node q k
  | 0 => rfl
  | k + 1 => by
    have h1 := Pl.tabK_get (C := C) (H := H) (node := node) hP q k
    unfold Pl.tabK Pl.getT
    by_cases g : C k < 0
    · rw [if_pos g, if_pos (.inl g)]; exact h1
    · rw [if_neg g, Pl.offs_get C H node k q _ _ (Pl.tabK_srt C H P node k) (hP k), h1]
      by_cases g2 : q ∈ P k
      · rw [if_pos g2, if_neg (by simp [g2]; omega)]
      · rw [if_neg g2, if_pos (.inr g2)]

def Pl.okR (r : Pl.Rt) : Prop := Pl.routeB r = true ∧ r.here = decide (r.cost = 0)
theorem Pl.routeB_iff (r : Pl.Rt) : Pl.routeB r = true ↔ Pl.pfx1 r.p = 0 ∧ (0 ≤ r.cost ∧ r.cost ≤ 1048576) ∧ (if r.here then r.cost = 0 ∧ r.hops = [] else r.hops ≠ []) ∧ Pl.hopsB r.hops = true := by
  unfold Pl.routeB
  cases r.here <;> simp [and_assoc]
theorem Pl.bestR_ok {a b : Pl.Rt} (ha : Pl.okR a) (hb : Pl.okR b) : Pl.okR (Pl.bestR a b) := by
  unfold Pl.bestR
  split
  · exact hb
  · split
    · rename_i h1 h2
      obtain ⟨ha1, ha2⟩ := ha
      obtain ⟨hb1, hb2⟩ := hb
      rw [Pl.routeB_iff] at ha1 hb1
      obtain ⟨a1, a2, a3, a4⟩ := ha1
      obtain ⟨b1, b2, b3, b4⟩ := hb1
      refine ⟨(Pl.routeB_iff _).2 ⟨a1, a2, ?_, Pl.hopsL_B _ (Nat.le_refl _)⟩, ha2⟩
      show if a.here then a.cost = 0 ∧ Pl.unite a.hops b.hops = [] else Pl.unite a.hops b.hops ≠ []
      cases hh : a.here
      · rw [hh] at a3
        simp only [Bool.false_eq_true, if_false] at a3 ⊢
        intro e
        obtain ⟨x, xs, hx⟩ : ∃ x xs, a.hops = x :: xs := by
          cases hq : a.hops with
          | nil => exact absurd hq a3
          | cons x xs => exact ⟨x, xs, rfl⟩
        have : x ∈ Pl.unite a.hops b.hops := (Pl.mem_unite (Pl.hopsB_range a4) (Pl.hopsB_range b4)).2 (.inl (by rw [hx]; simp))
        rw [e] at this; simp at this
      · rw [hh] at a3
        simp only [if_true] at a3 ⊢
        have hbh : b.here = true := by rw [hb2, h2, ← ha2, hh]
        rw [hbh] at b3
        simp only [if_true] at b3
        refine ⟨a3.1, ?_⟩
        rw [a3.2, b3.2]; decide
    · exact ha
theorem Pl.more_ok {o : Option Pl.Rt} {r : Pl.Rt} (ho : ∀ a, o = some a → Pl.okR a) (hr : Pl.okR r) : Pl.okR (Pl.more o r) := by
  cases o with
  | none => exact hr
  | some a => exact Pl.bestR_ok (ho a rfl) hr
def Pl.WP (C : Nat → Int) (H : Nat → List Int) (P : Nat → List (Int × Int)) (node : Nat) : Prop := ∀ n, n < 12 → 0 ≤ C n → ∀ p ∈ P n, Pl.okR (Pl.mkR C H node n p)
theorem Pl.getT_ok {C H P node} (h : Pl.WP C H P node) (q : Int × Int) : ∀ k, k ≤ 12 → ∀ a, Pl.getT C H P node q k = some a → Pl.okR a ∧ a.p = q
  | 0, _, a, e => by cases e
  | k + 1, hk, a, e => by
    have ih := Pl.getT_ok h q k (by omega)
    unfold Pl.getT at e
    split at e
    · exact ih a e
    · rename_i g
      cases e
      have g1 : 0 ≤ C k := by omega
      have g2 : q ∈ P k := Decidable.byContradiction fun h => g (.inr h)
      refine ⟨Pl.more_ok (fun a ha => (ih a ha).1) (h k (by omega) g1 q g2), ?_⟩
      cases ho : Pl.getT C H P node q k with
      | none => rfl
      | some b => exact Pl.bestR_p ((ih b ho).2)
theorem Pl.tabK_good {C H P node} (h : Pl.WP C H P node) (hn : ∀ i, (P i).Nodup) (hl : ∀ i, (P i).length ≤ 6) (k : Nat) (hk : k ≤ 12) : Pl.GoodT (Pl.tabK C H P node k) ∧ ∀ r ∈ Pl.tabK C H P node k, Pl.okR r := by
  have hok : ∀ r ∈ Pl.tabK C H P node k, Pl.okR r := by
    intro r hr
    have h1 := Pl.getR_mem (Pl.tabK_srt C H P node k) hr
    rw [Pl.tabK_get hn] at h1
    exact (Pl.getT_ok h r.p k hk r h1).1
  exact ⟨⟨by have := Pl.tabK_len (C := C) (H := H) (node := node) hl k; omega, fun r hr => (hok r hr).1, Pl.tabK_srt C H P node k⟩, hok⟩
end Go.Proofs.YtjjelkdajdeikaaGreatDoor
