/-
  Plain definitions and facts: what is found in a table, what parts two tables, a table that is patched; no program in sight.
-/
import Derived.Test.YtcdobhdbafpkiaeRibP
namespace Go.Proofs.Ytcdobhdbafpkiae.Pl

/-- the prefix of so many bits to which an address belongs -/
def pfxAt (addr : Int) (bits : Nat) : Int × Int := (addr - addr % span bits, bits)
/-- the place of what is found, of so many bits and fewer -/
def lookN (ps : List (Int × Int)) (addr : Int) : Nat → Option Nat
  | 0 => none
  | n + 1 => if thereP ps (pfxAt addr n) then some (posP ps (pfxAt addr n)) else lookN ps addr n
theorem lookN_lt {ps : List (Int × Int)} {addr : Int} : ∀ {n i : Nat}, lookN ps addr n = some i → i < ps.length
  | 0, i, h => by simp [lookN] at h
  | n + 1, i, h => by
    unfold lookN at h
    split at h
    · rename_i ht
      cases h
      exact thereP_lt ht
    · exact lookN_lt h
/-- what is wrong with looking up -/
def lookC (rs : List Rt) (addr : Int) : Int :=
  if tabF rs = 0 then (if 0 ≤ addr ∧ addr ≤ 255 then (match lookN (rs.map Rt.p) addr 9 with | some _ => 0 | none => 6) else 2) else tabF rs
def lookR (rs : List Rt) (addr : Int) : Rt :=
  if tabF rs = 0 then (if 0 ≤ addr ∧ addr ≤ 255 then (match lookN (rs.map Rt.p) addr 9 with | some i => rt rs i | none => Rt.none) else Rt.none) else Rt.none

/-- are two routes of a prefix the same? -/
def sameR (a b : Rt) : Bool := decide (a.here = b.here) && decide (a.cost = b.cost) && decide (a.hops = b.hops)
/-- is a route there, and the same? -/
def keptB (a : List Rt) (r : Rt) : Bool := thereP (a.map Rt.p) r.p && sameR (rt a (posP (a.map Rt.p) r.p)) r
/-- what is to be set, what is to go -/
def setL (a b : List Rt) : List Rt := b.filter fun r => !keptB a r
def goneL (a b : List Rt) : List (Int × Int) := (a.filter fun r => !thereP (b.map Rt.p) r.p).map Rt.p

/-- without the route of a prefix -/
def delR (rs : List Rt) (p : Int × Int) : List Rt := if thereP (rs.map Rt.p) p then rs.take (posP (rs.map Rt.p) p) ++ rs.drop (posP (rs.map Rt.p) p + 1) else rs
def delsR (rs : List Rt) (ps : List (Int × Int)) : List Rt := ps.foldl delR rs
/-- a route comes to its place, instead of that with its prefix -/
def insR : List Rt → Rt → List Rt
  | [], x => [x]
  | e :: r, x => if pltB e.p x.p then e :: insR r x else if e.p = x.p then x :: r else x :: e :: r
def inssR (rs : List Rt) (set : List Rt) : List Rt := set.foldl insR rs
/-- what is laid at a place -/
def layR (rs : List Rt) (i : Nat) (instead : Bool) (x : Rt) : List Rt := rs.take i ++ x :: rs.drop (if instead then i + 1 else i)

/-- in order, as pairs -/
def SrtR (rs : List Rt) : Prop := rs.Pairwise fun a b => pltB a.p b.p = true
theorem ascP_srt (rs : List Rt) : AscP (rs.map Rt.p) ↔ SrtR rs := by
  unfold AscP SrtR
  rw [List.pairwise_iff_getElem]
  constructor
  · intro h i j hi hj hij
    have := h i j hij (by simpa using hj)
    rwa [pr_map rs i hi, pr_map rs j hj, rt_eq rs i hi, rt_eq rs j hj] at this
  · intro h i j hij hj
    simp only [List.length_map] at hj
    have := h i j (by omega) hj hij
    rwa [pr_map rs i (by omega), pr_map rs j hj, rt_eq rs i (by omega), rt_eq rs j hj]
/-- a table that may be -/
def GoodT (rs : List Rt) : Prop := rs.length ≤ 200 ∧ (∀ r ∈ rs, routeB r = true) ∧ SrtR rs
theorem goodT_iff (rs : List Rt) : tabF rs = 0 ↔ GoodT rs := by
  constructor
  · intro h
    obtain ⟨h1, h2, h3⟩ := good_of_tabF h
    refine ⟨h1, fun r hr => ?_, (ascP_srt rs).1 h3⟩
    obtain ⟨i, hi, rfl⟩ := List.getElem_of_mem hr
    rw [← rt_eq rs i hi]; exact h2 i hi
  · rintro ⟨h1, h2, h3⟩
    exact tabF_of_good h1 (fun i hi => h2 _ (rt_mem rs i hi)) ((ascP_srt rs).2 h3)

theorem thereP_cons_lt {e : Int × Int} {r : List (Int × Int)} {p : Int × Int} (h : pltB e p = true) : thereP (e :: r) p = thereP r p := by
  unfold thereP
  simp only [posP, h, if_true, pr_cons_succ, List.length_cons]
  simp
theorem thereP_cons_ge {e : Int × Int} {r : List (Int × Int)} {p : Int × Int} (h : pltB e p = false) : thereP (e :: r) p = decide (e = p) := by
  unfold thereP
  simp [posP, h, pr]
theorem lay_insR : ∀ (rs : List Rt) (x : Rt), layR rs (posP (rs.map Rt.p) x.p) (thereP (rs.map Rt.p) x.p) x = insR rs x
  | [], x => by simp [layR, insR, posP, thereP]
  | e :: r, x => by
    cases h : pltB e.p x.p
    · rw [List.map_cons, thereP_cons_ge h]
      simp only [posP, h, insR, layR]
      by_cases k : e.p = x.p
      · simp [k]
      · simp [k]
    · rw [List.map_cons, thereP_cons_lt h]
      have ih := lay_insR r x
      unfold layR at ih ⊢
      simp only [posP, h, if_true, insR, List.take_succ_cons, List.cons_append]
      rw [← ih]
      cases thereP (r.map Rt.p) x.p <;> simp
theorem mem_insR {rs : List Rt} {x e : Rt} (h : e ∈ insR rs x) : e = x ∨ e ∈ rs := by
  induction rs with
  | nil => simp [insR] at h; exact .inl h
  | cons a r ih =>
    unfold insR at h
    split at h
    · rcases List.mem_cons.1 h with rfl | h
      · exact .inr (by simp)
      · rcases ih h with h | h
        · exact .inl h
        · exact .inr (by simp [h])
    · split at h
      · rcases List.mem_cons.1 h with rfl | h
        · exact .inl rfl
        · exact .inr (by simp [h])
      · rcases List.mem_cons.1 h with rfl | h
        · exact .inl rfl
        · exact .inr h
theorem insR_srt {rs : List Rt} {x : Rt} (h : SrtR rs) : SrtR (insR rs x) := by
  induction rs with
  | nil => simp [SrtR, insR]
  | cons a r ih =>
    unfold SrtR at h ih ⊢
    rw [List.pairwise_cons] at h
    obtain ⟨h1, h2⟩ := h
    unfold insR
    split
    · rename_i hl
      refine List.pairwise_cons.2 ⟨fun e he => ?_, ih h2⟩
      rcases mem_insR he with rfl | he
      · exact hl
      · exact h1 e he
    · rename_i hl
      split
      · rename_i he
        refine List.pairwise_cons.2 ⟨fun e hm => ?_, h2⟩
        rw [← he]; exact h1 e hm
      · rename_i he
        have hlt : pltB x.p a.p = true := by
          cases k : pltB x.p a.p
          · exact absurd (pltB_total (by simpa using hl) k) he
          · rfl
        refine List.pairwise_cons.2 ⟨fun e hm => ?_, List.pairwise_cons.2 ⟨h1, h2⟩⟩
        rcases List.mem_cons.1 hm with rfl | hm
        · exact hlt
        · exact pltB_trans hlt (h1 e hm)
theorem insR_len : ∀ (rs : List Rt) (x : Rt), (insR rs x).length = if thereP (rs.map Rt.p) x.p then rs.length else rs.length + 1
  | [], x => by simp [insR, thereP]
  | e :: r, x => by
    have ih := insR_len r x
    cases h : pltB e.p x.p
    · rw [List.map_cons, thereP_cons_ge h]
      simp only [insR, h]
      by_cases k : e.p = x.p <;> simp [k]
    · rw [List.map_cons, thereP_cons_lt h]
      simp only [insR, h, if_true, List.length_cons, ih]
      cases thereP (r.map Rt.p) x.p <;> simp
theorem insR_len_ge (rs : List Rt) (x : Rt) : rs.length ≤ (insR rs x).length := by
  rw [insR_len]; split <;> omega
theorem inssR_len_ge : ∀ (set rs : List Rt), rs.length ≤ (inssR rs set).length
  | [], _ => Nat.le_refl _
  | x :: r, rs => Nat.le_trans (insR_len_ge rs x) (inssR_len_ge r (insR rs x))
theorem inssR_len_le : ∀ (set rs : List Rt), (inssR rs set).length ≤ rs.length + set.length
  | [], rs => by simp [inssR]
  | x :: r, rs => by
    have h1 := inssR_len_le r (insR rs x)
    have h2 : (insR rs x).length ≤ rs.length + 1 := by rw [insR_len]; split <;> omega
    show (inssR (insR rs x) r).length ≤ _
    simp only [List.length_cons]
    omega
theorem inssR_srt : ∀ (set rs : List Rt), SrtR rs → SrtR (inssR rs set)
  | [], _, h => h
  | _ :: r, _, h => inssR_srt r _ (insR_srt h)

/-- the document's way to lay a route -/
def wR : List Rt → Bool → Rt → List Rt
  | [], done, x => if done then [] else [x]
  | e :: r, done, x => (if !done && !pltB e.p x.p then [x] else []) ++ ((if e.p = x.p then [] else [e]) ++ wR r (done || !pltB e.p x.p) x)
theorem wR_done : ∀ (rs : List Rt) (x : Rt), (∀ e ∈ rs, ¬ e.p = x.p) → wR rs true x = rs
  | [], _, _ => rfl
  | e :: r, x, h => by
    have h0 := h e (by simp)
    simp [wR, h0, wR_done r x (fun e he => h e (by simp [he]))]
theorem wR_insR : ∀ (rs : List Rt) (x : Rt), SrtR rs → wR rs false x = insR rs x
  | [], x, _ => rfl
  | e :: r, x, h => by
    unfold SrtR at h
    rw [List.pairwise_cons] at h
    obtain ⟨h1, h2⟩ := h
    cases hl : pltB e.p x.p
    · have hrest : ∀ a ∈ r, ¬ a.p = x.p := by
        intro a ha he
        have := h1 a ha
        rw [he, hl] at this; cases this
      simp only [wR, insR, hl, Bool.not_false, Bool.and_self, if_true, Bool.or_true]
      rw [wR_done r x hrest]
      by_cases k : e.p = x.p <;> simp [k]
    · have k : ¬ e.p = x.p := pltB_ne hl
      simp [wR, insR, hl, k, wR_insR r x h2]

theorem delR_filter : ∀ (rs : List Rt) (p : Int × Int), SrtR rs → delR rs p = rs.filter fun r => decide (¬ r.p = p)
  | [], p, _ => by simp [delR, thereP]
  | e :: r, p, h => by
    unfold SrtR at h
    rw [List.pairwise_cons] at h
    obtain ⟨h1, h2⟩ := h
    have ih := delR_filter r p h2
    cases hl : pltB e.p p
    · have hrest : ∀ a ∈ r, ¬ a.p = p := by
        intro a ha he
        have := h1 a ha
        rw [he, hl] at this; cases this
      have hall : (r.filter fun r => decide (¬ r.p = p)) = r := List.filter_eq_self.2 fun a ha => by simpa using hrest a ha
      unfold delR
      rw [List.map_cons, thereP_cons_ge hl]
      simp only [posP, hl]
      by_cases k : e.p = p
      · simp only [k, decide_true, if_true]
        rw [List.filter_cons_of_neg (by simp [k]), hall]
        simp
      · simp only [k, decide_false]
        rw [List.filter_cons_of_pos (by simp [k]), hall]
        simp
    · have k : ¬ e.p = p := pltB_ne hl
      rw [List.filter_cons_of_pos (by simp [k]), ← ih]
      unfold delR
      rw [List.map_cons, thereP_cons_lt hl]
      simp only [posP, hl, if_true, List.take_succ_cons, List.drop_succ_cons]
      split <;> simp
theorem filter_srt {rs : List Rt} (f : Rt → Bool) (h : SrtR rs) : SrtR (rs.filter f) := List.Pairwise.filter _ h
theorem delsR_filter : ∀ (ps : List (Int × Int)) (rs : List Rt), SrtR rs → delsR rs ps = rs.filter fun r => decide (¬ r.p ∈ ps)
  | [], rs, _ => by
    simp only [delsR, List.foldl_nil, List.not_mem_nil, not_false_eq_true, decide_true]
    exact (List.filter_eq_self.2 fun _ _ => rfl).symm
  | p :: ps, rs, h => by
    show delsR (delR rs p) ps = _
    rw [delR_filter rs p h, delsR_filter ps _ (filter_srt _ h), List.filter_filter]
    congr 1
    funext r
    rw [Bool.eq_iff_iff]
    simp
    exact And.comm
theorem delsR_srt {rs : List Rt} {ps : List (Int × Int)} (h : SrtR rs) : SrtR (delsR rs ps) := by rw [delsR_filter ps rs h]; exact filter_srt _ h
theorem delsR_len {rs : List Rt} {ps : List (Int × Int)} (h : SrtR rs) : (delsR rs ps).length ≤ rs.length := by rw [delsR_filter ps rs h]; exact List.length_filter_le _ _

/-- what comes of a patch, and what is wrong with it -/
def patR (a set : List Rt) (gone : List (Int × Int)) : List Rt := inssR (delsR a gone) set
def patC (a set : List Rt) (gone : List (Int × Int)) : Int := if tabF a = 0 then tabF (patR a set gone) else tabF a
def patL (a set : List Rt) (gone : List (Int × Int)) : List Rt := if tabF a = 0 then (if tabF (patR a set gone) = 0 then patR a set gone else []) else []
end Go.Proofs.Ytcdobhdbafpkiae.Pl
