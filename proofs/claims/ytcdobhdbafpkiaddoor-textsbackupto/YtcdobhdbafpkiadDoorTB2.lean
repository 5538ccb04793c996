/-
  Plain: one side more, one prefix more may be told.
-/
import Derived.Test.YtcdobhdbafpkiadDoorBack2
namespace Go.Proofs.YtcdobhdbafpkiadDoor
open Go.RowKit
set_option maxRecDepth 20000

theorem Pl.adjN_of (ps : List (Int × Int)) : ∀ (n i : Nat), i + n = ps.length → (∀ j, i ≤ j → j < ps.length → Pl.sideB (Pl.pr ps j).1 (Pl.pr ps j).2 = true ∧ (0 < j → (Pl.pr ps (j - 1)).1 < (Pl.pr ps j).1)) → Pl.adjN ps n i = 0
  | 0, _, _, _ => rfl
  | n + 1, i, h, hk => by
    obtain ⟨h1, h2⟩ := hk i (Nat.le_refl _) (by omega)
    rw [Pl.adjN, if_pos h1, if_neg (by rintro ⟨g1, g2⟩; have := h2 g1; omega)]
    exact Pl.adjN_of ps n (i + 1) (by omega) (fun j hj hl => hk j (by omega) hl)
theorem Pl.adjF_snoc {ps : List (Int × Int)} {k c : Int} (h : Pl.adjF ps = 0) (hlt : ∀ p ∈ ps, p.1 < k) (hk : 0 ≤ k ∧ k ≤ 11) (hc : 1 ≤ c ∧ c ≤ 1000) : Pl.adjF (ps ++ [(k, c)]) = 0 := by
  have ho := Pl.adjN_ok ps ps.length 0 (by omega) h
  refine Pl.adjN_of _ _ 0 (by omega) (fun j _ hj => ?_)
  simp at hj
  rcases Nat.lt_or_ge j ps.length with hl | hl
  · rw [Pl.pr_app_lt ps _ j hl, Pl.pr_app_lt ps _ (j - 1) (by omega)]
    exact ho j (by omega) hl
  · obtain rfl : j = ps.length := by omega
    rw [Pl.pr_app_at]
    refine ⟨by unfold Pl.sideB; simp; omega, fun hp => ?_⟩
    rw [Pl.pr_app_lt ps _ _ (by omega)]
    exact hlt _ (Pl.pr_mem ps _ (by omega))
theorem Pl.pfxN_of (ps : List (Int × Int)) : ∀ (n i : Nat), i + n = ps.length → (∀ j, i ≤ j → j < ps.length → Pl.pfx1 (Pl.pr ps j) = 0 ∧ (0 < j → Pl.pfxLow (Pl.pr ps (j - 1)) (Pl.pr ps j) = false)) → Pl.pfxN ps n i = 0
  | 0, _, _, _ => rfl
  | n + 1, i, h, hk => by
    obtain ⟨h1, h2⟩ := hk i (Nat.le_refl _) (by omega)
    rw [Pl.pfxN, if_pos h1, if_neg (by rintro ⟨g1, g2⟩; rw [h2 g1] at g2; cases g2)]
    exact Pl.pfxN_of ps n (i + 1) (by omega) (fun j hj hl => hk j (by omega) hl)
/-- the prefixes that TextsBack makes: 32 times the place, from 3 bits on -/
def Pl.tbP (ps : List (Int × Int)) : Prop := ∀ j, j < ps.length → (Pl.pr ps j).1 = 32 * (j : Int) ∧ 3 ≤ (Pl.pr ps j).2 ∧ (Pl.pr ps j).2 ≤ 8
theorem Pl.tbP_ok {ps : List (Int × Int)} (h : Pl.tbP ps) (hl : ps.length ≤ 6) : Pl.pfxF ps = 0 := by
  rw [Pl.pfxF_from hl]
  refine Pl.pfxN_of ps _ 0 (by omega) (fun j _ hj => ⟨?_, fun hp => ?_⟩)
  · obtain ⟨h1, h2, h3⟩ := h j hj
    rw [Pl.pfx1_in (by omega) (by omega)]
    obtain ⟨t0, t1, t2, t3, t4, t5, t6, t7, t8⟩ := Pl.span_table
    have hb : (Pl.pr ps j).2 = 3 ∨ (Pl.pr ps j).2 = 4 ∨ (Pl.pr ps j).2 = 5 ∨ (Pl.pr ps j).2 = 6 ∨ (Pl.pr ps j).2 = 7 ∨ (Pl.pr ps j).2 = 8 := by omega
    rw [if_pos]
    rcases hb with e | e | e | e | e | e <;> rw [e, h1] <;> (first | rw [t3] | rw [t4] | rw [t5] | rw [t6] | rw [t7] | rw [t8]) <;> omega
  · obtain ⟨h1, h2, h3⟩ := h j hj
    obtain ⟨g1, g2, g3⟩ := h (j - 1) (by omega)
    unfold Pl.pfxLow
    rw [decide_eq_false]
    omega
theorem Pl.tbP_snoc {ps : List (Int × Int)} {b : Int} (h : Pl.tbP ps) (hb : 3 ≤ b ∧ b ≤ 8) : Pl.tbP (ps ++ [(32 * (ps.length : Int), b)]) := by
  intro j hj
  simp at hj
  rcases Nat.lt_or_ge j ps.length with hl | hl
  · rw [Pl.pr_app_lt ps _ j hl]; exact h j hl
  · obtain rfl : j = ps.length := by omega
    rw [Pl.pr_app_at]; exact ⟨rfl, hb⟩
/-- shown, then read, whole -/
theorem Pl.adj_back {d : Bool} {ps : List (Int × Int)} (h : Pl.adjF ps = 0) : Pl.adjC (Pl.adjText d ps).data.toList = 0 ∧ Pl.adjD (Pl.adjText d ps).data.toList = d ∧ Pl.adjS (Pl.adjText d ps).data.toList = ps := by
  obtain ⟨_, hs⟩ := Pl.adjF_ok h
  have hb := Pl.show_back 61 (by decide) (by decide) ps hs
  have hh0 : Pl.headB 33 (Pl.showT ⟨#[61]⟩ ps).data.toList = false := by
    unfold Pl.headB
    cases ps with
    | nil => rfl
    | cons p r =>
      rw [Pl.showT_list, List.map_cons, List.map_cons, Lib.join_cons]
      rw [Pl.side_list 61 p (hs p (by simp))]
      obtain ⟨v1, v2, v3, _, _⟩ := Pl.val_dec p.1.toNat
      cases hd : Lib.decDigits p.1.toNat with
      | nil => exact absurd hd v3
      | cons x q =>
        rw [hd] at v1
        simp only [List.cons_append, List.head?_cons]
        have hx : Pl.dg x = true := by unfold Pl.dgs at v1; rw [List.all_eq_true] at v1; exact v1 x (by simp)
        have : x ≠ 33 := by rintro rfl; exact absurd hx (by decide)
        simpa using this
  have key : ∀ l, Pl.tailB 33 l = (Pl.showT ⟨#[61]⟩ ps).data.toList → Pl.headB 33 l = d → Pl.adjC l = 0 ∧ Pl.adjD l = d ∧ Pl.adjS l = ps := by
    intro l h1 h2
    have hsd : Pl.sidesL l = some ps := by unfold Pl.sidesL; rw [h1]; exact hb
    have hc : Pl.adjC l = 0 := by unfold Pl.adjC; rw [hsd]; exact h
    refine ⟨hc, ?_, ?_⟩
    · unfold Pl.adjD; rw [hc, h2]; rfl
    · unfold Pl.adjS; rw [if_pos hc, hsd]; rfl
  unfold Pl.adjText
  rw [if_pos h]
  cases d with
  | false =>
    refine key _ ?_ hh0
    unfold Pl.tailB
    rw [show (if false = true then (⟨#[33]⟩ : ByteArray) ++ Pl.showT ⟨#[61]⟩ ps else Pl.showT ⟨#[61]⟩ ps) = Pl.showT ⟨#[61]⟩ ps from rfl, hh0]; rfl
  | true =>
    have e : ((if true = true then (⟨#[33]⟩ : ByteArray) ++ Pl.showT ⟨#[61]⟩ ps else Pl.showT ⟨#[61]⟩ ps)).data.toList = 33 :: (Pl.showT ⟨#[61]⟩ ps).data.toList := by
      simp [ByteArray.data_append]
    rw [e]
    exact key _ rfl rfl
theorem Pl.pfx_back {ps : List (Int × Int)} (h : Pl.pfxF ps = 0) : Pl.rpC (Pl.pfxText ps).data.toList = 0 ∧ Pl.rpS (Pl.pfxText ps).data.toList = ps := by
  obtain ⟨_, hs⟩ := Pl.pfxF_ok h
  have hb := Pl.show_back 47 (by decide) (by decide) ps hs
  have ht : Pl.pfxText ps = Pl.showT ⟨#[47]⟩ ps := by unfold Pl.pfxText; rw [if_pos h]
  rw [ht]
  have hc : Pl.rpC (Pl.showT ⟨#[47]⟩ ps).data.toList = 0 := by unfold Pl.rpC; rw [hb]; exact h
  refine ⟨hc, ?_⟩
  unfold Pl.rpS
  rw [if_pos hc, hb]; rfl
theorem Pl.adjText_size {d : Bool} {ps : List (Int × Int)} (h : Pl.adjF ps = 0) : (Pl.adjText d ps).size ≤ 4398046511103 := by
  obtain ⟨h1, h2⟩ := Pl.adjF_ok h
  have h3 := Pl.showT_size ⟨#[61]⟩ ps h2 (by decide)
  unfold Pl.adjText
  rw [if_pos h]
  split
  · rw [ByteArray.size_append]
    have : (⟨#[33]⟩ : ByteArray).size = 1 := rfl
    omega
  · omega
theorem Pl.pfxText_size {ps : List (Int × Int)} (h : Pl.pfxF ps = 0) : (Pl.pfxText ps).size ≤ 4398046511103 := by
  obtain ⟨h1, h2⟩ := Pl.pfxF_ok h
  have h3 := Pl.showT_size ⟨#[47]⟩ ps h2 (by decide)
  unfold Pl.pfxText
  rw [if_pos h]
  omega
end Go.Proofs.YtcdobhdbafpkiadDoor
