/-
  Plain: what is shown is read as it was; what can be read is shown as it was.
-/
import Derived.Test.YtcdobhdbafpkiadDoorPfxTx
import Derived.Test.YtcdobhdbafpkiadDoorReadA
import Derived.Test.YtcdobhdbafpkiadDoorReadP
namespace Go.Proofs.YtcdobhdbafpkiadDoor
open Go.RowKit
set_option maxRecDepth 20000

theorem Pl.dg_of (d : Nat) (h : d < 10) : Pl.dg (UInt8.ofNat (48 + d)) = true ∧ ((UInt8.ofNat (48 + d)).toNat : Int) - 48 = d := by
  have : ((UInt8.ofNat (48 + d)).toNat : Int) = 48 + d := by rw [UInt8.toNat_ofNat']; omega
  unfold Pl.dg
  rw [this]
  exact ⟨decide_eq_true (by omega), by omega⟩
theorem Pl.val_dec : ∀ (n : Nat), Pl.dgs (Lib.decDigits n) = true ∧ Pl.val (Lib.decDigits n) = n ∧ (Lib.decDigits n) ≠ [] ∧ (10 ≤ n → (Lib.decDigits n).head? ≠ some 48) ∧ (0 < n → (Lib.decDigits n).head? ≠ some 48) := by
  intro n
  induction n using Nat.strongRecOn with
  | _ n ih =>
    rw [Lib.decDigits]
    by_cases h : n < 10
    · rw [dif_pos h]
      obtain ⟨h1, h2⟩ := Pl.dg_of n h
      generalize UInt8.ofNat (48 + n) = c at *
      refine ⟨by simp [Pl.dgs, h1], by simp only [Pl.val, List.foldl_cons, List.foldl_nil]; omega, by simp, by omega, fun hp => ?_⟩
      intro e
      simp only [List.head?_cons, Option.some.injEq] at e
      rw [e] at h2
      have : ((48 : UInt8).toNat : Int) = 48 := rfl
      omega
    · rw [dif_neg h]
      obtain ⟨i1, i2, i3, i4, i5⟩ := ih (n / 10) (by omega)
      obtain ⟨h1, h2⟩ := Pl.dg_of (n % 10) (by omega)
      generalize UInt8.ofNat (48 + n % 10) = c at *
      refine ⟨by rw [Pl.dgs_snoc, i1, h1]; rfl, ?_, by simp, ?_, ?_⟩
      · rw [Pl.val_snoc, i2, h2]; omega
      all_goals
        intro _
        have i6 := i5 (by omega)
        cases hd : Lib.decDigits (n / 10) with
        | nil => exact absurd hd i3
        | cons x r => rw [hd] at i6; simpa using i6
theorem Pl.dec_len (n : Nat) (h : n ≤ 100000) : (Lib.decDigits n).length ≤ 6 := by
  rw [Lib.decDigits_length]
  have a1 : ∀ u, u < 10 → Lib.nDigits u ≤ 1 := fun u hu => by rw [Lib.nDigits_small hu]; omega
  have step : ∀ (k : Nat), (∀ u, u < 10 ^ k → Lib.nDigits u ≤ k) → 1 ≤ k → ∀ u, u < 10 ^ (k + 1) → Lib.nDigits u ≤ k + 1 := by
    intro k hk hk1 u hu
    rw [Lib.nDigits]
    split
    · omega
    · have := hk (u / 10) (by rw [Nat.pow_succ] at hu; omega)
      omega
  have a2 := step 1 (by simpa using a1) (by omega)
  have a3 := step 2 a2 (by omega)
  have a4 := step 3 a3 (by omega)
  have a5 := step 4 a4 (by omega)
  have a6 := step 5 a5 (by omega)
  exact a6 n (by omega)
theorem Pl.num_dec (n : Nat) (h : n ≤ 100000) : Pl.numL (Lib.decDigits n) = some (n : Int) := by
  obtain ⟨i1, i2, i3, i4, _⟩ := Pl.val_dec n
  have hl := Pl.dec_len n h
  have h1 : 1 ≤ (Lib.decDigits n).length := by
    cases hd : Lib.decDigits n with
    | nil => exact absurd hd i3
    | cons x r => simp
  rw [Pl.numL_some h1 hl ?_ i1 (by rw [i2]; omega), i2]
  rintro ⟨e, k⟩
  rcases Nat.lt_or_ge n 10 with h10 | h10
  · rw [Lib.decDigits_one h10] at k; simp at k
  · exact i4 h10 e
theorem Pl.dgs_no {l : List UInt8} (h : Pl.dgs l = true) (c : UInt8) (hc : Pl.dg c = false) : c ∉ l := by
  intro hm
  unfold Pl.dgs at h
  rw [List.all_eq_true] at h
  rw [h c hm] at hc; cases hc
theorem Pl.cut_at {c : UInt8} {x y : List UInt8} (h : c ∉ x) : Pl.cutL c (x ++ c :: y) = (x, some y) := by
  have := Pl.cutL_some (c := c) (l := x ++ c :: y) (i := x.length) (by simp) (by simp) (by simpa using h)
  rw [this]; simp
theorem Pl.dec_list (n : Nat) : (Pl.dec (n : Int)).data.toList = Lib.decDigits n := by
  unfold Pl.dec; rw [Lib.itoa_nonneg]
theorem Pl.side_list (m : UInt8) (p : Int × Int) (h : Pl.small p) : (Pl.sideT ⟨#[m]⟩ p).data.toList = Lib.decDigits p.1.toNat ++ m :: Lib.decDigits p.2.toNat := by
  obtain ⟨h1, _, h3, _⟩ := h
  obtain ⟨a, ha⟩ := Int.eq_ofNat_of_zero_le h1
  obtain ⟨b, hb⟩ := Int.eq_ofNat_of_zero_le h3
  unfold Pl.sideT
  rw [ByteArray.data_append, ByteArray.data_append, Array.toList_append, Array.toList_append, ha, hb]
  have e1 := Pl.dec_list a
  have e2 := Pl.dec_list b
  simp only at e1 e2 ⊢
  rw [e1, e2]
  simp
theorem Pl.pair_back (m : UInt8) (hm : Pl.dg m = false) (p : Int × Int) (h : Pl.small p) : Pl.pairL m (Pl.sideT ⟨#[m]⟩ p).data.toList = some p := by
  rw [Pl.side_list m p h]
  obtain ⟨h1, h2, h3, h4⟩ := h
  have hc := Pl.cut_at (c := m) (x := Lib.decDigits p.1.toNat) (y := Lib.decDigits p.2.toNat) (Pl.dgs_no (Pl.val_dec _).1 m hm)
  have e1 := Pl.num_dec p.1.toNat (by omega)
  have e2 := Pl.num_dec p.2.toNat (by omega)
  rw [Pl.pairL_some (a := p.1) (b := p.2) (by rw [hc, e1]; simp; omega) (by rw [hc]; show Pl.numL _ = _; rw [Pl.behind, Option.getD_some, e2]; simp; omega)]
theorem Pl.parts_join : ∀ (xs : List (List UInt8)), xs ≠ [] → (∀ x ∈ xs, (44 : UInt8) ∉ x) → Pl.parts (Lib.join xs [44]) = xs
  | [], h, _ => absurd rfl h
  | [x], _, h => by rw [Lib.join_one, Pl.parts_last (h x (by simp))]
  | x :: y :: r, _, h => by
    have e : Lib.join (x :: y :: r) [44] = x ++ 44 :: Lib.join (y :: r) [44] := by
      rw [Lib.join_cons, Lib.join_cons]
      simp [Lib.joinTail]
    have hc := Pl.cut_at (c := 44) (x := x) (y := Lib.join (y :: r) [44]) (h x (by simp))
    rw [e, Pl.parts_some (r := Lib.join (y :: r) [44]) (by rw [hc]), hc, Pl.parts_join (y :: r) (by simp) (fun z hz => h z (by simp [hz]))]
theorem Pl.pairsP_back (m : UInt8) (hm : Pl.dg m = false) : ∀ (ps : List (Int × Int)), (∀ p ∈ ps, Pl.small p) → Pl.pairsP m (ps.map fun p => (Pl.sideT ⟨#[m]⟩ p).data.toList) = some ps
  | [], _ => rfl
  | p :: r, h => by
    rw [List.map_cons, Pl.pairsP, Pl.pair_back m hm p (h p (by simp)), Pl.pairsP_back m hm r (fun q hq => h q (by simp [hq]))]
theorem Pl.show_back (m : UInt8) (hm : Pl.dg m = false) (hm44 : m ≠ 44) (ps : List (Int × Int)) (h : ∀ p ∈ ps, Pl.small p) : Pl.pairsL m (Pl.showT ⟨#[m]⟩ ps).data.toList = some ps := by
  rw [Pl.showT_list, List.map_map]
  have hx : ∀ x ∈ ps.map (fun p => (Pl.sideT ⟨#[m]⟩ p).data.toList), (44 : UInt8) ∉ x := by
    intro x hx
    simp only [List.mem_map] at hx
    obtain ⟨p, hp, rfl⟩ := hx
    rw [Pl.side_list m p (h p hp)]
    simp only [List.mem_append, List.mem_cons, not_or]
    exact ⟨Pl.dgs_no (Pl.val_dec _).1 44 (by decide), fun e => hm44 e.symm, Pl.dgs_no (Pl.val_dec _).1 44 (by decide)⟩
  cases ps with
  | nil => rfl
  | cons p r =>
    have hj := Pl.parts_join ((p :: r).map (fun p => (Pl.sideT ⟨#[m]⟩ p).data.toList)) (by simp) hx
    have hne : Lib.join ((p :: r).map (fun p => (Pl.sideT ⟨#[m]⟩ p).data.toList)) [44] ≠ [] := by
      rw [List.map_cons, Lib.join_cons, Pl.side_list m p (h p (by simp))]
      simp
    unfold Pl.pairsL
    have ef : ((fun x : ByteArray => x.data.toList) ∘ Pl.sideT ⟨#[m]⟩) = fun p => (Pl.sideT ⟨#[m]⟩ p).data.toList := rfl
    rw [ef, if_neg hne, hj]
    exact Pl.pairsP_back m hm _ h
end Go.Proofs.YtcdobhdbafpkiadDoor
