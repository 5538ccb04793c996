/-
  Plain: what can be read is shown as it was.
-/
import Derived.Test.YtcdobhdbafpkiadDoorBack
namespace Go.Proofs.YtcdobhdbafpkiadDoor
open Go.RowKit
set_option maxRecDepth 20000

theorem Pl.val_pos : ∀ (l : List UInt8), Pl.dgs l = true → l ≠ [] → l.head? ≠ some 48 → 1 ≤ Pl.val l := by
  intro l
  induction h : l.length using Nat.strongRecOn generalizing l with
  | _ n ih =>
    intro hd hne hh
    obtain ⟨a, c, rfl⟩ : ∃ a c, l = a ++ [c] := ⟨l.dropLast, l.getLast hne, (List.dropLast_concat_getLast hne).symm⟩
    rw [Pl.dgs_snoc, Bool.and_eq_true] at hd
    have hc := of_decide_eq_true hd.2
    rw [Pl.val_snoc]
    cases a with
    | nil =>
      have : c ≠ 48 := by intro e; subst e; exact hh rfl
      have : (c.toNat : Int) ≠ 48 := by
        intro e; apply this; apply UInt8.toNat_inj.1; show _ = 48; omega
      simp [Pl.val]; omega
    | cons x r =>
      have := ih (x :: r).length (by rw [← h]; simp) (x :: r) rfl hd.1 (by simp) (by simpa using hh)
      omega
theorem Pl.dec_val : ∀ (l : List UInt8), Pl.dgs l = true → l ≠ [] → (l.head? ≠ some 48 ∨ l.length = 1) → Lib.decDigits (Pl.val l).toNat = l := by
  intro l
  induction h : l.length using Nat.strongRecOn generalizing l with
  | _ n ih =>
    intro hd hne hh
    obtain ⟨a, c, rfl⟩ : ∃ a c, l = a ++ [c] := ⟨l.dropLast, l.getLast hne, (List.dropLast_concat_getLast hne).symm⟩
    rw [Pl.dgs_snoc, Bool.and_eq_true] at hd
    have hc := of_decide_eq_true hd.2
    obtain ⟨d, hdd⟩ := Int.eq_ofNat_of_zero_le (show 0 ≤ (c.toNat : Int) - 48 by omega)
    have hd10 : d < 10 := by omega
    have hcd : UInt8.ofNat (48 + d) = c := by
      apply UInt8.toNat_inj.1
      rw [UInt8.toNat_ofNat']; omega
    rw [Pl.val_snoc, hdd]
    cases a with
    | nil =>
      have e : (10 * Pl.val [] + (d : Int)).toNat = d := by simp [Pl.val]
      rw [e, Lib.decDigits_one hd10, hcd]; rfl
    | cons x r =>
      have hx : (x :: r).head? ≠ some 48 := by
        rcases hh with h1 | h1
        · simpa using h1
        · rw [← h] at h1; simp at h1
      have hp := Pl.val_pos (x :: r) hd.1 (by simp) hx
      have hi := ih (x :: r).length (by rw [← h]; simp) (x :: r) rfl hd.1 (by simp) (.inl hx)
      obtain ⟨v, hv⟩ := Int.eq_ofNat_of_zero_le (show 0 ≤ Pl.val (x :: r) by omega)
      rw [hv] at hi hp ⊢
      have e : (10 * (v : Int) + (d : Int)).toNat = 10 * v + d := by omega
      rw [e, Lib.decDigits, dif_neg (by omega), show (10 * v + d) / 10 = v by omega, show (10 * v + d) % 10 = d by omega, hcd]
      simp only [Int.toNat_natCast] at hi
      rw [hi]
theorem Pl.num_back2 {l : List UInt8} {n : Int} (h : Pl.numL l = some n) : Lib.decDigits n.toNat = l := by
  unfold Pl.numL at h
  split at h
  · rename_i hh
    obtain ⟨h1, h2, h3, h4, h5⟩ := hh
    cases h
    refine Pl.dec_val l h4 (by intro e; subst e; simp at h1) ?_
    by_cases hx : l.head? = some 48
    · right
      rcases Nat.lt_or_ge 1 l.length with h | h
      · exact absurd ⟨hx, h⟩ h3
      · omega
    · exact .inl hx
  · cases h
theorem Pl.cut_join {c : UInt8} : ∀ {l : List UInt8}, (∀ y, (Pl.cutL c l).2 = some y → l = (Pl.cutL c l).1 ++ c :: y) ∧ ((Pl.cutL c l).2 = none → l = (Pl.cutL c l).1)
  | [] => ⟨by simp [Pl.cutL], by simp [Pl.cutL]⟩
  | b :: r => by
    by_cases e : b = c
    · subst e
      refine ⟨fun y hy => ?_, fun h => ?_⟩
      · simp [Pl.cutL] at hy; subst hy; simp [Pl.cutL]
      · simp [Pl.cutL] at h
    · obtain ⟨i1, i2⟩ := Pl.cut_join (c := c) (l := r)
      rw [Pl.cutL, if_neg e]
      refine ⟨fun y hy => ?_, fun h => ?_⟩
      · rw [List.cons_append, ← i1 y hy]
      · rw [← i2 h]
theorem Pl.pair_text {m : UInt8} {l : List UInt8} {p : Int × Int} (h : Pl.pairL m l = some p) : Lib.decDigits p.1.toNat ++ m :: Lib.decDigits p.2.toNat = l := by
  unfold Pl.pairL at h
  split at h
  · rename_i a b ha hb
    cases h
    cases h2 : (Pl.cutL m l).2 with
    | none => rw [h2] at hb; cases hb
    | some y =>
      rw [h2] at hb
      rw [Pl.num_back2 ha, Pl.num_back2 hb]
      exact ((Pl.cut_join (c := m) (l := l)).1 y h2).symm
  · cases h
theorem Pl.join_parts (n : Nat) : ∀ (l : List UInt8), l.length ≤ n → Pl.parts l ≠ [] ∧ Lib.join (Pl.parts l) [44] = l := by
  induction n with
  | zero =>
    intro l h
    have : l = [] := List.length_eq_zero_iff.1 (by omega)
    subst this
    exact ⟨by decide, by decide⟩
  | succ n ih =>
    intro l h
    obtain ⟨c1, c2⟩ := Pl.cut_join (c := 44) (l := l)
    cases hc : (Pl.cutL 44 l).2 with
    | none =>
      rw [Pl.parts_none hc]
      exact ⟨by simp, by rw [Lib.join_one]; exact (c2 hc).symm⟩
    | some r =>
      have hl := (Pl.cutL_len 44 l).2 r hc
      obtain ⟨i1, i2⟩ := ih r (by omega)
      rw [Pl.parts_some hc]
      refine ⟨by simp, ?_⟩
      cases hp : Pl.parts r with
      | nil => exact absurd hp i1
      | cons y q =>
        rw [hp] at i2
        have e : Lib.join ((Pl.cutL 44 l).1 :: y :: q) [44] = (Pl.cutL 44 l).1 ++ 44 :: Lib.join (y :: q) [44] := by
          rw [Lib.join_cons, Lib.join_cons]
          simp [Lib.joinTail]
        rw [e, i2]
        exact (c1 r hc).symm
theorem Pl.side_list2 (m : UInt8) (p : Int × Int) (h1 : 0 ≤ p.1) (h3 : 0 ≤ p.2) : (Pl.sideT ⟨#[m]⟩ p).data.toList = Lib.decDigits p.1.toNat ++ m :: Lib.decDigits p.2.toNat := by
  obtain ⟨a, ha⟩ := Int.eq_ofNat_of_zero_le h1
  obtain ⟨b, hb⟩ := Int.eq_ofNat_of_zero_le h3
  unfold Pl.sideT
  rw [ByteArray.data_append, ByteArray.data_append, Array.toList_append, Array.toList_append, ha, hb]
  have e1 := Pl.dec_list a
  have e2 := Pl.dec_list b
  rw [e1, e2]
  simp
theorem Pl.pairsP_text {m : UInt8} : ∀ {ls : List (List UInt8)} {ps : List (Int × Int)}, Pl.pairsP m ls = some ps → ps.map (fun p => (Pl.sideT ⟨#[m]⟩ p).data.toList) = ls
  | [], ps, h => by cases h; rfl
  | l :: r, ps, h => by
    rw [Pl.pairsP] at h
    split at h
    · rename_i x y hx hy
      cases h
      have ho := Pl.pairL_ok hx
      rw [List.map_cons, Pl.pairsP_text hy, Pl.side_list2 m x ho.1 ho.2.2.1, Pl.pair_text hx]
    · cases h
/-- what can be read is shown as it was -/
theorem Pl.read_show {m : UInt8} {l : List UInt8} {ps : List (Int × Int)} (h : Pl.pairsL m l = some ps) : (Pl.showT ⟨#[m]⟩ ps).data.toList = l := by
  unfold Pl.pairsL at h
  split at h
  · rename_i hl; cases h; subst hl; rfl
  · have ht := Pl.pairsP_text h
    rw [Pl.showT_list, List.map_map]
    have ef : ((fun x : ByteArray => x.data.toList) ∘ Pl.sideT ⟨#[m]⟩) = fun p => (Pl.sideT ⟨#[m]⟩ p).data.toList := rfl
    rw [ef, ht]
    exact (Pl.join_parts l.length l (Nat.le_refl _)).2
/-- a text that tells of links is what ShowAdj makes of them -/
theorem Pl.adj_show (s : ByteArray) (h : Pl.adjC s.data.toList = 0) : Pl.adjText (Pl.adjD s.data.toList) (Pl.adjS s.data.toList) = s ∧ Pl.adjF (Pl.adjS s.data.toList) = 0 := by
  have hS : Pl.adjS s.data.toList = (Pl.sidesL s.data.toList).getD [] := by unfold Pl.adjS; rw [if_pos h]
  have hD : Pl.adjD s.data.toList = Pl.headB 33 s.data.toList := by unfold Pl.adjD; rw [h]; rfl
  cases hp : Pl.sidesL s.data.toList with
  | none => unfold Pl.adjC at h; rw [hp] at h; cases h
  | some ps =>
    have hF : Pl.adjF ps = 0 := by unfold Pl.adjC at h; rw [hp] at h; exact h
    rw [hS, hp, hD]
    refine ⟨?_, hF⟩
    have hr := Pl.read_show (m := 61) (l := Pl.tailB 33 s.data.toList) hp
    unfold Pl.adjText
    rw [Option.getD_some, if_pos hF]
    apply Pl.ba_eq
    cases hh : Pl.headB 33 s.data.toList with
    | false =>
      unfold Pl.tailB at hr
      rw [hh] at hr
      simpa using hr
    | true =>
      unfold Pl.tailB at hr
      rw [hh] at hr
      simp only [if_true] at hr ⊢
      rw [ByteArray.data_append, Array.toList_append, hr]
      unfold Pl.headB at hh
      cases hl : s.data.toList with
      | nil => rw [hl] at hh; cases hh
      | cons x r =>
        rw [hl] at hh
        simp at hh
        subst hh
        rfl
end Go.Proofs.YtcdobhdbafpkiadDoor
