/-
  Contracts and facts that the proof rests on, put together out of several texts.
-/
import Derived.Test.YtcdobhdbafpkiadDoorAll3
import Derived.Test.YtcdobhdbafpkiadDoorAll1
import Derived.WalkKit
import Derived.Test.YtcdobhdbafpkiadDoorProg
import Derived.WalkLawsBesides
import Derived.WalkSpells
import Derived.Deep.RegionWith
import Derived.Deep.QuietTactic
import Derived.BigQuiet
import Derived.ProofKit
import Derived.OpenShut
import Derived.ShutString
import Derived.ChangeOld
import Derived.Lib.SmallJoins
import Derived.Deep.Slices
import Derived.SizedLaws
/-
  Plain: what is shown is read as it was; what can be read is shown as it was.
-/
namespace Go.Proofs.YtcdobhdbafpkiadDoor
open Go.RowKit
set_option maxRecDepth 20000

theorem Pl.dg_of (d : Nat) (h : d < 10) : Pl.dg (UInt8.ofNat (48 + d)) = true ∧ ((UInt8.ofNat (48 + d)).toNat : Int) - 48 = d := by
  have : ((UInt8.ofNat (48 + d)).toNat : Int) = 48 + d := by rw [UInt8.toNat_ofNat']; omega
  unfold Pl.dg
  rw [this]
  exact ⟨decide_eq_true (by omega), by omega⟩
theorem Pl.val_dec : ∀ (n : Nat), Pl.dgs (Lib.decDigits n) = true ∧ Pl.val (Lib.decDigits n) = n ∧ (Lib.decDigits n) ≠ [] ∧ (10 ≤ n → (Lib.decDigits n).head? ≠ some 48) ∧ (0 < n → (Lib.decDigits n).head? ≠ some 48) := by
  intro n
  induction n using Nat.strongRecOn with
  | _ n ih =>
    rw [Lib.decDigits]
    by_cases h : n < 10
    · rw [dif_pos h]
      obtain ⟨h1, h2⟩ := Pl.dg_of n h
      generalize UInt8.ofNat (48 + n) = c at *
      refine ⟨by simp [Pl.dgs, h1], by simp only [Pl.val, List.foldl_cons, List.foldl_nil]; omega, by simp, by omega, fun hp => ?_⟩
      intro e
      simp only [List.head?_cons, Option.some.injEq] at e
      rw [e] at h2
      have : ((48 : UInt8).toNat : Int) = 48 := rfl
      omega
    · rw [dif_neg h]
      obtain ⟨i1, i2, i3, i4, i5⟩ := ih (n / 10) (by omega)
      obtain ⟨h1, h2⟩ := Pl.dg_of (n % 10) (by omega)
      generalize UInt8.ofNat (48 + n % 10) = c at *
      refine ⟨by rw [Pl.dgs_snoc, i1, h1]; rfl, ?_, by simp, ?_, ?_⟩
      · rw [Pl.val_snoc, i2, h2]; omega
      all_goals
        intro _
        have i6 := i5 (by omega)
        cases hd : Lib.decDigits (n / 10) with
        | nil => exact absurd hd i3
        | cons x r => rw [hd] at i6; simpa using i6
theorem Pl.dec_len (n : Nat) (h : n ≤ 100000) : (Lib.decDigits n).length ≤ 6 := by
  rw [Lib.decDigits_length]
  have a1 : ∀ u, u < 10 → Lib.nDigits u ≤ 1 := fun u hu => by rw [Lib.nDigits_small hu]; omega
  have step : ∀ (k : Nat), (∀ u, u < 10 ^ k → Lib.nDigits u ≤ k) → 1 ≤ k → ∀ u, u < 10 ^ (k + 1) → Lib.nDigits u ≤ k + 1 := by
    intro k hk hk1 u hu
    rw [Lib.nDigits]
    split
    · omega
    · have := hk (u / 10) (by rw [Nat.pow_succ] at hu; omega)
      omega
  have a2 := step 1 (by simpa using a1) (by omega)
  have a3 := step 2 a2 (by omega)
  have a4 := step 3 a3 (by omega)
  have a5 := step 4 a4 (by omega)
  have a6 := step 5 a5 (by omega)
  exact a6 n (by omega)
theorem Pl.num_dec (n : Nat) (h : n ≤ 100000) : Pl.numL (Lib.decDigits n) = some (n : Int) := by
  obtain ⟨i1, i2, i3, i4, _⟩ := Pl.val_dec n
  have hl := Pl.dec_len n h
  have h1 : 1 ≤ (Lib.decDigits n).length := by
    cases hd : Lib.decDigits n with
    | nil => exact absurd hd i3
    | cons x r => simp
  rw [Pl.numL_some h1 hl ?_ i1 (by rw [i2]; omega), i2]
  rintro ⟨e, k⟩
  rcases Nat.lt_or_ge n 10 with h10 | h10
  · rw [Lib.decDigits_one h10] at k; simp at k
  · exact i4 h10 e
theorem Pl.dgs_no {l : List UInt8} (h : Pl.dgs l = true) (c : UInt8) (hc : Pl.dg c = false) : c ∉ l := by
  intro hm
  unfold Pl.dgs at h
  rw [List.all_eq_true] at h
  rw [h c hm] at hc; cases hc
theorem Pl.cut_at {c : UInt8} {x y : List UInt8} (h : c ∉ x) : Pl.cutL c (x ++ c :: y) = (x, some y) := by
  have := Pl.cutL_some (c := c) (l := x ++ c :: y) (i := x.length) (by simp) (by simp) (by simpa using h)
  rw [this]; simp
theorem Pl.dec_list (n : Nat) : (Pl.dec (n : Int)).data.toList = Lib.decDigits n := by
  unfold Pl.dec; rw [Lib.itoa_nonneg]
theorem Pl.side_list (m : UInt8) (p : Int × Int) (h : Pl.small p) : (Pl.sideT ⟨#[m]⟩ p).data.toList = Lib.decDigits p.1.toNat ++ m :: Lib.decDigits p.2.toNat := by
  obtain ⟨h1, _, h3, _⟩ := h
  obtain ⟨a, ha⟩ := Int.eq_ofNat_of_zero_le h1
  obtain ⟨b, hb⟩ := Int.eq_ofNat_of_zero_le h3
  unfold Pl.sideT
  rw [ByteArray.data_append, ByteArray.data_append, Array.toList_append, Array.toList_append, ha, hb]
  have e1 := Pl.dec_list a
  have e2 := Pl.dec_list b
  simp only at e1 e2 ⊢
  rw [e1, e2]
  simp
theorem Pl.pair_back (m : UInt8) (hm : Pl.dg m = false) (p : Int × Int) (h : Pl.small p) : Pl.pairL m (Pl.sideT ⟨#[m]⟩ p).data.toList = some p := by
  rw [Pl.side_list m p h]
  obtain ⟨h1, h2, h3, h4⟩ := h
  have hc := Pl.cut_at (c := m) (x := Lib.decDigits p.1.toNat) (y := Lib.decDigits p.2.toNat) (Pl.dgs_no (Pl.val_dec _).1 m hm)
  have e1 := Pl.num_dec p.1.toNat (by omega)
  have e2 := Pl.num_dec p.2.toNat (by omega)
  rw [Pl.pairL_some (a := p.1) (b := p.2) (by rw [hc, e1]; simp; omega) (by rw [hc]; show Pl.numL _ = _; rw [Pl.behind, Option.getD_some, e2]; simp; omega)]
theorem Pl.parts_join : ∀ (xs : List (List UInt8)), xs ≠ [] → (∀ x ∈ xs, (44 : UInt8) ∉ x) → Pl.parts (Lib.join xs [44]) = xs
  | [], h, _ => absurd rfl h
  | [x], _, h => by rw [Lib.join_one, Pl.parts_last (h x (by simp))]
  | x :: y :: r, _, h => by
    have e : Lib.join (x :: y :: r) [44] = x ++ 44 :: Lib.join (y :: r) [44] := by
      rw [Lib.join_cons, Lib.join_cons]
      simp [Lib.joinTail]
    have hc := Pl.cut_at (c := 44) (x := x) (y := Lib.join (y :: r) [44]) (h x (by simp))
    rw [e, Pl.parts_some (r := Lib.join (y :: r) [44]) (by rw [hc]), hc, Pl.parts_join (y :: r) (by simp) (fun z hz => h z (by simp [hz]))]
theorem Pl.pairsP_back (m : UInt8) (hm : Pl.dg m = false) : ∀ (ps : List (Int × Int)), (∀ p ∈ ps, Pl.small p) → Pl.pairsP m (ps.map fun p => (Pl.sideT ⟨#[m]⟩ p).data.toList) = some ps
  | [], _ => rfl
  | p :: r, h => by
    rw [List.map_cons, Pl.pairsP, Pl.pair_back m hm p (h p (by simp)), Pl.pairsP_back m hm r (fun q hq => h q (by simp [hq]))]
theorem Pl.show_back (m : UInt8) (hm : Pl.dg m = false) (hm44 : m ≠ 44) (ps : List (Int × Int)) (h : ∀ p ∈ ps, Pl.small p) : Pl.pairsL m (Pl.showT ⟨#[m]⟩ ps).data.toList = some ps := by
  rw [Pl.showT_list, List.map_map]
  have hx : ∀ x ∈ ps.map (fun p => (Pl.sideT ⟨#[m]⟩ p).data.toList), (44 : UInt8) ∉ x := by
    intro x hx
    simp only [List.mem_map] at hx
    obtain ⟨p, hp, rfl⟩ := hx
    rw [Pl.side_list m p (h p hp)]
    simp only [List.mem_append, List.mem_cons, not_or]
    exact ⟨Pl.dgs_no (Pl.val_dec _).1 44 (by decide), fun e => hm44 e.symm, Pl.dgs_no (Pl.val_dec _).1 44 (by decide)⟩
  cases ps with
  | nil => rfl
  | cons p r =>
    have hj := Pl.parts_join ((p :: r).map (fun p => (Pl.sideT ⟨#[m]⟩ p).data.toList)) (by simp) hx
    have hne : Lib.join ((p :: r).map (fun p => (Pl.sideT ⟨#[m]⟩ p).data.toList)) [44] ≠ [] := by
      rw [List.map_cons, Lib.join_cons, Pl.side_list m p (h p (by simp))]
      simp
    unfold Pl.pairsL
    have ef : ((fun x : ByteArray => x.data.toList) ∘ Pl.sideT ⟨#[m]⟩) = fun p => (Pl.sideT ⟨#[m]⟩ p).data.toList := rfl
    rw [ef, if_neg hne, hj]
    exact Pl.pairsP_back m hm _ h
end Go.Proofs.YtcdobhdbafpkiadDoor
/-
  Plain: what can be read is shown as it was.
-/
namespace Go.Proofs.YtcdobhdbafpkiadDoor
open Go.RowKit
set_option maxRecDepth 20000

theorem Pl.val_pos : ∀ (l : List UInt8), Pl.dgs l = true → l ≠ [] → l.head? ≠ some 48 → 1 ≤ Pl.val l := by
  intro l
  induction h : l.length using Nat.strongRecOn generalizing l with
  | _ n ih =>
    intro hd hne hh
    obtain ⟨a, c, rfl⟩ : ∃ a c, l = a ++ [c] := ⟨l.dropLast, l.getLast hne, (List.dropLast_concat_getLast hne).symm⟩
    rw [Pl.dgs_snoc, Bool.and_eq_true] at hd
    have hc := of_decide_eq_true hd.2
    rw [Pl.val_snoc]
    cases a with
    | nil =>
      have : c ≠ 48 := by intro e; subst e; exact hh rfl
      have : (c.toNat : Int) ≠ 48 := by
        intro e; apply this; apply UInt8.toNat_inj.1; show _ = 48; omega
      simp [Pl.val]; omega
    | cons x r =>
      have := ih (x :: r).length (by rw [← h]; simp) (x :: r) rfl hd.1 (by simp) (by simpa using hh)
      omega
theorem Pl.dec_val : ∀ (l : List UInt8), Pl.dgs l = true → l ≠ [] → (l.head? ≠ some 48 ∨ l.length = 1) → Lib.decDigits (Pl.val l).toNat = l := by
  intro l
  induction h : l.length using Nat.strongRecOn generalizing l with
  | _ n ih =>
    intro hd hne hh
    obtain ⟨a, c, rfl⟩ : ∃ a c, l = a ++ [c] := ⟨l.dropLast, l.getLast hne, (List.dropLast_concat_getLast hne).symm⟩
    rw [Pl.dgs_snoc, Bool.and_eq_true] at hd
    have hc := of_decide_eq_true hd.2
    obtain ⟨d, hdd⟩ := Int.eq_ofNat_of_zero_le (show 0 ≤ (c.toNat : Int) - 48 by omega)
    have hd10 : d < 10 := by omega
    have hcd : UInt8.ofNat (48 + d) = c := by
      apply UInt8.toNat_inj.1
      rw [UInt8.toNat_ofNat']; omega
    rw [Pl.val_snoc, hdd]
    cases a with
    | nil =>
      have e : (10 * Pl.val [] + (d : Int)).toNat = d := by simp [Pl.val]
      rw [e, Lib.decDigits_one hd10, hcd]; rfl
    | cons x r =>
      have hx : (x :: r).head? ≠ some 48 := by
        rcases hh with h1 | h1
        · simpa using h1
        · rw [← h] at h1; simp at h1
      have hp := Pl.val_pos (x :: r) hd.1 (by simp) hx
      have hi := ih (x :: r).length (by rw [← h]; simp) (x :: r) rfl hd.1 (by simp) (.inl hx)
      obtain ⟨v, hv⟩ := Int.eq_ofNat_of_zero_le (show 0 ≤ Pl.val (x :: r) by omega)
      rw [hv] at hi hp ⊢
      have e : (10 * (v : Int) + (d : Int)).toNat = 10 * v + d := by omega
      rw [e, Lib.decDigits, dif_neg (by omega), show (10 * v + d) / 10 = v by omega, show (10 * v + d) % 10 = d by omega, hcd]
      simp only [Int.toNat_natCast] at hi
      rw [hi]
theorem Pl.num_back2 {l : List UInt8} {n : Int} (h : Pl.numL l = some n) : Lib.decDigits n.toNat = l := by
  unfold Pl.numL at h
  split at h
  · rename_i hh
    obtain ⟨h1, h2, h3, h4, h5⟩ := hh
    cases h
    refine Pl.dec_val l h4 (by intro e; subst e; simp at h1) ?_
    by_cases hx : l.head? = some 48
    · right
      rcases Nat.lt_or_ge 1 l.length with h | h
      · exact absurd ⟨hx, h⟩ h3
      · omega
    · exact .inl hx
  · cases h
theorem Pl.cut_join {c : UInt8} : ∀ {l : List UInt8}, (∀ y, (Pl.cutL c l).2 = some y → l = (Pl.cutL c l).1 ++ c :: y) ∧ ((Pl.cutL c l).2 = none → l = (Pl.cutL c l).1)
  | [] => ⟨by simp [Pl.cutL], by simp [Pl.cutL]⟩
  | b :: r => by
    by_cases e : b = c
    · subst e
      refine ⟨fun y hy => ?_, fun h => ?_⟩
      · simp [Pl.cutL] at hy; subst hy; simp [Pl.cutL]
      · simp [Pl.cutL] at h
    · obtain ⟨i1, i2⟩ := Pl.cut_join (c := c) (l := r)
      rw [Pl.cutL, if_neg e]
      refine ⟨fun y hy => ?_, fun h => ?_⟩
      · rw [List.cons_append, ← i1 y hy]
      · rw [← i2 h]
theorem Pl.pair_text {m : UInt8} {l : List UInt8} {p : Int × Int} (h : Pl.pairL m l = some p) : Lib.decDigits p.1.toNat ++ m :: Lib.decDigits p.2.toNat = l := by
  unfold Pl.pairL at h
  split at h
  · rename_i a b ha hb
    cases h
    cases h2 : (Pl.cutL m l).2 with
    | none => rw [h2] at hb; cases hb
    | some y =>
      rw [h2] at hb
      rw [Pl.num_back2 ha, Pl.num_back2 hb]
      exact ((Pl.cut_join (c := m) (l := l)).1 y h2).symm
  · cases h
theorem Pl.join_parts (n : Nat) : ∀ (l : List UInt8), l.length ≤ n → Pl.parts l ≠ [] ∧ Lib.join (Pl.parts l) [44] = l := by
  induction n with
  | zero =>
    intro l h
    have : l = [] := List.length_eq_zero_iff.1 (by omega)
    subst this
    exact ⟨by decide, by decide⟩
  | succ n ih =>
    intro l h
    obtain ⟨c1, c2⟩ := Pl.cut_join (c := 44) (l := l)
    cases hc : (Pl.cutL 44 l).2 with
    | none =>
      rw [Pl.parts_none hc]
      exact ⟨by simp, by rw [Lib.join_one]; exact (c2 hc).symm⟩
    | some r =>
      have hl := (Pl.cutL_len 44 l).2 r hc
      obtain ⟨i1, i2⟩ := ih r (by omega)
      rw [Pl.parts_some hc]
      refine ⟨by simp, ?_⟩
      cases hp : Pl.parts r with
      | nil => exact absurd hp i1
      | cons y q =>
        rw [hp] at i2
        have e : Lib.join ((Pl.cutL 44 l).1 :: y :: q) [44] = (Pl.cutL 44 l).1 ++ 44 :: Lib.join (y :: q) [44] := by
          rw [Lib.join_cons, Lib.join_cons]
          simp [Lib.joinTail]
        rw [e, i2]
        exact (c1 r hc).symm
theorem Pl.side_list2 (m : UInt8) (p : Int × Int) (h1 : 0 ≤ p.1) (h3 : 0 ≤ p.2) : (Pl.sideT ⟨#[m]⟩ p).data.toList = Lib.decDigits p.1.toNat ++ m :: Lib.decDigits p.2.toNat := by
  obtain ⟨a, ha⟩ := Int.eq_ofNat_of_zero_le h1
  obtain ⟨b, hb⟩ := Int.eq_ofNat_of_zero_le h3
  unfold Pl.sideT
  rw [ByteArray.data_append, ByteArray.data_append, Array.toList_append, Array.toList_append, ha, hb]
  have e1 := Pl.dec_list a
  have e2 := Pl.dec_list b
  rw [e1, e2]
  simp
theorem Pl.pairsP_text {m : UInt8} : ∀ {ls : List (List UInt8)} {ps : List (Int × Int)}, Pl.pairsP m ls = some ps → ps.map (fun p => (Pl.sideT ⟨#[m]⟩ p).data.toList) = ls
  | [], ps, h => by cases h; rfl
  | l :: r, ps, h => by
    rw [Pl.pairsP] at h
    split at h
    · rename_i x y hx hy
      cases h
      have ho := Pl.pairL_ok hx
      rw [List.map_cons, Pl.pairsP_text hy, Pl.side_list2 m x ho.1 ho.2.2.1, Pl.pair_text hx]
    · cases h
/-- what can be read is shown as it was -/
theorem Pl.read_show {m : UInt8} {l : List UInt8} {ps : List (Int × Int)} (h : Pl.pairsL m l = some ps) : (Pl.showT ⟨#[m]⟩ ps).data.toList = l := by
  unfold Pl.pairsL at h
  split at h
  · rename_i hl; cases h; subst hl; rfl
  · have ht := Pl.pairsP_text h
    rw [Pl.showT_list, List.map_map]
    have ef : ((fun x : ByteArray => x.data.toList) ∘ Pl.sideT ⟨#[m]⟩) = fun p => (Pl.sideT ⟨#[m]⟩ p).data.toList := rfl
    rw [ef, ht]
    exact (Pl.join_parts l.length l (Nat.le_refl _)).2
/-- a text that tells of links is what ShowAdj makes of them -/
theorem Pl.adj_show (s : ByteArray) (h : Pl.adjC s.data.toList = 0) : Pl.adjText (Pl.adjD s.data.toList) (Pl.adjS s.data.toList) = s ∧ Pl.adjF (Pl.adjS s.data.toList) = 0 := by
  have hS : Pl.adjS s.data.toList = (Pl.sidesL s.data.toList).getD [] := by unfold Pl.adjS; rw [if_pos h]
  have hD : Pl.adjD s.data.toList = Pl.headB 33 s.data.toList := by unfold Pl.adjD; rw [h]; rfl
  cases hp : Pl.sidesL s.data.toList with
  | none => unfold Pl.adjC at h; rw [hp] at h; cases h
  | some ps =>
    have hF : Pl.adjF ps = 0 := by unfold Pl.adjC at h; rw [hp] at h; exact h
    rw [hS, hp, hD]
    refine ⟨?_, hF⟩
    have hr := Pl.read_show (m := 61) (l := Pl.tailB 33 s.data.toList) hp
    unfold Pl.adjText
    rw [Option.getD_some, if_pos hF]
    apply Pl.ba_eq
    cases hh : Pl.headB 33 s.data.toList with
    | false =>
      unfold Pl.tailB at hr
      rw [hh] at hr
      simpa using hr
    | true =>
      unfold Pl.tailB at hr
      rw [hh] at hr
      simp only [if_true] at hr ⊢
      rw [ByteArray.data_append, Array.toList_append, hr]
      unfold Pl.headB at hh
      cases hl : s.data.toList with
      | nil => rw [hl] at hh; cases hh
      | cons x r =>
        rw [hl] at hh
        simp at hh
        subst hh
        rfl
end Go.Proofs.YtcdobhdbafpkiadDoor
/-
  Plain: one side more, one prefix more may be told.
-/
namespace Go.Proofs.YtcdobhdbafpkiadDoor
open Go.RowKit
set_option maxRecDepth 20000

theorem Pl.adjN_of (ps : List (Int × Int)) : ∀ (n i : Nat), i + n = ps.length → (∀ j, i ≤ j → j < ps.length → Pl.sideB (Pl.pr ps j).1 (Pl.pr ps j).2 = true ∧ (0 < j → (Pl.pr ps (j - 1)).1 < (Pl.pr ps j).1)) → Pl.adjN ps n i = 0
  | 0, _, _, _ => rfl
  | n + 1, i, h, hk => by
    obtain ⟨h1, h2⟩ := hk i (Nat.le_refl _) (by omega)
    rw [Pl.adjN, if_pos h1, if_neg (by rintro ⟨g1, g2⟩; have := h2 g1; omega)]
    exact Pl.adjN_of ps n (i + 1) (by omega) (fun j hj hl => hk j (by omega) hl)
theorem Pl.adjF_snoc {ps : List (Int × Int)} {k c : Int} (h : Pl.adjF ps = 0) (hlt : ∀ p ∈ ps, p.1 < k) (hk : 0 ≤ k ∧ k ≤ 11) (hc : 1 ≤ c ∧ c ≤ 1000) : Pl.adjF (ps ++ [(k, c)]) = 0 := by
  have ho := Pl.adjN_ok ps ps.length 0 (by omega) h
  refine Pl.adjN_of _ _ 0 (by omega) (fun j _ hj => ?_)
  simp at hj
  rcases Nat.lt_or_ge j ps.length with hl | hl
  · rw [Pl.pr_app_lt ps _ j hl, Pl.pr_app_lt ps _ (j - 1) (by omega)]
    exact ho j (by omega) hl
  · obtain rfl : j = ps.length := by omega
    rw [Pl.pr_app_at]
    refine ⟨by unfold Pl.sideB; simp; omega, fun hp => ?_⟩
    rw [Pl.pr_app_lt ps _ _ (by omega)]
    exact hlt _ (Pl.pr_mem ps _ (by omega))
theorem Pl.pfxN_of (ps : List (Int × Int)) : ∀ (n i : Nat), i + n = ps.length → (∀ j, i ≤ j → j < ps.length → Pl.pfx1 (Pl.pr ps j) = 0 ∧ (0 < j → Pl.pfxLow (Pl.pr ps (j - 1)) (Pl.pr ps j) = false)) → Pl.pfxN ps n i = 0
  | 0, _, _, _ => rfl
  | n + 1, i, h, hk => by
    obtain ⟨h1, h2⟩ := hk i (Nat.le_refl _) (by omega)
    rw [Pl.pfxN, if_pos h1, if_neg (by rintro ⟨g1, g2⟩; rw [h2 g1] at g2; cases g2)]
    exact Pl.pfxN_of ps n (i + 1) (by omega) (fun j hj hl => hk j (by omega) hl)
/-- the prefixes that TextsBack makes: 32 times the place, from 3 bits on -/
def Pl.tbP (ps : List (Int × Int)) : Prop := ∀ j, j < ps.length → (Pl.pr ps j).1 = 32 * (j : Int) ∧ 3 ≤ (Pl.pr ps j).2 ∧ (Pl.pr ps j).2 ≤ 8
theorem Pl.tbP_ok {ps : List (Int × Int)} (h : Pl.tbP ps) (hl : ps.length ≤ 6) : Pl.pfxF ps = 0 := by
  rw [Pl.pfxF_from hl]
  refine Pl.pfxN_of ps _ 0 (by omega) (fun j _ hj => ⟨?_, fun hp => ?_⟩)
  · obtain ⟨h1, h2, h3⟩ := h j hj
    rw [Pl.pfx1_in (by omega) (by omega)]
    obtain ⟨t0, t1, t2, t3, t4, t5, t6, t7, t8⟩ := Pl.span_table
    have hb : (Pl.pr ps j).2 = 3 ∨ (Pl.pr ps j).2 = 4 ∨ (Pl.pr ps j).2 = 5 ∨ (Pl.pr ps j).2 = 6 ∨ (Pl.pr ps j).2 = 7 ∨ (Pl.pr ps j).2 = 8 := by omega
    rw [if_pos]
    rcases hb with e | e | e | e | e | e <;> rw [e, h1] <;> (first | rw [t3] | rw [t4] | rw [t5] | rw [t6] | rw [t7] | rw [t8]) <;> omega
  · obtain ⟨h1, h2, h3⟩ := h j hj
    obtain ⟨g1, g2, g3⟩ := h (j - 1) (by omega)
    unfold Pl.pfxLow
    rw [decide_eq_false]
    omega
theorem Pl.tbP_snoc {ps : List (Int × Int)} {b : Int} (h : Pl.tbP ps) (hb : 3 ≤ b ∧ b ≤ 8) : Pl.tbP (ps ++ [(32 * (ps.length : Int), b)]) := by
  intro j hj
  simp at hj
  rcases Nat.lt_or_ge j ps.length with hl | hl
  · rw [Pl.pr_app_lt ps _ j hl]; exact h j hl
  · obtain rfl : j = ps.length := by omega
    rw [Pl.pr_app_at]; exact ⟨rfl, hb⟩
/-- shown, then read, whole -/
theorem Pl.adj_back {d : Bool} {ps : List (Int × Int)} (h : Pl.adjF ps = 0) : Pl.adjC (Pl.adjText d ps).data.toList = 0 ∧ Pl.adjD (Pl.adjText d ps).data.toList = d ∧ Pl.adjS (Pl.adjText d ps).data.toList = ps := by
  obtain ⟨_, hs⟩ := Pl.adjF_ok h
  have hb := Pl.show_back 61 (by decide) (by decide) ps hs
  have hh0 : Pl.headB 33 (Pl.showT ⟨#[61]⟩ ps).data.toList = false := by
    unfold Pl.headB
    cases ps with
    | nil => rfl
    | cons p r =>
      rw [Pl.showT_list, List.map_cons, List.map_cons, Lib.join_cons]
      rw [Pl.side_list 61 p (hs p (by simp))]
      obtain ⟨v1, v2, v3, _, _⟩ := Pl.val_dec p.1.toNat
      cases hd : Lib.decDigits p.1.toNat with
      | nil => exact absurd hd v3
      | cons x q =>
        rw [hd] at v1
        simp only [List.cons_append, List.head?_cons]
        have hx : Pl.dg x = true := by unfold Pl.dgs at v1; rw [List.all_eq_true] at v1; exact v1 x (by simp)
        have : x ≠ 33 := by rintro rfl; exact absurd hx (by decide)
        simpa using this
  have key : ∀ l, Pl.tailB 33 l = (Pl.showT ⟨#[61]⟩ ps).data.toList → Pl.headB 33 l = d → Pl.adjC l = 0 ∧ Pl.adjD l = d ∧ Pl.adjS l = ps := by
    intro l h1 h2
    have hsd : Pl.sidesL l = some ps := by unfold Pl.sidesL; rw [h1]; exact hb
    have hc : Pl.adjC l = 0 := by unfold Pl.adjC; rw [hsd]; exact h
    refine ⟨hc, ?_, ?_⟩
    · unfold Pl.adjD; rw [hc, h2]; rfl
    · unfold Pl.adjS; rw [if_pos hc, hsd]; rfl
  unfold Pl.adjText
  rw [if_pos h]
  cases d with
  | false =>
    refine key _ ?_ hh0
    unfold Pl.tailB
    rw [show (if false = true then (⟨#[33]⟩ : ByteArray) ++ Pl.showT ⟨#[61]⟩ ps else Pl.showT ⟨#[61]⟩ ps) = Pl.showT ⟨#[61]⟩ ps from rfl, hh0]; rfl
  | true =>
    have e : ((if true = true then (⟨#[33]⟩ : ByteArray) ++ Pl.showT ⟨#[61]⟩ ps else Pl.showT ⟨#[61]⟩ ps)).data.toList = 33 :: (Pl.showT ⟨#[61]⟩ ps).data.toList := by
      simp [ByteArray.data_append]
    rw [e]
    exact key _ rfl rfl
theorem Pl.pfx_back {ps : List (Int × Int)} (h : Pl.pfxF ps = 0) : Pl.rpC (Pl.pfxText ps).data.toList = 0 ∧ Pl.rpS (Pl.pfxText ps).data.toList = ps := by
  obtain ⟨_, hs⟩ := Pl.pfxF_ok h
  have hb := Pl.show_back 47 (by decide) (by decide) ps hs
  have ht : Pl.pfxText ps = Pl.showT ⟨#[47]⟩ ps := by unfold Pl.pfxText; rw [if_pos h]
  rw [ht]
  have hc : Pl.rpC (Pl.showT ⟨#[47]⟩ ps).data.toList = 0 := by unfold Pl.rpC; rw [hb]; exact h
  refine ⟨hc, ?_⟩
  unfold Pl.rpS
  rw [if_pos hc, hb]; rfl
theorem Pl.adjText_size {d : Bool} {ps : List (Int × Int)} (h : Pl.adjF ps = 0) : (Pl.adjText d ps).size ≤ 4398046511103 := by
  obtain ⟨h1, h2⟩ := Pl.adjF_ok h
  have h3 := Pl.showT_size ⟨#[61]⟩ ps h2 (by decide)
  unfold Pl.adjText
  rw [if_pos h]
  split
  · rw [ByteArray.size_append]
    have : (⟨#[33]⟩ : ByteArray).size = 1 := rfl
    omega
  · omega
theorem Pl.pfxText_size {ps : List (Int × Int)} (h : Pl.pfxF ps = 0) : (Pl.pfxText ps).size ≤ 4398046511103 := by
  obtain ⟨h1, h2⟩ := Pl.pfxF_ok h
  have h3 := Pl.showT_size ⟨#[47]⟩ ps h2 (by decide)
  unfold Pl.pfxText
  rw [if_pos h]
  omega
end Go.Proofs.YtcdobhdbafpkiadDoor
/-
  Contracts: slices.Equal over lists of sides, and of prefixes, that are the same.
-/
namespace Go.Proofs.YtcdobhdbafpkiadDoor
open Go.RowKit
set_option maxRecDepth 20000

set_option maxHeartbeats 1000000 in
theorem EqualS_eq (a : Option Addr) (len cap : Nat) (ps : List (Int × Int)) (a' : Option Addr) (cap' : Nat) (w : World) (h : IsPairs w a len cap ps) (h' : IsPairs w a' len cap' ps) :
    Calls Tryd.prog 11 #[.slice a len cap, .slice a' len cap'] w fun e w' => e = .returned (.bool true) ∧ Below w.heap.size w w' := by
  obtain ⟨hl, hc, hm, _, hrow⟩ := h
  obtain ⟨_, hc', hm', _, hrow'⟩ := h'
  unfold maxLen at hm hm'
  have HL := hid hl
  have HROW := hid hrow
  have HROW' := hid hrow'
  clear hl hrow hrow'
  go_enter Tryd.func11, Tryd.ntmps11
  go_wp2_with fail
  go_loopw [13] (fun i wr => ∃ k : Nat, k ≤ len ∧ i = .int .i64 k ∧ Below w.heap.size w wr) (fun i _ => len - (intOf i).toNat)
  case atStart => exact ⟨0, Nat.zero_le _, rfl, Below.refl _ _⟩
  case round =>
    obtain ⟨k, hk, rfl, hbw⟩ := hrel
    by_cases hlt : k < len
    · obtain ⟨b1, o1, rfl, hb1, hr1⟩ : ∃ b off, a = some ⟨b, off, none⟩ ∧ b < w.heap.size ∧ PairsAt w b off ps := by
        rcases HROW.out with rfl | h
        · have := HL.out; simp at this; omega
        · exact h
      obtain ⟨b2, o2, rfl, hb2, hr2⟩ : ∃ b off, a' = some ⟨b, off, none⟩ ∧ b < w.heap.size ∧ PairsAt w b off ps := by
        rcases HROW'.out with rfl | h
        · have := HL.out; simp at this; omega
        · exact h
      obtain ⟨c0, c1⟩ := hr1.below hb1 hbw k (by have := HL.out; omega)
      obtain ⟨e0, e1⟩ := hr2.below hb2 hbw k (by have := HL.out; omega)
      clear hr1 hr2
      generalize Pl.pr ps k = y at *
      obtain ⟨y0, y2⟩ := y
      simp only at c0 c1 e0 e1
      have hlt' : (k : Int) < (len : Int) := by omega
      go_wp2_with fail
      go_quiet (fail)
      go_wp2
      go_roundw
      case rel => exact ⟨k + 1, by omega, by go_num, below_drew hbw _⟩
      case measure => simp [intOf]; omega
    · obtain rfl : k = len := by omega
      go_wp2
      go_ret
      exact ⟨rfl, hbw⟩

set_option maxHeartbeats 1000000 in
theorem EqualP_eq (a : Option Addr) (len cap : Nat) (ps : List (Int × Int)) (a' : Option Addr) (cap' : Nat) (w : World) (h : IsPairs w a len cap ps) (h' : IsPairs w a' len cap' ps) :
    Calls Tryd.prog 12 #[.slice a len cap, .slice a' len cap'] w fun e w' => e = .returned (.bool true) ∧ Below w.heap.size w w' := by
  obtain ⟨hl, hc, hm, _, hrow⟩ := h
  obtain ⟨_, hc', hm', _, hrow'⟩ := h'
  unfold maxLen at hm hm'
  have HL := hid hl
  have HROW := hid hrow
  have HROW' := hid hrow'
  clear hl hrow hrow'
  go_enter Tryd.func12, Tryd.ntmps12
  go_wp2_with fail
  go_loopw [13] (fun i wr => ∃ k : Nat, k ≤ len ∧ i = .int .i64 k ∧ Below w.heap.size w wr) (fun i _ => len - (intOf i).toNat)
  case atStart => exact ⟨0, Nat.zero_le _, rfl, Below.refl _ _⟩
  case round =>
    obtain ⟨k, hk, rfl, hbw⟩ := hrel
    by_cases hlt : k < len
    · obtain ⟨b1, o1, rfl, hb1, hr1⟩ : ∃ b off, a = some ⟨b, off, none⟩ ∧ b < w.heap.size ∧ PairsAt w b off ps := by
        rcases HROW.out with rfl | h
        · have := HL.out; simp at this; omega
        · exact h
      obtain ⟨b2, o2, rfl, hb2, hr2⟩ : ∃ b off, a' = some ⟨b, off, none⟩ ∧ b < w.heap.size ∧ PairsAt w b off ps := by
        rcases HROW'.out with rfl | h
        · have := HL.out; simp at this; omega
        · exact h
      obtain ⟨c0, c1⟩ := hr1.below hb1 hbw k (by have := HL.out; omega)
      obtain ⟨e0, e1⟩ := hr2.below hb2 hbw k (by have := HL.out; omega)
      clear hr1 hr2
      generalize Pl.pr ps k = y at *
      obtain ⟨y0, y2⟩ := y
      simp only at c0 c1 e0 e1
      have hlt' : (k : Int) < (len : Int) := by omega
      go_wp2_with fail
      go_quiet (fail)
      go_wp2
      go_roundw
      case rel => exact ⟨k + 1, by omega, by go_num, below_drew hbw _⟩
      case measure => simp [intOf]; omega
    · obtain rfl : k = len := by omega
      go_wp2
      go_ret
      exact ⟨rfl, hbw⟩
end Go.Proofs.YtcdobhdbafpkiadDoor
/-
  Contract: what ShowAdj answers at whatever is told of links.
-/
namespace Go.Proofs.YtcdobhdbafpkiadDoor
open Go.RowKit
set_option maxRecDepth 20000

theorem infoPairS : (Tryd.prog.info? 69).map (fun i => (i.zero, i.size, i.bytes)) = some (some (.agg #[.int .i64 0, .int .i64 0]), 2, 16) := by kernel_rfl
theorem Pl.small_ok {p : Int × Int} (h : Pl.small p) : Pl.pairOk p := Pl.pairOk_of ⟨h.1, by have := h.2.1; omega, h.2.2.1, by have := h.2.2.2; omega⟩

set_option maxHeartbeats 2000000 in
theorem ShowAdj_any (d : Bool) (a : Option Addr) (len cap : Nat) (ps : List (Int × Int)) (w : World) (h : IsPairs w a len cap ps) (hT : Tab w) :
    Calls Tryd.prog 7 #[.agg #[.bool d, .slice a len cap]] w fun e w' => e = .returned (.tuple #[.string (Pl.adjText d ps), .int .i64 (Pl.adjF ps)]) ∧ Below w.heap.size w w' := by
  have HH := hid h
  have HTB := hid hT
  have hlen := h.1
  have hcap := h.2.1
  have hmax := h.2.2.1
  unfold maxLen at hmax
  clear h hT
  obtain ⟨cc, HCC⟩ : ∃ c, Hid (Pl.adjF ps = c) := ⟨_, hid rfl⟩
  rw [HCC.out]
  have b1 : Below w.heap.size w (w.alloc (.cells #[.bool d, .slice a len cap] 25)) := (Below.refl _ _).alloc (Nat.le_refl _) _
  have HI1 := hid (HH.out.below b1)
  by_cases hc0 : cc = 0
  · subst hc0
    have HOK := hid (Pl.adjF_ok HCC.out)
    have hl12 : len ≤ 12 := by have := HOK.out.1; omega
    go_enter Tryd.func7, Tryd.ntmps7
    go_wp2_with fail
    refine (CheckAdj_any _ _ _ _ ps _ HI1.out).mono ?_
    rw [HCC.out]
    rintro e w1 ⟨rfl, hb1⟩
    have hbA : Below (w.heap.size + 1) (w.alloc (.cells #[.bool d, .slice a len cap] 25)) w1 := by simpa using hb1
    obtain ⟨q0, q1, qs, hq1⟩ := box2 hbA
    clear hb1 b1
    go_wp2_with fail
    go_loopw [5, 17] (fun vl i wr => ∃ (k : Nat) (vv : Value), vv = vl ∧ k ≤ len ∧ i = .int .i64 k ∧ Hid (OwnP 69 wr w1.heap.size vv (ps.take k)) ∧ Below w1.heap.size w1 wr) (fun _ i _ => len - (intOf i).toNat)
    case atStart => exact ⟨0, _, rfl, Nat.zero_le _, rfl, hid (OwnP.nil _ _ _), Below.refl _ _⟩
    case round =>
      obtain ⟨k, vl, rfl, hk, rfl, HO, hb⟩ := hrel
      have hz := hb.size
      by_cases hlt : k < len
      · obtain ⟨b, off, rfl, hbw, hr⟩ : ∃ b off, a = some ⟨b, off, none⟩ ∧ b < w.heap.size ∧ PairsAt w b off ps := by
          rcases HH.out.2.2.2.2 with rfl | h
          · simp at hlen; omega
          · exact h
        obtain ⟨c0, c1⟩ := (hr.below hbw (hq1.trans (hb.mono hq1.size))) k (by omega)
        have hbr : b < wr.heap.size := by omega
        clear hr
        obtain ⟨pp, hpp⟩ : ∃ pp, Hid (Pl.pr ps k = pp) := ⟨_, rfl⟩
        rw [hpp.out] at c0 c1
        have HO4 := hid (HO.out.below ((Below.refl wr.heap.size wr).alloc (Nat.le_refl _) (.cells #[.int .i64 pp.1, .int .i64 pp.2] 31)))
        have htk : (ps.take k).length = k := by simp; omega
        go_wp2_with (at_builtin; refine append_pairT Tryd.underlying67 infoPairS rfl (.tmp 21) (.tmp 27) rfl w1.heap.size vl (ps.take k) pp rfl HO4.out (by simp; omega) (by show Value.slice (some ⟨wr.heap.size + 1, 0, none⟩) 1 1 = _; simp) (by rw [htk]; omega) ?_; intro v5 w5 ho5 hb5 _; have HO5 := hid ho5; clear ho5)
        go_roundw
        case rel => exact ⟨k + 1, _, rfl, by omega, by go_num, hid (by show OwnP _ _ _ _ _; rw [Pl.take_prS ps k (by omega), hpp.out]; exact HO5.out), (hb.alloc hz _).trans hb5⟩
        case measure => simp [intOf]; omega
      · obtain rfl : k = len := by omega
        have HO' : Hid (OwnP 69 wr w1.heap.size vl ps) := by have h := HO.out; rw [List.take_of_length_le (by omega)] at h; exact hid h
        obtain ⟨a3, cap3, rfl, hp3, _, _⟩ := OwnP.shape HO'.out (fun p hp => Pl.small_ok (HOK.out.2 p hp))
        rw [hlen] at hp3 ⊢
        have HP3 := hid hp3
        have hbx : Below (w.heap.size + 1) (w.alloc (.cells #[.bool d, .slice a k cap] 25)) wr := hbA.trans (hb.mono (by omega))
        obtain ⟨y0, y1, ys, hbb⟩ := box2 hbx
        have HTW := hid (HTB.out.below hbb)
        have HSP := hid (showPairs_any a3 k cap3 ps ⟨#[61]⟩ wr HP3.out HOK.out.2 (by omega) (by decide) HTW.out)
        have HSZ := hid (Pl.showT_size ⟨#[61]⟩ ps HOK.out.2 (by decide))
        have HAT : Hid (Pl.adjText d ps = if d then ⟨#[33]⟩ ++ Pl.showT ⟨#[61]⟩ ps else Pl.showT ⟨#[61]⟩ ps) := hid (by unfold Pl.adjText; rw [if_pos HCC.out])
        generalize Pl.showT ⟨#[61]⟩ ps = t at *
        have htz : t.size ≤ 2000 := by have := HSZ.out; omega
        clear hp3 HO HSZ q0 q1 hlen
        cases d
        all_goals
          go_wp2_with fail
          refine HSP.out.mono ?_
          rintro e w4 ⟨rfl, hb4⟩
          obtain ⟨z0, z1, zs, hbz⟩ := box2 (hbx.trans (hb4.mono (by omega)))
          go_wp2_with fail
          go_ret2
          exact ⟨by rw [HAT.out]; rfl, hbz⟩
  · have HAT : Hid (Pl.adjText d ps = ⟨#[]⟩) := hid (by unfold Pl.adjText; rw [if_neg (by rw [HCC.out]; exact hc0)])
    have hd0 : (cc == 0) = false := by simpa using hc0
    go_enter Tryd.func7, Tryd.ntmps7
    go_wp2_with fail
    refine (CheckAdj_any _ _ _ _ ps _ HI1.out).mono ?_
    rw [HCC.out]
    rintro e w1 ⟨rfl, hb1⟩
    go_wp2_with fail
    go_ret2
    exact ⟨by rw [HAT.out]; rfl, b1.trans (hb1.mono b1.size)⟩
end Go.Proofs.YtcdobhdbafpkiadDoor
/-
  Contract: what ShowPrefixes answers at every list of prefixes.
-/
namespace Go.Proofs.YtcdobhdbafpkiadDoor
open Go.RowKit
set_option maxRecDepth 20000

theorem infoPairX : (Tryd.prog.info? 69).map (fun i => (i.zero, i.size, i.bytes)) = some (some (.agg #[.int .i64 0, .int .i64 0]), 2, 16) := by kernel_rfl
theorem Pl.small_okX {p : Int × Int} (h : Pl.small p) : Pl.pairOk p := Pl.pairOk_of ⟨h.1, by have := h.2.1; omega, h.2.2.1, by have := h.2.2.2; omega⟩

set_option maxHeartbeats 2000000 in
theorem ShowPrefixes_any (a : Option Addr) (len cap : Nat) (ps : List (Int × Int)) (w : World) (h : IsPairs w a len cap ps) (hT : Tab w) :
    Calls Tryd.prog 9 #[.slice a len cap] w fun e w' => e = .returned (.tuple #[.string (Pl.pfxText ps), .int .i64 (Pl.pfxF ps)]) ∧ Below w.heap.size w w' := by
  have HH := hid h
  have HTB := hid hT
  have hlen := h.1
  have hcap := h.2.1
  have hmax := h.2.2.1
  unfold maxLen at hmax
  clear h hT
  obtain ⟨cc, HCC⟩ : ∃ c, Hid (Pl.pfxF ps = c) := ⟨_, hid rfl⟩
  rw [HCC.out]
  by_cases hc0 : cc = 0
  · subst hc0
    have HOK := hid (Pl.pfxF_ok HCC.out)
    have hl12 : len ≤ 6 := by have := HOK.out.1; omega
    go_enter Tryd.func9, Tryd.ntmps9
    go_wp2_with fail
    refine (CheckPrefixes_any _ _ _ ps _ HH.out).mono ?_
    rw [HCC.out]
    rintro e w1 ⟨rfl, hq1⟩
    go_wp2_with fail
    go_loopw [5, 15] (fun vl i wr => ∃ (k : Nat) (vv : Value), vv = vl ∧ k ≤ len ∧ i = .int .i64 k ∧ Hid (OwnP 69 wr w1.heap.size vv (ps.take k)) ∧ Below w1.heap.size w1 wr) (fun _ i _ => len - (intOf i).toNat)
    case atStart => exact ⟨0, _, rfl, Nat.zero_le _, rfl, hid (OwnP.nil _ _ _), Below.refl _ _⟩
    case round =>
      obtain ⟨k, vl, rfl, hk, rfl, HO, hb⟩ := hrel
      have hz := hb.size
      have hzq := hq1.size
      by_cases hlt : k < len
      · obtain ⟨b, off, rfl, hbw, hr⟩ : ∃ b off, a = some ⟨b, off, none⟩ ∧ b < w.heap.size ∧ PairsAt w b off ps := by
          rcases HH.out.2.2.2.2 with rfl | h
          · simp at hlen; omega
          · exact h
        obtain ⟨c0, c1⟩ := (hr.below hbw (hq1.trans (hb.mono hq1.size))) k (by omega)
        have hbr : b < wr.heap.size := by omega
        clear hr
        obtain ⟨pp, hpp⟩ : ∃ pp, Hid (Pl.pr ps k = pp) := ⟨_, rfl⟩
        rw [hpp.out] at c0 c1
        have HO4 := hid (HO.out.below ((Below.refl wr.heap.size wr).alloc (Nat.le_refl _) (.cells #[.int .i64 pp.1, .int .i64 pp.2] 33)))
        have htk : (ps.take k).length = k := by simp; omega
        go_wp2_with (at_builtin; refine append_pairT Tryd.underlying67 infoPairX rfl (.tmp 19) (.tmp 25) rfl w1.heap.size vl (ps.take k) pp rfl HO4.out (by simp; omega) (by show Value.slice (some ⟨wr.heap.size + 1, 0, none⟩) 1 1 = _; simp) (by rw [htk]; omega) ?_; intro v5 w5 ho5 hb5 _; have HO5 := hid ho5; clear ho5)
        go_roundw
        case rel => exact ⟨k + 1, _, rfl, by omega, by go_num, hid (by show OwnP _ _ _ _ _; rw [Pl.take_prS ps k (by omega), hpp.out]; exact HO5.out), (hb.alloc hz _).trans hb5⟩
        case measure => simp [intOf]; omega
      · obtain rfl : k = len := by omega
        have HO' : Hid (OwnP 69 wr w1.heap.size vl ps) := by have h := HO.out; rw [List.take_of_length_le (by omega)] at h; exact hid h
        obtain ⟨a3, cap3, rfl, hp3, _, _⟩ := OwnP.shape HO'.out (fun p hp => Pl.small_okX (HOK.out.2 p hp))
        rw [hlen] at hp3 ⊢
        have HP3 := hid hp3
        have hbb : Below w.heap.size w wr := hq1.trans (hb.mono hzq)
        have HTW := hid (HTB.out.below hbb)
        have HSP := hid (showPairs_any a3 k cap3 ps ⟨#[47]⟩ wr HP3.out HOK.out.2 (by omega) (by decide) HTW.out)
        have HAT : Hid (Pl.pfxText ps = Pl.showT ⟨#[47]⟩ ps) := hid (by unfold Pl.pfxText; rw [if_pos HCC.out])
        generalize Pl.showT ⟨#[47]⟩ ps = t at *
        clear hp3 HO hlen
        go_wp2_with fail
        refine HSP.out.mono ?_
        rintro e w4 ⟨rfl, hb4⟩
        go_wp2_with fail
        go_ret2
        exact ⟨by rw [HAT.out]; rfl, hbb.trans (hb4.mono hbb.size)⟩
  · have HAT : Hid (Pl.pfxText ps = ⟨#[]⟩) := hid (by unfold Pl.pfxText; rw [if_neg (by rw [HCC.out]; exact hc0)])
    have hd0 : (cc == 0) = false := by simpa using hc0
    go_enter Tryd.func9, Tryd.ntmps9
    go_wp2_with fail
    refine (CheckPrefixes_any _ _ _ ps _ HH.out).mono ?_
    rw [HCC.out]
    rintro e w1 ⟨rfl, hb1⟩
    go_wp2_with fail
    go_ret2
    exact ⟨by rw [HAT.out]; rfl, hb1⟩
end Go.Proofs.YtcdobhdbafpkiadDoor
/-
  Plain definitions: lists of entries as stores, what is wrong with one; no program in sight.
-/
namespace Go.Proofs.YtcdobhdbafpkiadDoor.Pl

structure Ent where
  key : ByteArray
  ver : Int
  org : Int
  val : ByteArray

def Ent.none : Ent := ⟨⟨#[]⟩, 0, 0, ⟨#[]⟩⟩
/-- the entry at a place -/
def ent (es : List Ent) (i : Nat) : Ent := es.getD i Ent.none
theorem ent_cons_succ (e : Ent) (es : List Ent) (i : Nat) : ent (e :: es) (i + 1) = ent es i := by simp [ent]
theorem ent_cons_zero (e : Ent) (es : List Ent) : ent (e :: es) 0 = e := by simp [ent]
theorem ent_eq (es : List Ent) (i : Nat) (h : i < es.length) : ent es i = es[i] := by simp [ent, List.getD, h]
theorem ent_mem (es : List Ent) (i : Nat) (h : i < es.length) : ent es i ∈ es := by rw [ent_eq es i h]; exact List.getElem_mem h
theorem drop_ent (es : List Ent) (i : Nat) (h : i < es.length) : es.drop i = ent es i :: es.drop (i + 1) := by
  rw [ent_eq es i h]; exact List.drop_eq_getElem_cons h

/-- what fits the kinds -/
def Ent.ok (e : Ent) : Prop := e.key.size ≤ maxLen ∧ (Lit.int .i64 e.ver).wf = true ∧ (Lit.int .i64 e.org).wf = true ∧ e.val.size ≤ maxLen

/-- may an entry be one of a store? -/
def entB (k : ByteArray) (v o : Int) (x : ByteArray) : Bool := keyB k && decide (1 ≤ v ∧ v ≤ 1099511627776) && decide (0 ≤ o ∧ o ≤ 11) && decide (x.size ≤ 120)
def Ent.may (e : Ent) : Bool := entB e.key e.ver e.org e.val
theorem entB_eq {k : ByteArray} {v o : Int} {x : ByteArray} (hk : keyB k = true) : entB k v o x = (decide (1 ≤ v) && decide (v ≤ 1099511627776) && decide (0 ≤ o ∧ o ≤ 11) && decide ((x.size : Int) ≤ 120)) := by
  unfold entB; rw [hk, Bool.eq_iff_iff]; simp; omega
theorem entB_of {k : ByteArray} {v o : Int} {x : ByteArray} (hk : keyB k = true) (h1 : 1 ≤ v) (h2 : v ≤ 1099511627776) (h3 : 0 ≤ o ∧ o ≤ 11) (h4 : x.size ≤ 120) : entB k v o x = true := by
  simp [entB, hk, h1, h2, h3, h4]
theorem entB_k {k : ByteArray} {v o : Int} {x : ByteArray} (hk : keyB k = false) : entB k v o x = false := by simp [entB, hk]
theorem entB_v {k : ByteArray} {v o : Int} {x : ByteArray} (h : ¬ (1 ≤ v ∧ v ≤ 1099511627776)) : entB k v o x = false := by
  unfold entB; rw [decide_eq_false h]; simp
theorem entB_o {k : ByteArray} {v o : Int} {x : ByteArray} (h : ¬ (0 ≤ o ∧ o ≤ 11)) : entB k v o x = false := by
  unfold entB; rw [decide_eq_false h]; simp
theorem entB_x {k : ByteArray} {v o : Int} {x : ByteArray} (h : ¬ x.size ≤ 120) : entB k v o x = false := by
  unfold entB; rw [decide_eq_false h]; simp

/-- is a place's key not above that of the one ahead? -/
def lowB (es : List Ent) (i : Nat) : Bool := decide (0 < i) && !ltB (ent es (i - 1)).key (ent es i).key
theorem lowB_true {es : List Ent} {m : Nat} (h : Op.bytesLess (ent es (m + 1)).key.toList (ent es m).key.toList = true ∨ ((ent es (m + 1)).key.toList == (ent es m).key.toList) = true) : lowB es (m + 1) = true := by
  unfold lowB
  simp only [Nat.zero_lt_succ, decide_true, Nat.add_sub_cancel, Bool.true_and, Bool.not_eq_true']
  rcases h with h | h
  · exact ltB_asymm h
  · rw [beqL] at h
    rw [of_decide_eq_true h]; exact ltB_irrefl _
theorem lowB_false {es : List Ent} {m : Nat} (h : Op.bytesLess (ent es (m + 1)).key.toList (ent es m).key.toList = false ∧ ((ent es (m + 1)).key.toList == (ent es m).key.toList) = false) : lowB es (m + 1) = false := by
  unfold lowB
  simp only [Nat.zero_lt_succ, decide_true, Nat.add_sub_cancel, Bool.true_and, Bool.not_eq_false']
  obtain ⟨h1, h2⟩ := h
  rw [beqL] at h2
  cases k : ltB (ent es m).key (ent es (m + 1)).key
  · exact absurd (ltB_total h1 k) (of_decide_eq_false h2)
  · rfl
/-- what is wrong from a place on: so many are still to be looked at -/
def faultN (es : List Ent) : Nat → Nat → Int
  | 0, _ => 0
  | n + 1, i => if (ent es i).may then (if lowB es i then 7 else faultN es n (i + 1)) else 4
def fault (es : List Ent) : Int := if es.length ≤ 60 then faultN es es.length 0 else 1
theorem fault_size {es : List Ent} (h : 60 < es.length) : fault es = 1 := by unfold fault; rw [if_neg (by omega)]
theorem fault_from {es : List Ent} (h : es.length ≤ 60) : fault es = faultN es es.length 0 := by unfold fault; rw [if_pos h]
theorem faultN_form {es : List Ent} {n i : Nat} (h : (ent es i).may = false) : faultN es (n + 1) i = 4 := by simp [faultN, h]
theorem faultN_low {es : List Ent} {n i : Nat} (h : (ent es i).may = true) (k : lowB es i = true) : faultN es (n + 1) i = 7 := by simp [faultN, h, k]
theorem faultN_on {es : List Ent} {n i : Nat} (h : (ent es i).may = true) (k : lowB es i = false) : faultN es (n + 1) i = faultN es n (i + 1) := by simp [faultN, h, k]
end Go.Proofs.YtcdobhdbafpkiadDoor.Pl
/-
  Contracts: what Check and StoreFault, and what they call, answer at every list of entries.
-/
namespace Go.Proofs.YtcdobhdbafpkiadDoor
open Go.RowKit
set_option maxRecDepth 20000

/-- the cells of entries, one behind the other -/
def RowAt (w : World) (b off : Nat) (es : List Pl.Ent) : Prop := ∀ i, i < es.length →
  w.cell? ⟨b, off + i * 4, none⟩ = some (.string (Pl.ent es i).key) ∧ w.cell? ⟨b, off + i * 4 + 1, none⟩ = some (.int .i64 (Pl.ent es i).ver) ∧
  w.cell? ⟨b, off + i * 4 + 2, none⟩ = some (.int .i64 (Pl.ent es i).org) ∧ w.cell? ⟨b, off + i * 4 + 3, none⟩ = some (.string (Pl.ent es i).val)

/-- a slice of entries -/
def IsEnts (w : World) (a : Option Addr) (len cap : Nat) (es : List Pl.Ent) : Prop :=
  es.length = len ∧ len ≤ cap ∧ cap ≤ maxLen ∧ (∀ e ∈ es, e.ok) ∧ (es = [] ∨ ∃ b off, a = some ⟨b, off, none⟩ ∧ b < w.heap.size ∧ RowAt w b off es)

set_option maxHeartbeats 400000 in
theorem isEntry_any (k : ByteArray) (v o : Int) (x : ByteArray) (w : World) (hk : k.size ≤ maxLen) (_hx : x.size ≤ maxLen) :
    Calls Tryd.prog 45 #[.agg #[.string k, .int .i64 v, .int .i64 o, .string x]] w
      fun e w' => e = .returned (.bool (Pl.entB k v o x)) ∧ Below w.heap.size w w' := by
  unfold maxLen at _hx
  obtain ⟨kk, HB⟩ : ∃ kk, Hid (Pl.keyB k = kk) := ⟨_, rfl⟩
  cases kk
  · have HR : Hid (Pl.entB k v o x = false) := Pl.entB_k HB.out
    go_enter Tryd.func45, Tryd.ntmps45
    go_wp2_with (go_at_call 66; refine (Key_any _ _ hk).mono ?_; rw [HB.out]; rintro e w' ⟨rfl, rfl⟩)
    go_ret
    exact ⟨ret_bool HR.out.symm, (Below.refl _ _).alloc (Nat.le_refl _) _⟩
  · obtain ⟨oo, HO⟩ : ∃ oo, Hid (decide (0 ≤ o ∧ o ≤ 11) = oo) := ⟨_, rfl⟩
    have HR : Hid (Pl.entB k v o x = (decide (1 ≤ v) && decide (v ≤ 1099511627776) && oo && decide ((x.size : Int) ≤ 120))) := by
      show _ = _
      rw [Pl.entB_eq HB.out, HO.out]
    by_cases h1 : 1 ≤ v
    all_goals by_cases h2 : v ≤ 1099511627776
    all_goals first | (exfalso; omega) | skip
    all_goals cases oo
    all_goals
      go_enter Tryd.func45, Tryd.ntmps45
      go_wp2_with (first | (go_at_call 66; refine (Key_any _ _ hk).mono ?_; rw [HB.out]; rintro e w' ⟨rfl, rfl⟩) | (go_at_call 27; refine (isNode_any _ _).mono ?_; rw [HO.out]; rintro e w' ⟨rfl, rfl⟩))
      go_ret
      exact ⟨ret_bool (by rw [HR.out, Bool.eq_iff_iff]; simp <;> omega), (Below.refl _ _).alloc (Nat.le_refl _) _⟩

theorem RowAt.below {w w' : World} {b off : Nat} {es : List Pl.Ent} (h : RowAt w b off es) (hb : b < w.heap.size) (k : Below w.heap.size w w') : RowAt w' b off es := by
  intro i hi
  obtain ⟨c0, c1, c2, c3⟩ := h i hi
  exact ⟨(k.cell (p := ⟨b, _, none⟩) hb).trans c0, (k.cell (p := ⟨b, _, none⟩) hb).trans c1, (k.cell (p := ⟨b, _, none⟩) hb).trans c2, (k.cell (p := ⟨b, _, none⟩) hb).trans c3⟩

theorem IsEnts.below {w w' : World} {a : Option Addr} {len cap : Nat} {es : List Pl.Ent} (h : IsEnts w a len cap es) (k : Below w.heap.size w w') : IsEnts w' a len cap es := by
  obtain ⟨h1, h2, h3, h4, h5⟩ := h
  refine ⟨h1, h2, h3, h4, ?_⟩
  rcases h5 with h5 | ⟨b, off, rfl, hb, hr⟩
  · exact .inl h5
  · exact .inr ⟨b, off, rfl, Nat.lt_of_lt_of_le hb k.size, hr.below hb k⟩

theorem below_drewN {B : Nat} {a w : World} (h : Below B a w) (n : Nat) : Below B a (w.drewN n) := h.trans ⟨rfl, rfl, rfl, Nat.le_refl _, fun _ _ => rfl⟩

set_option maxHeartbeats 400000 in
theorem Check_any (a : Option Addr) (len cap : Nat) (es : List Pl.Ent) (w : World) (h : IsEnts w a len cap es) :
    Calls Tryd.prog 26 #[.slice a len cap] w fun e w' => e = .returned (.int .i64 (Pl.fault es)) ∧ Below w.heap.size w w' := by
  obtain ⟨hl, hc, hm, hok, hrow⟩ := h
  unfold maxLen at hm
  by_cases h60 : 60 < len
  · go_enter Tryd.func26, Tryd.ntmps26
    go_wp2
    go_ret
    exact ⟨ret_int (Pl.fault_size (by omega)).symm, Below.refl _ _⟩
  go_enter Tryd.func26, Tryd.ntmps26
  go_wp2
  go_loopw [10] (fun i wr => ∃ k : Nat, k ≤ len ∧ i = .int .i64 k ∧ Hid (Pl.fault es = Pl.faultN es (len - k) k) ∧ Below w.heap.size w wr) (fun i _ => len - (intOf i).toNat)
  case atStart => exact ⟨0, Nat.zero_le _, rfl, by show _ = _; rw [Pl.fault_from (by omega), hl]; rfl, Below.refl _ _⟩
  case round =>
    obtain ⟨k, hk, rfl, HF, hb⟩ := hrel
    by_cases hlt : k < len
    · obtain ⟨b, off, rfl, hbw, hr⟩ : ∃ b off, a = some ⟨b, off, none⟩ ∧ b < w.heap.size ∧ RowAt w b off es := by
        rcases hrow with rfl | h
        · simp at hl; omega
        · exact h
      clear hrow
      have hr' := hr.below hbw hb
      obtain ⟨c0, c1, c2, c3⟩ := hr' k (by omega)
      have hoke := hok _ (Pl.ent_mem es k (by omega))
      obtain ⟨hok0, _, _, hok3⟩ := hoke
      have hz := hb.size
      obtain ⟨mm, HM⟩ : ∃ mm, Hid (Pl.entB (Pl.ent es k).key (Pl.ent es k).ver (Pl.ent es k).org (Pl.ent es k).val = mm) := ⟨_, rfl⟩
      have HM' : Hid ((Pl.ent es k).may = mm) := HM
      obtain ⟨n, hn⟩ : ∃ n, len - k = n + 1 := ⟨len - k - 1, by omega⟩
      have HN : Hid (len - k = n + 1) := hn
      clear hn
      cases mm
      · go_wp2_with fail
        refine (isEntry_any _ _ _ _ _ hok0 hok3).mono ?_
        rw [HM.out]
        rintro e w1 ⟨rfl, hb1⟩
        go_wp2_with fail
        go_ret
        exact ⟨ret_int (by rw [HF.out, HN.out, Pl.faultN_form HM'.out]), (hb.alloc hz _).trans (hb1.mono (by simp; omega))⟩
      · rcases Nat.eq_zero_or_pos k with hk0 | hk0
        · have hd : decide (0 < k) = false := by simp; omega
          have HK0 : Hid (k = 0) := hk0
          clear hk0
          go_wp2_with fail
          refine (isEntry_any _ _ _ _ _ hok0 hok3).mono ?_
          rw [HM.out]
          rintro e w1 ⟨rfl, hb1⟩
          go_wp2_with fail
          go_quiet (fail)
          go_wp2
          go_roundw
          case rel => exact ⟨k + 1, by omega, by go_num, by show _ = _; rw [HF.out, HN.out, Pl.faultN_on HM'.out (by simp [Pl.lowB, HK0.out])]; congr 1; have := HN.out; omega, below_drewN ((hb.alloc hz _).trans (hb1.mono (by simp; omega))) _⟩
          case measure => simp [intOf]; omega
        · obtain ⟨m, rfl⟩ : ∃ m, k = m + 1 := ⟨k - 1, by omega⟩
          obtain ⟨d0, d1, d2, d3⟩ := hr' m (by omega)
          have hbr : b < wr.heap.size := by omega
          go_wp2_with fail
          refine (isEntry_any _ _ _ _ _ hok0 hok3).mono ?_
          rw [HM.out]
          rintro e w1 ⟨rfl, hb1⟩
          obtain ⟨hcc, hff⟩ := bcell hb1
          clear hff
          go_wp2_with fail
          go_quiet (fail)
          go_wp2
          · go_ret
            exact ⟨ret_int (by rw [HF.out, HN.out, Pl.faultN_low HM'.out (Pl.lowB_true ‹_›)]), below_drewN ((hb.alloc hz _).trans (hb1.mono (by simp; omega))) _⟩
          · go_roundw
            case rel => exact ⟨m + 1 + 1, by omega, by go_num, by show _ = _; rw [HF.out, HN.out, Pl.faultN_on HM'.out (Pl.lowB_false ‹_›)]; congr 1; have := HN.out; omega, below_drewN ((hb.alloc hz _).trans (hb1.mono (by simp; omega))) _⟩
            case measure => simp [intOf]; omega
    · obtain rfl : k = len := by omega
      go_wp2
      go_ret
      exact ⟨ret_int (by rw [HF.out]; simp [Pl.faultN]), hb⟩
end Go.Proofs.YtcdobhdbafpkiadDoor
/-
  Small facts that the opening of parameters needs.
-/
namespace Go.Proofs.YtcdobhdbafpkiadDoor
open Go.ChangeShapes Go.WideShapes Go.ChangeAt Go.RowKit
set_option maxRecDepth 20000

theorem cell_lt {W : World} {x : Addr} {v : Value} (h : W.cell? x = some v) : x.block < W.heap.size := by
  rcases Nat.lt_or_ge x.block W.heap.size with h' | h'
  · exact h'
  · simp [World.cell?, Array.getElem?_eq_none h'] at h

theorem own : ownKnob Tryd.prog.godebug = none := by kernel_rfl
theorem laidOut : laidOutB Tryd.prog = true := by kernel_rfl
end Go.Proofs.YtcdobhdbafpkiadDoor
/-
  What a parameter holds when it is read as data: an entry, a slice of entries.
-/
namespace Go.Proofs.YtcdobhdbafpkiadDoor
open Go.ChangeShapes Go.WideShapes Go.ChangeAt Go.RowKit
set_option maxRecDepth 20000

theorem cellsEntry : Tryd.prog.cellsOf 64 = 4 := by kernel_rfl

theorem entry_of_trod {H : Type} {enc : TypeId × Value → H} {w : World} {base : Nat} {spare : Nat → Bool} {held : Bool} {n : Nat} {cs : List Value} {x : DataW H × List MemPlace}
    (h : DataW.trod enc Tryd.prog w base spare held n 64 cs = some x) : ∃ e : Pl.Ent, cs = [.string e.key, .int .i64 e.ver, .int .i64 e.org, .string e.val] ∧ e.ok := by
  obtain ⟨y0, y1, y2, y3, m, _, hl, h0, h1, h2, h3⟩ := Go.Joins.trod_struct4 Tryd.underlying64 h
  rw [cellsEntry] at hl
  match cs, hl with
  | [c0, c1, c2, c3], _ =>
    have e9 : Tryd.prog.cellsOf 9 = 1 := by kernel_rfl
    have e3 : Tryd.prog.cellsOf 3 = 1 := by kernel_rfl
    simp only [e9, e3] at h0 h1 h2 h3
    obtain ⟨s0, a0, _, b0⟩ := DataW.trod_string Tryd.underlying9 h0
    obtain ⟨s1, a1, _, b1⟩ := DataW.trod_int Tryd.underlying3 h1
    obtain ⟨s2, a2, _, b2⟩ := DataW.trod_int Tryd.underlying3 h2
    obtain ⟨s3, a3, _, b3⟩ := DataW.trod_string Tryd.underlying9 h3
    simp at a0 a1 a2 a3
    subst a0 a1 a2 a3
    exact ⟨⟨s0, s1, s2, s3⟩, rfl, b0, b1, b2, b3⟩

theorem open_ent {H : Type} {enc : TypeId × Value → H} {w : World} {r : Reach} {b0 base : Nat} {spare : Nat → Bool} {held : Bool} {v : Value} {d : DataW H} {p : List MemPlace}
    (hv : Value.okWide Tryd.prog w r b0 64 v) (h : DataW.Trod enc Tryd.prog w base spare held 64 v d p) :
    ∃ e : Pl.Ent, v = .agg #[.string e.key, .int .i64 e.ver, .int .i64 e.org, .string e.val] ∧ e.ok := by
  obtain ⟨fuel, hf⟩ := h
  obtain ⟨cs, rfl, hsz⟩ := okWide_struct Tryd.underlying64 hv
  obtain ⟨e, he, hok⟩ := entry_of_trod hf
  refine ⟨e, ?_, hok⟩
  simp [Value.cells] at he
  rw [← he]

theorem open_ents {H : Type} {enc : TypeId × Value → H} {w : World} {r : Reach} {b0 : Nat} {held : Bool} {v : Value} {d : DataW H} {p : List MemPlace}
    (hv : Value.okWide Tryd.prog w r b0 45 v) (h : DataW.Trod enc Tryd.prog w 0 (fun _ => true) held 45 v d p) :
    ∃ a len cap es, v = .slice a len cap ∧ IsEnts w a len cap es := by
  obtain ⟨a, len, cap, rfl⟩ := okWide_slice Tryd.underlying45 hv
  obtain ⟨fuel, hf⟩ := h
  rcases Go.Deep.open_slice Tryd.underlying45 hf with ⟨hcs, _⟩ | ⟨x, l, c, m, n, D, Q, hcs, _, hl, hm, hmm, _, hx⟩
  · simp [Value.cells] at hcs
    obtain ⟨rfl, rfl, rfl⟩ := hcs
    exact ⟨_, _, _, [], rfl, rfl, Nat.le_refl _, by simp, by simp, .inl rfl⟩
  · simp [Value.cells] at hcs
    obtain ⟨rfl, rfl, rfl⟩ := hcs
    simp only [if_true] at hmm
    subst hmm
    rw [cellsEntry] at hx
    have hx' : ∀ i, i < len → ∃ e : Pl.Ent, w.cells? 0 (x.add (i * 4)) 4 = some [.string e.key, .int .i64 e.ver, .int .i64 e.org, .string e.val] ∧ e.ok := by
      intro i hi
      obtain ⟨cs', h1, h2⟩ := hx i (by omega)
      obtain ⟨e, rfl, hok⟩ := entry_of_trod h2
      exact ⟨e, h1, hok⟩
    obtain ⟨F, hF⟩ := @Go.Deep.choose_lt Pl.Ent ⟨Pl.Ent.none⟩ len _ hx'
    have hlen : ((List.range len).map F).length = len := by simp
    have hent : ∀ i, i < len → Pl.ent ((List.range len).map F) i = F i := by
      intro i hi
      rw [Pl.ent_eq _ _ (by simpa using hi)]; simp
    refine ⟨_, _, _, (List.range len).map F, rfl, hlen, hl, hm, ?_, ?_⟩
    · intro e he
      simp only [List.mem_map, List.mem_range] at he
      obtain ⟨i, hi, rfl⟩ := he
      exact (hF i hi).2
    · rcases Nat.eq_zero_or_pos len with h0 | hpos
      · subst h0; exact .inl rfl
      · right
        obtain ⟨b, off, spot⟩ := x
        have hc0 := (World.cells?_some (hF 0 hpos).1).2.2 0 (by omega)
        simp only [List.getElem?_cons_zero] at hc0
        have hsp : spot = none := by simpa [Addr.add] using World.cell?_spot hc0
        subst hsp
        refine ⟨b, off, rfl, ?_, ?_⟩
        · have := cell_lt hc0; simpa [Addr.add] using this
        · intro i hi
          rw [hlen] at hi
          rw [hent i hi]
          have hc := (World.cells?_some (hF i hi).1).2.2
          have c0 := hc 0 (by omega)
          have c1 := hc 1 (by omega)
          have c2 := hc 2 (by omega)
          have c3 := hc 3 (by omega)
          simp only [add_none, List.getElem?_cons_zero, List.getElem?_cons_succ, Nat.add_zero] at c0 c1 c2 c3
          exact ⟨c0, c1, c2, c3⟩

theorem open_ents_sized {H : Type} {enc : TypeId × Value → H} {w : World} {r : Reach} {b0 : Nat} {held : Bool} {v : Value} {d : DataW H} {p : List MemPlace}
    (hv : Value.okWide Tryd.prog w r b0 45 v) (h : DataW.Trod enc Tryd.prog w 0 (fun _ => true) held 45 v d p) :
    ∃ a len cap es, v = .slice a len cap ∧ IsEnts w a len cap es ∧ (a = none → cap = 0) ∧ ((d = .nil ∧ len = 0) ∨ ∃ el sp, d = .slice el sp ∧ el.length = len) := by
  obtain ⟨a, len, cap, es, rfl, hE⟩ := open_ents hv h
  refine ⟨a, len, cap, es, rfl, hE, ?_⟩
  obtain ⟨fuel, hf⟩ := h
  rcases Go.Deep.open_slice Tryd.underlying45 hf with ⟨hcs, hx⟩ | ⟨x, l, c, m, n, D, Q, hcs, _, hl, hm, hmm, hx, _⟩
  · simp [Value.cells] at hcs
    obtain ⟨rfl, rfl, rfl⟩ := hcs
    simp only [Prod.mk.injEq] at hx
    exact ⟨fun _ => rfl, .inl ⟨hx.1, rfl⟩⟩
  · simp [Value.cells] at hcs
    obtain ⟨rfl, rfl, rfl⟩ := hcs
    simp only [Prod.mk.injEq] at hx
    exact ⟨by simp, .inr ⟨_, _, hx.1, by simp⟩⟩
end Go.Proofs.YtcdobhdbafpkiadDoor
/-
  Contract: a number picked of so many.
-/
namespace Go.Proofs.YtcdobhdbafpkiadDoor
open Go.RowKit
set_option maxRecDepth 20000

namespace Pl
def pk (n m : Int) : Int := (if n < 0 then -(n + 1) else n) % m
theorem pk_range (n m : Int) (h : 0 < m) : 0 ≤ pk n m ∧ pk n m < m := ⟨Int.emod_nonneg _ (by omega), Int.emod_lt_of_pos _ h⟩
end Pl

set_option maxHeartbeats 400000 in
theorem picked_any (n m : Int) (w : World) (h0 : -9223372036854775808 ≤ n) (h1 : n ≤ 9223372036854775807) (hm : 0 < m) (hm2 : m ≤ 9223372036854775807) :
    Calls Tryd.prog 6 #[.int .i64 n, .int .i64 m] w fun e w' => e = .returned (.int .i64 (Pl.pk n m)) ∧ w' = w := by
  have hmz : ¬ m = 0 := by omega
  have hmb : (m == 0) = false := by simp [hmz]
  by_cases hn : n < 0
  · have HP : Hid (Pl.pk n m = -(n + 1) % m) := by show _ = _; unfold Pl.pk; rw [if_pos hn]
    have HR := hid (Pl.pk_range n m hm)
    go_enter Tryd.func6, Tryd.ntmps6
    go_wp2
    go_ret
    refine ⟨ret_int ?_, rfl⟩
    rw [HP.out, ← Int.neg_tmod, Int.tmod_eq_emod_of_nonneg (by omega)]
  · have HP : Hid (Pl.pk n m = n % m) := by show _ = _; unfold Pl.pk; rw [if_neg hn]
    go_enter Tryd.func6, Tryd.ntmps6
    go_wp2
    go_ret
    refine ⟨ret_int ?_, rfl⟩
    rw [HP.out]
end Go.Proofs.YtcdobhdbafpkiadDoor
/-
  Plain facts: stores in their order, the place of a key; no program in sight.
-/
namespace Go.Proofs.YtcdobhdbafpkiadDoor.Pl

/-- the keys ascend -/
def Asc (es : List Ent) : Prop := ∀ i j, i < j → j < es.length → ltB (ent es i).key (ent es j).key = true
/-- all entries may be -/
def May (es : List Ent) : Prop := ∀ i, i < es.length → (ent es i).may = true

theorem faultN_zero (es : List Ent) : ∀ n i, faultN es n i = 0 → ∀ j, i ≤ j → j < i + n → (ent es j).may = true ∧ lowB es j = false
  | 0, _, _, j, h1, h2 => by omega
  | n + 1, i, h, j, h1, h2 => by
    simp only [faultN] at h
    cases hm : (ent es i).may
    · simp [hm] at h
    · cases hl : lowB es i
      · simp only [hm, hl] at h
        rcases Nat.lt_or_ge i j with k | k
        · exact faultN_zero es n (i + 1) (by simpa using h) j (by omega) (by omega)
        · obtain rfl : j = i := by omega
          exact ⟨hm, hl⟩
      · simp [hm, hl] at h

theorem good_of_fault {es : List Ent} (h : fault es = 0) : es.length ≤ 60 ∧ May es ∧ Asc es := by
  unfold fault at h
  split at h
  · rename_i hl
    have hz := faultN_zero es es.length 0 h
    refine ⟨hl, fun i hi => (hz i (by omega) (by omega)).1, ?_⟩
    intro i j hij hj
    induction j with
    | zero => omega
    | succ m ih =>
      have hlow := (hz (m + 1) (by omega) (by omega)).2
      have hstep : ltB (ent es m).key (ent es (m + 1)).key = true := by
        unfold lowB at hlow
        simpa using hlow
      rcases Nat.lt_or_ge i m with k | k
      · exact ltB_trans (ih k (by omega)) hstep
      · obtain rfl : i = m := by omega
        exact hstep
  · cases h

theorem faultN_of_good (es : List Ent) (h : ∀ j, j < es.length → (ent es j).may = true ∧ lowB es j = false) : ∀ n i, i + n ≤ es.length → faultN es n i = 0
  | 0, _, _ => rfl
  | n + 1, i, hi => by
    obtain ⟨h1, h2⟩ := h i (by omega)
    rw [faultN_on h1 h2]
    exact faultN_of_good es h n (i + 1) (by omega)

theorem fault_of_good {es : List Ent} (hl : es.length ≤ 60) (hm : May es) (ha : Asc es) : fault es = 0 := by
  rw [fault_from hl]
  refine faultN_of_good es (fun j hj => ⟨hm j hj, ?_⟩) _ _ (by omega)
  unfold lowB
  rcases Nat.eq_zero_or_pos j with rfl | k
  · rfl
  · rw [ha (j - 1) j (by omega) hj]; simp

/-- the place of a key, or that at which it would come -/
def pos : List Ent → ByteArray → Nat
  | [], _ => 0
  | e :: r, key => if ltB e.key key then pos r key + 1 else 0

theorem pos_le : ∀ (es : List Ent) (key : ByteArray), pos es key ≤ es.length
  | [], _ => Nat.le_refl _
  | e :: r, key => by
    simp only [pos, List.length_cons]
    have := pos_le r key
    split <;> omega
theorem pos_lt : ∀ (es : List Ent) (key : ByteArray) (i : Nat), i < pos es key → ltB (ent es i).key key = true
  | [], _, i, h => by simp [pos] at h
  | e :: r, key, i, h => by
    simp only [pos] at h
    split at h
    · rename_i he
      cases i with
      | zero => simpa [ent] using he
      | succ i => rw [ent_cons_succ]; exact pos_lt r key i (by omega)
    · omega
theorem pos_at : ∀ (es : List Ent) (key : ByteArray), pos es key < es.length → ltB (ent es (pos es key)).key key = false
  | [], _, h => by simp at h
  | e :: r, key, h => by
    cases he : ltB e.key key
    · simp [pos, he, ent]
    · simp only [pos, he, if_true] at h ⊢
      rw [ent_cons_succ]
      exact pos_at r key (by simpa using h)
theorem pos_of {es : List Ent} {key : ByteArray} {i : Nat} (hi : i ≤ es.length) (h1 : ∀ t, t < i → ltB (ent es t).key key = true) (h2 : i < es.length → ltB (ent es i).key key = false) : pos es key = i := by
  rcases Nat.lt_trichotomy (pos es key) i with k | k | k
  · have a := h1 _ k
    rw [pos_at es key (by omega)] at a; cases a
  · exact k
  · have a := pos_lt es key i k
    have b := pos_le es key
    rw [h2 (by omega)] at a; cases a

/-- is the key there? -/
def there (es : List Ent) (key : ByteArray) : Bool := decide (pos es key < es.length) && decide ((ent es (pos es key)).key = key)

theorem asc_lt {es : List Ent} (h : Asc es) {key : ByteArray} {t m : Nat} (hm : m < es.length) (ht : t ≤ m) (k : ltB (ent es m).key key = true) : ltB (ent es t).key key = true := by
  rcases Nat.lt_or_ge t m with q | q
  · exact ltB_trans (h t m q hm) k
  · obtain rfl : t = m := by omega
    exact k
theorem asc_ge {es : List Ent} (h : Asc es) {key : ByteArray} {t m : Nat} (ht : t < es.length) (hm : m ≤ t) (k : ltB (ent es m).key key = false) : ltB (ent es t).key key = false := by
  cases q : ltB (ent es t).key key
  · rfl
  · rw [asc_lt h ht hm q] at k; cases k

/-- the first place of a key, or the length -/
def idx : List Ent → ByteArray → Nat
  | [], _ => 0
  | e :: r, key => if e.key = key then 0 else idx r key + 1
def idxI (es : List Ent) (key : ByteArray) : Int := if idx es key < es.length then (idx es key : Int) else -1
theorem idx_le : ∀ (es : List Ent) (key : ByteArray), idx es key ≤ es.length
  | [], _ => Nat.le_refl _
  | e :: r, key => by
    simp only [idx, List.length_cons]
    have := idx_le r key
    split <;> omega
theorem idx_of : ∀ (es : List Ent) (key : ByteArray) (i : Nat), i ≤ es.length → (∀ t, t < i → ¬ (ent es t).key = key) → (i < es.length → (ent es i).key = key) → idx es key = i
  | [], _, i, h, _, _ => by simp at h; simp [idx, h]
  | e :: r, key, i, h, h1, h2 => by
    cases i with
    | zero =>
      have : e.key = key := by simpa [ent] using h2 (by simp)
      simp [idx, this]
    | succ i =>
      have h0 : ¬ e.key = key := by simpa [ent] using h1 0 (by omega)
      simp only [idx, h0, if_false]
      rw [idx_of r key i (by simpa using h) (fun t ht => by have := h1 (t + 1) (by omega); rwa [ent_cons_succ] at this) (fun hi => by have := h2 (by simpa using hi); rwa [ent_cons_succ] at this)]
theorem idx_asc {es : List Ent} (h : Asc es) (key : ByteArray) : idx es key = if there es key then pos es key else es.length := by
  have hle := pos_le es key
  cases ht : there es key
  · simp only [Bool.false_eq_true, if_false]
    refine idx_of es key _ (Nat.le_refl _) (fun t hlt he => ?_) (fun k => by omega)
    have hp : pos es key = t := by
      refine pos_of (by omega) (fun u hu => ?_) (fun _ => by rw [he]; exact ltB_irrefl _)
      have := h u t hu hlt
      rwa [he] at this
    unfold there at ht
    rw [hp] at ht
    simp [hlt, he] at ht
  · unfold there at ht
    simp only [Bool.and_eq_true, decide_eq_true_eq] at ht
    simp only [if_true]
    refine idx_of es key _ hle (fun t hlt he => ?_) (fun _ => ht.2)
    have := pos_lt es key t hlt
    rw [he, ltB_irrefl] at this; cases this
theorem idxI_asc {es : List Ent} (h : Asc es) (key : ByteArray) : idxI es key = if there es key then (pos es key : Int) else -1 := by
  unfold idxI
  rw [idx_asc h key]
  cases ht : there es key
  · simp
  · simp only [if_true]
    unfold there at ht
    simp only [Bool.and_eq_true, decide_eq_true_eq] at ht
    rw [if_pos ht.1]
end Go.Proofs.YtcdobhdbafpkiadDoor.Pl
/-
  Plain facts: an entry laid into a store, and stores merged; no program in sight.
-/
namespace Go.Proofs.YtcdobhdbafpkiadDoor.Pl
open Go.RowKit
set_option maxRecDepth 20000

def Srt (es : List Ent) : Prop := es.Pairwise fun a b => ltB a.key b.key = true
theorem asc_iff (es : List Ent) : Asc es ↔ Srt es := by
  unfold Asc Srt
  rw [List.pairwise_iff_getElem]
  constructor
  · intro h i j hi hj hij
    have := h i j hij hj
    rwa [ent_eq es i hi, ent_eq es j hj] at this
  · intro h i j hij hj
    have := h i j (by omega) hj hij
    rwa [ent_eq es i (by omega), ent_eq es j hj]
theorem may_iff (es : List Ent) : May es ↔ ∀ e ∈ es, e.may = true := by
  unfold May
  constructor
  · intro h e he
    obtain ⟨i, hi, rfl⟩ := List.getElem_of_mem he
    rw [← ent_eq es i hi]; exact h i hi
  · intro h i hi
    exact h _ (ent_mem es i hi)
/-- a store that may be -/
def Good (es : List Ent) : Prop := es.length ≤ 60 ∧ (∀ e ∈ es, e.may = true) ∧ Srt es
theorem good_iff (es : List Ent) : fault es = 0 ↔ Good es := by
  constructor
  · intro h
    obtain ⟨h1, h2, h3⟩ := good_of_fault h
    exact ⟨h1, (may_iff es).1 h2, (asc_iff es).1 h3⟩
  · rintro ⟨h1, h2, h3⟩
    exact fault_of_good h1 ((may_iff es).2 h2) ((asc_iff es).2 h3)
theorem may_ok {e : Ent} (h : e.may = true) : e.ok := by
  unfold Ent.may entB keyB at h
  simp only [Bool.and_eq_true, decide_eq_true_eq] at h
  obtain ⟨⟨⟨⟨h1, _⟩, h2⟩, h3⟩, h4⟩ := h
  unfold Ent.ok maxLen
  refine ⟨by omega, ?_, ?_, by omega⟩
  · exact Go.WalkArith.wf_i64 (by omega)
  · exact Go.WalkArith.wf_i64 (by omega)

/-- an entry comes to its place, instead of that with its key -/
def ins : List Ent → Ent → List Ent
  | [], x => [x]
  | e :: r, x => if ltB e.key x.key then e :: ins r x else if e.key = x.key then x :: r else x :: e :: r
/-- what is laid at a place -/
def layL (es : List Ent) (i : Nat) (instead : Bool) (x : Ent) : List Ent := es.take i ++ x :: es.drop (if instead then i + 1 else i)

theorem there_cons_lt {e : Ent} {r : List Ent} {key : ByteArray} (h : ltB e.key key = true) : there (e :: r) key = there r key := by
  unfold there
  simp only [pos, h, if_true, ent_cons_succ, List.length_cons]
  simp
theorem there_cons_ge {e : Ent} {r : List Ent} {key : ByteArray} (h : ltB e.key key = false) : there (e :: r) key = decide (e.key = key) := by
  unfold there
  simp [pos, h, ent]
theorem lay_ins : ∀ (es : List Ent) (x : Ent), layL es (pos es x.key) (there es x.key) x = ins es x
  | [], x => by simp [layL, ins, pos, there]
  | e :: r, x => by
    cases h : ltB e.key x.key
    · rw [there_cons_ge h]
      simp only [pos, h, ins, layL]
      by_cases k : e.key = x.key
      · simp [k]
      · simp [k]
    · rw [there_cons_lt h]
      have ih := lay_ins r x
      unfold layL at ih ⊢
      simp only [pos, h, if_true, ins, List.take_succ_cons, List.cons_append]
      rw [← ih]
      cases there r x.key <;> simp

theorem mem_ins {es : List Ent} {x e : Ent} (h : e ∈ ins es x) : e = x ∨ e ∈ es := by
  induction es with
  | nil => simp [ins] at h; exact .inl h
  | cons a r ih =>
    unfold ins at h
    split at h
    · rcases List.mem_cons.1 h with rfl | h
      · exact .inr (by simp)
      · rcases ih h with h | h
        · exact .inl h
        · exact .inr (by simp [h])
    · split at h
      · rcases List.mem_cons.1 h with rfl | h
        · exact .inl rfl
        · exact .inr (by simp [h])
      · rcases List.mem_cons.1 h with rfl | h
        · exact .inl rfl
        · exact .inr h
theorem ins_srt {es : List Ent} {x : Ent} (h : Srt es) : Srt (ins es x) := by
  induction es with
  | nil => simp [Srt, ins]
  | cons a r ih =>
    unfold Srt at h ih ⊢
    rw [List.pairwise_cons] at h
    obtain ⟨h1, h2⟩ := h
    unfold ins
    split
    · rename_i hl
      refine List.pairwise_cons.2 ⟨fun e he => ?_, ih h2⟩
      rcases mem_ins he with rfl | he
      · exact hl
      · exact h1 e he
    · rename_i hl
      split
      · rename_i he
        refine List.pairwise_cons.2 ⟨fun e hm => ?_, h2⟩
        rw [← he]; exact h1 e hm
      · rename_i he
        have hlt : ltB x.key a.key = true := by
          cases k : ltB x.key a.key
          · exact absurd (ltB_total (by simpa using hl) k) he
          · rfl
        refine List.pairwise_cons.2 ⟨fun e hm => ?_, List.pairwise_cons.2 ⟨h1, h2⟩⟩
        rcases List.mem_cons.1 hm with rfl | hm
        · exact hlt
        · exact ltB_trans hlt (h1 e hm)
theorem ins_len : ∀ (es : List Ent) (x : Ent), (ins es x).length = if there es x.key then es.length else es.length + 1
  | [], x => by simp [ins, there]
  | e :: r, x => by
    have ih := ins_len r x
    cases h : ltB e.key x.key
    · rw [there_cons_ge h]
      simp only [ins, h]
      by_cases k : e.key = x.key <;> simp [k]
    · rw [there_cons_lt h]
      simp only [ins, h, if_true, List.length_cons, ih]
      cases there r x.key <;> simp

/-- the document's way to lay an entry -/
def wE : List Ent → Bool → Ent → List Ent
  | [], done, x => if done then [] else [x]
  | e :: r, done, x => (if !done && !ltB e.key x.key then [x] else []) ++ ((if e.key = x.key then [] else [e]) ++ wE r (done || !ltB e.key x.key) x)
theorem wE_done : ∀ (es : List Ent) (x : Ent), (∀ e ∈ es, ¬ e.key = x.key) → wE es true x = es
  | [], _, _ => rfl
  | e :: r, x, h => by
    have h0 := h e (by simp)
    simp [wE, h0, wE_done r x (fun e he => h e (by simp [he]))]
theorem wE_ins : ∀ (es : List Ent) (x : Ent), Srt es → wE es false x = ins es x
  | [], x, _ => rfl
  | e :: r, x, h => by
    unfold Srt at h
    rw [List.pairwise_cons] at h
    obtain ⟨h1, h2⟩ := h
    cases hl : ltB e.key x.key
    · have hrest : ∀ a ∈ r, ¬ a.key = x.key := by
        intro a ha he
        have := h1 a ha
        rw [he, hl] at this; cases this
      simp only [wE, ins, hl, Bool.not_false, Bool.and_self, if_true, Bool.or_true]
      rw [wE_done r x hrest]
      by_cases k : e.key = x.key <;> simp [k]
    · have k : ¬ e.key = x.key := ne_of_lt hl
      simp [wE, ins, hl, k, wE_ins r x h2]

/-- does an entry come? -/
def comesB (es : List Ent) (x : Ent) : Bool := if there es x.key then decide (0 < cmpE x.ver x.org x.val (ent es (pos es x.key)).ver (ent es (pos es x.key)).org (ent es (pos es x.key)).val) else decide (es.length < 60)
theorem ins_good {es : List Ent} {x : Ent} (h : Good es) (hx : x.may = true) (hc : comesB es x = true) : Good (ins es x) := by
  obtain ⟨h1, h2, h3⟩ := h
  refine ⟨?_, ?_, ins_srt h3⟩
  · rw [ins_len]
    unfold comesB at hc
    cases ht : there es x.key
    · rw [ht] at hc; simp at hc; simp; omega
    · simpa using h1
  · intro e he
    rcases mem_ins he with rfl | he
    · exact hx
    · exact h2 e he
/-- a merge, one by one -/
def mrg : List Ent → List ByteArray → List Ent → List Ent × List ByteArray
  | out, ks, [] => (out, ks)
  | out, ks, x :: r => if comesB out x then mrg (ins out x) (ks ++ [x.key]) r else mrg out ks r
theorem mrg_good : ∀ (b out : List Ent) (ks : List ByteArray), Good out → (∀ e ∈ b, e.may = true) → Good (mrg out ks b).1
  | [], _, _, h, _ => h
  | x :: r, out, ks, h, hb => by
    unfold mrg
    split
    · rename_i hc
      exact mrg_good r _ _ (ins_good h (hb x (by simp)) hc) (fun e he => hb e (by simp [he]))
    · exact mrg_good r _ _ h (fun e he => hb e (by simp [he]))
end Go.Proofs.YtcdobhdbafpkiadDoor.Pl
/-
  Rows of entries that a call itself has made: what they hold, and how they are read.
-/
namespace Go.Proofs.YtcdobhdbafpkiadDoor
open Go.RowKit
set_option maxRecDepth 20000

def cellsE (e : Pl.Ent) : List Value := [.string e.key, .int .i64 e.ver, .int .i64 e.org, .string e.val]
def cellsL : List Pl.Ent → List Value
  | [] => []
  | e :: r => cellsE e ++ cellsL r
theorem cellsL_len : ∀ es : List Pl.Ent, (cellsL es).length = es.length * 4
  | [] => rfl
  | e :: r => by simp [cellsL, cellsE, cellsL_len r]; omega
theorem cellsL_append : ∀ (a b : List Pl.Ent), cellsL (a ++ b) = cellsL a ++ cellsL b
  | [], _ => rfl
  | e :: r, b => by simp [cellsL, cellsL_append r b]
theorem cellsL_one : ∀ es : List Pl.Ent, ∀ u ∈ cellsL es, u.oneCell' = true
  | [], u, h => by simp [cellsL] at h
  | e :: r, u, h => by
    simp only [cellsL, List.mem_append] at h
    rcases h with h | h
    · simp [cellsE] at h
      rcases h with rfl | rfl | rfl | rfl <;> rfl
    · exact cellsL_one r u h

theorem rowAt_cons {w : World} {b off : Nat} {e : Pl.Ent} {r : List Pl.Ent} :
    RowAt w b off (e :: r) ↔ (w.cell? ⟨b, off, none⟩ = some (.string e.key) ∧ w.cell? ⟨b, off + 1, none⟩ = some (.int .i64 e.ver) ∧ w.cell? ⟨b, off + 2, none⟩ = some (.int .i64 e.org) ∧ w.cell? ⟨b, off + 3, none⟩ = some (.string e.val)) ∧ RowAt w b (off + 4) r := by
  constructor
  · intro h
    refine ⟨?_, fun i hi => ?_⟩
    · have := h 0 (by simp)
      simpa [Pl.ent_cons_zero] using this
    · have := h (i + 1) (by simpa using hi)
      rw [Pl.ent_cons_succ, show off + (i + 1) * 4 = off + 4 + i * 4 by omega] at this
      exact this
  · rintro ⟨h0, h1⟩ i hi
    cases i with
    | zero => simpa [Pl.ent_cons_zero] using h0
    | succ i =>
      rw [Pl.ent_cons_succ, show off + (i + 1) * 4 = off + 4 + i * 4 by omega]
      exact h1 i (by simpa using hi)
theorem rowAt_cells {w : World} {b : Nat} : ∀ (es : List Pl.Ent) (off : Nat), RowAt w b off es ↔ ∀ j u, (cellsL es)[j]? = some u → w.cell? ⟨b, off + j, none⟩ = some u
  | [], off => by
    constructor
    · intro _ j u h; simp [cellsL] at h
    · intro _ i hi; simp at hi
  | e :: r, off => by
    rw [rowAt_cons, rowAt_cells r (off + 4)]
    constructor
    · rintro ⟨⟨h0, h1, h2, h3⟩, h4⟩ j u hj
      match j, hj with
      | 0, hj => simp [cellsL, cellsE] at hj; subst hj; exact h0
      | 1, hj => simp [cellsL, cellsE] at hj; subst hj; exact h1
      | 2, hj => simp [cellsL, cellsE] at hj; subst hj; exact h2
      | 3, hj => simp [cellsL, cellsE] at hj; subst hj; exact h3
      | j + 4, hj =>
        have := h4 j u (by simpa [cellsL, cellsE] using hj)
        rwa [show off + (j + 4) = off + 4 + j by omega]
    · intro h
      refine ⟨⟨?_, ?_, ?_, ?_⟩, fun j u hj => ?_⟩
      · exact h 0 _ (by simp [cellsL, cellsE])
      · exact h 1 _ (by simp [cellsL, cellsE])
      · exact h 2 _ (by simp [cellsL, cellsE])
      · exact h 3 _ (by simp [cellsL, cellsE])
      · have := h (j + 4) u (by simpa [cellsL, cellsE] using hj)
        rwa [show off + 4 + j = off + (j + 4) by omega]
theorem RowAt.take {w : World} {b off : Nat} {es : List Pl.Ent} (h : RowAt w b off es) (n : Nat) : RowAt w b off (es.take n) := by
  intro i hi
  simp only [List.length_take] at hi
  have := h i (by omega)
  have e : Pl.ent (es.take n) i = Pl.ent es i := by
    rw [Pl.ent_eq _ _ (by simp; omega), Pl.ent_eq _ _ (by omega)]; simp
  rwa [e]
theorem RowAt.drop {w : World} {b off : Nat} {es : List Pl.Ent} (h : RowAt w b off es) (n : Nat) : RowAt w b (off + n * 4) (es.drop n) := by
  intro i hi
  simp only [List.length_drop] at hi
  have := h (n + i) (by omega)
  have e : Pl.ent (es.drop n) i = Pl.ent es (n + i) := by
    rw [Pl.ent_eq _ _ (by simp; omega), Pl.ent_eq _ _ (by omega)]; simp
  rw [e, show off + n * 4 + i * 4 = off + (n + i) * 4 by omega]
  exact this

/-- a slice value over a row of the call's own, from block 'base' on -/
def Own (w : World) (base : Nat) (v : Value) (es : List Pl.Ent) : Prop := w.ownsRow base 64 4 v es.length (cellsL es)

theorem infoEntry : (Tryd.prog.info? 64).map (fun i => (i.zero, i.size, i.bytes)) = some (some (.agg #[.string ⟨#[]⟩, .int .i64 0, .int .i64 0, .string ⟨#[]⟩]), 4, 48) := by kernel_rfl

theorem Own.shape {w : World} {base : Nat} {v : Value} {es : List Pl.Ent} (h : Own w base v es) (hok : ∀ e ∈ es, e.ok) :
    ∃ a cap, v = .slice a es.length cap ∧ IsEnts w a es.length cap es ∧ (a = none → cap = 0) ∧ (∀ x, a = some x → base ≤ x.block) := by
  obtain ⟨_, h | ⟨g, cap, cur, rfl, hb, hh, hn, hm, hs, hx⟩⟩ := h
  · obtain ⟨rfl, hn⟩ := h
    have hes : es = [] := List.length_eq_zero_iff.1 hn
    subst hes
    exact ⟨none, 0, rfl, ⟨rfl, Nat.le_refl _, by simp, hok, .inl rfl⟩, fun _ => rfl, by simp⟩
  · refine ⟨some ⟨g, 0, none⟩, cap, rfl, ⟨rfl, hn, hm, hok, ?_⟩, by simp, by rintro x ⟨⟩; exact hb⟩
    rcases es with _ | ⟨e, r⟩
    · exact .inl rfl
    · right
      refine ⟨g, 0, rfl, ?_, ?_⟩
      · exact lt_of_block hh
      · rw [rowAt_cells]
        intro j u hj
        rw [← hx] at hj
        have hj' : cur[j]? = some u := by
          rw [List.getElem?_take] at hj
          split at hj
          · rw [← Array.getElem?_toList]; exact hj
          · cases hj
        simp [World.cell?, hh, hj']
theorem Own.below {w w' : World} {base : Nat} {v : Value} {es : List Pl.Ent} (h : Own w base v es) (k : Below w.heap.size w w') : Own w' base v es := by
  obtain ⟨h0, h1⟩ := h
  refine ⟨h0, ?_⟩
  rcases h1 with h1 | ⟨g, cap, cur, rfl, hb, hh, hr⟩
  · exact .inl h1
  · exact .inr ⟨g, cap, cur, rfl, hb, (k.block g (lt_of_block hh)).trans hh, hr⟩
theorem Own.mono {w : World} {base base' : Nat} {v : Value} {es : List Pl.Ent} (h : Own w base v es) (k : base' ≤ base) : Own w base' v es := by
  obtain ⟨h0, h1⟩ := h
  refine ⟨h0, ?_⟩
  rcases h1 with h1 | ⟨g, cap, cur, rfl, hb, hr⟩
  · exact .inl h1
  · exact .inr ⟨g, cap, cur, rfl, by omega, hr⟩
theorem Own.drewN {w : World} {base : Nat} {v : Value} {es : List Pl.Ent} (h : Own w base v es) (n : Nat) : Own (w.drewN n) base v es := h
theorem Own.nil (w : World) (base : Nat) : Own w base (.slice none 0 0) [] := World.ownsRow_nil _ _ _ _
theorem box4 {w w3 : World} {c0 c1 c2 c3 : Value} {T : TypeId} (hb : Below (w.heap.size + 1) (w.alloc (.cells #[c0, c1, c2, c3] T)) w3) :
    w3.cell? ⟨w.heap.size, 0, none⟩ = some c0 ∧ w3.cell? ⟨w.heap.size, 1, none⟩ = some c1 ∧ w3.cell? ⟨w.heap.size, 2, none⟩ = some c2 ∧ w3.cell? ⟨w.heap.size, 3, none⟩ = some c3 := by
  refine ⟨?_, ?_, ?_, ?_⟩
  all_goals
    rw [hb.cell (by simp)]
    simp
theorem new4 (w : World) {T : TypeId} {e : Pl.Ent} {j : Nat} {u : Value} (h : (cellsE e)[j]? = some u) :
    (w.alloc (.cells #[.string e.key, .int .i64 e.ver, .int .i64 e.org, .string e.val] T)).cell? ⟨w.heap.size, 0 + j, none⟩ = some u := by
  match j, h with
  | 0, h => simp [cellsE] at h; subst h; simp
  | 1, h => simp [cellsE] at h; subst h; simp
  | 2, h => simp [cellsE] at h; subst h; simp
  | 3, h => simp [cellsE] at h; subst h; simp
  | j + 4, h => simp [cellsE] at h

theorem own_of {w : World} {base n : Nat} {v : Value} {xs : List Value} {ll : List Pl.Ent} (h : w.ownsRow base 64 4 v n xs) (e : xs = cellsL ll) : Own w base v ll := by
  subst e
  have hn : n = ll.length := by
    have := h.1
    rw [cellsL_len] at this
    omega
  subst hn
  exact h

theorem heap_new (w : World) (o : Obj) : (w.alloc o).heap[w.heap.size]? = some o := by
  show (w.heap.push o)[w.heap.size]? = _
  simp
end Go.Proofs.YtcdobhdbafpkiadDoor
/-
  Contract: the entry of a raw thing.
-/
namespace Go.Proofs.YtcdobhdbafpkiadDoor
open Go.RowKit
set_option maxRecDepth 20000

theorem rblk_set {w : World} {b : Nat} {cs : Array Value} {T : TypeId} {z : Nat × Nat} {o : Nat} {v : Value} (h : w.heap[b]? = some (.cells cs T z)) :
    (w.setCell ⟨b, o, none⟩ v).heap[b]? = some (.cells (cs.setIfInBounds o v) T z) := by
  simp only [World.setCell, Array.getElem?_modify, h]
  simp
theorem rblk4 {w : World} {b : Nat} {c0 c1 c2 c3 : Value} {T : TypeId} (h : w.heap[b]? = some (.cells #[c0, c1, c2, c3] T (0, 0))) :
    (w.cell? ⟨b, 0, none⟩ = some c0 ∧ w.cell? ⟨b, 1, none⟩ = some c1 ∧ w.cell? ⟨b, 2, none⟩ = some c2 ∧ w.cell? ⟨b, 3, none⟩ = some c3) ∧
    (w.frozen? ⟨b, 0, none⟩ = false ∧ w.frozen? ⟨b, 1, none⟩ = false ∧ w.frozen? ⟨b, 2, none⟩ = false ∧ w.frozen? ⟨b, 3, none⟩ = false) := by
  refine ⟨⟨?_, ?_, ?_, ?_⟩, ⟨?_, ?_, ?_, ?_⟩⟩
  all_goals simp [World.cell?, World.frozen?, h]
theorem rbelow_set {B X o : Nat} {a W : World} {v : Value} (h : Below B a W) (hB : B ≤ X) : Below B a (W.setCell ⟨X, o, none⟩ v) :=
  ⟨h.os, h.tape, h.output, by simpa [World.setCell] using h.size, fun k hk => (Below.heap_setCell _ _ _ _ (by simp; omega)).trans (h.block k hk)⟩

/-- what slot k + 3 holds once operation k has been carried out -/
def EF (k0 k1 k2 k3 : Int) (R : Nat) (w : World) : Nat → Value → Prop
  | 0, v => ∃ b, v = .slice (some ⟨b, 0, none⟩) 6 6 ∧ b < w.heap.size ∧ ∀ j, j < 6 → ∃ s, w.cell? ⟨b, j, none⟩ = some (.string s) ∧ Pl.keyB s = true
  | 1, v => v = .pointer (some ⟨R, 0, none⟩)
  | 2, v => v = .int .i64 k0
  | 3, v => ∃ n : Nat, v = .int .i64 (n : Int) ∧ n < 6
  | 4, v => ∃ b j s, v = .pointer (some ⟨b, j, none⟩) ∧ b < w.heap.size ∧ w.cell? ⟨b, j, none⟩ = some (.string s) ∧ Pl.keyB s = true
  | 5, v => ∃ s, v = .string s ∧ Pl.keyB s = true
  | 6, v => v = .pointer (some ⟨R, 1, none⟩)
  | 7, v => v = .int .i64 k1
  | 8, v => ∃ n : Nat, v = .int .i64 (n : Int) ∧ n < 4
  | 9, v => ∃ n : Int, v = .int .i64 n ∧ 1 ≤ n ∧ n ≤ 4
  | 10, v => v = .pointer (some ⟨R, 2, none⟩)
  | 11, v => v = .int .i64 k2
  | 12, v => ∃ n : Nat, v = .int .i64 (n : Int) ∧ n < 3
  | 13, v => ∃ b, v = .slice (some ⟨b, 0, none⟩) 5 5 ∧ b < w.heap.size ∧ ∀ j, j < 5 → ∃ s, w.cell? ⟨b, j, none⟩ = some (.string s) ∧ s.size ≤ 120
  | 14, v => v = .pointer (some ⟨R, 3, none⟩)
  | 15, v => v = .int .i64 k3
  | 16, v => ∃ n : Nat, v = .int .i64 (n : Int) ∧ n < 5
  | 17, v => ∃ b j s, v = .pointer (some ⟨b, j, none⟩) ∧ b < w.heap.size ∧ w.cell? ⟨b, j, none⟩ = some (.string s) ∧ s.size ≤ 120
  | 18, v => ∃ s, v = .string s ∧ s.size ≤ 120
  | 19, v => ∃ x : Pl.Ent, v = .agg #[.string x.key, .int .i64 x.ver, .int .i64 x.org, .string x.val] ∧ x.may = true ∧ x.ver ≤ 4
  | _, _ => True

theorem EF.mono {k0 k1 k2 k3 : Int} {R : Nat} {w w' : World} {k : Nat} {v : Value} (h : EF k0 k1 k2 k3 R w k v) (hb : Below w.heap.size w w') : EF k0 k1 k2 k3 R w' k v := by
  have hz := hb.size
  match k, h with
  | 0, ⟨b, h1, h2, h3⟩ => exact ⟨b, h1, by omega, fun j hj => by obtain ⟨s, e, q⟩ := h3 j hj; exact ⟨s, ((bcell hb).1 b j h2).trans e, q⟩⟩
  | 13, ⟨b, h1, h2, h3⟩ => exact ⟨b, h1, by omega, fun j hj => by obtain ⟨s, e, q⟩ := h3 j hj; exact ⟨s, ((bcell hb).1 b j h2).trans e, q⟩⟩
  | 4, ⟨b, j, s, h1, h2, h3, h4⟩ => exact ⟨b, j, s, h1, by omega, ((bcell hb).1 b j h2).trans h3, h4⟩
  | 17, ⟨b, j, s, h1, h2, h3, h4⟩ => exact ⟨b, j, s, h1, by omega, ((bcell hb).1 b j h2).trans h3, h4⟩
  | 1, h => exact h
  | 2, h => exact h
  | 3, h => exact h
  | 5, h => exact h
  | 6, h => exact h
  | 7, h => exact h
  | 8, h => exact h
  | 9, h => exact h
  | 10, h => exact h
  | 11, h => exact h
  | 12, h => exact h
  | 14, h => exact h
  | 15, h => exact h
  | 16, h => exact h
  | 18, h => exact h
  | 19, h => exact h
  | n + 20, h => exact h

structure EInv (k0 k1 k2 k3 : Int) (R : Nat) (W0 : World) (listed : Array Bool) (a : Act) (w : World) : Prop where
  ls : listed.size = 21
  sz : a.tmps.size = 23
  df : a.defers = []
  s1 : a.tmps[1]?.getD undef = .pointer (some ⟨R, 0, none⟩)
  s2 : a.tmps[2]?.getD undef = .pointer (some ⟨R + 1, 0, none⟩)
  f : listed.getD 20 false = false → ∀ k, k < 20 → listed.getD k false = true → EF k0 k1 k2 k3 R w k (a.tmps[k + 3]?.getD undef)
  nb : listed.getD 20 false = false → Below W0.heap.size W0 w
  al : listed.getD 20 false = true → ∀ k, k < 20 → listed.getD k false = true
  dn : listed.getD 20 false = true → ∃ x : Pl.Ent, (x.may = true ∧ x.ver ≤ 4) ∧ Below R W0 w ∧ w.heap[R + 1]? = some (.cells #[.string x.key, .int .i64 x.ver, .int .i64 x.org, .string x.val] 64 (0, 0))

theorem EInv.put {k0 k1 k2 k3 : Int} {R : Nat} {W0 : World} {listed : Array Bool} {a : Act} {w w' : World} {i : Nat} {v : Value} (h : EInv k0 k1 k2 k3 R W0 listed a w) (hi : i < 20) (hn : listed.getD 20 false = false) (hb : Below w.heap.size w w') (hv : EF k0 k1 k2 k3 R w' i v) :
    EInv k0 k1 k2 k3 R W0 (listed.setIfInBounds i true) (a.put (some (i + 3)) v) w' := by
  have h20 : (listed.setIfInBounds i true).getD 20 false = false := by rw [getD_set_ne false (by omega)]; exact hn
  refine ⟨by simp [h.ls], by simp [Act.put, h.sz], h.df, by rw [eval_ne (by omega)]; exact h.s1, by rw [eval_ne (by omega)]; exact h.s2, ?_, fun _ => ?_, (fun h' => by rw [h20] at h'; cases h'), fun h' => by rw [h20] at h'; cases h'⟩
  · intro _ k hk hl
    by_cases hki : i = k
    · subst hki
      rw [eval_eq (by rw [h.sz]; omega)]
      exact hv
    · rw [getD_set_ne false hki] at hl
      rw [eval_ne (by omega)]
      exact (h.f hn k hk hl).mono hb
  · have := h.nb hn
    exact this.trans (hb.mono this.size)
end Go.Proofs.YtcdobhdbafpkiadDoor
/-
  Contract: the entry of a raw thing: the walk.
-/
namespace Go.Proofs.YtcdobhdbafpkiadDoor
open Go.RowKit
set_option maxRecDepth 20000

theorem wf_bounds {n : Int} (h : (Lit.int .i64 n).wf = true) : -9223372036854775808 ≤ n ∧ n ≤ 9223372036854775807 := by
  unfold Lit.wf at h
  simp only [Bool.and_eq_true, decide_eq_true_eq] at h
  exact h

set_option maxHeartbeats 4000000 in
set_option maxRecDepth 20000 in
theorem Entry_any4 (k0 k1 k2 k3 : Int) (w : World) (h0 : (Lit.int .i64 k0).wf = true) (h1 : (Lit.int .i64 k1).wf = true) (h2 : (Lit.int .i64 k2).wf = true) (h3 : (Lit.int .i64 k3).wf = true) :
    Calls Tryd.prog 50 #[.agg #[.int .i64 k0, .int .i64 k1, .int .i64 k2, .int .i64 k3]] w fun e w' =>
      ∃ x : Pl.Ent, e = .returned (.agg #[.string x.key, .int .i64 x.ver, .int .i64 x.org, .string x.val]) ∧ (x.may = true ∧ x.ver ≤ 4) ∧ Below w.heap.size w w' := by
  have b0 := wf_bounds h0
  have b1 := wf_bounds h1
  have b2 := wf_bounds h2
  have b3 := wf_bounds h3
  go_enter Tryd.func50, Tryd.ntmps50
  go_wp2_with fail
  refine wp_region_any (by kernel_rfl) ?_
  have hW0 : ∃ W0 : World, W0 = ((w.alloc (.cells #[.int .i64 k0, .int .i64 k1, .int .i64 k2, .int .i64 k3] 29)).alloc (.cells #[.string ⟨#[]⟩, .int .i64 0, .int .i64 0, .string ⟨#[]⟩] 64)) := ⟨_, rfl⟩
  obtain ⟨W0, hW0⟩ := hW0
  have hR : w.heap.size < W0.heap.size := by rw [hW0]; simp; omega
  have c0 : W0.cell? ⟨w.heap.size, 0, none⟩ = some (.int .i64 k0) := by rw [hW0]; simp
  have c1 : W0.cell? ⟨w.heap.size, 1, none⟩ = some (.int .i64 k1) := by rw [hW0]; simp
  have c2 : W0.cell? ⟨w.heap.size, 2, none⟩ = some (.int .i64 k2) := by rw [hW0]; simp
  have c3 : W0.cell? ⟨w.heap.size, 3, none⟩ = some (.int .i64 k3) := by rw [hW0]; simp
  have hR1 : w.heap.size + 1 < W0.heap.size := by rw [hW0]; simp
  have cB : W0.heap[w.heap.size + 1]? = some (.cells #[.string ⟨#[]⟩, .int .i64 0, .int .i64 0, .string ⟨#[]⟩] 64 (0, 0)) := by
    rw [hW0]
    have := heap_new (w.alloc (.cells #[.int .i64 k0, .int .i64 k1, .int .i64 k2, .int .i64 k3] 29)) (.cells #[.string ⟨#[]⟩, .int .i64 0, .int .i64 0, .string ⟨#[]⟩] 64)
    simpa using this
  have hB0 : Below w.heap.size w W0 := by rw [hW0]; exact ((Below.refl _ _).alloc (Nat.le_refl _) _).alloc (by simp) _
  refine wpAny_inv (EInv k0 k1 k2 k3 w.heap.size W0) ?_ ?_ _ _ _ _ (by decide +kernel) ?_
  · intro i listed a W hi hI
    rw [mem_ready] at hi
    obtain ⟨hl, o, ho, hall⟩ := hi
    have hlt : i < 21 := (Array.getElem?_eq_some_iff.1 ho).1
    have hn20 : i < 20 → listed.getD 20 false = false := by
      intro hi
      cases hx : listed.getD 20 false with
      | false => rfl
      | true =>
        have := hI.al hx i hi
        have hls := hI.ls
        have hil : i < listed.size := by omega
        simp [hil] at this hl
        rw [this] at hl
        cases hl
    have hcs : i = 0 ∨ i = 1 ∨ i = 2 ∨ i = 3 ∨ i = 4 ∨ i = 5 ∨ i = 6 ∨ i = 7 ∨ i = 8 ∨ i = 9 ∨ i = 10 ∨ i = 11 ∨ i = 12 ∨ i = 13 ∨ i = 14 ∨ i = 15 ∨ i = 16 ∨ i = 17 ∨ i = 18 ∨ i = 19 ∨ i = 20 := by omega
    rcases hcs with rfl | rfl | rfl | rfl | rfl | rfl | rfl | rfl | rfl | rfl | rfl | rfl | rfl | rfl | rfl | rfl | rfl | rfl | rfl | rfl | rfl
    all_goals
      simp at ho
      subst ho
      refine wpOp_of rfl rfl ?_
    · simp [Oper.wp, go_sem]
      refine hI.put (by omega) (hn20 (by omega)) ((Below.refl _ _).alloc (Nat.le_refl _) _) ⟨W.heap.size, rfl, by simp, ?_⟩
      intro j hj
      have hjs : j = 0 ∨ j = 1 ∨ j = 2 ∨ j = 3 ∨ j = 4 ∨ j = 5 := by omega
      rcases hjs with rfl | rfl | rfl | rfl | rfl | rfl
      all_goals exact ⟨_, by simp; rfl, by decide⟩
    · have e1 := hI.s1
      simp [Oper.wp, go_sem, e1]
      exact hI.put (i := 1) (by omega) (hn20 (by omega)) (Below.refl _ _) rfl
    · have e1 : a.tmps[4]?.getD undef = .pointer (some ⟨w.heap.size, 0, none⟩) := hI.f (hn20 (by omega)) 1 (by omega) (hall ⟨1, .data⟩ (by simp) rfl)
      have e2 := ((bcell (hI.nb (hn20 (by omega)))).1 w.heap.size 0 hR).trans c0
      simp [Oper.wp, go_sem, e1, e2]
      exact hI.put (by omega) (hn20 (by omega)) (Below.refl _ _) rfl
    · have e1 : a.tmps[5]?.getD undef = .int .i64 k0 := hI.f (hn20 (by omega)) 2 (by omega) (hall ⟨2, .data⟩ (by simp) rfl)
      simp [Oper.wp, go_sem, e1]
      refine (picked_any k0 6 W b0.1 b0.2 (by omega) (by omega)).mono ?_
      rintro e w1 ⟨rfl, rfl⟩
      have hr := Pl.pk_range k0 6 (by omega)
      obtain ⟨n, hn⟩ := Int.eq_ofNat_of_zero_le hr.1
      rw [hn] at hr ⊢
      exact hI.put (by omega) (hn20 (by omega)) (Below.refl _ _) ⟨n, rfl, by omega⟩
    · obtain ⟨b, e1, hb, hc⟩ := hI.f (hn20 (by omega)) 0 (by omega) (hall ⟨0, .data⟩ (by simp) rfl)
      obtain ⟨n, e2, hn⟩ := hI.f (hn20 (by omega)) 3 (by omega) (hall ⟨3, .data⟩ (by simp) rfl)
      obtain ⟨s, hs, hp⟩ := hc n hn
      simp only [Nat.reduceAdd] at e1 e2
      have hn' : (n : Int) < 6 := by omega
      simp [Oper.wp, go_sem, e1, e2, hn']
      exact hI.put (by omega) (hn20 (by omega)) (Below.refl _ _) ⟨b, n, s, by simp, hb, hs, hp⟩
    · obtain ⟨b, j, s, e1, hb, hc, hp⟩ := hI.f (hn20 (by omega)) 4 (by omega) (hall ⟨4, .data⟩ (by simp) rfl)
      simp only [Nat.reduceAdd] at e1
      simp [Oper.wp, go_sem, e1, hc]
      exact hI.put (by omega) (hn20 (by omega)) (Below.refl _ _) ⟨s, rfl, hp⟩
    · have e1 := hI.s1
      simp [Oper.wp, go_sem, e1]
      exact hI.put (i := 6) (by omega) (hn20 (by omega)) (Below.refl _ _) rfl
    · have e1 : a.tmps[9]?.getD undef = .pointer (some ⟨w.heap.size, 1, none⟩) := hI.f (hn20 (by omega)) 6 (by omega) (hall ⟨6, .data⟩ (by simp) rfl)
      have e2 := ((bcell (hI.nb (hn20 (by omega)))).1 w.heap.size 1 hR).trans c1
      simp [Oper.wp, go_sem, e1, e2]
      exact hI.put (by omega) (hn20 (by omega)) (Below.refl _ _) rfl
    · have e1 : a.tmps[10]?.getD undef = .int .i64 k1 := hI.f (hn20 (by omega)) 7 (by omega) (hall ⟨7, .data⟩ (by simp) rfl)
      simp [Oper.wp, go_sem, e1]
      refine (picked_any k1 4 W b1.1 b1.2 (by omega) (by omega)).mono ?_
      rintro e w1 ⟨rfl, rfl⟩
      have hr := Pl.pk_range k1 4 (by omega)
      obtain ⟨n, hn⟩ := Int.eq_ofNat_of_zero_le hr.1
      rw [hn] at hr ⊢
      exact hI.put (by omega) (hn20 (by omega)) (Below.refl _ _) ⟨n, rfl, by omega⟩
    · obtain ⟨n, e1, hn⟩ := hI.f (hn20 (by omega)) 8 (by omega) (hall ⟨8, .data⟩ (by simp) rfl)
      simp only [Nat.reduceAdd] at e1
      have hw : IntKind.i64.wrap (1 + (n : Int)) = 1 + (n : Int) := by rw [IntKind.wrap_i64]; omega
      simp [Oper.wp, go_sem, e1, hw]
      exact hI.put (by omega) (hn20 (by omega)) (Below.refl _ _) ⟨_, rfl, by omega, by omega⟩
    · have e1 := hI.s1
      simp [Oper.wp, go_sem, e1]
      exact hI.put (i := 10) (by omega) (hn20 (by omega)) (Below.refl _ _) rfl
    · have e1 : a.tmps[13]?.getD undef = .pointer (some ⟨w.heap.size, 2, none⟩) := hI.f (hn20 (by omega)) 10 (by omega) (hall ⟨10, .data⟩ (by simp) rfl)
      have e2 := ((bcell (hI.nb (hn20 (by omega)))).1 w.heap.size 2 hR).trans c2
      simp [Oper.wp, go_sem, e1, e2]
      exact hI.put (by omega) (hn20 (by omega)) (Below.refl _ _) rfl
    · have e1 : a.tmps[14]?.getD undef = .int .i64 k2 := hI.f (hn20 (by omega)) 11 (by omega) (hall ⟨11, .data⟩ (by simp) rfl)
      simp [Oper.wp, go_sem, e1]
      refine (picked_any k2 3 W b2.1 b2.2 (by omega) (by omega)).mono ?_
      rintro e w1 ⟨rfl, rfl⟩
      have hr := Pl.pk_range k2 3 (by omega)
      obtain ⟨n, hn⟩ := Int.eq_ofNat_of_zero_le hr.1
      rw [hn] at hr ⊢
      exact hI.put (by omega) (hn20 (by omega)) (Below.refl _ _) ⟨n, rfl, by omega⟩
    · simp [Oper.wp, go_sem]
      refine hI.put (by omega) (hn20 (by omega)) ((Below.refl _ _).alloc (Nat.le_refl _) _) ⟨W.heap.size, rfl, by simp, ?_⟩
      intro j hj
      have hjs : j = 0 ∨ j = 1 ∨ j = 2 ∨ j = 3 ∨ j = 4 := by omega
      rcases hjs with rfl | rfl | rfl | rfl | rfl
      all_goals exact ⟨_, by simp; rfl, by decide⟩
    · have e1 := hI.s1
      simp [Oper.wp, go_sem, e1]
      exact hI.put (i := 14) (by omega) (hn20 (by omega)) (Below.refl _ _) rfl
    · have e1 : a.tmps[17]?.getD undef = .pointer (some ⟨w.heap.size, 3, none⟩) := hI.f (hn20 (by omega)) 14 (by omega) (hall ⟨14, .data⟩ (by simp) rfl)
      have e2 := ((bcell (hI.nb (hn20 (by omega)))).1 w.heap.size 3 hR).trans c3
      simp [Oper.wp, go_sem, e1, e2]
      exact hI.put (by omega) (hn20 (by omega)) (Below.refl _ _) rfl
    · have e1 : a.tmps[18]?.getD undef = .int .i64 k3 := hI.f (hn20 (by omega)) 15 (by omega) (hall ⟨15, .data⟩ (by simp) rfl)
      simp [Oper.wp, go_sem, e1]
      refine (picked_any k3 5 W b3.1 b3.2 (by omega) (by omega)).mono ?_
      rintro e w1 ⟨rfl, rfl⟩
      have hr := Pl.pk_range k3 5 (by omega)
      obtain ⟨n, hn⟩ := Int.eq_ofNat_of_zero_le hr.1
      rw [hn] at hr ⊢
      exact hI.put (by omega) (hn20 (by omega)) (Below.refl _ _) ⟨n, rfl, by omega⟩
    · obtain ⟨b, e1, hb, hc⟩ := hI.f (hn20 (by omega)) 13 (by omega) (hall ⟨13, .data⟩ (by simp) rfl)
      obtain ⟨n, e2, hn⟩ := hI.f (hn20 (by omega)) 16 (by omega) (hall ⟨16, .data⟩ (by simp) rfl)
      obtain ⟨s, hs, hp⟩ := hc n hn
      simp only [Nat.reduceAdd] at e1 e2
      have hn' : (n : Int) < 5 := by omega
      simp [Oper.wp, go_sem, e1, e2, hn']
      exact hI.put (by omega) (hn20 (by omega)) (Below.refl _ _) ⟨b, n, s, by simp, hb, hs, hp⟩
    · obtain ⟨b, j, s, e1, hb, hc, hp⟩ := hI.f (hn20 (by omega)) 17 (by omega) (hall ⟨17, .data⟩ (by simp) rfl)
      simp only [Nat.reduceAdd] at e1
      simp [Oper.wp, go_sem, e1, hc]
      exact hI.put (by omega) (hn20 (by omega)) (Below.refl _ _) ⟨s, rfl, hp⟩
    · obtain ⟨s, e1, p1⟩ := hI.f (hn20 (by omega)) 5 (by omega) (hall ⟨5, .data⟩ (by simp) rfl)
      obtain ⟨v, e2, p2, p2'⟩ := hI.f (hn20 (by omega)) 9 (by omega) (hall ⟨9, .data⟩ (by simp) rfl)
      obtain ⟨n, e3, p3⟩ := hI.f (hn20 (by omega)) 12 (by omega) (hall ⟨12, .data⟩ (by simp) rfl)
      obtain ⟨t, e4, p4⟩ := hI.f (hn20 (by omega)) 18 (by omega) (hall ⟨18, .data⟩ (by simp) rfl)
      simp only [Nat.reduceAdd] at e1 e2 e3 e4
      simp [Oper.wp, go_sem, e1, e2, e3, e4]
      refine hI.put (by omega) (hn20 (by omega)) (Below.refl _ _) ⟨⟨s, v, n, t⟩, rfl, ?_, p2'⟩
      unfold Pl.Ent.may Pl.entB
      simp only [p1, Bool.true_and, Bool.and_eq_true, decide_eq_true_eq]
      exact ⟨⟨⟨p2, by omega⟩, by omega, by omega⟩, p4⟩
    · have hn : listed.getD 20 false = false := by
        have hls := hI.ls
        have hil : 20 < listed.size := by omega
        simp [hil] at hl ⊢
        exact hl
      obtain ⟨x, e1, p1⟩ := hI.f hn 19 (by omega) (hall ⟨19, .data⟩ (by simp) rfl)
      have e2 := hI.s2
      simp only [Nat.reduceAdd] at e1
      have hal : ∀ k, k < 20 → listed.getD k false = true := by
        intro k hk
        have hcs : k = 0 ∨ k = 1 ∨ k = 2 ∨ k = 3 ∨ k = 4 ∨ k = 5 ∨ k = 6 ∨ k = 7 ∨ k = 8 ∨ k = 9 ∨ k = 10 ∨ k = 11 ∨ k = 12 ∨ k = 13 ∨ k = 14 ∨ k = 15 ∨ k = 16 ∨ k = 17 ∨ k = 18 ∨ k = 19 := by omega
        rcases hcs with rfl | rfl | rfl | rfl | rfl | rfl | rfl | rfl | rfl | rfl | rfl | rfl | rfl | rfl | rfl | rfl | rfl | rfl | rfl | rfl
        all_goals exact hall ⟨_, .phase⟩ (by simp) rfl
      have hb := hI.nb hn
      have hblk := (hb.block (w.heap.size + 1) hR1).trans cB
      obtain ⟨⟨x0, x1, x2, x3⟩, ⟨y0, y1, y2, y3⟩⟩ := rblk4 hblk
      simp [Oper.wp, go_sem, e1, e2, x0, x1, x2, x3, y0, y1, y2, y3]
      refine ⟨by simp [hI.ls], hI.sz, hI.df, hI.s1, hI.s2, ?_, ?_, ?_, ?_⟩
      · intro h
        have hls := hI.ls
        have hil : 20 < listed.size := by omega
        simp [hil] at h
      · intro h
        have hls := hI.ls
        have hil : 20 < listed.size := by omega
        simp [hil] at h
      · intro _ k hk
        rw [getD_set_ne false (by omega)]
        exact hal k hk
      · intro _
        refine ⟨x, p1, rbelow_set (rbelow_set (rbelow_set (rbelow_set (hb.mono (by omega)) (by omega)) (by omega)) (by omega)) (by omega), ?_⟩
        have := rblk_set (o := 3) (v := .string x.val) (rblk_set (o := 2) (v := .int .i64 x.org) (rblk_set (o := 1) (v := .int .i64 x.ver) (rblk_set (o := 0) (v := .string x.key) hblk)))
        simpa using this
  · intro listed a W hr hI
    rename_i K hK
    have hal := all_listed (by decide +kernel) hI.ls hr 20 (by decide)
    obtain ⟨x, hx, hb, hblk⟩ := hI.dn hal
    obtain ⟨⟨x0, x1, x2, x3⟩, _⟩ := rblk4 hblk
    have e2 := hI.s2
    refine hK a W ?_
    refine wp_ret ?_
    show bodyPost Tryd.prog Tryd.f50 _ Exit.ret a W
    refine bodyPost_ret (v := .agg #[.string x.key, .int .i64 x.ver, .int .i64 x.org, .string x.val]) (by simp [results, Tryd.results50, go_sem, e2, x0, x1, x2, x3]) hI.df ⟨x, rfl, hx, hB0.trans hb⟩
  · rw [← hW0]
    refine ⟨by rfl, by rfl, rfl, by rfl, by rfl, ?_, ?_, ?_, ?_⟩
    · intro _ k hk h
      have : (Array.replicate 21 false).getD k false = true := h
      rw [show (Array.replicate 21 false).getD k false = false from by by_cases hk' : k < 21 <;> simp [hk']] at this
      cases this
    · intro _
      exact Below.drew (Below.refl _ _)
    · intro h
      have : (Array.replicate 21 false).getD 20 false = true := h
      simp at this
    · intro h
      have : (Array.replicate 21 false).getD 20 false = true := h
      simp at this
theorem Entry_any (k0 k1 k2 k3 : Int) (w : World) (h0 : (Lit.int .i64 k0).wf = true) (h1 : (Lit.int .i64 k1).wf = true) (h2 : (Lit.int .i64 k2).wf = true) (h3 : (Lit.int .i64 k3).wf = true) :
    Calls Tryd.prog 50 #[.agg #[.int .i64 k0, .int .i64 k1, .int .i64 k2, .int .i64 k3]] w fun e w' =>
      ∃ x : Pl.Ent, e = .returned (.agg #[.string x.key, .int .i64 x.ver, .int .i64 x.org, .string x.val]) ∧ x.may = true ∧ Below w.heap.size w w' :=
  (Entry_any4 k0 k1 k2 k3 w h0 h1 h2 h3).mono fun _ _ ⟨x, e, m, b⟩ => ⟨x, e, m.1, b⟩
end Go.Proofs.YtcdobhdbafpkiadDoor
/-
  Contracts: the place of a key in a store in order: the closure, the search, find; the document's placeOf.
-/
namespace Go.Proofs.YtcdobhdbafpkiadDoor
open Go.RowKit
set_option maxRecDepth 20000

theorem RowAt.drewN {w : World} {b off : Nat} {es : List Pl.Ent} (h : RowAt w b off es) (n : Nat) : RowAt (w.drewN n) b off es := fun i hi => h i hi

set_option maxHeartbeats 400000 in
theorem clo_any (es : List Pl.Ent) (key : ByteArray) (b off len cap bl bk i : Nat) (w : World) (hl : es.length = len) (_hc : len ≤ cap) (_hm : cap ≤ maxLen)
    (hrow : RowAt w b off es) (h1 : w.cell? ⟨bl, 0, none⟩ = some (.slice (some ⟨b, off, none⟩) len cap)) (h2 : w.cell? ⟨bk, 0, none⟩ = some (.string key)) (hi : i < len) :
    Calls Tryd.prog 64 #[.int .i64 i, .pointer (some ⟨bl, 0, none⟩), .pointer (some ⟨bk, 0, none⟩)] w fun e w' => e = .returned (.bool (!Pl.ltB (Pl.ent es i).key key)) ∧ ∃ n, w' = w.drewN n := by
  unfold maxLen at _hm
  obtain ⟨c0, _, _, _⟩ := hrow i (by omega)
  have hi' : (i : Int) < (len : Int) := by omega
  go_enter Tryd.func64, Tryd.ntmps64
  go_wp2_with fail
  go_quiet (fail)
  go_wp2
  go_ret
  exact ⟨rfl, _, rfl⟩

set_option maxHeartbeats 400000 in
theorem Search_any (es : List Pl.Ent) (key : ByteArray) (a : Option Addr) (len cap bl bk : Nat) (w : World) (hl : es.length = len) (hc : len ≤ cap) (hm : cap ≤ maxLen)
    (hrow : es = [] ∨ ∃ b off, a = some ⟨b, off, none⟩ ∧ RowAt w b off es) (h1 : w.cell? ⟨bl, 0, none⟩ = some (.slice a len cap)) (h2 : w.cell? ⟨bk, 0, none⟩ = some (.string key)) (has : Pl.Asc es) (h60 : len ≤ 60) :
    Calls Tryd.prog 63 #[.int .i64 len, .func (.func 64) #[] #[.pointer (some ⟨bl, 0, none⟩), .pointer (some ⟨bk, 0, none⟩)]] w fun e w' => e = .returned (.int .i64 (Pl.pos es key)) ∧ ∃ n, w' = w.drewN n := by
  have hm' : cap ≤ maxLen := hm
  have HM : Hid (cap ≤ maxLen) := hm'
  clear hm'
  unfold maxLen at hm
  have HR : Hid (es = [] ∨ ∃ b off, a = some ⟨b, off, none⟩ ∧ RowAt w b off es) := hrow
  have H1 : Hid (w.cell? ⟨bl, 0, none⟩ = some (.slice a len cap)) := h1
  have H2 : Hid (w.cell? ⟨bk, 0, none⟩ = some (.string key)) := h2
  have HA : Hid (Pl.Asc es) := has
  clear hrow h1 h2 has
  go_enter Tryd.func63, Tryd.ntmps63
  go_wp2
  go_loopw [5, 6] (fun i j wr => ∃ x y n : Nat, x ≤ y ∧ y ≤ len ∧ i = .int .i64 x ∧ j = .int .i64 y ∧ Hid (wr = w.drewN n) ∧ Hid (∀ t, t < x → Pl.ltB (Pl.ent es t).key key = true) ∧ Hid (∀ t, y ≤ t → t < len → Pl.ltB (Pl.ent es t).key key = false)) (fun i j _ => (intOf j).toNat - (intOf i).toNat)
  case atStart => exact ⟨0, len, 0, Nat.zero_le _, Nat.le_refl _, rfl, rfl, rfl, fun t h => by omega, fun t h h' => by omega⟩
  case round =>
    obtain ⟨x, y, n, hxy, hy, rfl, rfl, HW, HX, HY⟩ := hrel
    by_cases hlt : x < y
    · obtain ⟨b, off, rfl, hrow⟩ : ∃ b off, a = some ⟨b, off, none⟩ ∧ RowAt w b off es := by
        rcases HR.out with h | h
        · rw [h] at hl; simp at hl; omega
        · exact h
      have hr : RowAt wr b off es := by rw [HW.out]; exact hrow.drewN n
      have h1 : wr.cell? ⟨bl, 0, none⟩ = some (.slice (some ⟨b, off, none⟩) len cap) := by rw [HW.out]; exact H1.out
      have h2 : wr.cell? ⟨bk, 0, none⟩ = some (.string key) := by rw [HW.out]; exact H2.out
      have HC := fun m => clo_any es key b off len cap bl bk m wr hl hc HM.out hr h1 h2
      have HC' : Hid _ := HC
      clear HC hr h1 h2
      go_wp2_with fail
      obtain ⟨m, hm2, hxm, hmy⟩ : ∃ m : Nat, ((x : Int) + (y : Int)) / 2 = (m : Int) ∧ x ≤ m ∧ m < y := ⟨(x + y) / 2, by omega, by omega, by omega⟩
      rw [hm2]
      clear hm2
      refine (HC'.out m (by omega)).mono ?_
      rintro e w' ⟨rfl, q, hq⟩
      have HQ : Hid (w' = wr.drewN q) := hq
      clear hq
      obtain ⟨ll, HL⟩ : ∃ ll, Hid (Pl.ltB (Pl.ent es m).key key = ll) := ⟨_, rfl⟩
      rw [HL.out]
      have HW' : Hid (w' = w.drewN (n + q)) := by show _ = _; rw [HQ.out, HW.out, World.drewN_drewN]
      cases ll
      · go_wp2
        go_roundw
        case rel => exact ⟨x, m, n + q, by omega, by omega, rfl, rfl, HW', HX, fun t h h' => Pl.asc_ge HA.out (by omega) h HL.out⟩
        case measure => simp [intOf]; omega
      · go_wp2
        go_roundw
        case rel => exact ⟨m + 1, y, n + q, by omega, by omega, by go_num, rfl, HW', fun t h => Pl.asc_lt HA.out (by omega) (by omega) HL.out, HY⟩
        case measure => simp [intOf]; omega
    · obtain rfl : x = y := by omega
      go_wp2
      go_ret
      exact ⟨ret_int (by rw [Pl.pos_of (by omega) HX.out (fun h => HY.out x (Nat.le_refl _) (by omega))]), n, HW.out⟩

set_option maxHeartbeats 400000 in
theorem find_any (a : Option Addr) (len cap : Nat) (es : List Pl.Ent) (key : ByteArray) (w : World) (h : IsEnts w a len cap es) (has : Pl.Asc es) (h60 : len ≤ 60) :
    Calls Tryd.prog 42 #[.slice a len cap, .string key] w fun e w' => e = .returned (.tuple #[.int .i64 (Pl.pos es key), .bool (Pl.there es key)]) ∧ Below w.heap.size w w' := by
  obtain ⟨hl, hc, hm, _, hrow⟩ := h
  have hmf : ∀ (fn : Fn) (first cap : Array Value) (w : World), (Instr.makeFunc fn first cap).run Tryd.prog w = .ok (.func fn first cap) w := fun _ _ _ _ => rfl
  have HB : Hid (Below w.heap.size w ((w.alloc (.cells #[.slice a len cap] 45)).alloc (.cells #[.string key] 9))) := ((Below.refl _ _).alloc (Nat.le_refl _) _).alloc (by simp) _
  have HS : Hid (Calls Tryd.prog 63 #[.int .i64 len, .func (.func 64) #[] #[.pointer (some ⟨w.heap.size, 0, none⟩), .pointer (some ⟨w.heap.size + 1, 0, none⟩)]] ((w.alloc (.cells #[.slice a len cap] 45)).alloc (.cells #[.string key] 9)) fun e w' => e = .returned (.int .i64 (Pl.pos es key)) ∧ ∃ n, w' = ((w.alloc (.cells #[.slice a len cap] 45)).alloc (.cells #[.string key] 9)).drewN n) := by
    refine Search_any es key a len cap _ _ _ hl hc hm ?_ ?_ ?_ has h60
    · rcases hrow with h | ⟨b, off, rfl, hb, hr⟩
      · exact .inl h
      · exact .inr ⟨b, off, rfl, hr.below hb HB.out⟩
    · go_simp
    · go_simp
  have hp := Pl.pos_le es key
  unfold maxLen at hm
  rcases Nat.lt_or_ge (Pl.pos es key) len with hlt | hge
  · obtain ⟨b, off, rfl, hb, hr⟩ : ∃ b off, a = some ⟨b, off, none⟩ ∧ b < w.heap.size ∧ RowAt w b off es := by
      rcases hrow with h | h
      · rw [h] at hl; simp at hl; omega
      · exact h
    obtain ⟨c0, _, _, _⟩ := hr (Pl.pos es key) (by omega)
    have HT : Hid (Pl.there es key = ((Pl.ent es (Pl.pos es key)).key.toList == key.toList)) := by
      show _ = _
      unfold Pl.there
      rw [Pl.beqL, decide_eq_true (show Pl.pos es key < es.length by omega)]; rfl
    generalize Pl.pos es key = p at *
    clear hrow hr
    have hlt' : (p : Int) < (len : Int) := by omega
    go_enter Tryd.func42, Tryd.ntmps42
    go_wp2_with fail
    refine HS.out.mono ?_
    rintro e w' ⟨rfl, n, hn⟩
    subst hn
    go_wp2_with fail
    go_quiet (fail)
    go_wp2
    go_ret2
    exact ⟨by rw [HT.out]; rfl, below_drewN (below_drewN HB.out _) _⟩
  · have HT : Hid (Pl.there es key = false) := by
      show _ = _
      unfold Pl.there
      rw [decide_eq_false (show ¬ Pl.pos es key < es.length by omega)]; rfl
    generalize Pl.pos es key = p at *
    have hd : decide ((p : Int) < (len : Int)) = false := by simp; omega
    have hd' : decide (p < len) = false := by simp; omega
    go_enter Tryd.func42, Tryd.ntmps42
    go_wp2_with fail
    refine HS.out.mono ?_
    rintro e w' ⟨rfl, n, hn⟩
    subst hn
    go_wp2_with fail
    go_quiet (fail)
    go_wp2
    go_ret2
    exact ⟨by rw [HT.out]; rfl, below_drewN (below_drewN HB.out _) _⟩

end Go.Proofs.YtcdobhdbafpkiadDoor
/-
  Contract: comes tells whether an entry is to be laid.
-/
namespace Go.Proofs.YtcdobhdbafpkiadDoor
open Go.RowKit
set_option maxRecDepth 20000

set_option maxHeartbeats 1000000 in
theorem comes_any (a : Option Addr) (len cap : Nat) (es : List Pl.Ent) (x : Pl.Ent) (w : World) (h : IsEnts w a len cap es) :
    Calls Tryd.prog 43 #[.slice a len cap, .int .i64 (Pl.pos es x.key), .bool (Pl.there es x.key), .agg #[.string x.key, .int .i64 x.ver, .int .i64 x.org, .string x.val]] w
      fun e w' => e = .returned (.bool (Pl.comesB es x)) ∧ Below w.heap.size w w' := by
  obtain ⟨hl, hc, hm, _, hrow⟩ := h
  unfold maxLen at hm
  obtain ⟨t, HT⟩ : ∃ t, Hid (Pl.there es x.key = t) := ⟨_, rfl⟩
  cases t
  · have HC : Hid (Pl.comesB es x = decide ((len : Int) < 60)) := by
      show _ = _
      unfold Pl.comesB; rw [HT.out, Bool.eq_iff_iff]; simp; omega
    rw [HT.out]
    generalize Pl.comesB es x = cb at *
    generalize Pl.pos es x.key = p at *
    obtain ⟨xk, xv, xo, xx⟩ := x
    go_enter Tryd.func43, Tryd.ntmps43
    go_wp2
    go_ret
    exact ⟨ret_bool HC.out.symm, (Below.refl _ _).alloc (Nat.le_refl _) _⟩
  · have hlt : Pl.pos es x.key < len := by
      have := HT.out
      unfold Pl.there at this
      simp only [Bool.and_eq_true, decide_eq_true_eq] at this
      omega
    have HC : Hid (Pl.comesB es x = decide (0 < Pl.cmpE x.ver x.org x.val (Pl.ent es (Pl.pos es x.key)).ver (Pl.ent es (Pl.pos es x.key)).org (Pl.ent es (Pl.pos es x.key)).val)) := by
      show _ = _
      unfold Pl.comesB; rw [HT.out]; rfl
    rw [HT.out]
    generalize Pl.comesB es x = cb at *
    obtain ⟨b, off, rfl, hb, hr⟩ : ∃ b off, a = some ⟨b, off, none⟩ ∧ b < w.heap.size ∧ RowAt w b off es := by
      rcases hrow with h | h
      · rw [h] at hl; simp at hl; omega
      · exact h
    clear hrow
    obtain ⟨q0, q1, q2, q3⟩ := hr (Pl.pos es x.key) (by omega)
    generalize Pl.pos es x.key = p at *
    generalize Pl.ent es p = y at *
    obtain ⟨xk, xv, xo, xx⟩ := x
    obtain ⟨yk, yv, yo, yx⟩ := y
    simp only at q0 q1 q2 q3
    have hlt' : (p : Int) < (len : Int) := by omega
    go_enter Tryd.func43, Tryd.ntmps43
    go_wp2_with fail
    go_region_with (go_at_call 65; refine (Compare_any _ _ _ _ _ _ _ _ _).mono ?_; rintro e w' ⟨rfl, hbc⟩)
    all_goals
      go_wp2_with fail
      go_ret
      exact ⟨ret_bool HC.out.symm, (((Below.refl _ _).alloc (Nat.le_refl _) _).drew).trans (hbc.mono (by simp))⟩
end Go.Proofs.YtcdobhdbafpkiadDoor
