/-
  Contracts and facts that the proof rests on, put together out of several texts.
-/
import Derived.Test.YtcdobhdbafpkiadDoorAll2
import Derived.Test.YtcdobhdbafpkiadDoorAll5
/-
  Contracts: the prefixes that a text tells: ReadPrefixes, the document's PrefixesOf; two lists of prefixes that are the same are told so.
-/
namespace Go.Proofs.YtcdobhdbafpkiadDoor
open Go.RowKit
set_option maxRecDepth 20000

/-- what ReadPrefixes answers: the code, the prefixes -/
def Pl.rpC (l : List UInt8) : Int := match Pl.pairsL 47 l with
  | none => 4
  | some ps => Pl.pfxF ps
def Pl.rpS (l : List UInt8) : List (Int × Int) := if Pl.rpC l = 0 then (Pl.pairsL 47 l).getD [] else []
theorem infoPfx : (Tryd.prog.info? 33).map (fun i => (i.zero, i.size, i.bytes)) = some (some (.agg #[.int .i64 0, .int .i64 0]), 2, 16) := by kernel_rfl
theorem Pl.rpS_ok (l : List UInt8) : ∀ p ∈ Pl.rpS l, Pl.pairOk p := by
  intro p hp
  unfold Pl.rpS at hp
  split at hp
  · cases h : Pl.pairsL 47 l with
    | none => rw [h] at hp; simp at hp
    | some a =>
      rw [h] at hp
      exact (Pl.pairsL_facts (m := 47) (l := l) h).2 p hp
  · simp at hp
theorem Pl.pairsL_cut (m : UInt8) (l : List UInt8) : Pl.pairsL m l = Pl.pairsP m (Pl.cutsL l) := by
  unfold Pl.pairsL Pl.cutsL
  split <;> rfl
theorem Pl.lists_dropP (ks : List ByteArray) (k : Nat) (h : k < ks.length) : Pl.lists (ks.drop k) = ks[k].data.toList :: Pl.lists (ks.drop (k + 1)) := by
  rw [List.drop_eq_getElem_cons h]; rfl

set_option maxHeartbeats 2000000 in
theorem ReadPrefixes_any (s : ByteArray) (w : World) (hs : s.size ≤ 4398046511103) :
    Calls Tryd.prog 10 #[.string s] w fun e w' => ∃ vl : Value, e = .returned (.tuple #[vl, .int .i64 (Pl.rpC s.data.toList)]) ∧
      OwnP 33 w' w.heap.size vl (Pl.rpS s.data.toList) ∧ Below w.heap.size w w' := by
  obtain ⟨np, HP⟩ : ∃ x, Hid (Pl.pairsL 47 s.data.toList = x) := ⟨_, rfl⟩
  cases np with
  | none =>
    have HC : Hid (Pl.rpC s.data.toList = 4 ∧ Pl.rpS s.data.toList = []) := by
      have h : Pl.rpC s.data.toList = 4 := by unfold Pl.rpC; rw [HP.out]
      refine hid ⟨h, ?_⟩
      unfold Pl.rpS; rw [h]; rfl
    rw [HC.out.1, HC.out.2]
    go_enter Tryd.func10, Tryd.ntmps10
    go_wp2_with fail
    refine (readPairs_any s 47 _ (by omega)).mono ?_
    rw [HP.out]
    rintro e w2 ⟨v2, rfl, _, hb2⟩
    go_wp2_with fail
    go_ret2
    exact ⟨_, rfl, OwnP.nil _ _ _, hb2⟩
  | some ps =>
    obtain ⟨cc, HCC⟩ : ∃ x, Hid (Pl.pfxF ps = x) := ⟨_, rfl⟩
    have HC : Hid (Pl.rpC s.data.toList = cc ∧ (cc = 0 → Pl.rpS s.data.toList = ps) ∧ (cc ≠ 0 → Pl.rpS s.data.toList = [])) := by
      have h : Pl.rpC s.data.toList = cc := by unfold Pl.rpC; rw [HP.out]; exact HCC.out
      refine hid ⟨h, fun h0 => ?_, fun h0 => ?_⟩
      · unfold Pl.rpS; rw [h, h0, HP.out]; rfl
      · unfold Pl.rpS; rw [h, if_neg h0]
    have HFA := hid (Pl.pairsL_facts (m := 47) (l := s.data.toList) HP.out)
    rw [HC.out.1]
    go_enter Tryd.func10, Tryd.ntmps10
    go_wp2_with fail
    refine (readPairs_any s 47 _ (by omega)).mono ?_
    rw [HP.out]
    rintro e w2 ⟨v2, rfl, ho2, hb2⟩
    obtain ⟨a2, cap2, rfl, hp2, _, _⟩ := OwnP.shape (ps := ps) ho2 HFA.out.2
    have HP2 := hid hp2
    have hlen : ps.length ≤ s.size + 1 := by
      have h1 := HFA.out.1
      rw [sz_list] at h1
      omega
    have hcap := hp2.2.1
    have hmax := hp2.2.2.1
    unfold maxLen at hmax
    clear ho2 hp2
    go_wp2_with fail
    go_loopw [6, 19] (fun vl i wr => ∃ (k : Nat) (vv : Value), vv = vl ∧ k ≤ ps.length ∧ i = .int .i64 k ∧ Hid (OwnP 33 wr w2.heap.size vv (ps.take k)) ∧ Below w2.heap.size w2 wr) (fun _ i _ => ps.length - (intOf i).toNat)
    case atStart => exact ⟨0, _, rfl, Nat.zero_le _, rfl, hid (OwnP.nil _ _ _), Below.refl _ _⟩
    case round =>
      obtain ⟨k, vl, rfl, hk, rfl, HO, hb⟩ := hrel
      by_cases hlt : k < ps.length
      · obtain ⟨b, off, rfl, hbw, hr⟩ : ∃ b off, a2 = some ⟨b, off, none⟩ ∧ b < w2.heap.size ∧ PairsAt w2 b off ps := by
          rcases HP2.out.2.2.2.2 with rfl | h
          · simp at hlt
          · exact h
        obtain ⟨c0, c1⟩ := (hr.below hbw hb) k hlt
        have hz := hb.size
        have hbr : b < wr.heap.size := by omega
        clear hr
        obtain ⟨pp, hpp⟩ : ∃ pp, Hid (Pl.pr ps k = pp) := ⟨_, rfl⟩
        rw [hpp.out] at c0 c1
        have HO4 := hid (HO.out.below ((Below.refl wr.heap.size wr).alloc (Nat.le_refl _) (.cells #[.int .i64 pp.1, .int .i64 pp.2] 69)))
        have htk : (ps.take k).length = k := by simp; omega
        go_wp2_with (at_builtin; refine append_pairT Tryd.underlying26 infoPfx rfl (.tmp 23) (.tmp 29) rfl w2.heap.size vl (ps.take k) pp rfl HO4.out (by simp; omega) (by show Value.slice (some ⟨wr.heap.size + 1, 0, none⟩) 1 1 = _; simp) (by rw [htk]; omega) ?_; intro v5 w5 ho5 hb5 _; have HO5 := hid ho5; clear ho5)
        go_roundw
        case rel => exact ⟨k + 1, _, rfl, by omega, by go_num, hid (by show OwnP _ _ _ _ _; rw [Pl.take_pr ps k hlt, hpp.out]; exact HO5.out), (hb.alloc hz _).trans hb5⟩
        case measure => simp [intOf]; omega
      · obtain rfl : k = ps.length := by omega
        have HO' : Hid (OwnP 33 wr w2.heap.size vl ps) := by have h := HO.out; rw [List.take_length] at h; exact hid h
        obtain ⟨a3, cap3, rfl, hp3, _, _⟩ := OwnP.shape HO'.out HFA.out.2
        have HP3 := hid hp3
        clear hp3 HO
        have hbx : Below w.heap.size w wr := hb2.trans (hb.mono hb2.size)
        by_cases hc0 : cc = 0
        · subst hc0
          have HC' := hid (HC.out.2.1 rfl)
          clear HC
          go_wp2_with fail
          refine (CheckPrefixes_any _ _ _ ps _ HP3.out).mono ?_
          rw [HCC.out]
          rintro e w4 ⟨rfl, hb4⟩
          go_wp2_with fail
          go_ret2
          exact ⟨_, rfl, by rw [HC'.out]; exact OwnP.mono (HO'.out.below hb4) hb2.size, hbx.trans (hb4.mono hbx.size)⟩
        · have HC' := hid (HC.out.2.2 hc0)
          clear HC
          have hd0 : (cc == 0) = false := by simpa using hc0
          clear hc0
          go_wp2_with fail
          refine (CheckPrefixes_any _ _ _ ps _ HP3.out).mono ?_
          rw [HCC.out]
          rintro e w4 ⟨rfl, hb4⟩
          go_wp2_with fail
          go_ret2
          exact ⟨_, rfl, by rw [HC'.out]; exact OwnP.nil _ _ _, hbx.trans (hb4.mono hbx.size)⟩

end Go.Proofs.YtcdobhdbafpkiadDoor
/-
  Plain: what is shown is read as it was; what can be read is shown as it was.
-/
namespace Go.Proofs.YtcdobhdbafpkiadDoor
open Go.RowKit
set_option maxRecDepth 20000

theorem Pl.dg_of (d : Nat) (h : d < 10) : Pl.dg (UInt8.ofNat (48 + d)) = true ∧ ((UInt8.ofNat (48 + d)).toNat : Int) - 48 = d := by
  have : ((UInt8.ofNat (48 + d)).toNat : Int) = 48 + d := by rw [UInt8.toNat_ofNat']; omega
  unfold Pl.dg
  rw [this]
  exact ⟨decide_eq_true (by omega), by omega⟩
theorem Pl.val_dec : ∀ (n : Nat), Pl.dgs (Lib.decDigits n) = true ∧ Pl.val (Lib.decDigits n) = n ∧ (Lib.decDigits n) ≠ [] ∧ (10 ≤ n → (Lib.decDigits n).head? ≠ some 48) ∧ (0 < n → (Lib.decDigits n).head? ≠ some 48) := by
  intro n
  induction n using Nat.strongRecOn with
  | _ n ih =>
    rw [Lib.decDigits]
    by_cases h : n < 10
    · rw [dif_pos h]
      obtain ⟨h1, h2⟩ := Pl.dg_of n h
      generalize UInt8.ofNat (48 + n) = c at *
      refine ⟨by simp [Pl.dgs, h1], by simp only [Pl.val, List.foldl_cons, List.foldl_nil]; omega, by simp, by omega, fun hp => ?_⟩
      intro e
      simp only [List.head?_cons, Option.some.injEq] at e
      rw [e] at h2
      have : ((48 : UInt8).toNat : Int) = 48 := rfl
      omega
    · rw [dif_neg h]
      obtain ⟨i1, i2, i3, i4, i5⟩ := ih (n / 10) (by omega)
      obtain ⟨h1, h2⟩ := Pl.dg_of (n % 10) (by omega)
      generalize UInt8.ofNat (48 + n % 10) = c at *
      refine ⟨by rw [Pl.dgs_snoc, i1, h1]; rfl, ?_, by simp, ?_, ?_⟩
      · rw [Pl.val_snoc, i2, h2]; omega
      all_goals
        intro _
        have i6 := i5 (by omega)
        cases hd : Lib.decDigits (n / 10) with
        | nil => exact absurd hd i3
        | cons x r => rw [hd] at i6; simpa using i6
theorem Pl.dec_len (n : Nat) (h : n ≤ 100000) : (Lib.decDigits n).length ≤ 6 := by
  rw [Lib.decDigits_length]
  have a1 : ∀ u, u < 10 → Lib.nDigits u ≤ 1 := fun u hu => by rw [Lib.nDigits_small hu]; omega
  have step : ∀ (k : Nat), (∀ u, u < 10 ^ k → Lib.nDigits u ≤ k) → 1 ≤ k → ∀ u, u < 10 ^ (k + 1) → Lib.nDigits u ≤ k + 1 := by
    intro k hk hk1 u hu
    rw [Lib.nDigits]
    split
    · omega
    · have := hk (u / 10) (by rw [Nat.pow_succ] at hu; omega)
      omega
  have a2 := step 1 (by simpa using a1) (by omega)
  have a3 := step 2 a2 (by omega)
  have a4 := step 3 a3 (by omega)
  have a5 := step 4 a4 (by omega)
  have a6 := step 5 a5 (by omega)
  exact a6 n (by omega)
theorem Pl.num_dec (n : Nat) (h : n ≤ 100000) : Pl.numL (Lib.decDigits n) = some (n : Int) := by
  obtain ⟨i1, i2, i3, i4, _⟩ := Pl.val_dec n
  have hl := Pl.dec_len n h
  have h1 : 1 ≤ (Lib.decDigits n).length := by
    cases hd : Lib.decDigits n with
    | nil => exact absurd hd i3
    | cons x r => simp
  rw [Pl.numL_some h1 hl ?_ i1 (by rw [i2]; omega), i2]
  rintro ⟨e, k⟩
  rcases Nat.lt_or_ge n 10 with h10 | h10
  · rw [Lib.decDigits_one h10] at k; simp at k
  · exact i4 h10 e
theorem Pl.dgs_no {l : List UInt8} (h : Pl.dgs l = true) (c : UInt8) (hc : Pl.dg c = false) : c ∉ l := by
  intro hm
  unfold Pl.dgs at h
  rw [List.all_eq_true] at h
  rw [h c hm] at hc; cases hc
theorem Pl.cut_at {c : UInt8} {x y : List UInt8} (h : c ∉ x) : Pl.cutL c (x ++ c :: y) = (x, some y) := by
  have := Pl.cutL_some (c := c) (l := x ++ c :: y) (i := x.length) (by simp) (by simp) (by simpa using h)
  rw [this]; simp
theorem Pl.dec_list (n : Nat) : (Pl.dec (n : Int)).data.toList = Lib.decDigits n := by
  unfold Pl.dec; rw [Lib.itoa_nonneg]
theorem Pl.side_list (m : UInt8) (p : Int × Int) (h : Pl.small p) : (Pl.sideT ⟨#[m]⟩ p).data.toList = Lib.decDigits p.1.toNat ++ m :: Lib.decDigits p.2.toNat := by
  obtain ⟨h1, _, h3, _⟩ := h
  obtain ⟨a, ha⟩ := Int.eq_ofNat_of_zero_le h1
  obtain ⟨b, hb⟩ := Int.eq_ofNat_of_zero_le h3
  unfold Pl.sideT
  rw [ByteArray.data_append, ByteArray.data_append, Array.toList_append, Array.toList_append, ha, hb]
  have e1 := Pl.dec_list a
  have e2 := Pl.dec_list b
  simp only at e1 e2 ⊢
  rw [e1, e2]
  simp
theorem Pl.pair_back (m : UInt8) (hm : Pl.dg m = false) (p : Int × Int) (h : Pl.small p) : Pl.pairL m (Pl.sideT ⟨#[m]⟩ p).data.toList = some p := by
  rw [Pl.side_list m p h]
  obtain ⟨h1, h2, h3, h4⟩ := h
  have hc := Pl.cut_at (c := m) (x := Lib.decDigits p.1.toNat) (y := Lib.decDigits p.2.toNat) (Pl.dgs_no (Pl.val_dec _).1 m hm)
  have e1 := Pl.num_dec p.1.toNat (by omega)
  have e2 := Pl.num_dec p.2.toNat (by omega)
  rw [Pl.pairL_some (a := p.1) (b := p.2) (by rw [hc, e1]; simp; omega) (by rw [hc]; show Pl.numL _ = _; rw [Pl.behind, Option.getD_some, e2]; simp; omega)]
theorem Pl.parts_join : ∀ (xs : List (List UInt8)), xs ≠ [] → (∀ x ∈ xs, (44 : UInt8) ∉ x) → Pl.parts (Lib.join xs [44]) = xs
  | [], h, _ => absurd rfl h
  | [x], _, h => by rw [Lib.join_one, Pl.parts_last (h x (by simp))]
  | x :: y :: r, _, h => by
    have e : Lib.join (x :: y :: r) [44] = x ++ 44 :: Lib.join (y :: r) [44] := by
      rw [Lib.join_cons, Lib.join_cons]
      simp [Lib.joinTail]
    have hc := Pl.cut_at (c := 44) (x := x) (y := Lib.join (y :: r) [44]) (h x (by simp))
    rw [e, Pl.parts_some (r := Lib.join (y :: r) [44]) (by rw [hc]), hc, Pl.parts_join (y :: r) (by simp) (fun z hz => h z (by simp [hz]))]
theorem Pl.pairsP_back (m : UInt8) (hm : Pl.dg m = false) : ∀ (ps : List (Int × Int)), (∀ p ∈ ps, Pl.small p) → Pl.pairsP m (ps.map fun p => (Pl.sideT ⟨#[m]⟩ p).data.toList) = some ps
  | [], _ => rfl
  | p :: r, h => by
    rw [List.map_cons, Pl.pairsP, Pl.pair_back m hm p (h p (by simp)), Pl.pairsP_back m hm r (fun q hq => h q (by simp [hq]))]
theorem Pl.show_back (m : UInt8) (hm : Pl.dg m = false) (hm44 : m ≠ 44) (ps : List (Int × Int)) (h : ∀ p ∈ ps, Pl.small p) : Pl.pairsL m (Pl.showT ⟨#[m]⟩ ps).data.toList = some ps := by
  rw [Pl.showT_list, List.map_map]
  have hx : ∀ x ∈ ps.map (fun p => (Pl.sideT ⟨#[m]⟩ p).data.toList), (44 : UInt8) ∉ x := by
    intro x hx
    simp only [List.mem_map] at hx
    obtain ⟨p, hp, rfl⟩ := hx
    rw [Pl.side_list m p (h p hp)]
    simp only [List.mem_append, List.mem_cons, not_or]
    exact ⟨Pl.dgs_no (Pl.val_dec _).1 44 (by decide), fun e => hm44 e.symm, Pl.dgs_no (Pl.val_dec _).1 44 (by decide)⟩
  cases ps with
  | nil => rfl
  | cons p r =>
    have hj := Pl.parts_join ((p :: r).map (fun p => (Pl.sideT ⟨#[m]⟩ p).data.toList)) (by simp) hx
    have hne : Lib.join ((p :: r).map (fun p => (Pl.sideT ⟨#[m]⟩ p).data.toList)) [44] ≠ [] := by
      rw [List.map_cons, Lib.join_cons, Pl.side_list m p (h p (by simp))]
      simp
    unfold Pl.pairsL
    have ef : ((fun x : ByteArray => x.data.toList) ∘ Pl.sideT ⟨#[m]⟩) = fun p => (Pl.sideT ⟨#[m]⟩ p).data.toList := rfl
    rw [ef, if_neg hne, hj]
    exact Pl.pairsP_back m hm _ h
end Go.Proofs.YtcdobhdbafpkiadDoor
/-
  Plain: what can be read is shown as it was.
-/
namespace Go.Proofs.YtcdobhdbafpkiadDoor
open Go.RowKit
set_option maxRecDepth 20000

theorem Pl.val_pos : ∀ (l : List UInt8), Pl.dgs l = true → l ≠ [] → l.head? ≠ some 48 → 1 ≤ Pl.val l := by
  intro l
  induction h : l.length using Nat.strongRecOn generalizing l with
  | _ n ih =>
    intro hd hne hh
    obtain ⟨a, c, rfl⟩ : ∃ a c, l = a ++ [c] := ⟨l.dropLast, l.getLast hne, (List.dropLast_concat_getLast hne).symm⟩
    rw [Pl.dgs_snoc, Bool.and_eq_true] at hd
    have hc := of_decide_eq_true hd.2
    rw [Pl.val_snoc]
    cases a with
    | nil =>
      have : c ≠ 48 := by intro e; subst e; exact hh rfl
      have : (c.toNat : Int) ≠ 48 := by
        intro e; apply this; apply UInt8.toNat_inj.1; show _ = 48; omega
      simp [Pl.val]; omega
    | cons x r =>
      have := ih (x :: r).length (by rw [← h]; simp) (x :: r) rfl hd.1 (by simp) (by simpa using hh)
      omega
theorem Pl.dec_val : ∀ (l : List UInt8), Pl.dgs l = true → l ≠ [] → (l.head? ≠ some 48 ∨ l.length = 1) → Lib.decDigits (Pl.val l).toNat = l := by
  intro l
  induction h : l.length using Nat.strongRecOn generalizing l with
  | _ n ih =>
    intro hd hne hh
    obtain ⟨a, c, rfl⟩ : ∃ a c, l = a ++ [c] := ⟨l.dropLast, l.getLast hne, (List.dropLast_concat_getLast hne).symm⟩
    rw [Pl.dgs_snoc, Bool.and_eq_true] at hd
    have hc := of_decide_eq_true hd.2
    obtain ⟨d, hdd⟩ := Int.eq_ofNat_of_zero_le (show 0 ≤ (c.toNat : Int) - 48 by omega)
    have hd10 : d < 10 := by omega
    have hcd : UInt8.ofNat (48 + d) = c := by
      apply UInt8.toNat_inj.1
      rw [UInt8.toNat_ofNat']; omega
    rw [Pl.val_snoc, hdd]
    cases a with
    | nil =>
      have e : (10 * Pl.val [] + (d : Int)).toNat = d := by simp [Pl.val]
      rw [e, Lib.decDigits_one hd10, hcd]; rfl
    | cons x r =>
      have hx : (x :: r).head? ≠ some 48 := by
        rcases hh with h1 | h1
        · simpa using h1
        · rw [← h] at h1; simp at h1
      have hp := Pl.val_pos (x :: r) hd.1 (by simp) hx
      have hi := ih (x :: r).length (by rw [← h]; simp) (x :: r) rfl hd.1 (by simp) (.inl hx)
      obtain ⟨v, hv⟩ := Int.eq_ofNat_of_zero_le (show 0 ≤ Pl.val (x :: r) by omega)
      rw [hv] at hi hp ⊢
      have e : (10 * (v : Int) + (d : Int)).toNat = 10 * v + d := by omega
      rw [e, Lib.decDigits, dif_neg (by omega), show (10 * v + d) / 10 = v by omega, show (10 * v + d) % 10 = d by omega, hcd]
      simp only [Int.toNat_natCast] at hi
      rw [hi]
theorem Pl.num_back2 {l : List UInt8} {n : Int} (h : Pl.numL l = some n) : Lib.decDigits n.toNat = l := by
  unfold Pl.numL at h
  split at h
  · rename_i hh
    obtain ⟨h1, h2, h3, h4, h5⟩ := hh
    cases h
    refine Pl.dec_val l h4 (by intro e; subst e; simp at h1) ?_
    by_cases hx : l.head? = some 48
    · right
      rcases Nat.lt_or_ge 1 l.length with h | h
      · exact absurd ⟨hx, h⟩ h3
      · omega
    · exact .inl hx
  · cases h
theorem Pl.cut_join {c : UInt8} : ∀ {l : List UInt8}, (∀ y, (Pl.cutL c l).2 = some y → l = (Pl.cutL c l).1 ++ c :: y) ∧ ((Pl.cutL c l).2 = none → l = (Pl.cutL c l).1)
  | [] => ⟨by simp [Pl.cutL], by simp [Pl.cutL]⟩
  | b :: r => by
    by_cases e : b = c
    · subst e
      refine ⟨fun y hy => ?_, fun h => ?_⟩
      · simp [Pl.cutL] at hy; subst hy; simp [Pl.cutL]
      · simp [Pl.cutL] at h
    · obtain ⟨i1, i2⟩ := Pl.cut_join (c := c) (l := r)
      rw [Pl.cutL, if_neg e]
      refine ⟨fun y hy => ?_, fun h => ?_⟩
      · rw [List.cons_append, ← i1 y hy]
      · rw [← i2 h]
theorem Pl.pair_text {m : UInt8} {l : List UInt8} {p : Int × Int} (h : Pl.pairL m l = some p) : Lib.decDigits p.1.toNat ++ m :: Lib.decDigits p.2.toNat = l := by
  unfold Pl.pairL at h
  split at h
  · rename_i a b ha hb
    cases h
    cases h2 : (Pl.cutL m l).2 with
    | none => rw [h2] at hb; cases hb
    | some y =>
      rw [h2] at hb
      rw [Pl.num_back2 ha, Pl.num_back2 hb]
      exact ((Pl.cut_join (c := m) (l := l)).1 y h2).symm
  · cases h
theorem Pl.join_parts (n : Nat) : ∀ (l : List UInt8), l.length ≤ n → Pl.parts l ≠ [] ∧ Lib.join (Pl.parts l) [44] = l := by
  induction n with
  | zero =>
    intro l h
    have : l = [] := List.length_eq_zero_iff.1 (by omega)
    subst this
    exact ⟨by decide, by decide⟩
  | succ n ih =>
    intro l h
    obtain ⟨c1, c2⟩ := Pl.cut_join (c := 44) (l := l)
    cases hc : (Pl.cutL 44 l).2 with
    | none =>
      rw [Pl.parts_none hc]
      exact ⟨by simp, by rw [Lib.join_one]; exact (c2 hc).symm⟩
    | some r =>
      have hl := (Pl.cutL_len 44 l).2 r hc
      obtain ⟨i1, i2⟩ := ih r (by omega)
      rw [Pl.parts_some hc]
      refine ⟨by simp, ?_⟩
      cases hp : Pl.parts r with
      | nil => exact absurd hp i1
      | cons y q =>
        rw [hp] at i2
        have e : Lib.join ((Pl.cutL 44 l).1 :: y :: q) [44] = (Pl.cutL 44 l).1 ++ 44 :: Lib.join (y :: q) [44] := by
          rw [Lib.join_cons, Lib.join_cons]
          simp [Lib.joinTail]
        rw [e, i2]
        exact (c1 r hc).symm
theorem Pl.side_list2 (m : UInt8) (p : Int × Int) (h1 : 0 ≤ p.1) (h3 : 0 ≤ p.2) : (Pl.sideT ⟨#[m]⟩ p).data.toList = Lib.decDigits p.1.toNat ++ m :: Lib.decDigits p.2.toNat := by
  obtain ⟨a, ha⟩ := Int.eq_ofNat_of_zero_le h1
  obtain ⟨b, hb⟩ := Int.eq_ofNat_of_zero_le h3
  unfold Pl.sideT
  rw [ByteArray.data_append, ByteArray.data_append, Array.toList_append, Array.toList_append, ha, hb]
  have e1 := Pl.dec_list a
  have e2 := Pl.dec_list b
  rw [e1, e2]
  simp
theorem Pl.pairsP_text {m : UInt8} : ∀ {ls : List (List UInt8)} {ps : List (Int × Int)}, Pl.pairsP m ls = some ps → ps.map (fun p => (Pl.sideT ⟨#[m]⟩ p).data.toList) = ls
  | [], ps, h => by cases h; rfl
  | l :: r, ps, h => by
    rw [Pl.pairsP] at h
    split at h
    · rename_i x y hx hy
      cases h
      have ho := Pl.pairL_ok hx
      rw [List.map_cons, Pl.pairsP_text hy, Pl.side_list2 m x ho.1 ho.2.2.1, Pl.pair_text hx]
    · cases h
/-- what can be read is shown as it was -/
theorem Pl.read_show {m : UInt8} {l : List UInt8} {ps : List (Int × Int)} (h : Pl.pairsL m l = some ps) : (Pl.showT ⟨#[m]⟩ ps).data.toList = l := by
  unfold Pl.pairsL at h
  split at h
  · rename_i hl; cases h; subst hl; rfl
  · have ht := Pl.pairsP_text h
    rw [Pl.showT_list, List.map_map]
    have ef : ((fun x : ByteArray => x.data.toList) ∘ Pl.sideT ⟨#[m]⟩) = fun p => (Pl.sideT ⟨#[m]⟩ p).data.toList := rfl
    rw [ef, ht]
    exact (Pl.join_parts l.length l (Nat.le_refl _)).2
/-- a text that tells of links is what ShowAdj makes of them -/
theorem Pl.adj_show (s : ByteArray) (h : Pl.adjC s.data.toList = 0) : Pl.adjText (Pl.adjD s.data.toList) (Pl.adjS s.data.toList) = s ∧ Pl.adjF (Pl.adjS s.data.toList) = 0 := by
  have hS : Pl.adjS s.data.toList = (Pl.sidesL s.data.toList).getD [] := by unfold Pl.adjS; rw [if_pos h]
  have hD : Pl.adjD s.data.toList = Pl.headB 33 s.data.toList := by unfold Pl.adjD; rw [h]; rfl
  cases hp : Pl.sidesL s.data.toList with
  | none => unfold Pl.adjC at h; rw [hp] at h; cases h
  | some ps =>
    have hF : Pl.adjF ps = 0 := by unfold Pl.adjC at h; rw [hp] at h; exact h
    rw [hS, hp, hD]
    refine ⟨?_, hF⟩
    have hr := Pl.read_show (m := 61) (l := Pl.tailB 33 s.data.toList) hp
    unfold Pl.adjText
    rw [Option.getD_some, if_pos hF]
    apply Pl.ba_eq
    cases hh : Pl.headB 33 s.data.toList with
    | false =>
      unfold Pl.tailB at hr
      rw [hh] at hr
      simpa using hr
    | true =>
      unfold Pl.tailB at hr
      rw [hh] at hr
      simp only [if_true] at hr ⊢
      rw [ByteArray.data_append, Array.toList_append, hr]
      unfold Pl.headB at hh
      cases hl : s.data.toList with
      | nil => rw [hl] at hh; cases hh
      | cons x r =>
        rw [hl] at hh
        simp at hh
        subst hh
        rfl
end Go.Proofs.YtcdobhdbafpkiadDoor
/-
  Plain: one side more, one prefix more may be told.
-/
namespace Go.Proofs.YtcdobhdbafpkiadDoor
open Go.RowKit
set_option maxRecDepth 20000

theorem Pl.adjN_of (ps : List (Int × Int)) : ∀ (n i : Nat), i + n = ps.length → (∀ j, i ≤ j → j < ps.length → Pl.sideB (Pl.pr ps j).1 (Pl.pr ps j).2 = true ∧ (0 < j → (Pl.pr ps (j - 1)).1 < (Pl.pr ps j).1)) → Pl.adjN ps n i = 0
  | 0, _, _, _ => rfl
  | n + 1, i, h, hk => by
    obtain ⟨h1, h2⟩ := hk i (Nat.le_refl _) (by omega)
    rw [Pl.adjN, if_pos h1, if_neg (by rintro ⟨g1, g2⟩; have := h2 g1; omega)]
    exact Pl.adjN_of ps n (i + 1) (by omega) (fun j hj hl => hk j (by omega) hl)
theorem Pl.adjF_snoc {ps : List (Int × Int)} {k c : Int} (h : Pl.adjF ps = 0) (hlt : ∀ p ∈ ps, p.1 < k) (hk : 0 ≤ k ∧ k ≤ 11) (hc : 1 ≤ c ∧ c ≤ 1000) : Pl.adjF (ps ++ [(k, c)]) = 0 := by
  have ho := Pl.adjN_ok ps ps.length 0 (by omega) h
  refine Pl.adjN_of _ _ 0 (by omega) (fun j _ hj => ?_)
  simp at hj
  rcases Nat.lt_or_ge j ps.length with hl | hl
  · rw [Pl.pr_app_lt ps _ j hl, Pl.pr_app_lt ps _ (j - 1) (by omega)]
    exact ho j (by omega) hl
  · obtain rfl : j = ps.length := by omega
    rw [Pl.pr_app_at]
    refine ⟨by unfold Pl.sideB; simp; omega, fun hp => ?_⟩
    rw [Pl.pr_app_lt ps _ _ (by omega)]
    exact hlt _ (Pl.pr_mem ps _ (by omega))
theorem Pl.pfxN_of (ps : List (Int × Int)) : ∀ (n i : Nat), i + n = ps.length → (∀ j, i ≤ j → j < ps.length → Pl.pfx1 (Pl.pr ps j) = 0 ∧ (0 < j → Pl.pfxLow (Pl.pr ps (j - 1)) (Pl.pr ps j) = false)) → Pl.pfxN ps n i = 0
  | 0, _, _, _ => rfl
  | n + 1, i, h, hk => by
    obtain ⟨h1, h2⟩ := hk i (Nat.le_refl _) (by omega)
    rw [Pl.pfxN, if_pos h1, if_neg (by rintro ⟨g1, g2⟩; rw [h2 g1] at g2; cases g2)]
    exact Pl.pfxN_of ps n (i + 1) (by omega) (fun j hj hl => hk j (by omega) hl)
/-- the prefixes that TextsBack makes: 32 times the place, from 3 bits on -/
def Pl.tbP (ps : List (Int × Int)) : Prop := ∀ j, j < ps.length → (Pl.pr ps j).1 = 32 * (j : Int) ∧ 3 ≤ (Pl.pr ps j).2 ∧ (Pl.pr ps j).2 ≤ 8
theorem Pl.tbP_ok {ps : List (Int × Int)} (h : Pl.tbP ps) (hl : ps.length ≤ 6) : Pl.pfxF ps = 0 := by
  rw [Pl.pfxF_from hl]
  refine Pl.pfxN_of ps _ 0 (by omega) (fun j _ hj => ⟨?_, fun hp => ?_⟩)
  · obtain ⟨h1, h2, h3⟩ := h j hj
    rw [Pl.pfx1_in (by omega) (by omega)]
    obtain ⟨t0, t1, t2, t3, t4, t5, t6, t7, t8⟩ := Pl.span_table
    have hb : (Pl.pr ps j).2 = 3 ∨ (Pl.pr ps j).2 = 4 ∨ (Pl.pr ps j).2 = 5 ∨ (Pl.pr ps j).2 = 6 ∨ (Pl.pr ps j).2 = 7 ∨ (Pl.pr ps j).2 = 8 := by omega
    rw [if_pos]
    rcases hb with e | e | e | e | e | e <;> rw [e, h1] <;> (first | rw [t3] | rw [t4] | rw [t5] | rw [t6] | rw [t7] | rw [t8]) <;> omega
  · obtain ⟨h1, h2, h3⟩ := h j hj
    obtain ⟨g1, g2, g3⟩ := h (j - 1) (by omega)
    unfold Pl.pfxLow
    rw [decide_eq_false]
    omega
theorem Pl.tbP_snoc {ps : List (Int × Int)} {b : Int} (h : Pl.tbP ps) (hb : 3 ≤ b ∧ b ≤ 8) : Pl.tbP (ps ++ [(32 * (ps.length : Int), b)]) := by
  intro j hj
  simp at hj
  rcases Nat.lt_or_ge j ps.length with hl | hl
  · rw [Pl.pr_app_lt ps _ j hl]; exact h j hl
  · obtain rfl : j = ps.length := by omega
    rw [Pl.pr_app_at]; exact ⟨rfl, hb⟩
/-- shown, then read, whole -/
theorem Pl.adj_back {d : Bool} {ps : List (Int × Int)} (h : Pl.adjF ps = 0) : Pl.adjC (Pl.adjText d ps).data.toList = 0 ∧ Pl.adjD (Pl.adjText d ps).data.toList = d ∧ Pl.adjS (Pl.adjText d ps).data.toList = ps := by
  obtain ⟨_, hs⟩ := Pl.adjF_ok h
  have hb := Pl.show_back 61 (by decide) (by decide) ps hs
  have hh0 : Pl.headB 33 (Pl.showT ⟨#[61]⟩ ps).data.toList = false := by
    unfold Pl.headB
    cases ps with
    | nil => rfl
    | cons p r =>
      rw [Pl.showT_list, List.map_cons, List.map_cons, Lib.join_cons]
      rw [Pl.side_list 61 p (hs p (by simp))]
      obtain ⟨v1, v2, v3, _, _⟩ := Pl.val_dec p.1.toNat
      cases hd : Lib.decDigits p.1.toNat with
      | nil => exact absurd hd v3
      | cons x q =>
        rw [hd] at v1
        simp only [List.cons_append, List.head?_cons]
        have hx : Pl.dg x = true := by unfold Pl.dgs at v1; rw [List.all_eq_true] at v1; exact v1 x (by simp)
        have : x ≠ 33 := by rintro rfl; exact absurd hx (by decide)
        simpa using this
  have key : ∀ l, Pl.tailB 33 l = (Pl.showT ⟨#[61]⟩ ps).data.toList → Pl.headB 33 l = d → Pl.adjC l = 0 ∧ Pl.adjD l = d ∧ Pl.adjS l = ps := by
    intro l h1 h2
    have hsd : Pl.sidesL l = some ps := by unfold Pl.sidesL; rw [h1]; exact hb
    have hc : Pl.adjC l = 0 := by unfold Pl.adjC; rw [hsd]; exact h
    refine ⟨hc, ?_, ?_⟩
    · unfold Pl.adjD; rw [hc, h2]; rfl
    · unfold Pl.adjS; rw [if_pos hc, hsd]; rfl
  unfold Pl.adjText
  rw [if_pos h]
  cases d with
  | false =>
    refine key _ ?_ hh0
    unfold Pl.tailB
    rw [show (if false = true then (⟨#[33]⟩ : ByteArray) ++ Pl.showT ⟨#[61]⟩ ps else Pl.showT ⟨#[61]⟩ ps) = Pl.showT ⟨#[61]⟩ ps from rfl, hh0]; rfl
  | true =>
    have e : ((if true = true then (⟨#[33]⟩ : ByteArray) ++ Pl.showT ⟨#[61]⟩ ps else Pl.showT ⟨#[61]⟩ ps)).data.toList = 33 :: (Pl.showT ⟨#[61]⟩ ps).data.toList := by
      simp [ByteArray.data_append]
    rw [e]
    exact key _ rfl rfl
theorem Pl.pfx_back {ps : List (Int × Int)} (h : Pl.pfxF ps = 0) : Pl.rpC (Pl.pfxText ps).data.toList = 0 ∧ Pl.rpS (Pl.pfxText ps).data.toList = ps := by
  obtain ⟨_, hs⟩ := Pl.pfxF_ok h
  have hb := Pl.show_back 47 (by decide) (by decide) ps hs
  have ht : Pl.pfxText ps = Pl.showT ⟨#[47]⟩ ps := by unfold Pl.pfxText; rw [if_pos h]
  rw [ht]
  have hc : Pl.rpC (Pl.showT ⟨#[47]⟩ ps).data.toList = 0 := by unfold Pl.rpC; rw [hb]; exact h
  refine ⟨hc, ?_⟩
  unfold Pl.rpS
  rw [if_pos hc, hb]; rfl
theorem Pl.adjText_size {d : Bool} {ps : List (Int × Int)} (h : Pl.adjF ps = 0) : (Pl.adjText d ps).size ≤ 4398046511103 := by
  obtain ⟨h1, h2⟩ := Pl.adjF_ok h
  have h3 := Pl.showT_size ⟨#[61]⟩ ps h2 (by decide)
  unfold Pl.adjText
  rw [if_pos h]
  split
  · rw [ByteArray.size_append]
    have : (⟨#[33]⟩ : ByteArray).size = 1 := rfl
    omega
  · omega
theorem Pl.pfxText_size {ps : List (Int × Int)} (h : Pl.pfxF ps = 0) : (Pl.pfxText ps).size ≤ 4398046511103 := by
  obtain ⟨h1, h2⟩ := Pl.pfxF_ok h
  have h3 := Pl.showT_size ⟨#[47]⟩ ps h2 (by decide)
  unfold Pl.pfxText
  rw [if_pos h]
  omega
end Go.Proofs.YtcdobhdbafpkiadDoor
/-
  The store of a map: what the second loop needs.
-/
namespace Go.Proofs.YtcdobhdbafpkiadDoor
open Go.RowKit
set_option maxRecDepth 20000

theorem ownsRow_but {B : Nat} {w w' : World} {base : Nat} {e : TypeId} {sz : Nat} {v : Value} {n : Nat} {xs : List Value} (h : w.ownsRow base e sz v n xs) (k : But B w w') (hB : B < base) : w'.ownsRow base e sz v n xs := by
  obtain ⟨h0, h1⟩ := h
  refine ⟨h0, ?_⟩
  rcases h1 with h1 | ⟨g, cap, cur, rfl, hb, hh, hr⟩
  · exact .inl h1
  · exact .inr ⟨g, cap, cur, rfl, hb, (k.block g (blockLt hh) (by omega)).trans hh, hr⟩
theorem Own.but {B : Nat} {w w' : World} {base : Nat} {v : Value} {es : List Pl.Ent} (h : Own w base v es) (k : But B w w') (hB : B < base) : Own w' base v es := ownsRow_but h k hB
/-- who is drained; from n on no sides yet -/
def D2At (w : World) (B n : Nat) : Prop := ∃ (D : Nat → Bool) (V : Nat → Value), CellsAt w B 76 24 (toldCell D V) ∧ ∀ i, n ≤ i → V i = .slice none 0 0
/-- .. of n the sides v -/
def D3At (w : World) (B n : Nat) (d : Bool) (v : Value) : Prop := ∃ (D : Nat → Bool) (V : Nat → Value), CellsAt w B 76 24 (toldCell D V) ∧ (∀ i, n < i → V i = .slice none 0 0) ∧ V n = v ∧ D n = d
theorem DAt.two {w B} (h : DAt w B) : D2At w B 0 := by
  obtain ⟨D, h⟩ := h; exact ⟨D, _, h, fun _ _ => rfl⟩
theorem D2At.below {w w' B n} (h : D2At w B n) (k : Below w.heap.size w w') : D2At w' B n := by
  obtain ⟨D, V, h1, h2⟩ := h; exact ⟨D, V, h1.below k, h2⟩
theorem D3At.below {w w' B n d v} (h : D3At w B n d v) (k : Below w.heap.size w w') : D3At w' B n d v := by
  obtain ⟨D, V, h1, h2⟩ := h; exact ⟨D, V, h1.below k, h2⟩
theorem D3At.below' {w w' B n d v C} (h : D3At w B n d v) (k : Below C w w') (hC : B < C) : D3At w' B n d v := by
  obtain ⟨D, V, h1, h2⟩ := h; exact ⟨D, V, h1.below' k hC, h2⟩
theorem D2At.three {w B n} (h : D2At w B n) : ∃ d, D3At w B n d (.slice none 0 0) := by
  obtain ⟨D, V, h1, h2⟩ := h; exact ⟨D n, D, V, h1, fun i hi => h2 i (by omega), h2 n (Nat.le_refl _), rfl⟩
theorem D3At.two {w B n d v} (h : D3At w B n d v) : D2At w B (n + 1) := by
  obtain ⟨D, V, h1, h2, _⟩ := h; exact ⟨D, V, h1, fun i hi => h2 i (by omega)⟩
theorem D3At.cells {w B n d v} (h : D3At w B n d v) (hn : n < 12) : w.cell? ⟨B, n * 2, none⟩ = some (.bool d) ∧ w.cell? ⟨B, n * 2 + 1, none⟩ = some v ∧ w.frozen? ⟨B, n * 2 + 1, none⟩ = false := by
  obtain ⟨D, V, h1, _, h3, h4⟩ := h
  refine ⟨?_, ?_, h1.soft _⟩
  · rw [h1.cell _ (by omega)]; unfold toldCell; rw [if_pos (by omega), show n * 2 / 2 = n by omega, h4]
  · rw [h1.cell _ (by omega)]; unfold toldCell; rw [if_neg (by omega), show (n * 2 + 1) / 2 = n by omega, h3]
theorem D3At.set {w B n d v} (h : D3At w B n d v) (u : Value) : D3At (w.setCell ⟨B, n * 2 + 1, none⟩ u) B n d u := by
  obtain ⟨D, V, h1, h2, h3, h4⟩ := h
  refine ⟨D, Pl.upd V n u, (h1.set (n * 2 + 1) u).ext fun o ho => ?_, fun i hi => ?_, by simp [Pl.upd], h4⟩
  · unfold Pl.upd toldCell
    by_cases e : o = n * 2 + 1
    · subst e; rw [if_pos rfl, if_neg (by omega)]; simp only; rw [if_pos (by omega)]
    · rw [if_neg e]
      by_cases e2 : o % 2 = 0
      · rw [if_pos e2, if_pos e2]
      · rw [if_neg e2, if_neg e2]; simp only; rw [if_neg (by omega)]
  · unfold Pl.upd; rw [if_neg (by omega)]; exact h2 i hi
theorem Pl.merge_goodM (ea eb : List Pl.Ent) : Pl.Good (Pl.mergeO ea eb) := by
  by_cases h : Pl.mergeC ea eb = 0
  · have ha : Pl.fault ea = 0 := by
      unfold Pl.mergeC at h
      by_cases h0 : Pl.fault ea = 0
      · exact h0
      · rw [if_neg h0] at h; exact absurd h h0
    have hb : Pl.fault eb = 0 := by unfold Pl.mergeC at h; rw [if_pos ha] at h; exact h
    unfold Pl.mergeO
    rw [if_pos h]
    exact Pl.mrg_good _ _ _ ((Pl.good_iff ea).1 ha) (fun e he => ((Pl.good_iff eb).1 hb).2.1 e he)
  · unfold Pl.mergeO; rw [if_neg h]; exact Pl.good_nil
theorem Pl.adjText_any {d : Bool} {ps : List (Int × Int)} : (Pl.adjText d ps).size ≤ 4398046511103 := by
  by_cases h : Pl.adjF ps = 0
  · exact Pl.adjText_size h
  · unfold Pl.adjText; rw [if_neg h]; decide
theorem Pl.pfxText_any {ps : List (Int × Int)} : (Pl.pfxText ps).size ≤ 4398046511103 := by
  by_cases h : Pl.pfxF ps = 0
  · exact Pl.pfxText_size h
  · unfold Pl.pfxText; rw [if_neg h]; decide
end Go.Proofs.YtcdobhdbafpkiadDoor
