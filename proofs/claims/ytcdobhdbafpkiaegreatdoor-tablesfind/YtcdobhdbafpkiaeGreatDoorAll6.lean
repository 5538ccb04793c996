/-
  Contracts and facts that the proof rests on, put together out of several texts.
-/
import Derived.Test.YtcdobhdbafpkiaeGreatDoorAll2
import Derived.Test.YtcdobhdbafpkiaeGreatDoorAll5
/-
  Contracts: the prefixes that a text tells: ReadPrefixes, the document's PrefixesOf; two lists of prefixes that are the same are told so.
-/
namespace Go.Proofs.YtcdobhdbafpkiaeGreatDoor
open Go.RowKit
set_option maxRecDepth 20000

/-- what ReadPrefixes answers: the code, the prefixes -/
def Pl.rpC (l : List UInt8) : Int := match Pl.pairsL 47 l with
  | none => 4
  | some ps => Pl.pfxF ps
def Pl.rpS (l : List UInt8) : List (Int × Int) := if Pl.rpC l = 0 then (Pl.pairsL 47 l).getD [] else []
theorem infoPfx : (Tryz.prog.info? 44).map (fun i => (i.zero, i.size, i.bytes)) = some (some (.agg #[.int .i64 0, .int .i64 0]), 2, 16) := by kernel_rfl
theorem Pl.rpS_ok (l : List UInt8) : ∀ p ∈ Pl.rpS l, Pl.pairOk p := by
  intro p hp
  unfold Pl.rpS at hp
  split at hp
  · cases h : Pl.pairsL 47 l with
    | none => rw [h] at hp; simp at hp
    | some a =>
      rw [h] at hp
      exact (Pl.pairsL_facts (m := 47) (l := l) h).2 p hp
  · simp at hp
theorem Pl.pairsL_cut (m : UInt8) (l : List UInt8) : Pl.pairsL m l = Pl.pairsP m (Pl.cutsL l) := by
  unfold Pl.pairsL Pl.cutsL
  split <;> rfl
theorem Pl.lists_dropP (ks : List ByteArray) (k : Nat) (h : k < ks.length) : Pl.lists (ks.drop k) = ks[k].data.toList :: Pl.lists (ks.drop (k + 1)) := by
  rw [List.drop_eq_getElem_cons h]; rfl

set_option maxHeartbeats 2000000 in
theorem ReadPrefixes_any (s : ByteArray) (w : World) (hs : s.size ≤ 4398046511103) :
    Calls Tryz.prog 35 #[.string s] w fun e w' => ∃ vl : Value, e = .returned (.tuple #[vl, .int .i64 (Pl.rpC s.data.toList)]) ∧
      OwnP 44 w' w.heap.size vl (Pl.rpS s.data.toList) ∧ Below w.heap.size w w' := by
  obtain ⟨np, HP⟩ : ∃ x, Hid (Pl.pairsL 47 s.data.toList = x) := ⟨_, rfl⟩
  cases np with
  | none =>
    have HC : Hid (Pl.rpC s.data.toList = 4 ∧ Pl.rpS s.data.toList = []) := by
      have h : Pl.rpC s.data.toList = 4 := by unfold Pl.rpC; rw [HP.out]
      refine hid ⟨h, ?_⟩
      unfold Pl.rpS; rw [h]; rfl
    rw [HC.out.1, HC.out.2]
    go_enter Tryz.func35, Tryz.ntmps35
    go_wp2_with fail
    refine (readPairs_any s 47 _ (by omega)).mono ?_
    rw [HP.out]
    rintro e w2 ⟨v2, rfl, _, hb2⟩
    go_wp2_with fail
    go_ret2
    exact ⟨_, rfl, OwnP.nil _ _ _, hb2⟩
  | some ps =>
    obtain ⟨cc, HCC⟩ : ∃ x, Hid (Pl.pfxF ps = x) := ⟨_, rfl⟩
    have HC : Hid (Pl.rpC s.data.toList = cc ∧ (cc = 0 → Pl.rpS s.data.toList = ps) ∧ (cc ≠ 0 → Pl.rpS s.data.toList = [])) := by
      have h : Pl.rpC s.data.toList = cc := by unfold Pl.rpC; rw [HP.out]; exact HCC.out
      refine hid ⟨h, fun h0 => ?_, fun h0 => ?_⟩
      · unfold Pl.rpS; rw [h, h0, HP.out]; rfl
      · unfold Pl.rpS; rw [h, if_neg h0]
    have HFA := hid (Pl.pairsL_facts (m := 47) (l := s.data.toList) HP.out)
    rw [HC.out.1]
    go_enter Tryz.func35, Tryz.ntmps35
    go_wp2_with fail
    refine (readPairs_any s 47 _ (by omega)).mono ?_
    rw [HP.out]
    rintro e w2 ⟨v2, rfl, ho2, hb2⟩
    obtain ⟨a2, cap2, rfl, hp2, _, _⟩ := OwnP.shape (ps := ps) ho2 HFA.out.2
    have HP2 := hid hp2
    have hlen : ps.length ≤ s.size + 1 := by
      have h1 := HFA.out.1
      rw [sz_list] at h1
      omega
    have hcap := hp2.2.1
    have hmax := hp2.2.2.1
    unfold maxLen at hmax
    clear ho2 hp2
    go_wp2_with fail
    go_loopw [6, 19] (fun vl i wr => ∃ (k : Nat) (vv : Value), vv = vl ∧ k ≤ ps.length ∧ i = .int .i64 k ∧ Hid (OwnP 44 wr w2.heap.size vv (ps.take k)) ∧ Below w2.heap.size w2 wr) (fun _ i _ => ps.length - (intOf i).toNat)
    case atStart => exact ⟨0, _, rfl, Nat.zero_le _, rfl, hid (OwnP.nil _ _ _), Below.refl _ _⟩
    case round =>
      obtain ⟨k, vl, rfl, hk, rfl, HO, hb⟩ := hrel
      by_cases hlt : k < ps.length
      · obtain ⟨b, off, rfl, hbw, hr⟩ : ∃ b off, a2 = some ⟨b, off, none⟩ ∧ b < w2.heap.size ∧ PairsAt w2 b off ps := by
          rcases HP2.out.2.2.2.2 with rfl | h
          · simp at hlt
          · exact h
        obtain ⟨c0, c1⟩ := (hr.below hbw hb) k hlt
        have hz := hb.size
        have hbr : b < wr.heap.size := by omega
        clear hr
        obtain ⟨pp, hpp⟩ : ∃ pp, Hid (Pl.pr ps k = pp) := ⟨_, rfl⟩
        rw [hpp.out] at c0 c1
        have HO4 := hid (HO.out.below ((Below.refl wr.heap.size wr).alloc (Nat.le_refl _) (.cells #[.int .i64 pp.1, .int .i64 pp.2] 108)))
        have htk : (ps.take k).length = k := by simp; omega
        go_wp2_with (at_builtin; refine append_pairT Tryz.underlying38 infoPfx rfl (.tmp 23) (.tmp 29) rfl w2.heap.size vl (ps.take k) pp rfl HO4.out (by simp; omega) (by show Value.slice (some ⟨wr.heap.size + 1, 0, none⟩) 1 1 = _; simp) (by rw [htk]; omega) ?_; intro v5 w5 ho5 hb5 _; have HO5 := hid ho5; clear ho5)
        go_roundw
        case rel => exact ⟨k + 1, _, rfl, by omega, by go_num, hid (by show OwnP _ _ _ _ _; rw [Pl.take_pr ps k hlt, hpp.out]; exact HO5.out), (hb.alloc hz _).trans hb5⟩
        case measure => simp [intOf]; omega
      · obtain rfl : k = ps.length := by omega
        have HO' : Hid (OwnP 44 wr w2.heap.size vl ps) := by have h := HO.out; rw [List.take_length] at h; exact hid h
        obtain ⟨a3, cap3, rfl, hp3, _, _⟩ := OwnP.shape HO'.out HFA.out.2
        have HP3 := hid hp3
        clear hp3 HO
        have hbx : Below w.heap.size w wr := hb2.trans (hb.mono hb2.size)
        by_cases hc0 : cc = 0
        · subst hc0
          have HC' := hid (HC.out.2.1 rfl)
          clear HC
          go_wp2_with fail
          refine (CheckPrefixes_any _ _ _ ps _ HP3.out).mono ?_
          rw [HCC.out]
          rintro e w4 ⟨rfl, hb4⟩
          go_wp2_with fail
          go_ret2
          exact ⟨_, rfl, by rw [HC'.out]; exact OwnP.mono (HO'.out.below hb4) hb2.size, hbx.trans (hb4.mono hbx.size)⟩
        · have HC' := hid (HC.out.2.2 hc0)
          clear HC
          have hd0 : (cc == 0) = false := by simpa using hc0
          clear hc0
          go_wp2_with fail
          refine (CheckPrefixes_any _ _ _ ps _ HP3.out).mono ?_
          rw [HCC.out]
          rintro e w4 ⟨rfl, hb4⟩
          go_wp2_with fail
          go_ret2
          exact ⟨_, rfl, by rw [HC'.out]; exact OwnP.nil _ _ _, hbx.trans (hb4.mono hbx.size)⟩

set_option maxHeartbeats 2000000 in
theorem PrefixesOf_any (s : ByteArray) (w : World) (hs : s.size ≤ 4398046511103) :
    Calls Tryz.prog 49 #[.string s] w fun e w' => ∃ vl : Value, e = .returned (.tuple #[vl, .int .i64 (Pl.rpC s.data.toList)]) ∧
      OwnP 44 w' w.heap.size vl (Pl.rpS s.data.toList) ∧ Below w.heap.size w w' := by
  obtain ⟨np, HP⟩ : ∃ x, Hid (Pl.pairsL 47 s.data.toList = x) := ⟨_, rfl⟩
  obtain ⟨rc, HRC⟩ : ∃ x, Hid (Pl.rpC s.data.toList = x) := ⟨_, rfl⟩
  obtain ⟨rs, HRS⟩ : ∃ x, Hid (Pl.rpS s.data.toList = x) := ⟨_, rfl⟩
  rw [HRC.out, HRS.out]
  have HR0 : Hid (np = none → rc = 4 ∧ rs = []) := by
    refine hid fun h => ?_
    have hp := HP.out
    rw [h] at hp
    have h4 : Pl.rpC s.data.toList = 4 := by unfold Pl.rpC; rw [hp]
    refine ⟨HRC.out ▸ h4, ?_⟩
    rw [← HRS.out]; unfold Pl.rpS; rw [h4]; rfl
  have HR1 : Hid (∀ ps, np = some ps → rc = Pl.pfxF ps ∧ (rc = 0 → rs = ps) ∧ (rc ≠ 0 → rs = [])) := by
    refine hid fun ps h => ?_
    have hp := HP.out
    rw [h] at hp
    have h4 : Pl.rpC s.data.toList = Pl.pfxF ps := by unfold Pl.rpC; rw [hp]
    refine ⟨HRC.out ▸ h4, fun h0 => ?_, fun h0 => ?_⟩
    · rw [← HRS.out]; unfold Pl.rpS; rw [HRC.out, h0, hp]; rfl
    · rw [← HRS.out]; unfold Pl.rpS; rw [HRC.out, if_neg h0]
  go_enter Tryz.func49, Tryz.ntmps49
  go_wp2_with fail
  refine (cuts_any s _ (by omega)).mono ?_
  rintro e w2 ⟨vk, ks, rfl, hok, hks, hkz, hkl, hb2⟩
  obtain ⟨ak, kcap, rfl, hkc, hkm, hkr⟩ := OwnT.shape hok
  clear hok
  have HKR := hid hkr
  clear hkr
  have HKZ : Hid (∀ x ∈ ks, x.size ≤ maxLen) := hid fun x hx => by have := hkz x hx; unfold maxLen; omega
  clear hkz
  unfold maxLen at hkm
  have HNP : Hid (np = Pl.pairsP 47 (Pl.lists ks)) := hid (by rw [← HP.out, Pl.pairsL_cut, hks])
  clear hks
  go_wp2_with fail
  go_loopw [4, 6] (fun vl i wr => ∃ (k : Nat) (vv : Value) (acc : List (Int × Int)), vv = vl ∧ k ≤ ks.length ∧ i = .int .i64 k ∧ Hid (acc.length = k) ∧ Hid (np = Pl.andThen acc (Pl.pairsP 47 (Pl.lists (ks.drop k)))) ∧ Hid (OwnP 44 wr w2.heap.size vv acc) ∧ Below w2.heap.size w2 wr) (fun _ i _ => ks.length - (intOf i).toNat)
  case atStart => exact ⟨0, _, [], rfl, Nat.zero_le _, rfl, hid rfl, hid (by rw [HNP.out]; cases h : Pl.pairsP 47 (Pl.lists ks) <;> simp [Pl.andThen, h]), hid (OwnP.nil _ _ _), Below.refl _ _⟩
  case round =>
    obtain ⟨k, vl, acc, rfl, hk, rfl, hak, HN, HO, hb⟩ := hrel
    have hz := hb.size
    have hbx : Below w.heap.size w wr := hb2.trans (hb.mono hb2.size)
    by_cases hlt : k < ks.length
    · obtain ⟨b, rfl, hbase, hbw, hcell⟩ : ∃ b, ak = some ⟨b, 0, none⟩ ∧ w.heap.size ≤ b ∧ b < w2.heap.size ∧ ∀ (i : Nat) (hi : i < ks.length), w2.cell? ⟨b, 0 + i, none⟩ = some (.string ks[i]) := by
        rcases HKR.out with rfl | h
        · simp at hlt
        · exact h
      have hbr : b < wr.heap.size := by omega
      have hc0 : wr.cell? ⟨b, 0 + k, none⟩ = some (.string ks[k]) := (hb.cell (p := ⟨b, 0 + k, none⟩) hbw).trans (hcell k hlt)
      clear hcell
      rw [Nat.zero_add] at hc0
      have HKK := hid (HKZ.out ks[k] (List.getElem_mem hlt))
      obtain ⟨q, HQ⟩ : ∃ x, Hid (Pl.pairL 47 ks[k].data.toList = x) := ⟨_, hid rfl⟩
      obtain ⟨kk, HKE⟩ : ∃ x, Hid (ks[k] = x) := ⟨_, hid rfl⟩
      rw [HKE.out] at hc0 HKK HQ
      cases q with
      | none =>
        have HNN := hid (HR0.out (by rw [HN.out, Pl.lists_dropP ks k hlt, HKE.out, Pl.pairsP_none HQ.out]; rfl))
        go_wp2_with fail
        refine (pairOf_any kk 47 _ HKK.out).mono ?_
        rw [HQ.out]
        rintro e w3 ⟨x, y, rfl, _, rfl⟩
        go_wp2_with fail
        go_ret2
        exact ⟨_, by rw [HNN.out.1]; rfl, by rw [HNN.out.2]; exact OwnP.nil _ _ _, hbx⟩
      | some p =>
        have HNN : Hid (np = Pl.andThen (acc ++ [p]) (Pl.pairsP 47 (Pl.lists (ks.drop (k + 1))))) := hid (by rw [HN.out, Pl.lists_dropP ks k hlt, HKE.out, Pl.pairsP_some HQ.out])
        go_wp2_with fail
        refine (pairOf_any kk 47 _ HKK.out).mono ?_
        rw [HQ.out]
        rintro e w3 ⟨x, y, rfl, hxy, rfl⟩
        obtain rfl := hxy p rfl
        clear hxy
        go_wp2_with (at_builtin; refine append_pairT Tryz.underlying38 infoPfx rfl (.tmp 30) (.tmp 34) rfl w2.heap.size vl acc (x, y) rfl HO.out hz rfl (by have := hak.out; omega) ?_; intro v5 w5 ho5 hb5 _; have HO5 := hid ho5; clear ho5)
        go_roundw
        case rel => exact ⟨k + 1, _, acc ++ [(x, y)], rfl, by omega, by go_num, hid (by simp [hak.out]), HNN, HO5, hb.trans hb5⟩
        case measure => simp [intOf]; omega
    · obtain rfl : k = ks.length := by omega
      have HNP' : Hid (np = some acc) := hid (by rw [HN.out]; simp [Pl.lists, Pl.pairsP, Pl.andThen])
      have HR := hid (HR1.out acc HNP'.out)
      have HOK : Hid (∀ p ∈ acc, Pl.pairOk p) := hid fun p hp => Pl.pairOk_of (Pl.pairsP_ok (m := 47) (ps := Pl.lists ks) (a := acc) (by rw [← HNP.out, HNP'.out]) p hp)
      obtain ⟨a3, cap3, rfl, hp3, _, _⟩ := OwnP.shape HO.out HOK.out
      have HP3 := hid hp3
      clear hp3
      obtain ⟨cc, HCC⟩ : ∃ x, Hid (Pl.pfxF acc = x) := ⟨_, rfl⟩
      obtain rfl : rc = cc := by rw [HR.out.1, HCC.out]
      by_cases hc0 : rc = 0
      · subst hc0
        have HR' := hid (HR.out.2.1 rfl)
        clear HR HR0 HR1
        go_wp2_with fail
        refine (PrefixesFault_any _ _ _ acc _ HP3.out).mono ?_
        rw [HCC.out]
        rintro e w4 ⟨rfl, hb4⟩
        go_wp2_with fail
        go_ret2
        exact ⟨_, rfl, by rw [HR'.out]; exact OwnP.mono (HO.out.below hb4) hb2.size, hbx.trans (hb4.mono hbx.size)⟩
      · have HR' := hid (HR.out.2.2 hc0)
        clear HR HR0 HR1
        have hd0 : (rc == 0) = false := by simpa using hc0
        clear hc0
        go_wp2_with fail
        refine (PrefixesFault_any _ _ _ acc _ HP3.out).mono ?_
        rw [HCC.out]
        rintro e w4 ⟨rfl, hb4⟩
        go_wp2_with fail
        go_ret2
        exact ⟨_, rfl, by rw [HR'.out]; exact OwnP.nil _ _ _, hbx.trans (hb4.mono hbx.size)⟩

end Go.Proofs.YtcdobhdbafpkiaeGreatDoor
/-
  Plain: what is shown is read as it was; what can be read is shown as it was.
-/
namespace Go.Proofs.YtcdobhdbafpkiaeGreatDoor
open Go.RowKit
set_option maxRecDepth 20000

theorem Pl.dg_of (d : Nat) (h : d < 10) : Pl.dg (UInt8.ofNat (48 + d)) = true ∧ ((UInt8.ofNat (48 + d)).toNat : Int) - 48 = d := by
  have : ((UInt8.ofNat (48 + d)).toNat : Int) = 48 + d := by rw [UInt8.toNat_ofNat']; omega
  unfold Pl.dg
  rw [this]
  exact ⟨decide_eq_true (by omega), by omega⟩
theorem Pl.val_dec : ∀ (n : Nat), Pl.dgs (Lib.decDigits n) = true ∧ Pl.val (Lib.decDigits n) = n ∧ (Lib.decDigits n) ≠ [] ∧ (10 ≤ n → (Lib.decDigits n).head? ≠ some 48) ∧ (0 < n → (Lib.decDigits n).head? ≠ some 48) := by
  intro n
  induction n using Nat.strongRecOn with
  | _ n ih =>
    rw [Lib.decDigits]
    by_cases h : n < 10
    · rw [dif_pos h]
      obtain ⟨h1, h2⟩ := Pl.dg_of n h
      generalize UInt8.ofNat (48 + n) = c at *
      refine ⟨by simp [Pl.dgs, h1], by simp only [Pl.val, List.foldl_cons, List.foldl_nil]; omega, by simp, by omega, fun hp => ?_⟩
      intro e
      simp only [List.head?_cons, Option.some.injEq] at e
      rw [e] at h2
      have : ((48 : UInt8).toNat : Int) = 48 := rfl
      omega
    · rw [dif_neg h]
      obtain ⟨i1, i2, i3, i4, i5⟩ := ih (n / 10) (by omega)
      obtain ⟨h1, h2⟩ := Pl.dg_of (n % 10) (by omega)
      generalize UInt8.ofNat (48 + n % 10) = c at *
      refine ⟨by rw [Pl.dgs_snoc, i1, h1]; rfl, ?_, by simp, ?_, ?_⟩
      · rw [Pl.val_snoc, i2, h2]; omega
      all_goals
        intro _
        have i6 := i5 (by omega)
        cases hd : Lib.decDigits (n / 10) with
        | nil => exact absurd hd i3
        | cons x r => rw [hd] at i6; simpa using i6
theorem Pl.dec_len (n : Nat) (h : n ≤ 100000) : (Lib.decDigits n).length ≤ 6 := by
  rw [Lib.decDigits_length]
  have a1 : ∀ u, u < 10 → Lib.nDigits u ≤ 1 := fun u hu => by rw [Lib.nDigits_small hu]; omega
  have step : ∀ (k : Nat), (∀ u, u < 10 ^ k → Lib.nDigits u ≤ k) → 1 ≤ k → ∀ u, u < 10 ^ (k + 1) → Lib.nDigits u ≤ k + 1 := by
    intro k hk hk1 u hu
    rw [Lib.nDigits]
    split
    · omega
    · have := hk (u / 10) (by rw [Nat.pow_succ] at hu; omega)
      omega
  have a2 := step 1 (by simpa using a1) (by omega)
  have a3 := step 2 a2 (by omega)
  have a4 := step 3 a3 (by omega)
  have a5 := step 4 a4 (by omega)
  have a6 := step 5 a5 (by omega)
  exact a6 n (by omega)
theorem Pl.num_dec (n : Nat) (h : n ≤ 100000) : Pl.numL (Lib.decDigits n) = some (n : Int) := by
  obtain ⟨i1, i2, i3, i4, _⟩ := Pl.val_dec n
  have hl := Pl.dec_len n h
  have h1 : 1 ≤ (Lib.decDigits n).length := by
    cases hd : Lib.decDigits n with
    | nil => exact absurd hd i3
    | cons x r => simp
  rw [Pl.numL_some h1 hl ?_ i1 (by rw [i2]; omega), i2]
  rintro ⟨e, k⟩
  rcases Nat.lt_or_ge n 10 with h10 | h10
  · rw [Lib.decDigits_one h10] at k; simp at k
  · exact i4 h10 e
theorem Pl.dgs_no {l : List UInt8} (h : Pl.dgs l = true) (c : UInt8) (hc : Pl.dg c = false) : c ∉ l := by
  intro hm
  unfold Pl.dgs at h
  rw [List.all_eq_true] at h
  rw [h c hm] at hc; cases hc
theorem Pl.cut_at {c : UInt8} {x y : List UInt8} (h : c ∉ x) : Pl.cutL c (x ++ c :: y) = (x, some y) := by
  have := Pl.cutL_some (c := c) (l := x ++ c :: y) (i := x.length) (by simp) (by simp) (by simpa using h)
  rw [this]; simp
theorem Pl.dec_list (n : Nat) : (Pl.dec (n : Int)).data.toList = Lib.decDigits n := by
  unfold Pl.dec; rw [Lib.itoa_nonneg]
theorem Pl.side_list (m : UInt8) (p : Int × Int) (h : Pl.small p) : (Pl.sideT ⟨#[m]⟩ p).data.toList = Lib.decDigits p.1.toNat ++ m :: Lib.decDigits p.2.toNat := by
  obtain ⟨h1, _, h3, _⟩ := h
  obtain ⟨a, ha⟩ := Int.eq_ofNat_of_zero_le h1
  obtain ⟨b, hb⟩ := Int.eq_ofNat_of_zero_le h3
  unfold Pl.sideT
  rw [ByteArray.data_append, ByteArray.data_append, Array.toList_append, Array.toList_append, ha, hb]
  have e1 := Pl.dec_list a
  have e2 := Pl.dec_list b
  simp only at e1 e2 ⊢
  rw [e1, e2]
  simp
theorem Pl.pair_back (m : UInt8) (hm : Pl.dg m = false) (p : Int × Int) (h : Pl.small p) : Pl.pairL m (Pl.sideT ⟨#[m]⟩ p).data.toList = some p := by
  rw [Pl.side_list m p h]
  obtain ⟨h1, h2, h3, h4⟩ := h
  have hc := Pl.cut_at (c := m) (x := Lib.decDigits p.1.toNat) (y := Lib.decDigits p.2.toNat) (Pl.dgs_no (Pl.val_dec _).1 m hm)
  have e1 := Pl.num_dec p.1.toNat (by omega)
  have e2 := Pl.num_dec p.2.toNat (by omega)
  rw [Pl.pairL_some (a := p.1) (b := p.2) (by rw [hc, e1]; simp; omega) (by rw [hc]; show Pl.numL _ = _; rw [Pl.behind, Option.getD_some, e2]; simp; omega)]
theorem Pl.parts_join : ∀ (xs : List (List UInt8)), xs ≠ [] → (∀ x ∈ xs, (44 : UInt8) ∉ x) → Pl.parts (Lib.join xs [44]) = xs
  | [], h, _ => absurd rfl h
  | [x], _, h => by rw [Lib.join_one, Pl.parts_last (h x (by simp))]
  | x :: y :: r, _, h => by
    have e : Lib.join (x :: y :: r) [44] = x ++ 44 :: Lib.join (y :: r) [44] := by
      rw [Lib.join_cons, Lib.join_cons]
      simp [Lib.joinTail]
    have hc := Pl.cut_at (c := 44) (x := x) (y := Lib.join (y :: r) [44]) (h x (by simp))
    rw [e, Pl.parts_some (r := Lib.join (y :: r) [44]) (by rw [hc]), hc, Pl.parts_join (y :: r) (by simp) (fun z hz => h z (by simp [hz]))]
theorem Pl.pairsP_back (m : UInt8) (hm : Pl.dg m = false) : ∀ (ps : List (Int × Int)), (∀ p ∈ ps, Pl.small p) → Pl.pairsP m (ps.map fun p => (Pl.sideT ⟨#[m]⟩ p).data.toList) = some ps
  | [], _ => rfl
  | p :: r, h => by
    rw [List.map_cons, Pl.pairsP, Pl.pair_back m hm p (h p (by simp)), Pl.pairsP_back m hm r (fun q hq => h q (by simp [hq]))]
theorem Pl.show_back (m : UInt8) (hm : Pl.dg m = false) (hm44 : m ≠ 44) (ps : List (Int × Int)) (h : ∀ p ∈ ps, Pl.small p) : Pl.pairsL m (Pl.showT ⟨#[m]⟩ ps).data.toList = some ps := by
  rw [Pl.showT_list, List.map_map]
  have hx : ∀ x ∈ ps.map (fun p => (Pl.sideT ⟨#[m]⟩ p).data.toList), (44 : UInt8) ∉ x := by
    intro x hx
    simp only [List.mem_map] at hx
    obtain ⟨p, hp, rfl⟩ := hx
    rw [Pl.side_list m p (h p hp)]
    simp only [List.mem_append, List.mem_cons, not_or]
    exact ⟨Pl.dgs_no (Pl.val_dec _).1 44 (by decide), fun e => hm44 e.symm, Pl.dgs_no (Pl.val_dec _).1 44 (by decide)⟩
  cases ps with
  | nil => rfl
  | cons p r =>
    have hj := Pl.parts_join ((p :: r).map (fun p => (Pl.sideT ⟨#[m]⟩ p).data.toList)) (by simp) hx
    have hne : Lib.join ((p :: r).map (fun p => (Pl.sideT ⟨#[m]⟩ p).data.toList)) [44] ≠ [] := by
      rw [List.map_cons, Lib.join_cons, Pl.side_list m p (h p (by simp))]
      simp
    unfold Pl.pairsL
    have ef : ((fun x : ByteArray => x.data.toList) ∘ Pl.sideT ⟨#[m]⟩) = fun p => (Pl.sideT ⟨#[m]⟩ p).data.toList := rfl
    rw [ef, if_neg hne, hj]
    exact Pl.pairsP_back m hm _ h
end Go.Proofs.YtcdobhdbafpkiaeGreatDoor
/-
  Plain: what can be read is shown as it was.
-/
namespace Go.Proofs.YtcdobhdbafpkiaeGreatDoor
open Go.RowKit
set_option maxRecDepth 20000

theorem Pl.val_pos : ∀ (l : List UInt8), Pl.dgs l = true → l ≠ [] → l.head? ≠ some 48 → 1 ≤ Pl.val l := by
  intro l
  induction h : l.length using Nat.strongRecOn generalizing l with
  | _ n ih =>
    intro hd hne hh
    obtain ⟨a, c, rfl⟩ : ∃ a c, l = a ++ [c] := ⟨l.dropLast, l.getLast hne, (List.dropLast_concat_getLast hne).symm⟩
    rw [Pl.dgs_snoc, Bool.and_eq_true] at hd
    have hc := of_decide_eq_true hd.2
    rw [Pl.val_snoc]
    cases a with
    | nil =>
      have : c ≠ 48 := by intro e; subst e; exact hh rfl
      have : (c.toNat : Int) ≠ 48 := by
        intro e; apply this; apply UInt8.toNat_inj.1; show _ = 48; omega
      simp [Pl.val]; omega
    | cons x r =>
      have := ih (x :: r).length (by rw [← h]; simp) (x :: r) rfl hd.1 (by simp) (by simpa using hh)
      omega
theorem Pl.dec_val : ∀ (l : List UInt8), Pl.dgs l = true → l ≠ [] → (l.head? ≠ some 48 ∨ l.length = 1) → Lib.decDigits (Pl.val l).toNat = l := by
  intro l
  induction h : l.length using Nat.strongRecOn generalizing l with
  | _ n ih =>
    intro hd hne hh
    obtain ⟨a, c, rfl⟩ : ∃ a c, l = a ++ [c] := ⟨l.dropLast, l.getLast hne, (List.dropLast_concat_getLast hne).symm⟩
    rw [Pl.dgs_snoc, Bool.and_eq_true] at hd
    have hc := of_decide_eq_true hd.2
    obtain ⟨d, hdd⟩ := Int.eq_ofNat_of_zero_le (show 0 ≤ (c.toNat : Int) - 48 by omega)
    have hd10 : d < 10 := by omega
    have hcd : UInt8.ofNat (48 + d) = c := by
      apply UInt8.toNat_inj.1
      rw [UInt8.toNat_ofNat']; omega
    rw [Pl.val_snoc, hdd]
    cases a with
    | nil =>
      have e : (10 * Pl.val [] + (d : Int)).toNat = d := by simp [Pl.val]
      rw [e, Lib.decDigits_one hd10, hcd]; rfl
    | cons x r =>
      have hx : (x :: r).head? ≠ some 48 := by
        rcases hh with h1 | h1
        · simpa using h1
        · rw [← h] at h1; simp at h1
      have hp := Pl.val_pos (x :: r) hd.1 (by simp) hx
      have hi := ih (x :: r).length (by rw [← h]; simp) (x :: r) rfl hd.1 (by simp) (.inl hx)
      obtain ⟨v, hv⟩ := Int.eq_ofNat_of_zero_le (show 0 ≤ Pl.val (x :: r) by omega)
      rw [hv] at hi hp ⊢
      have e : (10 * (v : Int) + (d : Int)).toNat = 10 * v + d := by omega
      rw [e, Lib.decDigits, dif_neg (by omega), show (10 * v + d) / 10 = v by omega, show (10 * v + d) % 10 = d by omega, hcd]
      simp only [Int.toNat_natCast] at hi
      rw [hi]
theorem Pl.num_back2 {l : List UInt8} {n : Int} (h : Pl.numL l = some n) : Lib.decDigits n.toNat = l := by
  unfold Pl.numL at h
  split at h
  · rename_i hh
    obtain ⟨h1, h2, h3, h4, h5⟩ := hh
    cases h
    refine Pl.dec_val l h4 (by intro e; subst e; simp at h1) ?_
    by_cases hx : l.head? = some 48
    · right
      rcases Nat.lt_or_ge 1 l.length with h | h
      · exact absurd ⟨hx, h⟩ h3
      · omega
    · exact .inl hx
  · cases h
theorem Pl.cut_join {c : UInt8} : ∀ {l : List UInt8}, (∀ y, (Pl.cutL c l).2 = some y → l = (Pl.cutL c l).1 ++ c :: y) ∧ ((Pl.cutL c l).2 = none → l = (Pl.cutL c l).1)
  | [] => ⟨by simp [Pl.cutL], by simp [Pl.cutL]⟩
  | b :: r => by
    by_cases e : b = c
    · subst e
      refine ⟨fun y hy => ?_, fun h => ?_⟩
      · simp [Pl.cutL] at hy; subst hy; simp [Pl.cutL]
      · simp [Pl.cutL] at h
    · obtain ⟨i1, i2⟩ := Pl.cut_join (c := c) (l := r)
      rw [Pl.cutL, if_neg e]
      refine ⟨fun y hy => ?_, fun h => ?_⟩
      · rw [List.cons_append, ← i1 y hy]
      · rw [← i2 h]
theorem Pl.pair_text {m : UInt8} {l : List UInt8} {p : Int × Int} (h : Pl.pairL m l = some p) : Lib.decDigits p.1.toNat ++ m :: Lib.decDigits p.2.toNat = l := by
  unfold Pl.pairL at h
  split at h
  · rename_i a b ha hb
    cases h
    cases h2 : (Pl.cutL m l).2 with
    | none => rw [h2] at hb; cases hb
    | some y =>
      rw [h2] at hb
      rw [Pl.num_back2 ha, Pl.num_back2 hb]
      exact ((Pl.cut_join (c := m) (l := l)).1 y h2).symm
  · cases h
theorem Pl.join_parts (n : Nat) : ∀ (l : List UInt8), l.length ≤ n → Pl.parts l ≠ [] ∧ Lib.join (Pl.parts l) [44] = l := by
  induction n with
  | zero =>
    intro l h
    have : l = [] := List.length_eq_zero_iff.1 (by omega)
    subst this
    exact ⟨by decide, by decide⟩
  | succ n ih =>
    intro l h
    obtain ⟨c1, c2⟩ := Pl.cut_join (c := 44) (l := l)
    cases hc : (Pl.cutL 44 l).2 with
    | none =>
      rw [Pl.parts_none hc]
      exact ⟨by simp, by rw [Lib.join_one]; exact (c2 hc).symm⟩
    | some r =>
      have hl := (Pl.cutL_len 44 l).2 r hc
      obtain ⟨i1, i2⟩ := ih r (by omega)
      rw [Pl.parts_some hc]
      refine ⟨by simp, ?_⟩
      cases hp : Pl.parts r with
      | nil => exact absurd hp i1
      | cons y q =>
        rw [hp] at i2
        have e : Lib.join ((Pl.cutL 44 l).1 :: y :: q) [44] = (Pl.cutL 44 l).1 ++ 44 :: Lib.join (y :: q) [44] := by
          rw [Lib.join_cons, Lib.join_cons]
          simp [Lib.joinTail]
        rw [e, i2]
        exact (c1 r hc).symm
theorem Pl.side_list2 (m : UInt8) (p : Int × Int) (h1 : 0 ≤ p.1) (h3 : 0 ≤ p.2) : (Pl.sideT ⟨#[m]⟩ p).data.toList = Lib.decDigits p.1.toNat ++ m :: Lib.decDigits p.2.toNat := by
  obtain ⟨a, ha⟩ := Int.eq_ofNat_of_zero_le h1
  obtain ⟨b, hb⟩ := Int.eq_ofNat_of_zero_le h3
  unfold Pl.sideT
  rw [ByteArray.data_append, ByteArray.data_append, Array.toList_append, Array.toList_append, ha, hb]
  have e1 := Pl.dec_list a
  have e2 := Pl.dec_list b
  rw [e1, e2]
  simp
theorem Pl.pairsP_text {m : UInt8} : ∀ {ls : List (List UInt8)} {ps : List (Int × Int)}, Pl.pairsP m ls = some ps → ps.map (fun p => (Pl.sideT ⟨#[m]⟩ p).data.toList) = ls
  | [], ps, h => by cases h; rfl
  | l :: r, ps, h => by
    rw [Pl.pairsP] at h
    split at h
    · rename_i x y hx hy
      cases h
      have ho := Pl.pairL_ok hx
      rw [List.map_cons, Pl.pairsP_text hy, Pl.side_list2 m x ho.1 ho.2.2.1, Pl.pair_text hx]
    · cases h
/-- what can be read is shown as it was -/
theorem Pl.read_show {m : UInt8} {l : List UInt8} {ps : List (Int × Int)} (h : Pl.pairsL m l = some ps) : (Pl.showT ⟨#[m]⟩ ps).data.toList = l := by
  unfold Pl.pairsL at h
  split at h
  · rename_i hl; cases h; subst hl; rfl
  · have ht := Pl.pairsP_text h
    rw [Pl.showT_list, List.map_map]
    have ef : ((fun x : ByteArray => x.data.toList) ∘ Pl.sideT ⟨#[m]⟩) = fun p => (Pl.sideT ⟨#[m]⟩ p).data.toList := rfl
    rw [ef, ht]
    exact (Pl.join_parts l.length l (Nat.le_refl _)).2
/-- a text that tells of links is what ShowAdj makes of them -/
theorem Pl.adj_show (s : ByteArray) (h : Pl.adjC s.data.toList = 0) : Pl.adjText (Pl.adjD s.data.toList) (Pl.adjS s.data.toList) = s ∧ Pl.adjF (Pl.adjS s.data.toList) = 0 := by
  have hS : Pl.adjS s.data.toList = (Pl.sidesL s.data.toList).getD [] := by unfold Pl.adjS; rw [if_pos h]
  have hD : Pl.adjD s.data.toList = Pl.headB 33 s.data.toList := by unfold Pl.adjD; rw [h]; rfl
  cases hp : Pl.sidesL s.data.toList with
  | none => unfold Pl.adjC at h; rw [hp] at h; cases h
  | some ps =>
    have hF : Pl.adjF ps = 0 := by unfold Pl.adjC at h; rw [hp] at h; exact h
    rw [hS, hp, hD]
    refine ⟨?_, hF⟩
    have hr := Pl.read_show (m := 61) (l := Pl.tailB 33 s.data.toList) hp
    unfold Pl.adjText
    rw [Option.getD_some, if_pos hF]
    apply Pl.ba_eq
    cases hh : Pl.headB 33 s.data.toList with
    | false =>
      unfold Pl.tailB at hr
      rw [hh] at hr
      simpa using hr
    | true =>
      unfold Pl.tailB at hr
      rw [hh] at hr
      simp only [if_true] at hr ⊢
      rw [ByteArray.data_append, Array.toList_append, hr]
      unfold Pl.headB at hh
      cases hl : s.data.toList with
      | nil => rw [hl] at hh; cases hh
      | cons x r =>
        rw [hl] at hh
        simp at hh
        subst hh
        rfl
end Go.Proofs.YtcdobhdbafpkiaeGreatDoor
/-
  Plain: one side more, one prefix more may be told.
-/
namespace Go.Proofs.YtcdobhdbafpkiaeGreatDoor
open Go.RowKit
set_option maxRecDepth 20000

theorem Pl.adjN_of (ps : List (Int × Int)) : ∀ (n i : Nat), i + n = ps.length → (∀ j, i ≤ j → j < ps.length → Pl.sideB (Pl.pr ps j).1 (Pl.pr ps j).2 = true ∧ (0 < j → (Pl.pr ps (j - 1)).1 < (Pl.pr ps j).1)) → Pl.adjN ps n i = 0
  | 0, _, _, _ => rfl
  | n + 1, i, h, hk => by
    obtain ⟨h1, h2⟩ := hk i (Nat.le_refl _) (by omega)
    rw [Pl.adjN, if_pos h1, if_neg (by rintro ⟨g1, g2⟩; have := h2 g1; omega)]
    exact Pl.adjN_of ps n (i + 1) (by omega) (fun j hj hl => hk j (by omega) hl)
theorem Pl.adjF_snoc {ps : List (Int × Int)} {k c : Int} (h : Pl.adjF ps = 0) (hlt : ∀ p ∈ ps, p.1 < k) (hk : 0 ≤ k ∧ k ≤ 11) (hc : 1 ≤ c ∧ c ≤ 1000) : Pl.adjF (ps ++ [(k, c)]) = 0 := by
  have ho := Pl.adjN_ok ps ps.length 0 (by omega) h
  refine Pl.adjN_of _ _ 0 (by omega) (fun j _ hj => ?_)
  simp at hj
  rcases Nat.lt_or_ge j ps.length with hl | hl
  · rw [Pl.pr_app_lt ps _ j hl, Pl.pr_app_lt ps _ (j - 1) (by omega)]
    exact ho j (by omega) hl
  · obtain rfl : j = ps.length := by omega
    rw [Pl.pr_app_at]
    refine ⟨by unfold Pl.sideB; simp; omega, fun hp => ?_⟩
    rw [Pl.pr_app_lt ps _ _ (by omega)]
    exact hlt _ (Pl.pr_mem ps _ (by omega))
theorem Pl.pfxN_of (ps : List (Int × Int)) : ∀ (n i : Nat), i + n = ps.length → (∀ j, i ≤ j → j < ps.length → Pl.pfx1 (Pl.pr ps j) = 0 ∧ (0 < j → Pl.pfxLow (Pl.pr ps (j - 1)) (Pl.pr ps j) = false)) → Pl.pfxN ps n i = 0
  | 0, _, _, _ => rfl
  | n + 1, i, h, hk => by
    obtain ⟨h1, h2⟩ := hk i (Nat.le_refl _) (by omega)
    rw [Pl.pfxN, if_pos h1, if_neg (by rintro ⟨g1, g2⟩; rw [h2 g1] at g2; cases g2)]
    exact Pl.pfxN_of ps n (i + 1) (by omega) (fun j hj hl => hk j (by omega) hl)
/-- the prefixes that TextsBack makes: 32 times the place, from 3 bits on -/
def Pl.tbP (ps : List (Int × Int)) : Prop := ∀ j, j < ps.length → (Pl.pr ps j).1 = 32 * (j : Int) ∧ 3 ≤ (Pl.pr ps j).2 ∧ (Pl.pr ps j).2 ≤ 8
theorem Pl.tbP_ok {ps : List (Int × Int)} (h : Pl.tbP ps) (hl : ps.length ≤ 6) : Pl.pfxF ps = 0 := by
  rw [Pl.pfxF_from hl]
  refine Pl.pfxN_of ps _ 0 (by omega) (fun j _ hj => ⟨?_, fun hp => ?_⟩)
  · obtain ⟨h1, h2, h3⟩ := h j hj
    rw [Pl.pfx1_in (by omega) (by omega)]
    obtain ⟨t0, t1, t2, t3, t4, t5, t6, t7, t8⟩ := Pl.span_table
    have hb : (Pl.pr ps j).2 = 3 ∨ (Pl.pr ps j).2 = 4 ∨ (Pl.pr ps j).2 = 5 ∨ (Pl.pr ps j).2 = 6 ∨ (Pl.pr ps j).2 = 7 ∨ (Pl.pr ps j).2 = 8 := by omega
    rw [if_pos]
    rcases hb with e | e | e | e | e | e <;> rw [e, h1] <;> (first | rw [t3] | rw [t4] | rw [t5] | rw [t6] | rw [t7] | rw [t8]) <;> omega
  · obtain ⟨h1, h2, h3⟩ := h j hj
    obtain ⟨g1, g2, g3⟩ := h (j - 1) (by omega)
    unfold Pl.pfxLow
    rw [decide_eq_false]
    omega
theorem Pl.tbP_snoc {ps : List (Int × Int)} {b : Int} (h : Pl.tbP ps) (hb : 3 ≤ b ∧ b ≤ 8) : Pl.tbP (ps ++ [(32 * (ps.length : Int), b)]) := by
  intro j hj
  simp at hj
  rcases Nat.lt_or_ge j ps.length with hl | hl
  · rw [Pl.pr_app_lt ps _ j hl]; exact h j hl
  · obtain rfl : j = ps.length := by omega
    rw [Pl.pr_app_at]; exact ⟨rfl, hb⟩
/-- shown, then read, whole -/
theorem Pl.adj_back {d : Bool} {ps : List (Int × Int)} (h : Pl.adjF ps = 0) : Pl.adjC (Pl.adjText d ps).data.toList = 0 ∧ Pl.adjD (Pl.adjText d ps).data.toList = d ∧ Pl.adjS (Pl.adjText d ps).data.toList = ps := by
  obtain ⟨_, hs⟩ := Pl.adjF_ok h
  have hb := Pl.show_back 61 (by decide) (by decide) ps hs
  have hh0 : Pl.headB 33 (Pl.showT ⟨#[61]⟩ ps).data.toList = false := by
    unfold Pl.headB
    cases ps with
    | nil => rfl
    | cons p r =>
      rw [Pl.showT_list, List.map_cons, List.map_cons, Lib.join_cons]
      rw [Pl.side_list 61 p (hs p (by simp))]
      obtain ⟨v1, v2, v3, _, _⟩ := Pl.val_dec p.1.toNat
      cases hd : Lib.decDigits p.1.toNat with
      | nil => exact absurd hd v3
      | cons x q =>
        rw [hd] at v1
        simp only [List.cons_append, List.head?_cons]
        have hx : Pl.dg x = true := by unfold Pl.dgs at v1; rw [List.all_eq_true] at v1; exact v1 x (by simp)
        have : x ≠ 33 := by rintro rfl; exact absurd hx (by decide)
        simpa using this
  have key : ∀ l, Pl.tailB 33 l = (Pl.showT ⟨#[61]⟩ ps).data.toList → Pl.headB 33 l = d → Pl.adjC l = 0 ∧ Pl.adjD l = d ∧ Pl.adjS l = ps := by
    intro l h1 h2
    have hsd : Pl.sidesL l = some ps := by unfold Pl.sidesL; rw [h1]; exact hb
    have hc : Pl.adjC l = 0 := by unfold Pl.adjC; rw [hsd]; exact h
    refine ⟨hc, ?_, ?_⟩
    · unfold Pl.adjD; rw [hc, h2]; rfl
    · unfold Pl.adjS; rw [if_pos hc, hsd]; rfl
  unfold Pl.adjText
  rw [if_pos h]
  cases d with
  | false =>
    refine key _ ?_ hh0
    unfold Pl.tailB
    rw [show (if false = true then (⟨#[33]⟩ : ByteArray) ++ Pl.showT ⟨#[61]⟩ ps else Pl.showT ⟨#[61]⟩ ps) = Pl.showT ⟨#[61]⟩ ps from rfl, hh0]; rfl
  | true =>
    have e : ((if true = true then (⟨#[33]⟩ : ByteArray) ++ Pl.showT ⟨#[61]⟩ ps else Pl.showT ⟨#[61]⟩ ps)).data.toList = 33 :: (Pl.showT ⟨#[61]⟩ ps).data.toList := by
      simp [ByteArray.data_append]
    rw [e]
    exact key _ rfl rfl
theorem Pl.pfx_back {ps : List (Int × Int)} (h : Pl.pfxF ps = 0) : Pl.rpC (Pl.pfxText ps).data.toList = 0 ∧ Pl.rpS (Pl.pfxText ps).data.toList = ps := by
  obtain ⟨_, hs⟩ := Pl.pfxF_ok h
  have hb := Pl.show_back 47 (by decide) (by decide) ps hs
  have ht : Pl.pfxText ps = Pl.showT ⟨#[47]⟩ ps := by unfold Pl.pfxText; rw [if_pos h]
  rw [ht]
  have hc : Pl.rpC (Pl.showT ⟨#[47]⟩ ps).data.toList = 0 := by unfold Pl.rpC; rw [hb]; exact h
  refine ⟨hc, ?_⟩
  unfold Pl.rpS
  rw [if_pos hc, hb]; rfl
theorem Pl.adjText_size {d : Bool} {ps : List (Int × Int)} (h : Pl.adjF ps = 0) : (Pl.adjText d ps).size ≤ 4398046511103 := by
  obtain ⟨h1, h2⟩ := Pl.adjF_ok h
  have h3 := Pl.showT_size ⟨#[61]⟩ ps h2 (by decide)
  unfold Pl.adjText
  rw [if_pos h]
  split
  · rw [ByteArray.size_append]
    have : (⟨#[33]⟩ : ByteArray).size = 1 := rfl
    omega
  · omega
theorem Pl.pfxText_size {ps : List (Int × Int)} (h : Pl.pfxF ps = 0) : (Pl.pfxText ps).size ≤ 4398046511103 := by
  obtain ⟨h1, h2⟩ := Pl.pfxF_ok h
  have h3 := Pl.showT_size ⟨#[47]⟩ ps h2 (by decide)
  unfold Pl.pfxText
  rw [if_pos h]
  omega
end Go.Proofs.YtcdobhdbafpkiaeGreatDoor
/-
  The store of a map: what the second loop needs.
-/
namespace Go.Proofs.YtcdobhdbafpkiaeGreatDoor
open Go.RowKit
set_option maxRecDepth 20000

theorem ownsRow_but {B : Nat} {w w' : World} {base : Nat} {e : TypeId} {sz : Nat} {v : Value} {n : Nat} {xs : List Value} (h : w.ownsRow base e sz v n xs) (k : But B w w') (hB : B < base) : w'.ownsRow base e sz v n xs := by
  obtain ⟨h0, h1⟩ := h
  refine ⟨h0, ?_⟩
  rcases h1 with h1 | ⟨g, cap, cur, rfl, hb, hh, hr⟩
  · exact .inl h1
  · exact .inr ⟨g, cap, cur, rfl, hb, (k.block g (blockLt hh) (by omega)).trans hh, hr⟩
theorem Own.but {B : Nat} {w w' : World} {base : Nat} {v : Value} {es : List Pl.Ent} (h : Own w base v es) (k : But B w w') (hB : B < base) : Own w' base v es := ownsRow_but h k hB
/-- who is drained; from n on no sides yet -/
def D2At (w : World) (B n : Nat) : Prop := ∃ (D : Nat → Bool) (V : Nat → Value), CellsAt w B 63 24 (toldCell D V) ∧ ∀ i, n ≤ i → V i = .slice none 0 0
/-- .. of n the sides v -/
def D3At (w : World) (B n : Nat) (d : Bool) (v : Value) : Prop := ∃ (D : Nat → Bool) (V : Nat → Value), CellsAt w B 63 24 (toldCell D V) ∧ (∀ i, n < i → V i = .slice none 0 0) ∧ V n = v ∧ D n = d
theorem DAt.two {w B} (h : DAt w B) : D2At w B 0 := by
  obtain ⟨D, h⟩ := h; exact ⟨D, _, h, fun _ _ => rfl⟩
theorem D2At.below {w w' B n} (h : D2At w B n) (k : Below w.heap.size w w') : D2At w' B n := by
  obtain ⟨D, V, h1, h2⟩ := h; exact ⟨D, V, h1.below k, h2⟩
theorem D3At.below {w w' B n d v} (h : D3At w B n d v) (k : Below w.heap.size w w') : D3At w' B n d v := by
  obtain ⟨D, V, h1, h2⟩ := h; exact ⟨D, V, h1.below k, h2⟩
theorem D3At.below' {w w' B n d v C} (h : D3At w B n d v) (k : Below C w w') (hC : B < C) : D3At w' B n d v := by
  obtain ⟨D, V, h1, h2⟩ := h; exact ⟨D, V, h1.below' k hC, h2⟩
theorem D2At.three {w B n} (h : D2At w B n) : ∃ d, D3At w B n d (.slice none 0 0) := by
  obtain ⟨D, V, h1, h2⟩ := h; exact ⟨D n, D, V, h1, fun i hi => h2 i (by omega), h2 n (Nat.le_refl _), rfl⟩
theorem D3At.two {w B n d v} (h : D3At w B n d v) : D2At w B (n + 1) := by
  obtain ⟨D, V, h1, h2, _⟩ := h; exact ⟨D, V, h1, fun i hi => h2 i (by omega)⟩
theorem D3At.cells {w B n d v} (h : D3At w B n d v) (hn : n < 12) : w.cell? ⟨B, n * 2, none⟩ = some (.bool d) ∧ w.cell? ⟨B, n * 2 + 1, none⟩ = some v ∧ w.frozen? ⟨B, n * 2 + 1, none⟩ = false := by
  obtain ⟨D, V, h1, _, h3, h4⟩ := h
  refine ⟨?_, ?_, h1.soft _⟩
  · rw [h1.cell _ (by omega)]; unfold toldCell; rw [if_pos (by omega), show n * 2 / 2 = n by omega, h4]
  · rw [h1.cell _ (by omega)]; unfold toldCell; rw [if_neg (by omega), show (n * 2 + 1) / 2 = n by omega, h3]
theorem D3At.set {w B n d v} (h : D3At w B n d v) (u : Value) : D3At (w.setCell ⟨B, n * 2 + 1, none⟩ u) B n d u := by
  obtain ⟨D, V, h1, h2, h3, h4⟩ := h
  refine ⟨D, Pl.upd V n u, (h1.set (n * 2 + 1) u).ext fun o ho => ?_, fun i hi => ?_, by simp [Pl.upd], h4⟩
  · unfold Pl.upd toldCell
    by_cases e : o = n * 2 + 1
    · subst e; rw [if_pos rfl, if_neg (by omega)]; simp only; rw [if_pos (by omega)]
    · rw [if_neg e]
      by_cases e2 : o % 2 = 0
      · rw [if_pos e2, if_pos e2]
      · rw [if_neg e2, if_neg e2]; simp only; rw [if_neg (by omega)]
  · unfold Pl.upd; rw [if_neg (by omega)]; exact h2 i hi
theorem Pl.merge_good (ea eb : List Pl.Ent) : Pl.Good (Pl.mergeO ea eb) := by
  by_cases h : Pl.mergeC ea eb = 0
  · have ha : Pl.fault ea = 0 := by
      unfold Pl.mergeC at h
      by_cases h0 : Pl.fault ea = 0
      · exact h0
      · rw [if_neg h0] at h; exact absurd h h0
    have hb : Pl.fault eb = 0 := by unfold Pl.mergeC at h; rw [if_pos ha] at h; exact h
    unfold Pl.mergeO
    rw [if_pos h]
    exact Pl.mrg_good _ _ _ ((Pl.good_iff ea).1 ha) (fun e he => ((Pl.good_iff eb).1 hb).2.1 e he)
  · unfold Pl.mergeO; rw [if_neg h]; exact Pl.good_nil
theorem Pl.adjText_any {d : Bool} {ps : List (Int × Int)} : (Pl.adjText d ps).size ≤ 4398046511103 := by
  by_cases h : Pl.adjF ps = 0
  · exact Pl.adjText_size h
  · unfold Pl.adjText; rw [if_neg h]; decide
theorem Pl.pfxText_any {ps : List (Int × Int)} : (Pl.pfxText ps).size ≤ 4398046511103 := by
  by_cases h : Pl.pfxF ps = 0
  · exact Pl.pfxText_size h
  · unfold Pl.pfxText; rw [if_neg h]; decide
end Go.Proofs.YtcdobhdbafpkiaeGreatDoor
/-
  Contract: the store of a map of raw things.
-/
namespace Go.Proofs.YtcdobhdbafpkiaeGreatDoor
open Go.RowKit
set_option maxRecDepth 20000

theorem but_below {B : Nat} {a b c : World} (h : But B a b) (k : Below a.heap.size b c) : But B a c := ⟨k.os.trans h.os, k.tape.trans h.tape, k.output.trans h.output, Nat.le_trans h.size k.size, fun i hi hB => (k.block i hi).trans (h.block i hi hB)⟩
theorem zeroCost : Tryz.zeroCells36 = Array.ofFn (n := 144) fun i => grid (fun _ _ => 0) i.1 := by kernel_rfl
theorem map3 {w w3 : World} (h : w3 = ((w.alloc (.cells Tryz.zeroCells36 36)).alloc (.cells #[Value.bool false, .slice none 0 0, .bool false, .slice none 0 0, .bool false, .slice none 0 0, .bool false, .slice none 0 0, .bool false, .slice none 0 0, .bool false, .slice none 0 0, .bool false, .slice none 0 0, .bool false, .slice none 0 0, .bool false, .slice none 0 0, .bool false, .slice none 0 0, .bool false, .slice none 0 0, .bool false, .slice none 0 0] 63)).alloc (.cells #[.slice none 0 0, .slice none 0 0, .slice none 0 0, .slice none 0 0, .slice none 0 0, .slice none 0 0, .slice none 0 0, .slice none 0 0, .slice none 0 0, .slice none 0 0, .slice none 0 0, .slice none 0 0] 39)) :
    CAt w3 w.heap.size ∧ DAt w3 (w.heap.size + 1) ∧ OAt w3 (w.heap.size + 1 + 1) (w.heap.size + 3) ∧ Below w.heap.size w w3 ∧ w.heap.size + 3 ≤ w3.heap.size := by
  subst h
  refine ⟨⟨fun _ _ => 0, ?_, by simp⟩, ⟨fun _ => false, ?_⟩, OAt.new ?_, (((Below.refl _ _).alloc (by simp) _).alloc (by simp) _).alloc (by simp; omega) _, by simp⟩
  · refine CellsAt.below (CellsAt.below (CellsAt.new w _ _ _ _ (by rw [zeroCost]; simp) fun i hi => ?_) ((Below.refl _ _).alloc (Nat.le_refl _) _)) ((Below.refl _ _).alloc (Nat.le_refl _) _)
    simp only [zeroCost, Array.getElem_ofFn]
  · have := CellsAt.new (w.alloc (.cells Tryz.zeroCells36 36)) 63 (Array.ofFn (n := 24) fun i => toldCell (fun _ => false) (fun _ => .slice none 0 0) i.1) 24 (toldCell (fun _ => false) (fun _ => .slice none 0 0)) (by simp) (by simp)
    rw [show (w.alloc (.cells Tryz.zeroCells36 36)).heap.size = w.heap.size + 1 by simp] at this
    exact CellsAt.below this ((Below.refl _ _).alloc (Nat.le_refl _) _)
  · have hv : (w.alloc (.cells Tryz.zeroCells36 36)).heap.size = w.heap.size + 1 := by simp
    generalize (w.alloc (.cells Tryz.zeroCells36 36)) = v at *
    have := CellsAt.new (v.alloc (.cells #[Value.bool false, .slice none 0 0, .bool false, .slice none 0 0, .bool false, .slice none 0 0, .bool false, .slice none 0 0, .bool false, .slice none 0 0, .bool false, .slice none 0 0, .bool false, .slice none 0 0, .bool false, .slice none 0 0, .bool false, .slice none 0 0, .bool false, .slice none 0 0, .bool false, .slice none 0 0, .bool false, .slice none 0 0] 63)) 39 (Array.ofFn (n := 12) fun _ => Value.slice none 0 0) 12 (fun _ => Value.slice none 0 0) (by simp) (by simp)
    rw [show (v.alloc (.cells #[Value.bool false, .slice none 0 0, .bool false, .slice none 0 0, .bool false, .slice none 0 0, .bool false, .slice none 0 0, .bool false, .slice none 0 0, .bool false, .slice none 0 0, .bool false, .slice none 0 0, .bool false, .slice none 0 0, .bool false, .slice none 0 0, .bool false, .slice none 0 0, .bool false, .slice none 0 0, .bool false, .slice none 0 0] 63)).heap.size = w.heap.size + 1 + 1 by simp [hv]] at this
    exact this

set_option maxHeartbeats 8000000 in
theorem Map_any (a : Option Addr) (len cap : Nat) (nodes : Nat) (w : World) (h : IsRaws w a len cap) (h2 : 2 ≤ nodes) (h12 : nodes ≤ 12) (hT : Tab w) :
    Calls Tryz.prog 9 #[.slice a len cap, .int .i64 (nodes : Int)] w fun e w' => ∃ v es, e = .returned v ∧ Own w' w.heap.size v es ∧ Pl.Good es ∧ Below w.heap.size w w' := by
  have HH := hid h
  have HTB := hid hT
  have hlc := h.1
  have hcm := h.2.1
  unfold maxLen at hcm
  clear h hT
  have al : ∀ (v : World) (o : Obj), Below v.heap.size v (v.alloc o) := fun v o => (Below.refl _ _).alloc (Nat.le_refl _) _
  have H3 := hid (fun w3 h => map3 (w := w) (w3 := w3) h)
  go_enter Tryz.func9, Tryz.ntmps9
  go_wp2_with fail
  go_loopw [8] (fun i wr => ∃ k : Nat, k ≤ len ∧ k ≤ 40 ∧ i = .int .i64 k ∧ Hid (CAt wr w.heap.size) ∧ Hid (DAt wr (w.heap.size + 1)) ∧ Hid (OAt wr (w.heap.size + 1 + 1) (w.heap.size + 3)) ∧ Hid (Below w.heap.size w wr) ∧ Hid (w.heap.size + 3 ≤ wr.heap.size)) (fun i _ => len - (intOf i).toNat)
  case atStart =>
    obtain ⟨g1, g2, g3, g4, g5⟩ := H3.out _ rfl
    exact ⟨0, Nat.zero_le _, Nat.zero_le _, rfl, hid g1, hid g2, hid g3, hid g4, hid g5⟩
  case round =>
    obtain ⟨k, hk, hk40, rfl, HC, HD, HO, HB, HZ⟩ := hrel
    by_cases hlt : k < len
    · by_cases hlm : k < 40
      · obtain ⟨b, off, rfl, hb, hr⟩ := (HH.out.below HB.out).2.2.resolve_left (by omega)
        obtain ⟨k0, k1, k2, k3, ⟨q0, q1, q2, q3⟩, w0, w1, w2, w3⟩ := hr k hlt
        have HW3 := hid w3
        have b0 := wf_bounds w0
        have b1 := wf_bounds w1
        have b2 := wf_bounds w2
        have b3 := wf_bounds w3
        clear hr w0 w1 w2 w3
        have HP1 := hid (fun W => picked_any k1 nodes W b1.1 b1.2 (by omega) (by omega))
        have HP2 := hid (fun W => picked_any k2 nodes W b2.1 b2.2 (by omega) (by omega))
        have HP0 := hid (fun W => picked_any k0 10 W b0.1 b0.2 (by omega) (by omega))
        obtain ⟨pa, hpa⟩ := Int.eq_ofNat_of_zero_le (Pl.pk_range k1 nodes (by omega)).1
        obtain ⟨pb, hpb⟩ := Int.eq_ofNat_of_zero_le (Pl.pk_range k2 nodes (by omega)).1
        obtain ⟨pc, hpc⟩ := Int.eq_ofNat_of_zero_le (Pl.pk_range k0 10 (by omega)).1
        have ha : pa < 12 := by have := (Pl.pk_range k1 nodes (by omega)).2; omega
        have hb' : pb < 12 := by have := (Pl.pk_range k2 nodes (by omega)).2; omega
        have hc : pc < 10 := by have := (Pl.pk_range k0 10 (by omega)).2; omega
        rw [hpa] at HP1
        rw [hpb] at HP2
        rw [hpc] at HP0
        clear hpa hpb hpc b0 b1 b2
        have hzz : w.heap.size + 3 ≤ wr.heap.size := HZ.out
        have hBx : Below w.heap.size w (wr.alloc (.cells #[.int .i64 k0, .int .i64 k1, .int .i64 k2, .int .i64 k3] 65)) := HB.out.alloc HB.out.size _
        have HBx := hid hBx
        have HBa : Hid (Below wr.heap.size wr (wr.alloc (.cells #[.int .i64 k0, .int .i64 k1, .int .i64 k2, .int .i64 k3] 65))) := hid ((Below.refl _ _).alloc (Nat.le_refl _) _)
        clear hBx
        go_wp2_with fail
        refine (HP1.out _).mono ?_
        rintro e wx ⟨rfl, rfl⟩
        go_wp2_with fail
        refine (HP2.out _).mono ?_
        rintro e wx ⟨rfl, rfl⟩
        go_wp2_with fail
        refine (HP0.out _).mono ?_
        rintro e wx ⟨rfl, rfl⟩
        have hcs : pc < 7 ∨ pc = 7 ∨ pc = 8 ∨ pc = 9 := by omega
        have HCx := hid (HC.out.below HBa.out)
        have HDx := hid (HD.out.below HBa.out)
        have HOx := hid (HO.out.below HBa.out)
        rcases hcs with hc7 | rfl | rfl | rfl
        · have e7 : ((pc : Int) == 7) = false := by simp; omega
          have e8 : ((pc : Int) == 8) = false := by simp; omega
          have e9 : ((pc : Int) == 9) = false := by simp; omega
          by_cases hab : (pa : Int) = pb
          · have hab' : ((pa : Int) != (pb : Int)) = false := by simp [hab]
            clear hab
            go_wp2_with fail
            go_roundw
            case rel => exact ⟨k + 1, by omega, by omega, by go_num, HCx, HDx, HOx, HBx, hid (by simp; omega)⟩
            case measure => simp [intOf]; omega
          · have hab' : ((pa : Int) != (pb : Int)) = true := by simp [hab]
            clear hab
            go_wp2_with fail
            obtain ⟨W1, HW1⟩ : ∃ W1, Hid (W1 = wr.alloc (.cells #[.int .i64 k0, .int .i64 k1, .int .i64 k2, .int .i64 k3] 65)) := ⟨_, hid rfl⟩
            rw [← HW1.out]
            have cR : W1.cell? ⟨wr.heap.size, 3, none⟩ = some (.int .i64 k3) := by rw [HW1.out]; simp
            have hRl : wr.heap.size < W1.heap.size := by rw [HW1.out]; simp
            rw [← HW1.out] at HCx HDx HOx HBx
            have hd1 := Pl.pk_range k3 4 (by omega)
            have hq4 := tdiv4 b3.1 b3.2
            have hd2 := Pl.pk_range (k3.tdiv 4) 4 (by omega)
            have HP3 := hid (fun W => picked_any k3 4 W b3.1 b3.2 (by omega) (by omega))
            have HP4 := hid (fun W => picked_any (k3.tdiv 4) 4 W hq4.1 hq4.2 (by omega) (by omega))
            obtain ⟨d1, hd1e⟩ : ∃ d, Pl.pk k3 4 = d := ⟨_, rfl⟩
            obtain ⟨d2, hd2e⟩ : ∃ d, Pl.pk (k3.tdiv 4) 4 = d := ⟨_, rfl⟩
            rw [hd1e] at hd1 HP3
            rw [hd2e] at hd2 HP4
            have hqw : IntKind.i64.wrap (k3.tdiv 4) = k3.tdiv 4 := by rw [IntKind.wrap_i64]; omega
            have hdw1 : IntKind.i64.wrap (1 + d1) = 1 + d1 := by rw [IntKind.wrap_i64]; omega
            have hdw2 : IntKind.i64.wrap (1 + d2) = 1 + d2 := by rw [IntKind.wrap_i64]; omega
            have hai : (pa : Int) < 12 := by omega
            have hbi : (pb : Int) < 12 := by omega
            generalize ha0 : Act.mk _ _ = a0
            have hsz : 56 + 17 ≤ a0.tmps.size := by
              have : a0.tmps.size = 180 := by rw [← ha0]; rfl
              omega
            have q5 : a0.tmps[5]?.getD undef = .pointer (some ⟨w.heap.size, 0, none⟩) := by rw [← ha0]; rfl
            have q9 : a0.tmps[9]?.getD undef = .pointer (some ⟨wr.heap.size, 0, none⟩) := by rw [← ha0]; rfl
            have q10 : a0.tmps[10]?.getD undef = .int .i64 pa := by rw [← ha0]; rfl
            have q11 : a0.tmps[11]?.getD undef = .int .i64 pb := by rw [← ha0]; rfl
            have hneB : wr.heap.size ≠ w.heap.size := by omega
            refine wp_region_any (by kernel_rfl) ?_
            refine wpAny_inv2 (DInv a0 56 17 19 (fun k => if k < 15 then some k else if k = 15 then none else if k < 18 then some (k - 1) else none)
              (fun j => ([.int .i64 pa, .int .i64 pb, .int .i64 pb, .int .i64 pa, .pointer (some ⟨wr.heap.size, 3, none⟩), .int .i64 k3, .int .i64 d1, .int .i64 (1 + d1), .pointer (some ⟨wr.heap.size, 3, none⟩), .int .i64 k3, .int .i64 (k3.tdiv 4), .int .i64 d2, .int .i64 (1 + d2), .pointer (some ⟨w.heap.size, pa * 12, none⟩), .pointer (some ⟨w.heap.size, pa * 12 + pb, none⟩), .pointer (some ⟨w.heap.size, pb * 12, none⟩), .pointer (some ⟨w.heap.size, pb * 12 + pa, none⟩)] : List Value).getD j undef)
              (fun W => CAt W w.heap.size ∧ But w.heap.size W1 W)) ?_ ?_ _ _ _ _ (by decide +kernel) ?_ (closed_start _ _ _)
            · intro i listed a W hi hCl hI
              rw [mem_ready] at hi
              obtain ⟨hl, o, ho, hall⟩ := hi
              have hlt19 : i < 19 := (Array.getElem?_eq_some_iff.1 ho).1
              have o5 := (hI.out (k := 5) (by omega)).trans q5
              have o9 := (hI.out (k := 9) (by omega)).trans q9
              have o10 := (hI.out (k := 10) (by omega)).trans q10
              have o11 := (hI.out (k := 11) (by omega)).trans q11
              have hcc := hI.cw
              have cR2 := (hcc.2.cell (p := ⟨wr.heap.size, 3, none⟩) hRl hneB).trans cR
              have hcs : i = 0 ∨ i = 1 ∨ i = 2 ∨ i = 3 ∨ i = 4 ∨ i = 5 ∨ i = 6 ∨ i = 7 ∨ i = 8 ∨ i = 9 ∨ i = 10 ∨ i = 11 ∨ i = 12 ∨ i = 13 ∨ i = 14 ∨ i = 15 ∨ i = 16 ∨ i = 17 ∨ i = 18 := by omega
              rcases hcs with rfl | rfl | rfl | rfl | rfl | rfl | rfl | rfl | rfl | rfl | rfl | rfl | rfl | rfl | rfl | rfl | rfl | rfl | rfl
              all_goals
                simp at ho
                subst ho
                refine wpOp_of rfl rfl ?_
              · simp [Oper.wp, go_sem, o10]
                exact hI.put (i := 0) (j := 0) rfl (by omega) rfl hcc
              · simp [Oper.wp, go_sem, o11]
                exact hI.put (i := 1) (j := 1) rfl (by omega) rfl hcc
              · simp [Oper.wp, go_sem, o11]
                exact hI.put (i := 2) (j := 2) rfl (by omega) rfl hcc
              · simp [Oper.wp, go_sem, o10]
                exact hI.put (i := 3) (j := 3) rfl (by omega) rfl hcc
              · simp [Oper.wp, go_sem, o9]
                exact hI.put (i := 4) (j := 4) rfl (by omega) rfl hcc
              · have e1 : a.tmps[60]?.getD undef = .pointer (some ⟨wr.heap.size, 3, none⟩) := hI.at (k := 4) (j := 4) hsz rfl (by omega) (hall ⟨4, .data⟩ (by simp) rfl)
                simp [Oper.wp, go_sem, e1, cR2]
                exact hI.put (i := 5) (j := 5) rfl (by omega) rfl hcc
              · have e1 : a.tmps[61]?.getD undef = .int .i64 k3 := hI.at (k := 5) (j := 5) hsz rfl (by omega) (hall ⟨5, .data⟩ (by simp) rfl)
                simp [Oper.wp, go_sem, e1]
                refine (HP3.out W).mono ?_
                rintro e w1 ⟨rfl, rfl⟩
                exact hI.put (i := 6) (j := 6) rfl (by omega) rfl hcc
              · have e1 : a.tmps[62]?.getD undef = .int .i64 d1 := hI.at (k := 6) (j := 6) hsz rfl (by omega) (hall ⟨6, .data⟩ (by simp) rfl)
                simp [Oper.wp, go_sem, e1, hdw1]
                exact hI.put (i := 7) (j := 7) rfl (by omega) rfl hcc
              · simp [Oper.wp, go_sem, o9]
                exact hI.put (i := 8) (j := 8) rfl (by omega) rfl hcc
              · have e1 : a.tmps[64]?.getD undef = .pointer (some ⟨wr.heap.size, 3, none⟩) := hI.at (k := 8) (j := 8) hsz rfl (by omega) (hall ⟨8, .data⟩ (by simp) rfl)
                simp [Oper.wp, go_sem, e1, cR2]
                exact hI.put (i := 9) (j := 9) rfl (by omega) rfl hcc
              · have e1 : a.tmps[65]?.getD undef = .int .i64 k3 := hI.at (k := 9) (j := 9) hsz rfl (by omega) (hall ⟨9, .data⟩ (by simp) rfl)
                simp [Oper.wp, go_sem, e1, hqw]
                exact hI.put (i := 10) (j := 10) rfl (by omega) rfl hcc
              · have e1 : a.tmps[66]?.getD undef = .int .i64 (k3.tdiv 4) := hI.at (k := 10) (j := 10) hsz rfl (by omega) (hall ⟨10, .data⟩ (by simp) rfl)
                simp [Oper.wp, go_sem, e1]
                refine (HP4.out W).mono ?_
                rintro e w1 ⟨rfl, rfl⟩
                exact hI.put (i := 11) (j := 11) rfl (by omega) rfl hcc
              · have e1 : a.tmps[67]?.getD undef = .int .i64 d2 := hI.at (k := 11) (j := 11) hsz rfl (by omega) (hall ⟨11, .data⟩ (by simp) rfl)
                simp [Oper.wp, go_sem, e1, hdw2]
                exact hI.put (i := 12) (j := 12) rfl (by omega) rfl hcc
              · have e1 : a.tmps[56]?.getD undef = .int .i64 pa := hI.at (k := 0) (j := 0) hsz rfl (by omega) (hall ⟨0, .data⟩ (by simp) rfl)
                simp [Oper.wp, go_sem, e1, o5, hai]
                exact hI.put (i := 13) (j := 13) rfl (by omega) rfl hcc
              · have e1 : a.tmps[69]?.getD undef = .pointer (some ⟨w.heap.size, pa * 12, none⟩) := hI.at (k := 13) (j := 13) hsz rfl (by omega) (hall ⟨13, .data⟩ (by simp) rfl)
                have e2 : a.tmps[57]?.getD undef = .int .i64 pb := hI.at (k := 1) (j := 1) hsz rfl (by omega) (hall ⟨1, .data⟩ (by simp) rfl)
                simp [Oper.wp, go_sem, e1, e2, hbi]
                exact hI.put (i := 14) (j := 14) rfl (by omega) rfl hcc
              · have e1 : a.tmps[70]?.getD undef = .pointer (some ⟨w.heap.size, pa * 12 + pb, none⟩) := hI.at (k := 14) (j := 14) hsz rfl (by omega) (hall ⟨14, .data⟩ (by simp) rfl)
                have e2 : a.tmps[63]?.getD undef = .int .i64 (1 + d1) := hI.at (k := 7) (j := 7) hsz rfl (by omega) (hall ⟨7, .data⟩ (by simp) rfl)
                obtain ⟨⟨co, ec⟩, ef⟩ := hcc.1.old pa pb ha hb'
                simp [Oper.wp, go_sem, e1, e2, ec, ef]
                exact hI.skip (i := 15) rfl ⟨hcc.1.set pa pb hb' _ (by omega), hcc.2.setCell _ _⟩
              · have e1 : a.tmps[58]?.getD undef = .int .i64 pb := hI.at (k := 2) (j := 2) hsz rfl (by omega) (hall ⟨2, .data⟩ (by simp) rfl)
                simp [Oper.wp, go_sem, e1, o5, hbi]
                exact hI.put (i := 16) (j := 15) rfl (by omega) rfl hcc
              · have e1 : a.tmps[71]?.getD undef = .pointer (some ⟨w.heap.size, pb * 12, none⟩) := hI.at (k := 16) (j := 15) hsz rfl (by omega) (hall ⟨16, .data⟩ (by simp) rfl)
                have e2 : a.tmps[59]?.getD undef = .int .i64 pa := hI.at (k := 3) (j := 3) hsz rfl (by omega) (hall ⟨3, .data⟩ (by simp) rfl)
                simp [Oper.wp, go_sem, e1, e2, hai]
                exact hI.put (i := 17) (j := 16) rfl (by omega) rfl hcc
              · have e1 : a.tmps[72]?.getD undef = .pointer (some ⟨w.heap.size, pb * 12 + pa, none⟩) := hI.at (k := 17) (j := 16) hsz rfl (by omega) (hall ⟨17, .data⟩ (by simp) rfl)
                have e2 : a.tmps[68]?.getD undef = .int .i64 (1 + d2) := hI.at (k := 12) (j := 12) hsz rfl (by omega) (hall ⟨12, .data⟩ (by simp) rfl)
                obtain ⟨⟨co, ec⟩, ef⟩ := hcc.1.old pb pa hb' ha
                simp [Oper.wp, go_sem, e1, e2, ec, ef]
                exact hI.skip (i := 18) rfl ⟨hcc.1.set pb pa ha _ (by omega), hcc.2.setCell _ _⟩
            · intro listed a W hr hI
              rename_i K hK _
              obtain ⟨hcw, hbut⟩ := hI.cw
              obtain ⟨xs, hxl, rfl, _⟩ := hI.fr
              obtain ⟨x0, x1, x2, x3, x4, x5, x6, x7, x8, x9, x10, x11, x12, x13, x14, x15, x16, rfl⟩ := list17 xs hxl
              have HCy := hid hcw
              have HDy := hid (HDx.out.but hbut (by omega))
              have HOy := hid (HOx.out.but hbut (by omega) (by omega))
              have HBy : Hid (Below w.heap.size w W) := hid (HBx.out.trans (hbut.below (Nat.le_refl _) (by have := HBx.out.size; omega)))
              have HZy : Hid (w.heap.size + 3 ≤ W.heap.size) := hid (by have := hbut.size; omega)
              clear hI hr hxl q5 q9 q10 q11 hsz hcw hbut
              rw [← ha0]
              simp only [setFrom]
              refine hK _ W ?_
              go_wp2_with fail
              go_roundw
              case rel => exact ⟨k + 1, by omega, by omega, by go_num, HCy, HDy, HOy, HBy, HZy⟩
              case measure => simp [intOf]; omega
            · exact DInv.start hsz ⟨HCx.out, But.refl _ _ |>.drawn 1⟩
        · obtain ⟨⟨co, ec⟩, ef⟩ := HD.out.old pa ha
          have hZ1 : w.heap.size + 1 < wr.heap.size := by omega
          have HP3 := hid (fun W => picked_any k3 2 W b3.1 b3.2 (by omega) (by omega))
          obtain ⟨d1, hd1e⟩ : ∃ d, Pl.pk k3 2 = d := ⟨_, rfl⟩
          rw [hd1e] at HP3
          have hbut : But (w.heap.size + 1) wr (wr.setCell ⟨w.heap.size + 1, pa * 2, none⟩ (.bool (d1 == 0))) := (But.refl _ _).setCell _ _
          have HU := hid hbut
          clear hbut hd1e
          go_wp2_with fail
          refine (HP3.out _).mono ?_
          rintro e wx ⟨rfl, rfl⟩
          go_wp2_with fail
          go_roundw
          case rel => exact ⟨k + 1, by omega, by omega, by go_num, hid ((HC.out.but HU.out (by omega)).below (al _ _)), hid ((HD.out.set pa _).below (al _ _)), hid ((HO.out.but HU.out (by omega) (by omega)).below (al _ _)), hid ((HB.out.setCell (p := ⟨w.heap.size + 1, pa * 2, none⟩) (Nat.le_succ _) _).alloc (by have := HU.out.size; omega) _), hid (by have := HU.out.size; simp at this ⊢; omega)⟩
          case measure => simp [intOf]; omega
        · obtain ⟨oa, ol, oc, ops, ec, hol, hop, hox, ef⟩ := HO.out.at pa ha
          have hZ1 : w.heap.size + 1 + 1 < wr.heap.size := by omega
          clear hop hox
          by_cases hz0 : ol = 0
          · subst hz0
            go_wp2_with fail
            refine (prefix_any k3 _ HW3.out).mono ?_
            rintro e w5 ⟨⟨p1, p2⟩, rfl, hpo, hb5⟩
            simp only at hpo ⊢
            have HC5 := hid (HCx.out.below hb5)
            have HD5 := hid (HDx.out.below hb5)
            have HO5 := hid (HOx.out.below hb5)
            have hz5 : w.heap.size + 4 ≤ w5.heap.size := by have := hb5.size; simp at this; omega
            have HB5 : Hid (Below w.heap.size w w5) := hid (HBx.out.trans (hb5.mono HBx.out.size))
            have HPO := hid hpo
            obtain ⟨oa5, ol5, oc5, ops5, ec5, _, _, _, ef5⟩ := HO5.out.at pa ha
            have hZ5 : w.heap.size + 1 + 1 < w5.heap.size := by omega
            clear hpo hb5 ec ef HC HD HO HCx HDx HOx
            go_wp2_with fail
            have hU5 : But (w.heap.size + 1 + 1) w5 (w5.setCell ⟨w.heap.size + 1 + 1, pa, none⟩ (.slice (some ⟨w5.heap.size, 0, none⟩) 1 1)) := (But.refl _ _).setCell _ _
            have HU5 := hid hU5
            clear hU5
            go_roundw
            case rel =>
              refine ⟨k + 1, by omega, by omega, by go_num, hid ((HC5.out.but HU5.out (by omega)).below (al _ _)), hid ((HD5.out.but HU5.out (by omega)).below (al _ _)), hid ?_, hid ((HB5.out.setCell (p := ⟨w.heap.size + 1 + 1, pa, none⟩) (by simp; omega) _).alloc (by have := HU5.out.size; omega) _), hid (by have := HU5.out.size; simp at this ⊢; omega)⟩
              rw [← World.setCell_alloc_past _ _ _ _ hZ5]
              refine (HO5.out.below (al _ _)).set pa _ 1 1 [(p1, p2)] (Nat.le_refl _) ⟨rfl, Nat.le_refl _, by decide, ?_, .inr ⟨_, _, rfl, by simp, ?_⟩⟩ (by rintro x ⟨⟩; simp only; omega) (by omega)
              · intro p hp; rw [List.mem_singleton.1 hp]; exact HPO.out
              · intro i hi
                obtain rfl : i = 0 := by simp at hi; omega
                simp [Pl.pr]
            case measure => simp [intOf]; omega
          · have hz1 : ((ol : Int) == 0) = false := by simp; omega
            clear hz0
            go_wp2_with fail
            go_roundw
            case rel => exact ⟨k + 1, by omega, by omega, by go_num, HCx, HDx, HOx, HBx, hid (by simp; omega)⟩
            case measure => simp [intOf]; omega
        · obtain ⟨⟨co, ec⟩, ef⟩ := HC.out.old pa pb ha hb'
          have hZ1 : w.heap.size < wr.heap.size := by omega
          have hbut : But w.heap.size wr (wr.setCell ⟨w.heap.size, pa * 12 + pb, none⟩ (.int .i64 0)) := (But.refl _ _).setCell _ _
          have HU := hid hbut
          clear hbut
          by_cases hab : (pa : Int) = pb
          · have hab' : ((pa : Int) != (pb : Int)) = false := by simp [hab]
            clear hab
            go_wp2_with fail
            go_roundw
            case rel => exact ⟨k + 1, by omega, by omega, by go_num, HCx, HDx, HOx, HBx, hid (by simp; omega)⟩
            case measure => simp [intOf]; omega
          · have hab' : ((pa : Int) != (pb : Int)) = true := by simp [hab]
            clear hab
            go_wp2_with fail
            go_roundw
            case rel => exact ⟨k + 1, by omega, by omega, by go_num, hid ((HC.out.set pa pb hb' 0 (by omega)).below (al _ _)), hid ((HD.out.but HU.out (by omega)).below (al _ _)), hid ((HO.out.but HU.out (by omega) (by omega)).below (al _ _)), hid ((HB.out.setCell (p := ⟨w.heap.size, pa * 12 + pb, none⟩) (Nat.le_refl _) _).alloc (by have := HU.out.size; omega) _), hid (by have := HU.out.size; simp at this ⊢; omega)⟩
            case measure => simp [intOf]; omega
      · obtain rfl : k = 40 := by omega
        have HBr := hid HB.out
        have HTr := hid (HTB.out.below HB.out)
        have H2D := hid HD.out.two
        have hzz : w.heap.size + 3 ≤ wr.heap.size := HZ.out
        have HHx := HH
        clear HH HD HZ
        go_wp2_with fail
        rename World => wA
        go_loopw [13, 112] (fun vo i wr => ∃ (n : Nat) (es : List Pl.Ent) (u : Value), u = vo ∧ n ≤ nodes ∧ i = .int .i64 n ∧ Hid (Own wr (w.heap.size + 3) u es) ∧ Hid (Pl.Good es) ∧ Hid (CAt wr w.heap.size) ∧ Hid (D2At wr (w.heap.size + 1) n) ∧ Hid (OAt wr (w.heap.size + 1 + 1) (w.heap.size + 3)) ∧ Hid (Below w.heap.size w wr) ∧ w.heap.size + 3 ≤ wr.heap.size) (fun _ i _ => nodes - (intOf i).toNat)
        case atStart => exact ⟨0, [], _, rfl, Nat.zero_le _, rfl, hid (Own.nil _ _), hid Pl.good_nil, HC, H2D, HO, HBr, hzz⟩
        case round =>
          clear HC H2D HO HBr hzz HTr
          obtain ⟨n, es, u, rfl, hn, rfl, HOW, HG, HC, HD, HO, HB, hz⟩ := hrel
          by_cases hlt : n < nodes
          · have hn12 : n < 12 := by omega
            obtain ⟨M, hM, hMb⟩ := HC.out
            have HM := hid hM
            have HMb := hid hMb
            have HRW := hid (hM.row n hn12)
            clear hM hMb
            obtain ⟨d, hd3⟩ := HD.out.three
            have HD3 := hid hd3
            clear hd3
            rename World => w2
            have hz1 : w.heap.size + 1 < w2.heap.size := by omega
            have hz0 : w.heap.size < w2.heap.size := by omega
            go_wp2_with (refine wpList_load_mid rfl 35 (.tmp 116) rfl w.heap.size (n * 12) rfl (ints12 (M n)) _ HRW.out Tryz.underlying35 rfl infoInts ?_)
            go_loopw [118] (fun i wr => ∃ (j : Nat) (v : Value) (acc : List (Int × Int)), j ≤ 12 ∧ i = .int .i64 j ∧ Hid (D3At wr (w.heap.size + 1) n d v) ∧ Hid (OwnP 68 wr w2.heap.size v acc) ∧ acc.length ≤ j ∧ Hid (∀ p ∈ acc, Pl.pairOk p) ∧ Hid (But (w.heap.size + 1) w2 wr)) (fun i _ => 12 - (intOf i).toNat)
            case atStart => exact ⟨0, _, [], by omega, rfl, HD3, hid (OwnP.nil _ _ _), Nat.le_refl _, hid (by simp), hid (But.refl _ _)⟩
            case round =>
              obtain ⟨j, v, acc, hj, rfl, HD4, HV, hal, HPK, HU⟩ := hrel
              by_cases hjl : j < 12
              · have hg := fun w => run_index_ints (M n) j hjl w
                obtain ⟨y, HY⟩ : ∃ y, Hid (M n j = y) := ⟨_, hid rfl⟩
                rw [HY.out] at hg
                have hy : 0 ≤ y ∧ y ≤ 4 := by rw [← HY.out]; exact HMb.out n j
                by_cases hy0 : 0 < y
                · obtain ⟨e0, e1, e2⟩ := HD4.out.cells hn12
                  obtain ⟨av, nv, cv, rfl⟩ := HV.out.slice
                  have hzr : w2.heap.size ≤ wr.heap.size := HU.out.size
                  have hzr1 : w.heap.size + 1 < wr.heap.size := by omega
                  have HV4 := hid (HV.out.below ((Below.refl wr.heap.size wr).alloc (Nat.le_refl _) (.cells #[.int .i64 (j : Int), .int .i64 y] 68)))
                  clear HV4
                  go_wp2_with (at_builtin; refine append_pairT Tryz.underlying60 infoSide rfl (.tmp 128) (.tmp 132) rfl w2.heap.size (.slice av nv cv) acc ((j : Int), y) rfl HV.out hzr rfl (by omega) ?_; intro v5 w5 ho5 hb5 _; obtain ⟨a5, n5, c5, rfl⟩ := ho5.slice; obtain ⟨f0, f1, f2⟩ := (HD4.out.below' hb5 (by omega)).cells hn12; have hz5 : w.heap.size + 1 < w5.heap.size := Nat.lt_of_lt_of_le hzr1 hb5.size; have HO5 := hid ho5; have HB5 := hid hb5; clear ho5 hb5 e0 e1 e2)
                  have HU5 : Hid (But (w.heap.size + 1) w2 w5) := hid (but_below HU.out HB5.out)
                  go_roundw
                  case rel =>
                    refine ⟨j + 1, _, acc ++ [((j : Int), y)], by omega, by go_num, hid ((HD4.out.below' HB5.out (by omega)).set _), hid (ownsRow_setCell_below HO5.out (by simp; omega) _), by simp; omega, hid ?_, hid (HU5.out.setCell _ _)⟩
                    intro p hp
                    rcases List.mem_append.1 hp with hp | hp
                    · exact HPK.out p hp
                    · rw [List.mem_singleton.1 hp]; exact Pl.pairOk_of ⟨by simp only; omega, by simp only; omega, by simp only; omega, by simp only; omega⟩
                  case measure => simp [intOf]; omega
                · obtain rfl : y = 0 := by omega
                  go_wp2_with fail
                  go_roundw
                  case rel => exact ⟨j + 1, v, acc, by omega, by go_num, HD4, HV, by omega, HPK, HU⟩
                  case measure => simp [intOf]; omega
              · obtain rfl : j = 12 := by omega
                obtain ⟨e0, e1, e2⟩ := HD4.out.cells hn12
                obtain ⟨av, cv, rfl, hp3, _, _⟩ := OwnP.shape HV.out HPK.out
                have hzr : w2.heap.size ≤ wr.heap.size := HU.out.size
                have HBw : Hid (Below w.heap.size w wr) := hid (HB.out.trans (HU.out.below (Nat.le_succ _) (by omega)))
                have HSA := hid (ShowAdj_any d av acc.length cv acc wr hp3 (HTB.out.below HBw.out))
                have HOWr := hid (HOW.out.but HU.out (by omega))
                have HCr := hid (HC.out.but HU.out (by omega))
                have HOr := hid (HO.out.but HU.out (by omega) (by omega))
                have HTX := hid (@Pl.adjText_any d acc)
                generalize Pl.adjText d acc = t1 at *
                generalize Pl.adjF acc = f1 at *
                clear hp3 HRW HM HMb HC HO HD HOW
                go_wp2_with fail
                refine HSA.out.mono ?_
                rintro e w4 ⟨rfl, hb4⟩
                have HB4 := hid hb4
                have hz4 : w2.heap.size ≤ w4.heap.size := Nat.le_trans hzr hb4.size
                have HBw4 : Hid (Below w.heap.size w w4) := hid (HBw.out.trans (HB4.out.mono HBw.out.size))
                obtain ⟨oa, ol, oc, ops, ec, hol, hop, _, ef⟩ := (HOr.out.below HB4.out).at n hn12
                have HSP := hid (ShowPrefixes_any oa ol oc ops w4 hop (HTB.out.below HBw4.out))
                have HTP := hid (@Pl.pfxText_any ops)
                have hz41 : w.heap.size + 1 + 1 < w4.heap.size := by omega
                generalize Pl.pfxText ops = t2 at *
                generalize Pl.pfxF ops = f2 at *
                clear hop hb4
                go_wp2_with fail
                refine HSP.out.mono ?_
                rintro e w5 ⟨rfl, hb5⟩
                have HB5 : Hid (Below wr.heap.size wr w5) := hid (HB4.out.trans (hb5.mono HB4.out.size))
                have HBw5 : Hid (Below w.heap.size w w5) := hid (HBw4.out.trans (hb5.mono HBw4.out.size))
                clear hb5
                have hdz := Pl.dec_le n (by omega) (by omega)
                have HIT := hid (fun W hW => Itoa_any n W (by omega) (by omega) hW)
                generalize Pl.dec (n : Int) = sd at *
                go_wp2_with fail
                refine (HIT.out _ (HTB.out.below HBw5.out)).mono ?_
                rintro e w6 ⟨rfl, hb6⟩
                have HB6 : Hid (Below wr.heap.size wr w6) := hid (HB5.out.trans (hb6.mono HB5.out.size))
                have HBw6 : Hid (Below w.heap.size w w6) := hid (HBw5.out.trans (hb6.mono HBw5.out.size))
                clear hb6
                go_wp2_with fail
                refine (HIT.out _ (HTB.out.below HBw6.out)).mono ?_
                rintro e w7 ⟨rfl, hb7⟩
                have HB7 : Hid (Below wr.heap.size wr w7) := hid (HB6.out.trans (hb7.mono HB6.out.size))
                have HBw7 : Hid (Below w.heap.size w w7) := hid (HBw6.out.trans (hb7.mono HBw6.out.size))
                clear hb7
                go_wp2_with fail
                have hs1z : (({ data := #[97, 58] } : ByteArray) ++ sd).size ≤ 100 := by rw [ByteArray.size_append]; show 2 + sd.size ≤ 100; omega
                have hs2z : (({ data := #[112, 58] } : ByteArray) ++ sd).size ≤ 100 := by rw [ByteArray.size_append]; show 2 + sd.size ≤ 100; omega
                generalize (({ data := #[97, 58] } : ByteArray) ++ sd) = s1 at *
                generalize (({ data := #[112, 58] } : ByteArray) ++ sd) = s2 at *
                have HS1 := hid hs1z
                have HS2 := hid hs2z
                clear hs1z hs2z HIT HSP HSA e0 e1 e2 ec ef HB4 HB5 HB6 HBw4 HBw5 HBw6
                obtain ⟨w8, HW8⟩ : ∃ w8, Hid (w8 = w7.alloc (.cells #[.string s1, .int .i64 1, .int .i64 (n : Int), .string t1, .string s2, .int .i64 1, .int .i64 (n : Int), .string t2] 74)) := ⟨_, hid rfl⟩
                rw [← HW8.out]
                have HB8 : Hid (Below wr.heap.size wr w8) := hid (by show Below _ _ _; rw [HW8.out]; exact HB7.out.alloc HB7.out.size _)
                have HBw8 : Hid (Below w.heap.size w w8) := hid (by show Below _ _ _; rw [HW8.out]; exact HBw7.out.alloc HBw7.out.size _)
                have hz8 : w7.heap.size < w8.heap.size := by rw [HW8.out]; simp
                have G8 : Hid ((w8.cell? ⟨w7.heap.size, 0, none⟩ = some (.string s1) ∧ w8.cell? ⟨w7.heap.size, 1, none⟩ = some (.int .i64 1) ∧ w8.cell? ⟨w7.heap.size, 2, none⟩ = some (.int .i64 (n : Int)) ∧ w8.cell? ⟨w7.heap.size, 3, none⟩ = some (.string t1)) ∧ (w8.cell? ⟨w7.heap.size, 4, none⟩ = some (.string s2) ∧ w8.cell? ⟨w7.heap.size, 5, none⟩ = some (.int .i64 1) ∧ w8.cell? ⟨w7.heap.size, 6, none⟩ = some (.int .i64 (n : Int)) ∧ w8.cell? ⟨w7.heap.size, 7, none⟩ = some (.string t2))) := hid (by show _ ∧ _; rw [HW8.out]; simp)
                go_loopw [13, 165] (fun vo i wr => ∃ (q : Nat) (el : List Pl.Ent) (z : Value), z = vo ∧ q ≤ 2 ∧ i = .int .i64 q ∧ Hid (Own wr (w.heap.size + 3) z el) ∧ Hid (Pl.Good el) ∧ Hid (Below w8.heap.size w8 wr)) (fun _ i _ => 2 - (intOf i).toNat)
                case atStart => exact ⟨0, es, _, rfl, by omega, rfl, hid (HOWr.out.below HB8.out), HG, hid (Below.refl _ _)⟩
                case round =>
                  obtain ⟨q, el, z, rfl, hq, rfl, HOq, HGq, HBq⟩ := hrel
                  obtain ⟨au, cu, rfl, hE, hnl, _⟩ := HOq.out.shape HGq.out.ok
                  have HE := hid hE
                  have HN := hid hnl
                  clear hE hnl
                  rename World => wq
                  have hzq : w7.heap.size < wq.heap.size := Nat.lt_of_lt_of_le hz8 HBq.out.size
                  have hzw : w.heap.size + 3 ≤ wq.heap.size := Nat.le_trans (Nat.le_trans (Nat.le_trans hz hzr) HB8.out.size) HBq.out.size
                  by_cases hq2 : q < 2
                  · obtain ⟨xk, xv, xo, xx, c0, c1, c2, c3, hxok⟩ : ∃ (xk : ByteArray) (xv xo : Int) (xx : ByteArray), wq.cell? ⟨w7.heap.size, q * 4, none⟩ = some (.string xk) ∧ wq.cell? ⟨w7.heap.size, q * 4 + 1, none⟩ = some (.int .i64 xv) ∧ wq.cell? ⟨w7.heap.size, q * 4 + 2, none⟩ = some (.int .i64 xo) ∧ wq.cell? ⟨w7.heap.size, q * 4 + 3, none⟩ = some (.string xx) ∧ Hid (Pl.Ent.ok ⟨xk, xv, xo, xx⟩) := by
                      have hcc := (bcell HBq.out).1
                      have hmx : (100 : Nat) ≤ maxLen := by decide
                      have hmy : (4398046511103 : Nat) ≤ maxLen := by decide
                      obtain ⟨⟨g0, g1, g2, g3⟩, g4, g5, g6, g7⟩ := G8.out
                      obtain rfl | rfl : q = 0 ∨ q = 1 := by omega
                      · exact ⟨s1, 1, n, t1, (hcc _ _ hz8).trans g0, (hcc _ _ hz8).trans g1, (hcc _ _ hz8).trans g2, (hcc _ _ hz8).trans g3, hid ⟨Nat.le_trans HS1.out hmx, by dsimp only; decide, WalkArith.wf_i64 (by dsimp only; omega), Nat.le_trans HTX.out hmy⟩⟩
                      · exact ⟨s2, 1, n, t2, (hcc _ _ hz8).trans g4, (hcc _ _ hz8).trans g5, (hcc _ _ hz8).trans g6, (hcc _ _ hz8).trans g7, hid ⟨Nat.le_trans HS2.out hmx, by dsimp only; decide, WalkArith.wf_i64 (by dsimp only; omega), Nat.le_trans HTP.out hmy⟩⟩
                    have HA1 : Hid (Below wq.heap.size wq (wq.alloc (.cells #[.string xk, .int .i64 xv, .int .i64 xo, .string xx] 74))) := hid (al _ _)
                    have HA2 : Hid (Below wq.heap.size wq ((wq.alloc (.cells #[.string xk, .int .i64 xv, .int .i64 xo, .string xx] 74)).alloc (.cells #[.string xk, .int .i64 xv, .int .i64 xo, .string xx] 74))) := hid (HA1.out.alloc HA1.out.size _)
                    have HI1 : Hid (IsEnts ((wq.alloc (.cells #[.string xk, .int .i64 xv, .int .i64 xo, .string xx] 74)).alloc (.cells #[.string xk, .int .i64 xv, .int .i64 xo, .string xx] 74)) (some ⟨wq.heap.size + 1, 0, none⟩) 1 1 [⟨xk, xv, xo, xx⟩]) := by
                      refine ⟨rfl, Nat.le_refl _, by decide, ?_, .inr ⟨_, _, rfl, by simp, ?_⟩⟩
                      · intro e he; rw [List.mem_singleton.1 he]; exact hxok.out
                      · intro i hi
                        obtain rfl : i = 0 := by simp at hi; omega
                        simp [Pl.ent]
                    go_wp2_with fail
                    refine (Merge_any _ _ _ el _ _ _ [⟨xk, xv, xo, xx⟩] _ (HE.out.below HA2.out) HN.out HI1.out).mono ?_
                    rintro e w9 ⟨vo, vk, rfl, ho9, _, hb9⟩
                    generalize Pl.mergeC el [⟨xk, xv, xo, xx⟩] = mc at *
                    have HO9 : Hid (Own w9 (w.heap.size + 3) vo (Pl.mergeO el [⟨xk, xv, xo, xx⟩])) := hid (ho9.mono (Nat.le_trans hzw HA2.out.size))
                    have HB9 : Hid (Below w8.heap.size w8 w9) := hid (by
                      have b2 := HBq.out.trans (HA2.out.mono HBq.out.size)
                      exact b2.trans (hb9.mono b2.size))
                    have HG9 := hid (Pl.merge_good el [⟨xk, xv, xo, xx⟩])
                    clear ho9 hb9 c0 c1 c2 c3
                    go_wp2_with fail
                    go_roundw
                    case rel => exact ⟨q + 1, _, _, rfl, by omega, by go_num, HO9, HG9, HB9⟩
                    case measure => simp [intOf]; omega
                  · obtain rfl : q = 2 := by omega
                    have HBq' : Hid (Below wr.heap.size wr wq) := hid (HB8.out.trans (HBq.out.mono HB8.out.size))
                    have HBwq : Hid (Below w.heap.size w wq) := hid (HBw8.out.trans (HBq.out.mono HBw8.out.size))
                    go_wp2_with fail
                    go_roundw
                    case rel => exact ⟨n + 1, el, _, rfl, by omega, by go_num, HOq, HGq, hid (HCr.out.below HBq'.out), hid (HD4.out.two.below HBq'.out), hid (HOr.out.below HBq'.out), HBwq, hzw⟩
                    case measure => simp [intOf]; omega
          · obtain rfl : n = nodes := by omega
            go_wp2_with fail
            go_ret
            exact ⟨_, _, rfl, HOW.out.mono (by omega), HG.out, HB.out⟩
    · have hkl : ¬ k < len := hlt
      have HBr := hid HB.out
      have HTr := hid (HTB.out.below HB.out)
      have H2D := hid HD.out.two
      have hzz : w.heap.size + 3 ≤ wr.heap.size := HZ.out
      have HHx := HH
      clear HH HD HZ
      go_wp2_with fail
      rename World => wA
      go_loopw [13, 112] (fun vo i wr => ∃ (n : Nat) (es : List Pl.Ent) (u : Value), u = vo ∧ n ≤ nodes ∧ i = .int .i64 n ∧ Hid (Own wr (w.heap.size + 3) u es) ∧ Hid (Pl.Good es) ∧ Hid (CAt wr w.heap.size) ∧ Hid (D2At wr (w.heap.size + 1) n) ∧ Hid (OAt wr (w.heap.size + 1 + 1) (w.heap.size + 3)) ∧ Hid (Below w.heap.size w wr) ∧ w.heap.size + 3 ≤ wr.heap.size) (fun _ i _ => nodes - (intOf i).toNat)
      case atStart => exact ⟨0, [], _, rfl, Nat.zero_le _, rfl, hid (Own.nil _ _), hid Pl.good_nil, HC, H2D, HO, HBr, hzz⟩
      case round =>
        clear HC H2D HO HBr hzz HTr
        obtain ⟨n, es, u, rfl, hn, rfl, HOW, HG, HC, HD, HO, HB, hz⟩ := hrel
        by_cases hlt : n < nodes
        · have hn12 : n < 12 := by omega
          obtain ⟨M, hM, hMb⟩ := HC.out
          have HM := hid hM
          have HMb := hid hMb
          have HRW := hid (hM.row n hn12)
          clear hM hMb
          obtain ⟨d, hd3⟩ := HD.out.three
          have HD3 := hid hd3
          clear hd3
          rename World => w2
          have hz1 : w.heap.size + 1 < w2.heap.size := by omega
          have hz0 : w.heap.size < w2.heap.size := by omega
          go_wp2_with (refine wpList_load_mid rfl 35 (.tmp 116) rfl w.heap.size (n * 12) rfl (ints12 (M n)) _ HRW.out Tryz.underlying35 rfl infoInts ?_)
          go_loopw [118] (fun i wr => ∃ (j : Nat) (v : Value) (acc : List (Int × Int)), j ≤ 12 ∧ i = .int .i64 j ∧ Hid (D3At wr (w.heap.size + 1) n d v) ∧ Hid (OwnP 68 wr w2.heap.size v acc) ∧ acc.length ≤ j ∧ Hid (∀ p ∈ acc, Pl.pairOk p) ∧ Hid (But (w.heap.size + 1) w2 wr)) (fun i _ => 12 - (intOf i).toNat)
          case atStart => exact ⟨0, _, [], by omega, rfl, HD3, hid (OwnP.nil _ _ _), Nat.le_refl _, hid (by simp), hid (But.refl _ _)⟩
          case round =>
            obtain ⟨j, v, acc, hj, rfl, HD4, HV, hal, HPK, HU⟩ := hrel
            by_cases hjl : j < 12
            · have hg := fun w => run_index_ints (M n) j hjl w
              obtain ⟨y, HY⟩ : ∃ y, Hid (M n j = y) := ⟨_, hid rfl⟩
              rw [HY.out] at hg
              have hy : 0 ≤ y ∧ y ≤ 4 := by rw [← HY.out]; exact HMb.out n j
              by_cases hy0 : 0 < y
              · obtain ⟨e0, e1, e2⟩ := HD4.out.cells hn12
                obtain ⟨av, nv, cv, rfl⟩ := HV.out.slice
                have hzr : w2.heap.size ≤ wr.heap.size := HU.out.size
                have hzr1 : w.heap.size + 1 < wr.heap.size := by omega
                have HV4 := hid (HV.out.below ((Below.refl wr.heap.size wr).alloc (Nat.le_refl _) (.cells #[.int .i64 (j : Int), .int .i64 y] 68)))
                clear HV4
                go_wp2_with (at_builtin; refine append_pairT Tryz.underlying60 infoSide rfl (.tmp 128) (.tmp 132) rfl w2.heap.size (.slice av nv cv) acc ((j : Int), y) rfl HV.out hzr rfl (by omega) ?_; intro v5 w5 ho5 hb5 _; obtain ⟨a5, n5, c5, rfl⟩ := ho5.slice; obtain ⟨f0, f1, f2⟩ := (HD4.out.below' hb5 (by omega)).cells hn12; have hz5 : w.heap.size + 1 < w5.heap.size := Nat.lt_of_lt_of_le hzr1 hb5.size; have HO5 := hid ho5; have HB5 := hid hb5; clear ho5 hb5 e0 e1 e2)
                have HU5 : Hid (But (w.heap.size + 1) w2 w5) := hid (but_below HU.out HB5.out)
                go_roundw
                case rel =>
                  refine ⟨j + 1, _, acc ++ [((j : Int), y)], by omega, by go_num, hid ((HD4.out.below' HB5.out (by omega)).set _), hid (ownsRow_setCell_below HO5.out (by simp; omega) _), by simp; omega, hid ?_, hid (HU5.out.setCell _ _)⟩
                  intro p hp
                  rcases List.mem_append.1 hp with hp | hp
                  · exact HPK.out p hp
                  · rw [List.mem_singleton.1 hp]; exact Pl.pairOk_of ⟨by simp only; omega, by simp only; omega, by simp only; omega, by simp only; omega⟩
                case measure => simp [intOf]; omega
              · obtain rfl : y = 0 := by omega
                go_wp2_with fail
                go_roundw
                case rel => exact ⟨j + 1, v, acc, by omega, by go_num, HD4, HV, by omega, HPK, HU⟩
                case measure => simp [intOf]; omega
            · obtain rfl : j = 12 := by omega
              obtain ⟨e0, e1, e2⟩ := HD4.out.cells hn12
              obtain ⟨av, cv, rfl, hp3, _, _⟩ := OwnP.shape HV.out HPK.out
              have hzr : w2.heap.size ≤ wr.heap.size := HU.out.size
              have HBw : Hid (Below w.heap.size w wr) := hid (HB.out.trans (HU.out.below (Nat.le_succ _) (by omega)))
              have HSA := hid (ShowAdj_any d av acc.length cv acc wr hp3 (HTB.out.below HBw.out))
              have HOWr := hid (HOW.out.but HU.out (by omega))
              have HCr := hid (HC.out.but HU.out (by omega))
              have HOr := hid (HO.out.but HU.out (by omega) (by omega))
              have HTX := hid (@Pl.adjText_any d acc)
              generalize Pl.adjText d acc = t1 at *
              generalize Pl.adjF acc = f1 at *
              clear hp3 HRW HM HMb HC HO HD HOW
              go_wp2_with fail
              refine HSA.out.mono ?_
              rintro e w4 ⟨rfl, hb4⟩
              have HB4 := hid hb4
              have hz4 : w2.heap.size ≤ w4.heap.size := Nat.le_trans hzr hb4.size
              have HBw4 : Hid (Below w.heap.size w w4) := hid (HBw.out.trans (HB4.out.mono HBw.out.size))
              obtain ⟨oa, ol, oc, ops, ec, hol, hop, _, ef⟩ := (HOr.out.below HB4.out).at n hn12
              have HSP := hid (ShowPrefixes_any oa ol oc ops w4 hop (HTB.out.below HBw4.out))
              have HTP := hid (@Pl.pfxText_any ops)
              have hz41 : w.heap.size + 1 + 1 < w4.heap.size := by omega
              generalize Pl.pfxText ops = t2 at *
              generalize Pl.pfxF ops = f2 at *
              clear hop hb4
              go_wp2_with fail
              refine HSP.out.mono ?_
              rintro e w5 ⟨rfl, hb5⟩
              have HB5 : Hid (Below wr.heap.size wr w5) := hid (HB4.out.trans (hb5.mono HB4.out.size))
              have HBw5 : Hid (Below w.heap.size w w5) := hid (HBw4.out.trans (hb5.mono HBw4.out.size))
              clear hb5
              have hdz := Pl.dec_le n (by omega) (by omega)
              have HIT := hid (fun W hW => Itoa_any n W (by omega) (by omega) hW)
              generalize Pl.dec (n : Int) = sd at *
              go_wp2_with fail
              refine (HIT.out _ (HTB.out.below HBw5.out)).mono ?_
              rintro e w6 ⟨rfl, hb6⟩
              have HB6 : Hid (Below wr.heap.size wr w6) := hid (HB5.out.trans (hb6.mono HB5.out.size))
              have HBw6 : Hid (Below w.heap.size w w6) := hid (HBw5.out.trans (hb6.mono HBw5.out.size))
              clear hb6
              go_wp2_with fail
              refine (HIT.out _ (HTB.out.below HBw6.out)).mono ?_
              rintro e w7 ⟨rfl, hb7⟩
              have HB7 : Hid (Below wr.heap.size wr w7) := hid (HB6.out.trans (hb7.mono HB6.out.size))
              have HBw7 : Hid (Below w.heap.size w w7) := hid (HBw6.out.trans (hb7.mono HBw6.out.size))
              clear hb7
              go_wp2_with fail
              have hs1z : (({ data := #[97, 58] } : ByteArray) ++ sd).size ≤ 100 := by rw [ByteArray.size_append]; show 2 + sd.size ≤ 100; omega
              have hs2z : (({ data := #[112, 58] } : ByteArray) ++ sd).size ≤ 100 := by rw [ByteArray.size_append]; show 2 + sd.size ≤ 100; omega
              generalize (({ data := #[97, 58] } : ByteArray) ++ sd) = s1 at *
              generalize (({ data := #[112, 58] } : ByteArray) ++ sd) = s2 at *
              have HS1 := hid hs1z
              have HS2 := hid hs2z
              clear hs1z hs2z HIT HSP HSA e0 e1 e2 ec ef HB4 HB5 HB6 HBw4 HBw5 HBw6
              obtain ⟨w8, HW8⟩ : ∃ w8, Hid (w8 = w7.alloc (.cells #[.string s1, .int .i64 1, .int .i64 (n : Int), .string t1, .string s2, .int .i64 1, .int .i64 (n : Int), .string t2] 74)) := ⟨_, hid rfl⟩
              rw [← HW8.out]
              have HB8 : Hid (Below wr.heap.size wr w8) := hid (by show Below _ _ _; rw [HW8.out]; exact HB7.out.alloc HB7.out.size _)
              have HBw8 : Hid (Below w.heap.size w w8) := hid (by show Below _ _ _; rw [HW8.out]; exact HBw7.out.alloc HBw7.out.size _)
              have hz8 : w7.heap.size < w8.heap.size := by rw [HW8.out]; simp
              have G8 : Hid ((w8.cell? ⟨w7.heap.size, 0, none⟩ = some (.string s1) ∧ w8.cell? ⟨w7.heap.size, 1, none⟩ = some (.int .i64 1) ∧ w8.cell? ⟨w7.heap.size, 2, none⟩ = some (.int .i64 (n : Int)) ∧ w8.cell? ⟨w7.heap.size, 3, none⟩ = some (.string t1)) ∧ (w8.cell? ⟨w7.heap.size, 4, none⟩ = some (.string s2) ∧ w8.cell? ⟨w7.heap.size, 5, none⟩ = some (.int .i64 1) ∧ w8.cell? ⟨w7.heap.size, 6, none⟩ = some (.int .i64 (n : Int)) ∧ w8.cell? ⟨w7.heap.size, 7, none⟩ = some (.string t2))) := hid (by show _ ∧ _; rw [HW8.out]; simp)
              go_loopw [13, 165] (fun vo i wr => ∃ (q : Nat) (el : List Pl.Ent) (z : Value), z = vo ∧ q ≤ 2 ∧ i = .int .i64 q ∧ Hid (Own wr (w.heap.size + 3) z el) ∧ Hid (Pl.Good el) ∧ Hid (Below w8.heap.size w8 wr)) (fun _ i _ => 2 - (intOf i).toNat)
              case atStart => exact ⟨0, es, _, rfl, by omega, rfl, hid (HOWr.out.below HB8.out), HG, hid (Below.refl _ _)⟩
              case round =>
                obtain ⟨q, el, z, rfl, hq, rfl, HOq, HGq, HBq⟩ := hrel
                obtain ⟨au, cu, rfl, hE, hnl, _⟩ := HOq.out.shape HGq.out.ok
                have HE := hid hE
                have HN := hid hnl
                clear hE hnl
                rename World => wq
                have hzq : w7.heap.size < wq.heap.size := Nat.lt_of_lt_of_le hz8 HBq.out.size
                have hzw : w.heap.size + 3 ≤ wq.heap.size := Nat.le_trans (Nat.le_trans (Nat.le_trans hz hzr) HB8.out.size) HBq.out.size
                by_cases hq2 : q < 2
                · obtain ⟨xk, xv, xo, xx, c0, c1, c2, c3, hxok⟩ : ∃ (xk : ByteArray) (xv xo : Int) (xx : ByteArray), wq.cell? ⟨w7.heap.size, q * 4, none⟩ = some (.string xk) ∧ wq.cell? ⟨w7.heap.size, q * 4 + 1, none⟩ = some (.int .i64 xv) ∧ wq.cell? ⟨w7.heap.size, q * 4 + 2, none⟩ = some (.int .i64 xo) ∧ wq.cell? ⟨w7.heap.size, q * 4 + 3, none⟩ = some (.string xx) ∧ Hid (Pl.Ent.ok ⟨xk, xv, xo, xx⟩) := by
                    have hcc := (bcell HBq.out).1
                    have hmx : (100 : Nat) ≤ maxLen := by decide
                    have hmy : (4398046511103 : Nat) ≤ maxLen := by decide
                    obtain ⟨⟨g0, g1, g2, g3⟩, g4, g5, g6, g7⟩ := G8.out
                    obtain rfl | rfl : q = 0 ∨ q = 1 := by omega
                    · exact ⟨s1, 1, n, t1, (hcc _ _ hz8).trans g0, (hcc _ _ hz8).trans g1, (hcc _ _ hz8).trans g2, (hcc _ _ hz8).trans g3, hid ⟨Nat.le_trans HS1.out hmx, by dsimp only; decide, WalkArith.wf_i64 (by dsimp only; omega), Nat.le_trans HTX.out hmy⟩⟩
                    · exact ⟨s2, 1, n, t2, (hcc _ _ hz8).trans g4, (hcc _ _ hz8).trans g5, (hcc _ _ hz8).trans g6, (hcc _ _ hz8).trans g7, hid ⟨Nat.le_trans HS2.out hmx, by dsimp only; decide, WalkArith.wf_i64 (by dsimp only; omega), Nat.le_trans HTP.out hmy⟩⟩
                  have HA1 : Hid (Below wq.heap.size wq (wq.alloc (.cells #[.string xk, .int .i64 xv, .int .i64 xo, .string xx] 74))) := hid (al _ _)
                  have HA2 : Hid (Below wq.heap.size wq ((wq.alloc (.cells #[.string xk, .int .i64 xv, .int .i64 xo, .string xx] 74)).alloc (.cells #[.string xk, .int .i64 xv, .int .i64 xo, .string xx] 74))) := hid (HA1.out.alloc HA1.out.size _)
                  have HI1 : Hid (IsEnts ((wq.alloc (.cells #[.string xk, .int .i64 xv, .int .i64 xo, .string xx] 74)).alloc (.cells #[.string xk, .int .i64 xv, .int .i64 xo, .string xx] 74)) (some ⟨wq.heap.size + 1, 0, none⟩) 1 1 [⟨xk, xv, xo, xx⟩]) := by
                    refine ⟨rfl, Nat.le_refl _, by decide, ?_, .inr ⟨_, _, rfl, by simp, ?_⟩⟩
                    · intro e he; rw [List.mem_singleton.1 he]; exact hxok.out
                    · intro i hi
                      obtain rfl : i = 0 := by simp at hi; omega
                      simp [Pl.ent]
                  go_wp2_with fail
                  refine (Merge_any _ _ _ el _ _ _ [⟨xk, xv, xo, xx⟩] _ (HE.out.below HA2.out) HN.out HI1.out).mono ?_
                  rintro e w9 ⟨vo, vk, rfl, ho9, _, hb9⟩
                  generalize Pl.mergeC el [⟨xk, xv, xo, xx⟩] = mc at *
                  have HO9 : Hid (Own w9 (w.heap.size + 3) vo (Pl.mergeO el [⟨xk, xv, xo, xx⟩])) := hid (ho9.mono (Nat.le_trans hzw HA2.out.size))
                  have HB9 : Hid (Below w8.heap.size w8 w9) := hid (by
                    have b2 := HBq.out.trans (HA2.out.mono HBq.out.size)
                    exact b2.trans (hb9.mono b2.size))
                  have HG9 := hid (Pl.merge_good el [⟨xk, xv, xo, xx⟩])
                  clear ho9 hb9 c0 c1 c2 c3
                  go_wp2_with fail
                  go_roundw
                  case rel => exact ⟨q + 1, _, _, rfl, by omega, by go_num, HO9, HG9, HB9⟩
                  case measure => simp [intOf]; omega
                · obtain rfl : q = 2 := by omega
                  have HBq' : Hid (Below wr.heap.size wr wq) := hid (HB8.out.trans (HBq.out.mono HB8.out.size))
                  have HBwq : Hid (Below w.heap.size w wq) := hid (HBw8.out.trans (HBq.out.mono HBw8.out.size))
                  go_wp2_with fail
                  go_roundw
                  case rel => exact ⟨n + 1, el, _, rfl, by omega, by go_num, HOq, HGq, hid (HCr.out.below HBq'.out), hid (HD4.out.two.below HBq'.out), hid (HOr.out.below HBq'.out), HBwq, hzw⟩
                  case measure => simp [intOf]; omega
        · obtain rfl : n = nodes := by omega
          go_wp2_with fail
          go_ret
          exact ⟨_, _, rfl, HOW.out.mono (by omega), HG.out, HB.out⟩
end Go.Proofs.YtcdobhdbafpkiaeGreatDoor
