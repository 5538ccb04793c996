/-
  Contracts: the prefixes that a text tells: ReadPrefixes, the document's PrefixesOf; two lists of prefixes that are the same are told so.
-/
import Derived.Test.YtcdobhdbafpkiacReadA
import Derived.Test.YtcdobhdbafpkiacPfx5
namespace Go.Proofs.Ytcdobhdbafpkiac
open Go.RowKit

/-- what ReadPrefixes answers: the code, the prefixes -/
def Pl.rpC (l : List UInt8) : Int := match Pl.pairsL 47 l with
  | none => 4
  | some ps => Pl.pfxF ps
def Pl.rpS (l : List UInt8) : List (Int × Int) := if Pl.rpC l = 0 then (Pl.pairsL 47 l).getD [] else []
theorem infoPfx : (Try.prog.info? 49).map (fun i => (i.zero, i.size, i.bytes)) = some (some (.agg #[.int .i64 0, .int .i64 0]), 2, 16) := by kernel_rfl
theorem Pl.rpS_ok (l : List UInt8) : ∀ p ∈ Pl.rpS l, Pl.pairOk p := by
  intro p hp
  unfold Pl.rpS at hp
  split at hp
  · cases h : Pl.pairsL 47 l with
    | none => rw [h] at hp; simp at hp
    | some a =>
      rw [h] at hp
      exact (Pl.pairsL_facts (m := 47) (l := l) h).2 p hp
  · simp at hp
theorem Pl.pairsL_cut (m : UInt8) (l : List UInt8) : Pl.pairsL m l = Pl.pairsP m (Pl.cutsL l) := by
  unfold Pl.pairsL Pl.cutsL
  split <;> rfl
theorem Pl.lists_dropP (ks : List ByteArray) (k : Nat) (h : k < ks.length) : Pl.lists (ks.drop k) = ks[k].data.toList :: Pl.lists (ks.drop (k + 1)) := by
  rw [List.drop_eq_getElem_cons h]; rfl

set_option maxHeartbeats 2000000 in
theorem ReadPrefixes_any (s : ByteArray) (w : World) (hs : s.size ≤ 4398046511103) :
    Calls Try.prog 9 #[.string s] w fun e w' => ∃ vl : Value, e = .returned (.tuple #[vl, .int .i64 (Pl.rpC s.data.toList)]) ∧
      OwnP 49 w' w.heap.size vl (Pl.rpS s.data.toList) ∧ Below w.heap.size w w' := by
  obtain ⟨np, HP⟩ : ∃ x, Hid (Pl.pairsL 47 s.data.toList = x) := ⟨_, rfl⟩
  cases np with
  | none =>
    have HC : Hid (Pl.rpC s.data.toList = 4 ∧ Pl.rpS s.data.toList = []) := by
      have h : Pl.rpC s.data.toList = 4 := by unfold Pl.rpC; rw [HP.out]
      refine hid ⟨h, ?_⟩
      unfold Pl.rpS; rw [h]; rfl
    rw [HC.out.1, HC.out.2]
    go_enter Try.func9, Try.ntmps9
    go_wp2_with fail
    refine (readPairs_any s 47 _ (by omega)).mono ?_
    rw [HP.out]
    rintro e w2 ⟨v2, rfl, _, hb2⟩
    go_wp2_with fail
    go_ret2
    exact ⟨_, rfl, OwnP.nil _ _ _, hb2⟩
  | some ps =>
    obtain ⟨cc, HCC⟩ : ∃ x, Hid (Pl.pfxF ps = x) := ⟨_, rfl⟩
    have HC : Hid (Pl.rpC s.data.toList = cc ∧ (cc = 0 → Pl.rpS s.data.toList = ps) ∧ (cc ≠ 0 → Pl.rpS s.data.toList = [])) := by
      have h : Pl.rpC s.data.toList = cc := by unfold Pl.rpC; rw [HP.out]; exact HCC.out
      refine hid ⟨h, fun h0 => ?_, fun h0 => ?_⟩
      · unfold Pl.rpS; rw [h, h0, HP.out]; rfl
      · unfold Pl.rpS; rw [h, if_neg h0]
    have HFA := hid (Pl.pairsL_facts (m := 47) (l := s.data.toList) HP.out)
    rw [HC.out.1]
    go_enter Try.func9, Try.ntmps9
    go_wp2_with fail
    refine (readPairs_any s 47 _ (by omega)).mono ?_
    rw [HP.out]
    rintro e w2 ⟨v2, rfl, ho2, hb2⟩
    obtain ⟨a2, cap2, rfl, hp2, _, _⟩ := OwnP.shape (ps := ps) ho2 HFA.out.2
    have HP2 := hid hp2
    have hlen : ps.length ≤ s.size + 1 := by
      have h1 := HFA.out.1
      rw [sz_list] at h1
      omega
    have hcap := hp2.2.1
    have hmax := hp2.2.2.1
    unfold maxLen at hmax
    clear ho2 hp2
    go_wp2_with fail
    go_loopw [6, 19] (fun vl i wr => ∃ (k : Nat) (vv : Value), vv = vl ∧ k ≤ ps.length ∧ i = .int .i64 k ∧ Hid (OwnP 49 wr w2.heap.size vv (ps.take k)) ∧ Below w2.heap.size w2 wr) (fun _ i _ => ps.length - (intOf i).toNat)
    case atStart => exact ⟨0, _, rfl, Nat.zero_le _, rfl, hid (OwnP.nil _ _ _), Below.refl _ _⟩
    case round =>
      obtain ⟨k, vl, rfl, hk, rfl, HO, hb⟩ := hrel
      by_cases hlt : k < ps.length
      · obtain ⟨b, off, rfl, hbw, hr⟩ : ∃ b off, a2 = some ⟨b, off, none⟩ ∧ b < w2.heap.size ∧ PairsAt w2 b off ps := by
          rcases HP2.out.2.2.2.2 with rfl | h
          · simp at hlt
          · exact h
        obtain ⟨c0, c1⟩ := (hr.below hbw hb) k hlt
        have hz := hb.size
        have hbr : b < wr.heap.size := by omega
        clear hr
        obtain ⟨pp, hpp⟩ : ∃ pp, Hid (Pl.pr ps k = pp) := ⟨_, rfl⟩
        rw [hpp.out] at c0 c1
        have HO4 := hid (HO.out.below ((Below.refl wr.heap.size wr).alloc (Nat.le_refl _) (.cells #[.int .i64 pp.1, .int .i64 pp.2] 58)))
        have htk : (ps.take k).length = k := by simp; omega
        go_wp2_with (at_builtin; refine append_pairT Try.underlying22 infoPfx rfl (.tmp 23) (.tmp 29) rfl w2.heap.size vl (ps.take k) pp rfl HO4.out (by simp; omega) (by show Value.slice (some ⟨wr.heap.size + 1, 0, none⟩) 1 1 = _; simp) (by rw [htk]; omega) ?_; intro v5 w5 ho5 hb5 _; have HO5 := hid ho5; clear ho5)
        go_roundw
        case rel => exact ⟨k + 1, _, rfl, by omega, by go_num, hid (by show OwnP _ _ _ _ _; rw [Pl.take_pr ps k hlt, hpp.out]; exact HO5.out), (hb.alloc hz _).trans hb5⟩
        case measure => simp [intOf]; omega
      · obtain rfl : k = ps.length := by omega
        have HO' : Hid (OwnP 49 wr w2.heap.size vl ps) := by have h := HO.out; rw [List.take_length] at h; exact hid h
        obtain ⟨a3, cap3, rfl, hp3, _, _⟩ := OwnP.shape HO'.out HFA.out.2
        have HP3 := hid hp3
        clear hp3 HO
        have hbx : Below w.heap.size w wr := hb2.trans (hb.mono hb2.size)
        by_cases hc0 : cc = 0
        · subst hc0
          have HC' := hid (HC.out.2.1 rfl)
          clear HC
          go_wp2_with fail
          refine (CheckPrefixes_any _ _ _ ps _ HP3.out).mono ?_
          rw [HCC.out]
          rintro e w4 ⟨rfl, hb4⟩
          go_wp2_with fail
          go_ret2
          exact ⟨_, rfl, by rw [HC'.out]; exact OwnP.mono (HO'.out.below hb4) hb2.size, hbx.trans (hb4.mono hbx.size)⟩
        · have HC' := hid (HC.out.2.2 hc0)
          clear HC
          have hd0 : (cc == 0) = false := by simpa using hc0
          clear hc0
          go_wp2_with fail
          refine (CheckPrefixes_any _ _ _ ps _ HP3.out).mono ?_
          rw [HCC.out]
          rintro e w4 ⟨rfl, hb4⟩
          go_wp2_with fail
          go_ret2
          exact ⟨_, rfl, by rw [HC'.out]; exact OwnP.nil _ _ _, hbx.trans (hb4.mono hbx.size)⟩

set_option maxHeartbeats 2000000 in
theorem PrefixesOf_any (s : ByteArray) (w : World) (hs : s.size ≤ 4398046511103) :
    Calls Try.prog 10 #[.string s] w fun e w' => ∃ vl : Value, e = .returned (.tuple #[vl, .int .i64 (Pl.rpC s.data.toList)]) ∧
      OwnP 49 w' w.heap.size vl (Pl.rpS s.data.toList) ∧ Below w.heap.size w w' := by
  obtain ⟨np, HP⟩ : ∃ x, Hid (Pl.pairsL 47 s.data.toList = x) := ⟨_, rfl⟩
  obtain ⟨rc, HRC⟩ : ∃ x, Hid (Pl.rpC s.data.toList = x) := ⟨_, rfl⟩
  obtain ⟨rs, HRS⟩ : ∃ x, Hid (Pl.rpS s.data.toList = x) := ⟨_, rfl⟩
  rw [HRC.out, HRS.out]
  have HR0 : Hid (np = none → rc = 4 ∧ rs = []) := by
    refine hid fun h => ?_
    have hp := HP.out
    rw [h] at hp
    have h4 : Pl.rpC s.data.toList = 4 := by unfold Pl.rpC; rw [hp]
    refine ⟨HRC.out ▸ h4, ?_⟩
    rw [← HRS.out]; unfold Pl.rpS; rw [h4]; rfl
  have HR1 : Hid (∀ ps, np = some ps → rc = Pl.pfxF ps ∧ (rc = 0 → rs = ps) ∧ (rc ≠ 0 → rs = [])) := by
    refine hid fun ps h => ?_
    have hp := HP.out
    rw [h] at hp
    have h4 : Pl.rpC s.data.toList = Pl.pfxF ps := by unfold Pl.rpC; rw [hp]
    refine ⟨HRC.out ▸ h4, fun h0 => ?_, fun h0 => ?_⟩
    · rw [← HRS.out]; unfold Pl.rpS; rw [HRC.out, h0, hp]; rfl
    · rw [← HRS.out]; unfold Pl.rpS; rw [HRC.out, if_neg h0]
  go_enter Try.func10, Try.ntmps10
  go_wp2_with fail
  refine (cuts_any s _ (by omega)).mono ?_
  rintro e w2 ⟨vk, ks, rfl, hok, hks, hkz, hkl, hb2⟩
  obtain ⟨ak, kcap, rfl, hkc, hkm, hkr⟩ := OwnT.shape hok
  clear hok
  have HKR := hid hkr
  clear hkr
  have HKZ : Hid (∀ x ∈ ks, x.size ≤ maxLen) := hid fun x hx => by have := hkz x hx; unfold maxLen; omega
  clear hkz
  unfold maxLen at hkm
  have HNP : Hid (np = Pl.pairsP 47 (Pl.lists ks)) := hid (by rw [← HP.out, Pl.pairsL_cut, hks])
  clear hks
  go_wp2_with fail
  go_loopw [4, 6] (fun vl i wr => ∃ (k : Nat) (vv : Value) (acc : List (Int × Int)), vv = vl ∧ k ≤ ks.length ∧ i = .int .i64 k ∧ Hid (acc.length = k) ∧ Hid (np = Pl.andThen acc (Pl.pairsP 47 (Pl.lists (ks.drop k)))) ∧ Hid (OwnP 49 wr w2.heap.size vv acc) ∧ Below w2.heap.size w2 wr) (fun _ i _ => ks.length - (intOf i).toNat)
  case atStart => exact ⟨0, _, [], rfl, Nat.zero_le _, rfl, hid rfl, hid (by rw [HNP.out]; cases h : Pl.pairsP 47 (Pl.lists ks) <;> simp [Pl.andThen, h]), hid (OwnP.nil _ _ _), Below.refl _ _⟩
  case round =>
    obtain ⟨k, vl, acc, rfl, hk, rfl, hak, HN, HO, hb⟩ := hrel
    have hz := hb.size
    have hbx : Below w.heap.size w wr := hb2.trans (hb.mono hb2.size)
    by_cases hlt : k < ks.length
    · obtain ⟨b, rfl, hbase, hbw, hcell⟩ : ∃ b, ak = some ⟨b, 0, none⟩ ∧ w.heap.size ≤ b ∧ b < w2.heap.size ∧ ∀ (i : Nat) (hi : i < ks.length), w2.cell? ⟨b, 0 + i, none⟩ = some (.string ks[i]) := by
        rcases HKR.out with rfl | h
        · simp at hlt
        · exact h
      have hbr : b < wr.heap.size := by omega
      have hc0 : wr.cell? ⟨b, 0 + k, none⟩ = some (.string ks[k]) := (hb.cell (p := ⟨b, 0 + k, none⟩) hbw).trans (hcell k hlt)
      clear hcell
      rw [Nat.zero_add] at hc0
      have HKK := hid (HKZ.out ks[k] (List.getElem_mem hlt))
      obtain ⟨q, HQ⟩ : ∃ x, Hid (Pl.pairL 47 ks[k].data.toList = x) := ⟨_, hid rfl⟩
      obtain ⟨kk, HKE⟩ : ∃ x, Hid (ks[k] = x) := ⟨_, hid rfl⟩
      rw [HKE.out] at hc0 HKK HQ
      cases q with
      | none =>
        have HNN := hid (HR0.out (by rw [HN.out, Pl.lists_dropP ks k hlt, HKE.out, Pl.pairsP_none HQ.out]; rfl))
        go_wp2_with fail
        refine (pairOf_any kk 47 _ HKK.out).mono ?_
        rw [HQ.out]
        rintro e w3 ⟨x, y, rfl, _, rfl⟩
        go_wp2_with fail
        go_ret2
        exact ⟨_, by rw [HNN.out.1]; rfl, by rw [HNN.out.2]; exact OwnP.nil _ _ _, hbx⟩
      | some p =>
        have HNN : Hid (np = Pl.andThen (acc ++ [p]) (Pl.pairsP 47 (Pl.lists (ks.drop (k + 1))))) := hid (by rw [HN.out, Pl.lists_dropP ks k hlt, HKE.out, Pl.pairsP_some HQ.out])
        go_wp2_with fail
        refine (pairOf_any kk 47 _ HKK.out).mono ?_
        rw [HQ.out]
        rintro e w3 ⟨x, y, rfl, hxy, rfl⟩
        obtain rfl := hxy p rfl
        clear hxy
        go_wp2_with (at_builtin; refine append_pairT Try.underlying22 infoPfx rfl (.tmp 30) (.tmp 34) rfl w2.heap.size vl acc (x, y) rfl HO.out hz rfl (by have := hak.out; omega) ?_; intro v5 w5 ho5 hb5 _; have HO5 := hid ho5; clear ho5)
        go_roundw
        case rel => exact ⟨k + 1, _, acc ++ [(x, y)], rfl, by omega, by go_num, hid (by simp [hak.out]), HNN, HO5, hb.trans hb5⟩
        case measure => simp [intOf]; omega
    · obtain rfl : k = ks.length := by omega
      have HNP' : Hid (np = some acc) := hid (by rw [HN.out]; simp [Pl.lists, Pl.pairsP, Pl.andThen])
      have HR := hid (HR1.out acc HNP'.out)
      have HOK : Hid (∀ p ∈ acc, Pl.pairOk p) := hid fun p hp => Pl.pairOk_of (Pl.pairsP_ok (m := 47) (ps := Pl.lists ks) (a := acc) (by rw [← HNP.out, HNP'.out]) p hp)
      obtain ⟨a3, cap3, rfl, hp3, _, _⟩ := OwnP.shape HO.out HOK.out
      have HP3 := hid hp3
      clear hp3
      obtain ⟨cc, HCC⟩ : ∃ x, Hid (Pl.pfxF acc = x) := ⟨_, rfl⟩
      obtain rfl : rc = cc := by rw [HR.out.1, HCC.out]
      by_cases hc0 : rc = 0
      · subst hc0
        have HR' := hid (HR.out.2.1 rfl)
        clear HR HR0 HR1
        go_wp2_with fail
        refine (PrefixesFault_any _ _ _ acc _ HP3.out).mono ?_
        rw [HCC.out]
        rintro e w4 ⟨rfl, hb4⟩
        go_wp2_with fail
        go_ret2
        exact ⟨_, rfl, by rw [HR'.out]; exact OwnP.mono (HO.out.below hb4) hb2.size, hbx.trans (hb4.mono hbx.size)⟩
      · have HR' := hid (HR.out.2.2 hc0)
        clear HR HR0 HR1
        have hd0 : (rc == 0) = false := by simpa using hc0
        clear hc0
        go_wp2_with fail
        refine (PrefixesFault_any _ _ _ acc _ HP3.out).mono ?_
        rw [HCC.out]
        rintro e w4 ⟨rfl, hb4⟩
        go_wp2_with fail
        go_ret2
        exact ⟨_, rfl, by rw [HR'.out]; exact OwnP.nil _ _ _, hbx.trans (hb4.mono hbx.size)⟩

set_option maxHeartbeats 1000000 in
theorem samePrefixes_eq (a : Option Addr) (len cap : Nat) (ps : List (Int × Int)) (a' : Option Addr) (cap' : Nat) (w : World) (h : IsPairs w a len cap ps) (h' : IsPairs w a' len cap' ps) :
    Calls Try.prog 11 #[.slice a len cap, .slice a' len cap'] w fun e w' => e = .returned (.bool true) ∧ Below w.heap.size w w' := by
  obtain ⟨hl, hc, hm, _, hrow⟩ := h
  obtain ⟨_, hc', hm', _, hrow'⟩ := h'
  unfold maxLen at hm hm'
  have HL := hid hl
  have HROW := hid hrow
  have HROW' := hid hrow'
  clear hl hrow hrow'
  go_enter Try.func11, Try.ntmps11
  go_wp2_with fail
  go_loopw [5] (fun i wr => ∃ k : Nat, k ≤ len ∧ i = .int .i64 k ∧ Below w.heap.size w wr) (fun i _ => len - (intOf i).toNat)
  case atStart => exact ⟨0, Nat.zero_le _, rfl, Below.refl _ _⟩
  case round =>
    obtain ⟨k, hk, rfl, hbw⟩ := hrel
    by_cases hlt : k < len
    · obtain ⟨b1, o1, rfl, hb1, hr1⟩ : ∃ b off, a = some ⟨b, off, none⟩ ∧ b < w.heap.size ∧ PairsAt w b off ps := by
        rcases HROW.out with rfl | h
        · have := HL.out; simp at this; omega
        · exact h
      obtain ⟨b2, o2, rfl, hb2, hr2⟩ : ∃ b off, a' = some ⟨b, off, none⟩ ∧ b < w.heap.size ∧ PairsAt w b off ps := by
        rcases HROW'.out with rfl | h
        · have := HL.out; simp at this; omega
        · exact h
      obtain ⟨c0, c1⟩ := hr1.below hb1 hbw k (by have := HL.out; omega)
      obtain ⟨e0, e1⟩ := hr2.below hb2 hbw k (by have := HL.out; omega)
      clear hr1 hr2
      generalize Pl.pr ps k = y at *
      obtain ⟨y0, y2⟩ := y
      simp only at c0 c1 e0 e1
      have hlt' : (k : Int) < (len : Int) := by omega
      go_wp2_with fail
      go_quiet (fail)
      go_wp2
      go_roundw
      case rel => exact ⟨k + 1, by omega, by go_num, below_drew hbw _⟩
      case measure => simp [intOf]; omega
    · obtain rfl : k = len := by omega
      go_wp2
      go_ret
      exact ⟨rfl, hbw⟩
end Go.Proofs.Ytcdobhdbafpkiac
