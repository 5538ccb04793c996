/-
  Contracts: the prefixes that a text tells: ReadPrefixes, the document's PrefixesOf; two lists of prefixes that are the same are told so.
-/
import Derived.Test.YtcdobhdbafpkiadDoorReadA
import Derived.Test.YtcdobhdbafpkiadDoorPfx5
namespace Go.Proofs.YtcdobhdbafpkiadDoor
open Go.RowKit
set_option maxRecDepth 20000

/-- what ReadPrefixes answers: the code, the prefixes -/
def Pl.rpC (l : List UInt8) : Int := match Pl.pairsL 47 l with
  | none => 4
  | some ps => Pl.pfxF ps
def Pl.rpS (l : List UInt8) : List (Int × Int) := if Pl.rpC l = 0 then (Pl.pairsL 47 l).getD [] else []
theorem infoPfx : (Tryd.prog.info? 33).map (fun i => (i.zero, i.size, i.bytes)) = some (some (.agg #[.int .i64 0, .int .i64 0]), 2, 16) := by kernel_rfl
theorem Pl.rpS_ok (l : List UInt8) : ∀ p ∈ Pl.rpS l, Pl.pairOk p := by
  intro p hp
  unfold Pl.rpS at hp
  split at hp
  · cases h : Pl.pairsL 47 l with
    | none => rw [h] at hp; simp at hp
    | some a =>
      rw [h] at hp
      exact (Pl.pairsL_facts (m := 47) (l := l) h).2 p hp
  · simp at hp
theorem Pl.pairsL_cut (m : UInt8) (l : List UInt8) : Pl.pairsL m l = Pl.pairsP m (Pl.cutsL l) := by
  unfold Pl.pairsL Pl.cutsL
  split <;> rfl
theorem Pl.lists_dropP (ks : List ByteArray) (k : Nat) (h : k < ks.length) : Pl.lists (ks.drop k) = ks[k].data.toList :: Pl.lists (ks.drop (k + 1)) := by
  rw [List.drop_eq_getElem_cons h]; rfl

set_option maxHeartbeats 2000000 in
theorem ReadPrefixes_any (s : ByteArray) (w : World) (hs : s.size ≤ 4398046511103) :
    Calls Tryd.prog 10 #[.string s] w fun e w' => ∃ vl : Value, e = .returned (.tuple #[vl, .int .i64 (Pl.rpC s.data.toList)]) ∧
      OwnP 33 w' w.heap.size vl (Pl.rpS s.data.toList) ∧ Below w.heap.size w w' := by
  obtain ⟨np, HP⟩ : ∃ x, Hid (Pl.pairsL 47 s.data.toList = x) := ⟨_, rfl⟩
  cases np with
  | none =>
    have HC : Hid (Pl.rpC s.data.toList = 4 ∧ Pl.rpS s.data.toList = []) := by
      have h : Pl.rpC s.data.toList = 4 := by unfold Pl.rpC; rw [HP.out]
      refine hid ⟨h, ?_⟩
      unfold Pl.rpS; rw [h]; rfl
    rw [HC.out.1, HC.out.2]
    go_enter Tryd.func10, Tryd.ntmps10
    go_wp2_with fail
    refine (readPairs_any s 47 _ (by omega)).mono ?_
    rw [HP.out]
    rintro e w2 ⟨v2, rfl, _, hb2⟩
    go_wp2_with fail
    go_ret2
    exact ⟨_, rfl, OwnP.nil _ _ _, hb2⟩
  | some ps =>
    obtain ⟨cc, HCC⟩ : ∃ x, Hid (Pl.pfxF ps = x) := ⟨_, rfl⟩
    have HC : Hid (Pl.rpC s.data.toList = cc ∧ (cc = 0 → Pl.rpS s.data.toList = ps) ∧ (cc ≠ 0 → Pl.rpS s.data.toList = [])) := by
      have h : Pl.rpC s.data.toList = cc := by unfold Pl.rpC; rw [HP.out]; exact HCC.out
      refine hid ⟨h, fun h0 => ?_, fun h0 => ?_⟩
      · unfold Pl.rpS; rw [h, h0, HP.out]; rfl
      · unfold Pl.rpS; rw [h, if_neg h0]
    have HFA := hid (Pl.pairsL_facts (m := 47) (l := s.data.toList) HP.out)
    rw [HC.out.1]
    go_enter Tryd.func10, Tryd.ntmps10
    go_wp2_with fail
    refine (readPairs_any s 47 _ (by omega)).mono ?_
    rw [HP.out]
    rintro e w2 ⟨v2, rfl, ho2, hb2⟩
    obtain ⟨a2, cap2, rfl, hp2, _, _⟩ := OwnP.shape (ps := ps) ho2 HFA.out.2
    have HP2 := hid hp2
    have hlen : ps.length ≤ s.size + 1 := by
      have h1 := HFA.out.1
      rw [sz_list] at h1
      omega
    have hcap := hp2.2.1
    have hmax := hp2.2.2.1
    unfold maxLen at hmax
    clear ho2 hp2
    go_wp2_with fail
    go_loopw [6, 19] (fun vl i wr => ∃ (k : Nat) (vv : Value), vv = vl ∧ k ≤ ps.length ∧ i = .int .i64 k ∧ Hid (OwnP 33 wr w2.heap.size vv (ps.take k)) ∧ Below w2.heap.size w2 wr) (fun _ i _ => ps.length - (intOf i).toNat)
    case atStart => exact ⟨0, _, rfl, Nat.zero_le _, rfl, hid (OwnP.nil _ _ _), Below.refl _ _⟩
    case round =>
      obtain ⟨k, vl, rfl, hk, rfl, HO, hb⟩ := hrel
      by_cases hlt : k < ps.length
      · obtain ⟨b, off, rfl, hbw, hr⟩ : ∃ b off, a2 = some ⟨b, off, none⟩ ∧ b < w2.heap.size ∧ PairsAt w2 b off ps := by
          rcases HP2.out.2.2.2.2 with rfl | h
          · simp at hlt
          · exact h
        obtain ⟨c0, c1⟩ := (hr.below hbw hb) k hlt
        have hz := hb.size
        have hbr : b < wr.heap.size := by omega
        clear hr
        obtain ⟨pp, hpp⟩ : ∃ pp, Hid (Pl.pr ps k = pp) := ⟨_, rfl⟩
        rw [hpp.out] at c0 c1
        have HO4 := hid (HO.out.below ((Below.refl wr.heap.size wr).alloc (Nat.le_refl _) (.cells #[.int .i64 pp.1, .int .i64 pp.2] 69)))
        have htk : (ps.take k).length = k := by simp; omega
        go_wp2_with (at_builtin; refine append_pairT Tryd.underlying26 infoPfx rfl (.tmp 23) (.tmp 29) rfl w2.heap.size vl (ps.take k) pp rfl HO4.out (by simp; omega) (by show Value.slice (some ⟨wr.heap.size + 1, 0, none⟩) 1 1 = _; simp) (by rw [htk]; omega) ?_; intro v5 w5 ho5 hb5 _; have HO5 := hid ho5; clear ho5)
        go_roundw
        case rel => exact ⟨k + 1, _, rfl, by omega, by go_num, hid (by show OwnP _ _ _ _ _; rw [Pl.take_pr ps k hlt, hpp.out]; exact HO5.out), (hb.alloc hz _).trans hb5⟩
        case measure => simp [intOf]; omega
      · obtain rfl : k = ps.length := by omega
        have HO' : Hid (OwnP 33 wr w2.heap.size vl ps) := by have h := HO.out; rw [List.take_length] at h; exact hid h
        obtain ⟨a3, cap3, rfl, hp3, _, _⟩ := OwnP.shape HO'.out HFA.out.2
        have HP3 := hid hp3
        clear hp3 HO
        have hbx : Below w.heap.size w wr := hb2.trans (hb.mono hb2.size)
        by_cases hc0 : cc = 0
        · subst hc0
          have HC' := hid (HC.out.2.1 rfl)
          clear HC
          go_wp2_with fail
          refine (CheckPrefixes_any _ _ _ ps _ HP3.out).mono ?_
          rw [HCC.out]
          rintro e w4 ⟨rfl, hb4⟩
          go_wp2_with fail
          go_ret2
          exact ⟨_, rfl, by rw [HC'.out]; exact OwnP.mono (HO'.out.below hb4) hb2.size, hbx.trans (hb4.mono hbx.size)⟩
        · have HC' := hid (HC.out.2.2 hc0)
          clear HC
          have hd0 : (cc == 0) = false := by simpa using hc0
          clear hc0
          go_wp2_with fail
          refine (CheckPrefixes_any _ _ _ ps _ HP3.out).mono ?_
          rw [HCC.out]
          rintro e w4 ⟨rfl, hb4⟩
          go_wp2_with fail
          go_ret2
          exact ⟨_, rfl, by rw [HC'.out]; exact OwnP.nil _ _ _, hbx.trans (hb4.mono hbx.size)⟩

end Go.Proofs.YtcdobhdbafpkiadDoor
