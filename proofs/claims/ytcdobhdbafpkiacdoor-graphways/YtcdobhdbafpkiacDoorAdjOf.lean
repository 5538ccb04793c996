/-
  Contract: what a text tells of links: the document's AdjOf.
-/
import Derived.Test.YtcdobhdbafpkiacDoorReadA
namespace Go.Proofs.YtcdobhdbafpkiacDoor
open Go.RowKit
set_option maxRecDepth 20000

theorem below_set {C B : Nat} {X W : World} {d c u v : Value} {T : TypeId} (hX : X.heap[B]? = some (.cells #[d, c] T)) (h : Below C (X.setCell ⟨B, 1, none⟩ u) W) (hC : B < C) :
    Below C (X.setCell ⟨B, 1, none⟩ v) (W.setCell ⟨B, 1, none⟩ v) := by
  have hz := h.size
  simp only [World.setCell, Array.size_modify] at hz
  have hWB : W.heap[B]? = some (.cells #[d, u] T) := (h.block B hC).trans (adjAt_set hX u)
  refine ⟨h.os, h.tape, h.output, by simp only [World.setCell, Array.size_modify]; exact hz, fun k hk => ?_⟩
  by_cases e : k = B
  · subst e
    rw [adjAt_set hX v, adjAt_set hWB v]
  · rw [Below.heap_setCell _ _ _ _ e, Below.heap_setCell _ _ _ _ e, h.block k hk, Below.heap_setCell _ _ _ _ e]
theorem below_set0 {C B : Nat} {X : World} {d c : Value} {T : TypeId} (hX : X.heap[B]? = some (.cells #[d, c] T)) : Below C (X.setCell ⟨B, 1, none⟩ c) X := by
  refine ⟨rfl, rfl, rfl, by simp [World.setCell], fun k hk => ?_⟩
  by_cases e : k = B
  · subst e
    rw [adjAt_set hX c, hX]
  · rw [Below.heap_setCell _ _ _ _ e]
theorem Pl.pairsL_cuts (m : UInt8) (l : List UInt8) : Pl.pairsL m l = Pl.pairsP m (Pl.cutsL l) := by
  unfold Pl.pairsL Pl.cutsL
  split <;> rfl
theorem Pl.lists_drop (ks : List ByteArray) (k : Nat) (h : k < ks.length) : Pl.lists (ks.drop k) = ks[k].data.toList :: Pl.lists (ks.drop (k + 1)) := by
  rw [List.drop_eq_getElem_cons h]; rfl

set_option maxHeartbeats 4000000 in
theorem AdjOf_any (s : ByteArray) (w : World) (hs : s.size ≤ 4398046511103) :
    Calls Tryd.prog 51 #[.string s] w fun e w' => ∃ vl : Value, e = .returned (.tuple #[.agg #[.bool (Pl.adjD s.data.toList), vl], .int .i64 (Pl.adjC s.data.toList)]) ∧
      OwnP 103 w' w.heap.size vl (Pl.adjS s.data.toList) ∧ Below w.heap.size w w' := by
  obtain ⟨np, HP⟩ : ∃ x, Hid (Pl.sidesL s.data.toList = x) := ⟨_, rfl⟩
  obtain ⟨hd, HH⟩ : ∃ x, Hid (Pl.headB 33 s.data.toList = x) := ⟨_, rfl⟩
  have HSM : Hid (s.size ≤ maxLen) := hid (by unfold maxLen; omega)
  obtain ⟨rc, HRC⟩ : ∃ x, Hid (Pl.adjC s.data.toList = x) := ⟨_, rfl⟩
  obtain ⟨rd, HRD⟩ : ∃ x, Hid (Pl.adjD s.data.toList = x) := ⟨_, rfl⟩
  obtain ⟨rs, HRS⟩ : ∃ x, Hid (Pl.adjS s.data.toList = x) := ⟨_, rfl⟩
  rw [HRC.out, HRD.out, HRS.out]
  have HR0 : Hid (np = none → rc = 4 ∧ rd = false ∧ rs = []) := by
    refine hid fun h => ?_
    have hp := HP.out
    rw [h] at hp
    have h4 : Pl.adjC s.data.toList = 4 := by unfold Pl.adjC; rw [hp]
    refine ⟨HRC.out ▸ h4, ?_, ?_⟩
    · rw [← HRD.out]; unfold Pl.adjD; rw [h4]; rfl
    · rw [← HRS.out]; unfold Pl.adjS; rw [h4]; rfl
  have HR1 : Hid (∀ ps, np = some ps → rc = Pl.adjF ps ∧ (rc = 0 → rd = hd ∧ rs = ps) ∧ (rc ≠ 0 → rd = false ∧ rs = [])) := by
    refine hid fun ps h => ?_
    have hp := HP.out
    rw [h] at hp
    have h4 : Pl.adjC s.data.toList = Pl.adjF ps := by unfold Pl.adjC; rw [hp]
    refine ⟨HRC.out ▸ h4, fun h0 => ⟨?_, ?_⟩, fun h0 => ⟨?_, ?_⟩⟩
    · rw [← HRD.out]; unfold Pl.adjD; rw [HRC.out, h0, HH.out]; rfl
    · rw [← HRS.out]; unfold Pl.adjS; rw [HRC.out, h0, hp]; rfl
    · rw [← HRD.out]; unfold Pl.adjD; rw [HRC.out]; simp [h0]
    · rw [← HRS.out]; unfold Pl.adjS; rw [HRC.out, if_neg h0]
  have HCASE : (∃ h0 : 0 < s.size, (s[0].toNat : Int) = 33 ∧ Hid (hd = true) ∧ Hid ((s.extract 1 s.size).data.toList = Pl.tailB 33 s.data.toList)) ∨ (∃ h0 : 0 < s.size, ((s[0].toNat : Int) == 33) = false ∧ Hid (hd = false) ∧ Hid (s.data.toList = Pl.tailB 33 s.data.toList)) ∨ (s.size = 0 ∧ Hid (hd = false) ∧ Hid (s.data.toList = Pl.tailB 33 s.data.toList)) := by
    rcases Nat.eq_zero_or_pos s.size with h0 | h0
    · right; right
      have hl : s.data.toList = [] := List.length_eq_zero_iff.1 (by rw [sz_list]; omega)
      refine ⟨h0, hid ?_, hid ?_⟩
      · rw [← HH.out, hl]; rfl
      · rw [hl]; rfl
    · have hg := Pl.head_get s h0
      by_cases e : (s[0].toNat : Int) = 33
      · left
        have e' : s[0] = 33 := by apply UInt8.toNat_inj.1; show _ = 33; omega
        have hh : Pl.headB 33 s.data.toList = true := by unfold Pl.headB; rw [hg, e']; rfl
        refine ⟨h0, e, hid (by rw [← HH.out, hh]), hid ?_⟩
        unfold Pl.tailB
        rw [hh, ext_list, List.take_of_length_le (by simp)]; simp
      · right; left
        have hh : Pl.headB 33 s.data.toList = false := by
          unfold Pl.headB; rw [hg]; simp; intro h; rw [h] at e; exact e rfl
        refine ⟨h0, by simpa using e, hid (by rw [← HH.out, hh]), hid ?_⟩
        unfold Pl.tailB
        rw [hh]; rfl
  rcases HCASE with ⟨h0, hc, H1, H2⟩ | ⟨h0, hc, H1, H2⟩ | ⟨h0, H1, H2⟩
  all_goals
    go_enter Tryd.func51, Tryd.ntmps51
    go_wp2_with fail
    refine (cuts_any _ _ (by first | (simp; omega) | omega)).mono ?_
    rw [H2.out]
    rintro e w2 ⟨vk, ks, rfl, hok, hks, hkz, hkl, hb2⟩
    obtain ⟨ak, kcap, rfl, hkc, hkm, hkr⟩ := OwnT.shape hok
    clear hok
    have HKR := hid hkr
    clear hkr
    have HKZ : Hid (∀ x ∈ ks, x.size ≤ maxLen) := hid fun x hx => by have := hkz x hx; (try simp at this); unfold maxLen; omega
    clear hkz
    have hkl' : ks.length ≤ s.size + 1 := by (try simp at hkl); omega
    clear hkl
    unfold maxLen at hkm
    have HNP : Hid (np = Pl.pairsP 61 (Pl.lists ks)) := hid (by rw [← HP.out]; unfold Pl.sidesL; rw [Pl.pairsL_cuts, hks])
    clear hks
    have hbA : Below (w.heap.size + 2) ((w.alloc (.cells #[.bool false, .slice none 0 0] 45)).alloc (.cells #[.bool hd, .slice none 0 0] 45)) w2 := by
      rw [H1.out]; simpa using hb2
    clear hb2
    have hz2 : w.heap.size + 1 < w2.heap.size := by have := hbA.size; simp at this; omega
    have HX : Hid (w2.heap[w.heap.size + 1]? = some (.cells #[.bool hd, .slice none 0 0] 45)) := by
      refine hid ((hbA.block _ (by omega)).trans ?_)
      have := heapNew (w.alloc (.cells #[.bool false, .slice none 0 0] 45)) (.cells #[.bool hd, .slice none 0 0] 45)
      simpa using this
    have hbR : Below (w.heap.size + 1) (w.alloc (.cells #[.bool false, .slice none 0 0] 45)) w2 := ((Below.refl _ _).alloc (by simp) _).trans (hbA.mono (by omega))
    clear hbA
    go_wp2_with fail
    go_loopw [6] (fun i wr => ∃ (k : Nat) (v : Value) (acc : List (Int × Int)), k ≤ ks.length ∧ i = .int .i64 k ∧ Hid (acc.length = k) ∧ Hid (np = Pl.andThen acc (Pl.pairsP 61 (Pl.lists (ks.drop k)))) ∧ Hid (Below w2.heap.size (w2.setCell ⟨w.heap.size + 1, 1, none⟩ v) wr) ∧ Hid (OwnP 103 wr w2.heap.size v acc)) (fun i _ => ks.length - (intOf i).toNat)
    case atStart => exact ⟨0, _, [], Nat.zero_le _, rfl, hid rfl, hid (by rw [HNP.out]; cases h : Pl.pairsP 61 (Pl.lists ks) <;> simp [Pl.andThen, h]), hid (below_set0 HX.out), hid (OwnP.nil _ _ _)⟩
    case round =>
      obtain ⟨k, v, acc, hk, rfl, hak, HN, HB, HO⟩ := hrel
      have HBB := hid ((HB.out.block _ hz2).trans (adjAt_set HX.out v))
      obtain ⟨y0, y1, g0, g1, hzr⟩ := adjAt_cells HBB.out
      have hbR' : Below (w.heap.size + 1) (w.alloc (.cells #[.bool false, .slice none 0 0] 45)) wr := (hbR.setCell (by simp) _).trans (HB.out.mono (by omega))
      obtain ⟨x0, x1, xs, hbb⟩ := box2 hbR'
      obtain ⟨f0, f1⟩ := box2f hbR'
      have hw2r : w2.heap.size ≤ wr.heap.size := by have := HB.out.size; simpa [World.setCell] using this
      by_cases hlt : k < ks.length
      · obtain ⟨b, rfl, hbase, hbw, hcell⟩ : ∃ b, ak = some ⟨b, 0, none⟩ ∧ w.heap.size + 2 ≤ b ∧ b < w2.heap.size ∧ ∀ (i : Nat) (hi : i < ks.length), w2.cell? ⟨b, 0 + i, none⟩ = some (.string ks[i]) := by
          rcases HKR.out with rfl | ⟨b, h1, h2, h3⟩
          · simp at hlt
          · exact ⟨b, h1, by simpa using h2, h3⟩
        have hbr : b < wr.heap.size := by omega
        have hc0 : wr.cell? ⟨b, 0 + k, none⟩ = some (.string ks[k]) := (HB.out.cell (p := ⟨b, 0 + k, none⟩) hbw).trans ((World.cell?_of_block (w := w2) (Below.heap_setCell _ _ _ _ (by simp; omega))).trans (hcell k hlt))
        clear hcell
        rw [Nat.zero_add] at hc0
        have HKK := hid (HKZ.out ks[k] (List.getElem_mem hlt))
        obtain ⟨q, HQ⟩ : ∃ x, Hid (Pl.pairL 61 ks[k].data.toList = x) := ⟨_, hid rfl⟩
        obtain ⟨kk, HKE⟩ : ∃ x, Hid (ks[k] = x) := ⟨_, hid rfl⟩
        rw [HKE.out] at hc0 HKK HQ
        cases q with
        | none =>
          have HNN := hid (HR0.out (by rw [HN.out, Pl.lists_drop ks k hlt, HKE.out, Pl.pairsP_none HQ.out]; rfl))
          go_wp2_with fail
          refine (pairOf_any kk 61 _ HKK.out).mono ?_
          rw [HQ.out]
          rintro e w3 ⟨x, y, rfl, _, rfl⟩
          go_wp2_with fail
          exact bodyPost_ret (v := .tuple #[.agg #[.bool false, .slice none 0 0], .int .i64 4]) (by simp [results, Tryd.results51, go_sem, x0, x1]) rfl ⟨_, by rw [HNN.out.1, HNN.out.2.1], by rw [HNN.out.2.2]; exact OwnP.nil _ _ _, ((hbb.setCell (Nat.le_refl _) _).setCell (Nat.le_refl _) _)⟩
        | some p =>
          have HNN : Hid (np = Pl.andThen (acc ++ [p]) (Pl.pairsP 61 (Pl.lists (ks.drop (k + 1))))) := hid (by rw [HN.out, Pl.lists_drop ks k hlt, HKE.out, Pl.pairsP_some HQ.out])
          go_wp2_with fail
          refine (pairOf_any kk 61 _ HKK.out).mono ?_
          rw [HQ.out]
          rintro e w3 ⟨x, y, rfl, hxy, rfl⟩
          obtain rfl := hxy p rfl
          clear hxy
          go_wp2_with (at_builtin; refine append_pairT Tryd.underlying43 infoSide rfl (.tmp 44) (.tmp 48) rfl w2.heap.size v acc (x, y) rfl HO.out hw2r rfl (by have := hak.out; omega) ?_; intro v5 w5 ho5 hb5 _; obtain ⟨a5, n5, cap5, rfl⟩ := ho5.slice; have HO5 := hid ho5; clear ho5; have HB5 := hid ((hb5.block _ hz2).trans HBB.out); obtain ⟨z0, z1, q0, q1, hz5⟩ := adjAt_cells HB5.out)
          go_roundw
          case rel => exact ⟨k + 1, .slice a5 n5 cap5, acc ++ [(x, y)], by omega, by go_num, hid (by simp [hak.out]), HNN, hid (below_set HX.out (HB.out.trans hb5) hz2), hid (ownsRow_setCell_below HO5.out (by simpa using hz2) _)⟩
          case measure => simp [intOf]; omega
      · obtain rfl : k = ks.length := by omega
        have HNP' : Hid (np = some acc) := hid (by rw [HN.out]; simp [Pl.lists, Pl.pairsP, Pl.andThen])
        have HR := hid (HR1.out acc HNP'.out)
        have HOK : Hid (∀ p ∈ acc, Pl.pairOk p) := hid fun p hp => Pl.pairOk_of (Pl.pairsP_ok (m := 61) (ps := Pl.lists ks) (a := acc) (by rw [← HNP.out, HNP'.out]) p hp)
        obtain ⟨a3, cap3, rfl, hp3, _, _⟩ := OwnP.shape HO.out HOK.out
        have HP3 := hid hp3
        clear hp3
        obtain ⟨cc, HCC⟩ : ∃ x, Hid (Pl.adjF acc = x) := ⟨_, rfl⟩
        obtain rfl : rc = cc := by rw [HR.out.1, HCC.out]
        by_cases hc0 : rc = 0
        · subst hc0
          have HR' := hid (HR.out.2.1 rfl)
          clear HR HR0 HR1
          go_wp2_with fail
          refine (AdjFault_any _ _ _ _ acc _ HP3.out).mono ?_
          rw [HCC.out]
          rintro e w4 ⟨rfl, hb4⟩
          have hbx4 := hbR'.trans (hb4.mono (by omega))
          obtain ⟨x0', x1', xs', hbb'⟩ := box2 hbx4
          obtain ⟨f0', f1'⟩ := box2f hbx4
          have z0 := (hb4.cell (p := ⟨w.heap.size + 1, 0, none⟩) hzr).trans y0
          have z1 := (hb4.cell (p := ⟨w.heap.size + 1, 1, none⟩) hzr).trans y1
          go_wp2_with fail
          refine bodyPost_ret (v := .tuple #[.agg #[.bool hd, .slice a3 acc.length cap3], .int .i64 0]) (by simp [results, Tryd.results51, go_sem, x0', x1']) rfl ⟨_, by rw [HR'.out.1], ?_, ((hbb'.setCell (Nat.le_refl _) _).setCell (Nat.le_refl _) _)⟩
          rw [HR'.out.2]
          have h5 := HO.out.below hb4
          exact OwnP.mono (base := w2.heap.size) (ownsRow_setCell_below (ownsRow_setCell_below h5 (by simp; omega) _) (by simp; omega) _) (by omega)
        · have HR' := hid (HR.out.2.2 hc0)
          clear HR HR0 HR1
          have hd0 : (rc == 0) = false := by simpa using hc0
          go_wp2_with fail
          refine (AdjFault_any _ _ _ _ acc _ HP3.out).mono ?_
          rw [HCC.out]
          rintro e w4 ⟨rfl, hb4⟩
          have hbx4 := hbR'.trans (hb4.mono (by omega))
          obtain ⟨x0', x1', xs', hbb'⟩ := box2 hbx4
          obtain ⟨f0', f1'⟩ := box2f hbx4
          go_wp2_with fail
          exact bodyPost_ret (v := .tuple #[.agg #[.bool false, .slice none 0 0], .int .i64 rc]) (by simp [results, Tryd.results51, go_sem, x0', x1']) rfl ⟨_, by rw [HR'.out.1], by rw [HR'.out.2]; exact OwnP.nil _ _ _, ((hbb'.setCell (Nat.le_refl _) _).setCell (Nat.le_refl _) _)⟩
end Go.Proofs.YtcdobhdbafpkiacDoor
