/-
  Contracts: the pairs that a text tells: readPairs and, cut at each comma, the document's cuts.
-/
import Derived.Test.YtcdobhdbafpkiadDoorPairT
import Derived.Test.YtcdobhdbafpkiadDoorPairOwn
namespace Go.Proofs.YtcdobhdbafpkiadDoor
open Go.RowKit
set_option maxRecDepth 20000

def mz : Value → Value → Nat
  | .string t, .bool true => t.size + 1
  | _, _ => 0
theorem infoPair : (Tryd.prog.info? 69).map (fun i => (i.zero, i.size, i.bytes)) = some (some (.agg #[.int .i64 0, .int .i64 0]), 2, 16) := by kernel_rfl
theorem toList_ne (s : ByteArray) (h : 0 < s.size) : (s.toList == []) = false := by
  rw [Lib.toList_data]
  cases hl : s.data.toList
  · have := sz_list s; rw [hl] at this; simp at this; omega
  · rfl

set_option maxHeartbeats 2000000 in
theorem readPairs_any (s : ByteArray) (m : UInt8) (w : World) (hs : s.size ≤ 4398046511104) :
    Calls Tryd.prog 21 #[.string s, .string ⟨#[m]⟩] w fun e w' => ∃ vl : Value, e = .returned (.tuple #[vl, .bool (Pl.pairsL m s.data.toList).isSome]) ∧
      OwnP 69 w' w.heap.size vl ((Pl.pairsL m s.data.toList).getD []) ∧ Below w.heap.size w w' := by
  obtain ⟨np, HP⟩ : ∃ x, Hid (Pl.pairsL m s.data.toList = x) := ⟨_, rfl⟩
  rw [HP.out]
  rcases Nat.eq_zero_or_pos s.size with h0 | h0
  · have he : s.toList = [] := by rw [Lib.toList_data]; exact List.length_eq_zero_iff.1 (by rw [sz_list]; omega)
    have HN : Hid (np = some []) := hid (by rw [← HP.out]; unfold Pl.pairsL; rw [if_pos (List.length_eq_zero_iff.1 (by rw [sz_list]; omega))])
    go_enter Tryd.func21, Tryd.ntmps21
    go_wp2
    go_ret2
    exact ⟨_, by rw [HN.out]; rfl, by rw [HN.out]; exact OwnP.nil _ _ _, Below.refl _ _⟩
  · have he := toList_ne s h0
    have HN : Hid (np = Pl.andThen [] (Pl.pairsP m (Pl.parts s.data.toList))) := by
      refine hid ?_
      rw [← HP.out]; unfold Pl.pairsL
      rw [if_neg (by intro h; have := sz_list s; rw [h] at this; simp at this; omega)]
      cases Pl.pairsP m (Pl.parts s.data.toList) <;> simp [Pl.andThen]
    go_enter Tryd.func21, Tryd.ntmps21
    go_wp2
    go_loopw [0, 6, 7] (fun s' vl mo wr => ∃ (t : ByteArray) (acc : List (Int × Int)) (b : Bool) (vv : Value), vv = vl ∧ s' = .string t ∧ mo = .bool b ∧ Hid (OwnP 69 wr w.heap.size vv acc) ∧ acc.length + t.size ≤ s.size + 1 ∧ t.size ≤ s.size ∧ (b = true → acc.length + t.size ≤ s.size) ∧ Hid (b = true → np = Pl.andThen acc (Pl.pairsP m (Pl.parts t.data.toList))) ∧ Hid (b = false → np = some acc) ∧ Below w.heap.size w wr) (fun s' _ mo _ => mz s' mo)
    case atStart => exact ⟨s, [], true, _, rfl, rfl, rfl, hid (OwnP.nil _ _ _), by simp, Nat.le_refl _, by simp, hid (fun _ => HN.out), hid (by simp), Below.refl _ _⟩
    case round =>
      obtain ⟨t, acc, b, vl, rfl, rfl, rfl, HO, hsz, htz, hsb, HT, HF, hb⟩ := hrel
      cases b
      · have HF' := hid (HF.out rfl)
        clear HF HT hsb
        go_wp2
        go_ret2
        exact ⟨vl, by rw [HF'.out]; rfl, by rw [HF'.out]; exact HO.out, hb⟩
      · have hsb' := hsb rfl
        clear hsb
        obtain ⟨cu, HCU⟩ : ∃ x, Hid (Pl.cutL 44 t.data.toList = x) := ⟨_, rfl⟩
        obtain ⟨c1, c2⟩ := cu
        obtain ⟨q, HQ⟩ : ∃ x, Hid (Pl.pairL m c1 = x) := ⟨_, rfl⟩
        have HTS : Hid (t.size ≤ maxLen) := hid (by unfold maxLen; omega)
        have HT' := hid (HT.out rfl)
        clear HT HF
        cases q with
        | none =>
          have HNN : Hid (np = none) := by
            refine hid ?_
            rw [HT'.out]
            cases c2 with
            | none => rw [Pl.parts_none (by rw [HCU.out]), HCU.out, Pl.pairsP_none HQ.out]; rfl
            | some r => rw [Pl.parts_some (r := r) (by rw [HCU.out]), HCU.out, Pl.pairsP_none HQ.out]; rfl
          go_wp2_with fail
          refine (Cut_any t 44 _ HTS.out).mono ?_
          rw [HCU.out]
          rintro e w1 ⟨a, d, rfl, ha, hd, n, rfl⟩
          have HA := hid ha
          have HSZ := hid (Pl.cut_size (m := 44) (s := t) (a := a) (b := d) (by rw [HCU.out]; exact ha) (by rw [HCU.out]; exact hd))
          clear ha hd
          go_wp2_with fail
          refine (readPair_any a m _ (Nat.le_trans HSZ.out.1 HTS.out)).mono ?_
          rw [HA.out, HQ.out]
          rintro e w2 ⟨x, y, rfl, _, hb2⟩
          go_wp2_with fail
          go_ret2
          exact ⟨_, by rw [HNN.out]; rfl, by rw [HNN.out]; exact OwnP.nil _ _ _, by have hb3 := (below_drew hb n).trans (hb2.mono hb.size); exact hb3.alloc (hb3.size) _⟩
        | some p =>
          go_wp2_with fail
          refine (Cut_any t 44 _ HTS.out).mono ?_
          rw [HCU.out]
          rintro e w1 ⟨a, d, rfl, ha, hd, n, rfl⟩
          have HA := hid ha
          have HD := hid hd
          have HSZ := hid (Pl.cut_size (m := 44) (s := t) (a := a) (b := d) (by rw [HCU.out]; exact ha) (by rw [HCU.out]; exact hd))
          clear ha hd
          go_wp2_with fail
          refine (readPair_any a m _ (Nat.le_trans HSZ.out.1 HTS.out)).mono ?_
          rw [HA.out, HQ.out]
          rintro e w2 ⟨x, y, rfl, hxy, hb2⟩
          obtain rfl := hxy p rfl
          clear hxy
          have hb3 : Below w.heap.size w w2 := (below_drew hb n).trans (hb2.mono hb.size)
          have hb4 : Below w.heap.size w (w2.alloc (.cells #[.int .i64 x, .int .i64 y] 69)) := hb3.alloc hb3.size _
          have hb5 : Below wr.heap.size wr (w2.alloc (.cells #[.int .i64 x, .int .i64 y] 69)) := ((below_drew (Below.refl _ _) n).trans hb2).alloc hb2.size _
          have HO4 := hid (HO.out.below hb5)
          have hz4 := hb4.size
          have HW4 := hid hb4
          clear hb5 hb2 hb4
          go_wp2_with (at_builtin; refine append_pairT Tryd.underlying67 infoPair rfl (.tmp 28) (.tmp 30) rfl w.heap.size vl acc (x, y) rfl HO4.out hz4 (by show Value.slice (some ⟨w2.heap.size + 1, 0, none⟩) 1 1 = _; simp) (by omega) ?_; intro v5 w5 ho5 hb5 _; have HO5 := hid ho5; clear ho5)
          have hb6 : Below w.heap.size w w5 := HW4.out.trans (hb5.mono (Nat.le_refl _))
          cases c2 with
          | none =>
            have HN' : Hid (np = some (acc ++ [(x, y)])) := by
              refine hid ?_
              rw [HT'.out, Pl.parts_none (by rw [HCU.out]), HCU.out, Pl.pairsP_some HQ.out]; simp [Pl.pairsP, Pl.andThen]
            have hdz : d.size = 0 := by rw [← sz_list, HD.out]; rfl
            go_roundw
            case rel => exact ⟨d, acc ++ [(x, y)], false, _, rfl, rfl, rfl, HO5, by simp; omega, by omega, by simp, hid (by simp), hid (fun _ => HN'.out), hb6⟩
            case measure => simp [mz]
          | some r =>
            have HN' : Hid (np = Pl.andThen (acc ++ [(x, y)]) (Pl.pairsP m (Pl.parts d.data.toList))) := by
              refine hid ?_
              rw [HT'.out, Pl.parts_some (r := r) (by rw [HCU.out]), HCU.out, Pl.pairsP_some HQ.out, HD.out]; rfl
            have hdz : d.size + 1 ≤ t.size := by
              have h := (Pl.cutL_len 44 t.data.toList).2 r (by rw [HCU.out])
              rw [← sz_list d, HD.out, ← sz_list t]
              show r.length + 1 ≤ _
              omega
            go_roundw
            case rel => exact ⟨d, acc ++ [(x, y)], true, _, rfl, rfl, rfl, HO5, by simp; omega, by omega, by simp; omega, hid (fun _ => HN'.out), hid (by simp), hb6⟩
            case measure => simp [mz]; omega
end Go.Proofs.YtcdobhdbafpkiadDoor
