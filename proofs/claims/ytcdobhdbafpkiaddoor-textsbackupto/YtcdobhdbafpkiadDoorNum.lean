/-
  Contracts: the number that a text tells: readNumber and the document's numOf.
-/
import Derived.Test.YtcdobhdbafpkiadDoorCut
namespace Go.Proofs.YtcdobhdbafpkiadDoor
open Go.RowKit
set_option maxRecDepth 20000

theorem Pl.val_take (s : ByteArray) (k : Nat) (h : k < s.size) : Pl.val (s.data.toList.take (k + 1)) = 10 * Pl.val (s.data.toList.take k) + ((s[k].toNat : Int) - 48) := by
  rw [Pl.take_snoc s k h, Pl.val_snoc]
theorem Pl.dgs_take (s : ByteArray) (k : Nat) (h : k < s.size) : Pl.dgs (s.data.toList.take (k + 1)) = (Pl.dgs (s.data.toList.take k) && Pl.dg s[k]) := by
  rw [Pl.take_snoc s k h, Pl.dgs_snoc]
theorem Pl.dgs_bad (s : ByteArray) (k : Nat) (h : k < s.size) (hb : Pl.dg s[k] = false) : Pl.dgs s.data.toList = false :=
  Pl.dgs_false (l := s.data.toList) (k := k) (by simpa using h) hb
theorem Pl.val_bound {l : List UInt8} (h : l.length ≤ 6) (k : Pl.dgs l = true) : 0 ≤ Pl.val l ∧ Pl.val l < 1000000 := by
  obtain ⟨h1, h2⟩ := Pl.val_nonneg _ l rfl k
  refine ⟨h1, ?_⟩
  have h3 : (10 : Int) ^ l.length ≤ 10 ^ 6 := by
    have : l.length = 0 ∨ l.length = 1 ∨ l.length = 2 ∨ l.length = 3 ∨ l.length = 4 ∨ l.length = 5 ∨ l.length = 6 := by omega
    rcases this with h | h | h | h | h | h | h <;> rw [h] <;> decide
  omega
theorem Pl.head_get (s : ByteArray) (h : 0 < s.size) : s.data.toList.head? = some s[0] := by
  rw [List.head?_eq_getElem?, List.getElem?_eq_getElem (by simpa using h)]; rfl
theorem take_all (s : ByteArray) : s.data.toList.take s.size = s.data.toList := List.take_of_length_le (by simp)

set_option maxHeartbeats 1000000 in
theorem readNumber_any (s : ByteArray) (w : World) (hs : s.size ≤ maxLen) :
    Calls Tryd.prog 59 #[.string s] w fun e w' => ∃ x : Int, e = .returned (.tuple #[.int .i64 x, .bool (Pl.numL s.data.toList).isSome]) ∧
      (∀ n, Pl.numL s.data.toList = some n → x = n) ∧ w' = w := by
  unfold maxLen at hs
  rcases Nat.lt_or_ge s.size 1 with h0 | h0
  · have hN := hid (Pl.numL_size (l := s.data.toList) (by rw [sz_list]; omega))
    have he : s.toList = [] := by rw [Lib.toList_data]; exact List.length_eq_zero_iff.1 (by rw [sz_list]; omega)
    go_enter Tryd.func59, Tryd.ntmps59
    go_wp2
    go_ret2
    exact ⟨0, by rw [hN.out]; rfl, by rw [hN.out]; simp, rfl⟩
  have he : (s.toList == []) = false := by
    rw [Lib.toList_data]
    cases hl : s.data.toList
    · have := sz_list s; rw [hl] at this; simp at this; omega
    · rfl
  rcases Nat.lt_or_ge 6 s.size with h6 | h6
  · have hN := hid (Pl.numL_size (l := s.data.toList) (by rw [sz_list]; omega))
    go_enter Tryd.func59, Tryd.ntmps59
    go_wp2
    go_ret2
    exact ⟨0, by rw [hN.out]; rfl, by rw [hN.out]; simp, rfl⟩
  have hH := hid (Pl.head_get s h0)
  by_cases hz : (s[0].toNat : Int) = 48 ∧ 1 < s.size
  · obtain ⟨hz1, hz2⟩ := hz
    have hN : Hid (Pl.numL s.data.toList = none) := hid (Pl.numL_zero (by rw [hH.out]; congr 1; apply UInt8.toNat_inj.1; show _ = 48; omega) (by rw [sz_list]; omega))
    have hq : (s.toList == [48]) = false := by
      rw [Lib.toList_data]
      rw [beq_eq_false_iff_ne]; intro e
      have := sz_list s; rw [e] at this; simp at this; omega
    go_enter Tryd.func59, Tryd.ntmps59
    go_wp2
    go_ret2
    exact ⟨0, by rw [hN.out]; rfl, by rw [hN.out]; simp, rfl⟩
  · have HZ : Hid (¬ (s.data.toList.head? = some 48 ∧ 1 < s.data.toList.length)) := by
      refine hid ?_
      rw [hH.out, sz_list]
      rintro ⟨e, k⟩
      simp at e
      exact hz ⟨by rw [e]; rfl, k⟩
    have hgo : ((s[0].toNat : Int) = 48 ∧ (s.toList == [48]) = true) ∨ ((s[0].toNat : Int) == 48) = false := by
      by_cases e : (s[0].toNat : Int) = 48
      · left
        refine ⟨e, ?_⟩
        have hs1 : s.size = 1 := by
          rcases Nat.lt_or_ge 1 s.size with h | h
          · exact absurd ⟨e, h⟩ hz
          · omega
        rw [Lib.toList_data, beq_iff_eq]
        have h1 := hH.out
        have h2 := sz_list s
        rw [hs1] at h2
        match hl : s.data.toList, h2 with
        | [x], _ =>
          rw [hl] at h1
          simp at h1
          rw [h1]
          congr 1
          apply UInt8.toNat_inj.1
          show _ = 48
          omega
      · right
        simpa using e
    clear hz
    rcases hgo with ⟨hg1, hg2⟩ | hg1
    all_goals
      go_enter Tryd.func59, Tryd.ntmps59
      go_wp2
      go_loop [4, 24] (fun n i => ∃ (k : Nat) (v : Int), k ≤ s.size ∧ i = .int .i64 k ∧ n = .int .i64 v ∧ Hid (v = Pl.val (s.data.toList.take k)) ∧ Hid (Pl.dgs (s.data.toList.take k) = true) ∧ 0 ≤ v ∧ v < 1000000) (fun _ i => s.size - (intOf i).toNat)
      case atStart => exact ⟨0, 0, Nat.zero_le _, rfl, rfl, rfl, rfl, by omega, by omega⟩
      case round =>
        obtain ⟨k, v, hk, rfl, rfl, HV, HD, hv0, hv1⟩ := hrel
        by_cases hlt : k < s.size
        · have hbl := byte_le s[k]
          by_cases a1 : (s[k].toNat : Int) < 48
          · have HB : Hid (Pl.numL s.data.toList = none) := hid (Pl.numL_bad (Pl.dgs_bad s k hlt (by unfold Pl.dg; rw [decide_eq_false (by omega)])))
            go_wp2
            go_ret2
            exact ⟨0, by rw [HB.out]; rfl, by rw [HB.out]; simp, rfl⟩
          · by_cases a2 : 57 < (s[k].toNat : Int)
            · have HB : Hid (Pl.numL s.data.toList = none) := hid (Pl.numL_bad (Pl.dgs_bad s k hlt (by unfold Pl.dg; rw [decide_eq_false (by omega)])))
              go_wp2
              go_ret2
              exact ⟨0, by rw [HB.out]; rfl, by rw [HB.out]; simp, rfl⟩
            · have HX : Hid (Pl.val (s.data.toList.take (k + 1)) = 10 * v + ((s[k].toNat : Int) - 48) ∧ Pl.dgs (s.data.toList.take (k + 1)) = true) := by
                refine hid ⟨?_, ?_⟩
                · rw [Pl.val_take s k hlt, HV.out]
                · rw [Pl.dgs_take s k hlt, HD.out]; unfold Pl.dg; rw [decide_eq_true (by omega)]; rfl
              have hB := Pl.val_bound (l := s.data.toList.take (k + 1)) (by simp; omega) HX.out.2
              rw [HX.out.1] at hB
              have hwr : IntKind.u8.wrap ((s[k].toNat : Int) - 48) = (s[k].toNat : Int) - 48 := by
                simp [IntKind.wrap, IntKind.signed, IntKind.bits]; omega
              go_wp2
              go_round
              case rel => exact ⟨k + 1, 10 * v + ((s[k].toNat : Int) - 48), by omega, by go_num, by go_num, hid HX.out.1.symm, HX.out.2, by omega, by omega⟩
              case measure => simp [intOf]; omega
        · obtain rfl : k = s.size := by omega
          have HT := hid (take_all s)
          have HV' : Hid (v = Pl.val s.data.toList) := by rw [HT.out] at HV; exact HV
          have HD' : Hid (Pl.dgs s.data.toList = true) := by rw [HT.out] at HD; exact HD
          by_cases hgr : v ≤ 100000
          · have HN := hid (Pl.numL_some (l := s.data.toList) (by rw [sz_list]; omega) (by rw [sz_list]; omega) HZ.out HD'.out (by rw [← HV'.out]; exact hgr))
            go_wp2
            go_ret2
            exact ⟨v, by rw [HN.out]; simp, by rw [HN.out, ← HV'.out]; simp, rfl⟩
          · have HN := hid (Pl.numL_great (l := s.data.toList) (by rw [← HV'.out]; exact hgr))
            go_wp2
            go_ret2
            exact ⟨v, by rw [HN.out]; simp, by rw [HN.out]; simp, rfl⟩

/-- a number, or -1 -/
def Pl.numI (l : List UInt8) : Int := (Pl.numL l).getD (-1)

end Go.Proofs.YtcdobhdbafpkiadDoor
