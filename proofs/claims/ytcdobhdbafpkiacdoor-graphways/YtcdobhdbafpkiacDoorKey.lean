/-
  Contracts: what Key and KeyMay, and the small functions that they call, answer: at every text and number.
-/
import Derived.Test.YtcdobhdbafpkiacDoorProg
import Derived.Test.YtcdobhdbafpkiacDoorPlain
import Derived.WalkLawsBesides
import Derived.WalkSpells
namespace Go.Proofs.YtcdobhdbafpkiacDoor
open Go.RowKit
set_option maxRecDepth 20000

theorem hid {p : Prop} (h : p) : Hid p := h
theorem ret_bool {a b : Bool} (h : a = b) : Ending.returned (.bool a) = .returned (.bool b) := by rw [h]
theorem ret_int {k : IntKind} {a b : Int} (h : a = b) : Ending.returned (.int k a) = .returned (.int k b) := by rw [h]
theorem bcell {W w1 : World} (hb : Below W.heap.size W w1) : (∀ b o, b < W.heap.size → w1.cell? ⟨b, o, none⟩ = W.cell? ⟨b, o, none⟩) ∧ (∀ b o, b < W.heap.size → w1.frozen? ⟨b, o, none⟩ = W.frozen? ⟨b, o, none⟩) :=
  ⟨fun b o h => hb.cell (p := ⟨b, o, none⟩) h, fun b o h => hb.frozen (p := ⟨b, o, none⟩) h⟩
theorem add_none (b off k : Nat) : Addr.add ⟨b, off, none⟩ k = ⟨b, off + k, none⟩ := by
  unfold Addr.add; split <;> simp_all
theorem byte_le (c : UInt8) : (c.toNat : Int) ≤ 255 := by have := c.toNat_lt; omega

set_option maxHeartbeats 400000 in
theorem isKeyByte_any (n : Int) (w : World) (h0 : 0 ≤ n) (h1 : n ≤ 255) :
    Calls Tryd.prog 57 #[.int .u8 n] w fun e w' => e = .returned (.bool (Pl.kb n)) ∧ w' = w := by
  by_cases a1 : 97 ≤ n
  all_goals by_cases a2 : n ≤ 122
  all_goals by_cases a3 : 48 ≤ n
  all_goals by_cases a4 : n ≤ 57
  all_goals by_cases a5 : n = 58
  all_goals first | (exfalso; omega) | skip
  all_goals
    go_enter Tryd.func57, Tryd.ntmps57
    go_wp2
    go_ret
    exact ⟨ret_bool (by unfold Pl.kb; rw [Bool.eq_iff_iff]; simp <;> omega), rfl⟩

set_option maxHeartbeats 400000 in
theorem In_any (n a b : Int) (w : World) :
    Calls Tryd.prog 21 #[.int .i64 n, .int .i64 a, .int .i64 b] w fun e w' => e = .returned (.bool (decide (a ≤ n ∧ n ≤ b))) ∧ w' = w := by
  by_cases a1 : a ≤ n
  all_goals by_cases a2 : n ≤ b
  all_goals
    go_enter Tryd.func21, Tryd.ntmps21
    go_wp2
    go_ret
    exact ⟨ret_bool (by rw [Bool.eq_iff_iff]; simp; omega), rfl⟩

theorem In_yes (n a b : Int) (w : World) (h : a ≤ n ∧ n ≤ b) :
    Calls Tryd.prog 21 #[.int .i64 n, .int .i64 a, .int .i64 b] w fun e w' => e = .returned (.bool true) ∧ w' = w := by
  have := In_any n a b w
  rwa [decide_eq_true h] at this
theorem In_no (n a b : Int) (w : World) (h : n < a ∨ b < n) :
    Calls Tryd.prog 21 #[.int .i64 n, .int .i64 a, .int .i64 b] w fun e w' => e = .returned (.bool false) ∧ w' = w := by
  have := In_any n a b w
  rwa [decide_eq_false (by omega)] at this

set_option maxHeartbeats 400000 in
theorem isNode_any (n : Int) (w : World) :
    Calls Tryd.prog 15 #[.int .i64 n] w fun e w' => e = .returned (.bool (decide (0 ≤ n ∧ n ≤ 11))) ∧ w' = w := by
  by_cases a1 : 0 ≤ n
  all_goals by_cases a2 : n < 12
  all_goals
    go_enter Tryd.func15, Tryd.ntmps15
    go_wp2
    go_ret
    exact ⟨ret_bool (by rw [Bool.eq_iff_iff]; simp; omega), rfl⟩

set_option maxHeartbeats 400000 in
theorem Key_any (s : ByteArray) (w : World) (hs : s.size ≤ maxLen) :
    Calls Tryd.prog 45 #[.string s] w fun e w' => e = .returned (.bool (Pl.keyB s)) ∧ w' = w := by
  unfold maxLen at hs
  by_cases h1 : s.size < 1
  · go_enter Tryd.func45, Tryd.ntmps45
    go_wp2
    go_ret
    exact ⟨ret_bool (Pl.keyB_false_of_size s (by omega)).symm, rfl⟩
  by_cases h8 : 8 < s.size
  · go_enter Tryd.func45, Tryd.ntmps45
    go_wp2
    go_ret
    exact ⟨ret_bool (Pl.keyB_false_of_size s (by omega)).symm, rfl⟩
  go_enter Tryd.func45, Tryd.ntmps45
  go_wp2
  go_loop [14] (fun i => ∃ k : Nat, k ≤ s.size ∧ i = .int .i64 k ∧ Hid (Pl.kbs (s.data.toList.take k) = true)) (fun i => s.size - (intOf i).toNat)
  case atStart => exact ⟨0, Nat.zero_le _, rfl, rfl⟩
  case round =>
    obtain ⟨k, hk, rfl, HK⟩ := hrel
    by_cases hlt : k < s.size
    · cases hb : Pl.kb (s[k].toNat : Int)
      · have HB : Hid (Pl.kb (s[k].toNat : Int) = false) := hb
        clear hb
        go_wp2_with (go_at_call 57; refine (isKeyByte_any _ _ (by omega) (byte_le _)).mono ?_; rw [HB.out]; rintro e w' ⟨rfl, rfl⟩)
        go_ret
        exact ⟨ret_bool (Pl.keyB_false_of s k hlt HB.out).symm, rfl⟩
      · have HB : Hid (Pl.kb (s[k].toNat : Int) = true) := hb
        clear hb
        go_wp2_with (go_at_call 57; refine (isKeyByte_any _ _ (by omega) (byte_le _)).mono ?_; rw [HB.out]; rintro e w' ⟨rfl, rfl⟩)
        go_round
        case rel => exact ⟨k + 1, by omega, by go_num, by show _ = _; rw [Pl.kbs_take_succ s k hlt, HK.out, HB.out]; rfl⟩
        case measure => simp [intOf]; omega
    · obtain rfl : k = s.size := by omega
      go_wp2
      go_ret
      exact ⟨ret_bool (by rw [Pl.keyB_of_all s HK.out]; simp; omega), rfl⟩

set_option maxHeartbeats 1000000 in
theorem KeyMay_any (s : ByteArray) (w : World) (hs : s.size ≤ maxLen) :
    Calls Tryd.prog 36 #[.string s] w fun e w' => e = .returned (.bool (Pl.keyB s)) ∧ w' = w := by
  unfold maxLen at hs
  go_enter Tryd.func36, Tryd.ntmps36
  go_wp2
  go_loop [3] (fun i => ∃ k : Nat, k ≤ s.size ∧ i = .int .i64 k ∧ Hid (Pl.kbs (s.data.toList.take k) = true)) (fun i => s.size - (intOf i).toNat)
  case atStart => exact ⟨0, Nat.zero_le _, rfl, rfl⟩
  case round =>
    obtain ⟨k, hk, rfl, HK⟩ := hrel
    by_cases hlt : k < s.size
    · have hbl := byte_le s[k]
      have H1 := Pl.kbs_take_succ s k hlt
      have H2 := Pl.keyB_false_of s k hlt
      have HX : Hid ((Pl.kbs (s.data.toList.take (k + 1)) = (Pl.kbs (s.data.toList.take k) && Pl.kb (s[k].toNat : Int))) ∧ (Pl.kb (s[k].toNat : Int) = false → Pl.keyB s = false)) := ⟨H1, H2⟩
      clear H1 H2
      by_cases a1 : 97 ≤ (s[k].toNat : Int) ∧ (s[k].toNat : Int) ≤ 122
      all_goals by_cases a2 : 48 ≤ (s[k].toNat : Int) ∧ (s[k].toNat : Int) ≤ 57
      all_goals by_cases a3 : (s[k].toNat : Int) = 58
      all_goals first | (exfalso; omega) | skip
      all_goals (have HB : Hid (Pl.kb (s[k].toNat : Int) = decide ((97 ≤ (s[k].toNat : Int) ∧ (s[k].toNat : Int) ≤ 122) ∨ (48 ≤ (s[k].toNat : Int) ∧ (s[k].toNat : Int) ≤ 57) ∨ (s[k].toNat : Int) = 58)) := Pl.kb_eq _)
      all_goals (have hn : ((s[k].toNat : Int) != 58) = decide (¬ (s[k].toNat : Int) = 58) := by rw [Bool.eq_iff_iff]; simp)
      all_goals
        go_wp2_with (go_at_call 21; first | (refine (In_yes _ _ _ _ (by omega)).mono ?_; rintro e w' ⟨rfl, rfl⟩) | (refine (In_no _ _ _ _ (by omega)).mono ?_; rintro e w' ⟨rfl, rfl⟩))
      all_goals first
        | (go_ret
           exact ⟨ret_bool (HX.out.2 (HB.out.trans (decide_eq_false (by omega)))).symm, rfl⟩)
        | (go_round
           case rel => exact ⟨k + 1, by omega, by go_num, by show _ = _; rw [HX.out.1, HK.out, HB.out, decide_eq_true (by omega)]; rfl⟩
           case measure => simp [intOf]; omega)
    · obtain rfl : k = s.size := by omega
      go_wp2_with (go_at_call 21; refine (In_any _ _ _ _).mono ?_; rintro e w' ⟨rfl, rfl⟩)
      go_ret
      exact ⟨ret_bool (by rw [Pl.keyB_of_all s HK.out]; rw [Bool.eq_iff_iff]; simp; omega), rfl⟩
end Go.Proofs.YtcdobhdbafpkiacDoor
