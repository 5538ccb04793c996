/-
  Contracts: what Key and KeyMay, and the small functions that they call, answer: at every text and number.
-/
import Derived.Test.YtcdobhdbafpkiadDoorProg
import Derived.Test.YtcdobhdbafpkiadDoorPlain
import Derived.WalkLawsBesides
import Derived.WalkSpells
namespace Go.Proofs.YtcdobhdbafpkiadDoor
open Go.RowKit
set_option maxRecDepth 20000

theorem hid {p : Prop} (h : p) : Hid p := h
theorem ret_bool {a b : Bool} (h : a = b) : Ending.returned (.bool a) = .returned (.bool b) := by rw [h]
theorem ret_int {k : IntKind} {a b : Int} (h : a = b) : Ending.returned (.int k a) = .returned (.int k b) := by rw [h]
theorem bcell {W w1 : World} (hb : Below W.heap.size W w1) : (∀ b o, b < W.heap.size → w1.cell? ⟨b, o, none⟩ = W.cell? ⟨b, o, none⟩) ∧ (∀ b o, b < W.heap.size → w1.frozen? ⟨b, o, none⟩ = W.frozen? ⟨b, o, none⟩) :=
  ⟨fun b o h => hb.cell (p := ⟨b, o, none⟩) h, fun b o h => hb.frozen (p := ⟨b, o, none⟩) h⟩
theorem add_none (b off k : Nat) : Addr.add ⟨b, off, none⟩ k = ⟨b, off + k, none⟩ := by
  unfold Addr.add; split <;> simp_all
theorem byte_le (c : UInt8) : (c.toNat : Int) ≤ 255 := by have := c.toNat_lt; omega

set_option maxHeartbeats 400000 in
theorem isKeyByte_any (n : Int) (w : World) (h0 : 0 ≤ n) (h1 : n ≤ 255) :
    Calls Tryd.prog 76 #[.int .u8 n] w fun e w' => e = .returned (.bool (Pl.kb n)) ∧ w' = w := by
  by_cases a1 : 97 ≤ n
  all_goals by_cases a2 : n ≤ 122
  all_goals by_cases a3 : 48 ≤ n
  all_goals by_cases a4 : n ≤ 57
  all_goals by_cases a5 : n = 58
  all_goals first | (exfalso; omega) | skip
  all_goals
    go_enter Tryd.func76, Tryd.ntmps76
    go_wp2
    go_ret
    exact ⟨ret_bool (by unfold Pl.kb; rw [Bool.eq_iff_iff]; simp <;> omega), rfl⟩

set_option maxHeartbeats 400000 in
theorem isNode_any (n : Int) (w : World) :
    Calls Tryd.prog 27 #[.int .i64 n] w fun e w' => e = .returned (.bool (decide (0 ≤ n ∧ n ≤ 11))) ∧ w' = w := by
  by_cases a1 : 0 ≤ n
  all_goals by_cases a2 : n < 12
  all_goals
    go_enter Tryd.func27, Tryd.ntmps27
    go_wp2
    go_ret
    exact ⟨ret_bool (by rw [Bool.eq_iff_iff]; simp; omega), rfl⟩

set_option maxHeartbeats 400000 in
theorem Key_any (s : ByteArray) (w : World) (hs : s.size ≤ maxLen) :
    Calls Tryd.prog 66 #[.string s] w fun e w' => e = .returned (.bool (Pl.keyB s)) ∧ w' = w := by
  unfold maxLen at hs
  by_cases h1 : s.size < 1
  · go_enter Tryd.func66, Tryd.ntmps66
    go_wp2
    go_ret
    exact ⟨ret_bool (Pl.keyB_false_of_size s (by omega)).symm, rfl⟩
  by_cases h8 : 8 < s.size
  · go_enter Tryd.func66, Tryd.ntmps66
    go_wp2
    go_ret
    exact ⟨ret_bool (Pl.keyB_false_of_size s (by omega)).symm, rfl⟩
  go_enter Tryd.func66, Tryd.ntmps66
  go_wp2
  go_loop [14] (fun i => ∃ k : Nat, k ≤ s.size ∧ i = .int .i64 k ∧ Hid (Pl.kbs (s.data.toList.take k) = true)) (fun i => s.size - (intOf i).toNat)
  case atStart => exact ⟨0, Nat.zero_le _, rfl, rfl⟩
  case round =>
    obtain ⟨k, hk, rfl, HK⟩ := hrel
    by_cases hlt : k < s.size
    · cases hb : Pl.kb (s[k].toNat : Int)
      · have HB : Hid (Pl.kb (s[k].toNat : Int) = false) := hb
        clear hb
        go_wp2_with (go_at_call 76; refine (isKeyByte_any _ _ (by omega) (byte_le _)).mono ?_; rw [HB.out]; rintro e w' ⟨rfl, rfl⟩)
        go_ret
        exact ⟨ret_bool (Pl.keyB_false_of s k hlt HB.out).symm, rfl⟩
      · have HB : Hid (Pl.kb (s[k].toNat : Int) = true) := hb
        clear hb
        go_wp2_with (go_at_call 76; refine (isKeyByte_any _ _ (by omega) (byte_le _)).mono ?_; rw [HB.out]; rintro e w' ⟨rfl, rfl⟩)
        go_round
        case rel => exact ⟨k + 1, by omega, by go_num, by show _ = _; rw [Pl.kbs_take_succ s k hlt, HK.out, HB.out]; rfl⟩
        case measure => simp [intOf]; omega
    · obtain rfl : k = s.size := by omega
      go_wp2
      go_ret
      exact ⟨ret_bool (by rw [Pl.keyB_of_all s HK.out]; simp; omega), rfl⟩

end Go.Proofs.YtcdobhdbafpkiadDoor
