/-
  Contracts: what CheckPrefixes, and what it calls, answers at every list of prefixes.
-/
import Derived.Test.YtcdobhdbafpkiadDoorPair
import Derived.Test.YtcdobhdbafpkiadDoorPfxP
import Derived.Test.YtcdobhdbafpkiadDoorCmp
import Derived.Test.YtcdobhdbafpkiadDoorQuiet
import Derived.OwnWalk
namespace Go.Proofs.YtcdobhdbafpkiadDoor
open Go.RowKit
set_option maxRecDepth 20000

set_option maxHeartbeats 1000000 in
theorem Or_any (b off : Nat) (x y : Int) (w : World) (h0 : w.cell? ⟨b, off, none⟩ = some (.int .i64 x)) (h1 : w.cell? ⟨b, off + 1, none⟩ = some (.int .i64 y)) :
    Calls Tryd.prog 60 #[.slice (some ⟨b, off, none⟩) 2 2] w fun e w' => e = .returned (.int .i64 (if x ≠ 0 then x else y)) ∧ w' = w := by
  obtain ⟨r, HR⟩ : ∃ r, Hid ((if x ≠ 0 then x else y) = r) := ⟨_, rfl⟩
  rw [HR.out]
  go_enter Tryd.func60, Tryd.ntmps60
  go_wp2
  go_loop [8] (fun i => ∃ k : Nat, k ≤ 2 ∧ i = .int .i64 k ∧ Hid (0 < k → x = 0) ∧ Hid (1 < k → y = 0)) (fun i => 2 - (intOf i).toNat)
  case atStart => exact ⟨0, by omega, rfl, hid (by omega), hid (by omega)⟩
  case round =>
    obtain ⟨k, hk, rfl, K1, K2⟩ := hrel
    have hks : k = 0 ∨ k = 1 ∨ k = 2 := by omega
    rcases hks with rfl | rfl | rfl
    · by_cases hx : x = 0
      · subst hx
        go_wp2
        go_round
        case rel => exact ⟨1, by omega, by go_num, hid (by first | (intro _; rfl) | simp), hid (by omega)⟩
        case measure => simp [intOf]
      · have hr : r = x := by rw [← HR.out, if_pos hx]
        have HX := hid hr
        have b1 : (x == 0) = false := by simpa using hx
        clear hx hr
        go_wp2
        go_ret
        exact ⟨ret_int HX.out.symm, rfl⟩
    · have hx : x = 0 := K1.out (by omega)
      have hr : r = y := by rw [← HR.out, if_neg (by simp [hx])]
      have HX := hid hr
      have HX0 := hid hx
      clear hr hx K1 K2 HR
      by_cases hy : y = 0
      · subst hy
        go_wp2
        go_round
        case rel => exact ⟨2, by omega, by go_num, hid (fun _ => HX0.out), hid (by first | (intro _; rfl) | simp)⟩
        case measure => simp [intOf]
      · have b1 : (y == 0) = false := by simpa using hy
        clear hy
        go_wp2
        go_ret
        exact ⟨ret_int HX.out.symm, rfl⟩
    · have hr : r = 0 := by rw [← HR.out, if_neg (by simp [K1.out (by omega)]), K2.out (by omega)]
      have HX := hid hr
      clear hr
      go_wp2
      go_ret
      exact ⟨ret_int HX.out.symm, rfl⟩

theorem Or_new (A : World) (n : Nat) (x y : Int) (hn : A.heap.size = n) :
    Calls Tryd.prog 60 #[.slice (some ⟨n, 0, none⟩) 2 2] (A.alloc (.cells #[.int .i64 x, .int .i64 y] 3)).drew fun e w' => e = .returned (.int .i64 (if x ≠ 0 then x else y)) ∧ w' = (A.alloc (.cells #[.int .i64 x, .int .i64 y] 3)).drew := by
  subst hn
  obtain ⟨W, hW⟩ : ∃ W, W = A.alloc (.cells #[.int .i64 x, .int .i64 y] 3) := ⟨_, rfl⟩
  have h0 : W.cell? ⟨A.heap.size, 0, none⟩ = some (.int .i64 x) := by rw [hW]; simp
  have h1 : W.cell? ⟨A.heap.size, 0 + 1, none⟩ = some (.int .i64 y) := by rw [hW]; simp
  rw [← hW]
  clear hW
  exact Or_any A.heap.size 0 x y W.drew (by rw [World.cell?_drew]; exact h0) (by rw [World.cell?_drew]; exact h1)

end Go.Proofs.YtcdobhdbafpkiadDoor
