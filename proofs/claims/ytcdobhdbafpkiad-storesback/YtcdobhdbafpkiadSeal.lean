/-
  Contracts: the seal of bytes, the program's and the document's.
-/
import Derived.Test.YtcdobhdbafpkiadBytes
namespace Go.Proofs.Ytcdobhdbafpkiad
open Go.RowKit
set_option maxRecDepth 20000

theorem ownb_lit4 (w : World) (a b c d : Int) (ha : 0 ≤ a ∧ a ≤ 255) (hb : 0 ≤ b ∧ b ≤ 255) (hc : 0 ≤ c ∧ c ≤ 255) (hd : 0 ≤ d ∧ d ≤ 255) :
    OwnB (w.alloc (.cells #[.int .u8 a, .int .u8 b, .int .u8 c, .int .u8 d] 5)) w.heap.size (.slice (some ⟨w.heap.size, 0, none⟩) 4 4) [Pl.u8 a, Pl.u8 b, Pl.u8 c, Pl.u8 d] := by
  have h := World.ownsRow_lit (base := w.heap.size) (e := 5) (size := 1) w #[.int .u8 a, .int .u8 b, .int .u8 c, .int .u8 d] 4 (Nat.le_refl _) (by unfold maxLen; omega) rfl
  exact ownb_of h (by simp [bcells, Pl.u8_val ha.1 ha.2, Pl.u8_val hb.1 hb.2, Pl.u8_val hc.1 hc.2, Pl.u8_val hd.1 hd.2])

theorem ownb_lit1 (w : World) (a : Int) (ha : 0 ≤ a ∧ a ≤ 255) :
    OwnB (w.alloc (.cells #[.int .u8 a] 5)) w.heap.size (.slice (some ⟨w.heap.size, 0, none⟩) 1 1) [Pl.u8 a] := by
  have h := World.ownsRow_lit (base := w.heap.size) (e := 5) (size := 1) w #[.int .u8 a] 1 (Nat.le_refl _) (by unfold maxLen; omega) rfl
  exact ownb_of h (by simp [bcells, Pl.u8_val ha.1 ha.2])
theorem ownb_lit2 (w : World) (a b : Int) (ha : 0 ≤ a ∧ a ≤ 255) (hb : 0 ≤ b ∧ b ≤ 255) :
    OwnB (w.alloc (.cells #[.int .u8 a, .int .u8 b] 5)) w.heap.size (.slice (some ⟨w.heap.size, 0, none⟩) 2 2) [Pl.u8 a, Pl.u8 b] := by
  have h := World.ownsRow_lit (base := w.heap.size) (e := 5) (size := 1) w #[.int .u8 a, .int .u8 b] 2 (Nat.le_refl _) (by unfold maxLen; omega) rfl
  exact ownb_of h (by simp [bcells, Pl.u8_val ha.1 ha.2, Pl.u8_val hb.1 hb.2])

theorem sxy_drop (bs : List UInt8) (k : Nat) (x y : Int) (h : k < bs.length) : Pl.sxy (bs.drop k) x y = Pl.sxy (bs.drop (k + 1)) ((x + ((bs.getD k 0).toNat : Int)) % 65521) ((y + (x + ((bs.getD k 0).toNat : Int)) % 65521) % 65521) := by
  rw [List.drop_eq_getElem_cons h]
  simp [Pl.sxy, List.getD, h]

set_option maxHeartbeats 400000 in
theorem seal_any (a : Option Addr) (len cap : Nat) (bs : List UInt8) (w : World) (h : IsBytes w a len cap bs) :
    Calls Try.prog 33 #[.slice a len cap] w fun e w' => ∃ v, e = .returned v ∧ OwnB w' w.heap.size v (Pl.sealL bs) ∧ Below w.heap.size w w' := by
  obtain ⟨hl, hc, hm, hrow⟩ := h
  unfold maxLen at hm
  have HR := hid hrow
  clear hrow
  go_enter Try.func33, Try.ntmps33
  go_wp2
  go_loop [3, 4, 9] (fun p q i => ∃ (k : Nat) (x y : Int), k ≤ len ∧ i = .int .i64 k ∧ p = .int .i64 x ∧ q = .int .i64 y ∧ 0 ≤ x ∧ x < 65521 ∧ 0 ≤ y ∧ y < 65521 ∧ Hid (Pl.sxy bs 1 0 = Pl.sxy (bs.drop k) x y)) (fun _ _ i => len - (intOf i).toNat)
  case atStart => exact ⟨0, 1, 0, Nat.zero_le _, rfl, rfl, rfl, by omega, by omega, by omega, by omega, rfl⟩
  case round =>
    obtain ⟨k, x, y, hk, rfl, rfl, rfl, hx0, hx1, hy0, hy1, HS⟩ := hrel
    by_cases hlt : k < len
    · obtain ⟨b, off, rfl, hb, hr⟩ : ∃ b off, a = some ⟨b, off, none⟩ ∧ b < w.heap.size ∧ ∀ j u, (bcells bs)[j]? = some u → w.cell? ⟨b, off + j, none⟩ = some u := by
        rcases HR.out with h | h
        · rw [h] at hl; simp at hl; omega
        · exact h
      have q0 := hr k _ (bcell_at (by omega))
      clear hr
      have HN := hid (sxy_drop bs k x y (by omega))
      have hbl := byte_le (bs.getD k 0)
      generalize (bs.getD k 0).toNat = c at *
      have hlt' : (k : Int) < (len : Int) := by omega
      go_wp2
      go_round
      case rel => exact ⟨k + 1, (x + (c : Int)) % 65521, (y + (x + (c : Int)) % 65521) % 65521, by omega, by go_num, by first | rfl | go_num, by first | rfl | go_num, by omega, by omega, by omega, by omega, by show _ = _; rw [HS.out, HN.out]⟩
      case measure => simp [intOf]; omega
    · obtain rfl : k = len := by omega
      have HF : Hid (Pl.sealL bs = [Pl.u8 (y / 256), Pl.u8 (y % 256), Pl.u8 (x / 256), Pl.u8 (x % 256)]) := by
        show _ = _
        unfold Pl.sealL; rw [HS.out, List.drop_eq_nil_of_le (by omega)]; rfl
      go_wp2
      go_ret
      exact ⟨_, rfl, by rw [HF.out]; exact ownb_lit4 w _ _ _ _ (by omega) (by omega) (by omega) (by omega), (Below.refl _ _).alloc (Nat.le_refl _) _⟩

end Go.Proofs.Ytcdobhdbafpkiad
