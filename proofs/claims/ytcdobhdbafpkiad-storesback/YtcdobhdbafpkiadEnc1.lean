/-
  Contracts: texts, numbers and seals as bytes: the program's functions and the document's.
-/
import Derived.Test.YtcdobhdbafpkiadBytes
namespace Go.Proofs.Ytcdobhdbafpkiad
open Go.RowKit
set_option maxRecDepth 20000

set_option maxHeartbeats 400000 in
theorem appendText_any (base : Nat) (v : Value) (bs : List UInt8) (s : ByteArray) (w : World) (h : OwnB w base v bs) (hb : base ≤ w.heap.size) (hs : s.size ≤ 255) (hl : bs.length ≤ 1000000) :
    Calls Try.prog 31 #[v, .string s] w fun e w' => ∃ v', e = .returned v' ∧ OwnB w' base v' (bs ++ Pl.encT s) ∧ Keep base w w' := by
  have HO := hid h
  clear h
  go_enter Try.func31, Try.ntmps31
  go_wp2_with (first
    | (at_builtin; refine append_b1 rfl (.tmp 5) (.tmp 9) rfl base v bs (s.size : Int) rfl HO.out hb rfl (by omega) (by omega) (by omega) ?_; intro v1 w1 ho1 hk1; have HO1 := hid ho1; clear ho1; have hz1 := hk1.1.size)
    | (at_builtin; refine append_str rfl (.tmp 11) (.tmp 12) rfl base v1 (bs ++ [Pl.u8 (s.size : Int)]) s rfl HO1.out (by omega) rfl (by simp; omega) ?_; intro v2 w2 ho2 hk2))
  go_ret
  exact ⟨_, rfl, by have e := ho2; rw [List.append_assoc] at e; exact e, hk1.trans hk2⟩

set_option maxHeartbeats 400000 in
theorem appendVersion_any (base : Nat) (v : Value) (bs : List UInt8) (n : Int) (w : World) (h : OwnB w base v bs) (hb : base ≤ w.heap.size) (h0 : 0 ≤ n) (h1 : n ≤ 1099511627776) (hl : bs.length ≤ 1000000) :
    Calls Try.prog 32 #[v, .int .i64 n] w fun e w' => ∃ v', e = .returned v' ∧ OwnB w' base v' (bs ++ Pl.encV 6 n) ∧ Keep base w w' := by
  have HO := hid h
  clear h
  go_enter Try.func32, Try.ntmps32
  go_wp2
  go_loopw [0, 1] (fun vv x wr => ∃ (f : Nat) (c : List UInt8) (m : Int) (u : Value), u = vv ∧ x = .int .i64 m ∧ f ≤ 6 ∧ 0 ≤ m ∧ m ≤ 1099511627776 ∧ Hid (m < Pl.lim f) ∧ Hid (OwnB wr base u c) ∧ c.length ≤ 1000000 + 6 - f ∧ Hid (bs ++ Pl.encV 6 n = c ++ Pl.encV f m) ∧ Keep base w wr) (fun _ x _ => (intOf x).toNat)
  case atStart => exact ⟨6, bs, n, v, rfl, rfl, by omega, h0, h1, by show _ < _; simp only [Pl.lim]; omega, HO, by omega, rfl, Keep.refl _ _⟩
  case round =>
    obtain ⟨f, c, m, u, rfl, rfl, hf, hm0, hm1, HL, HC, hc, HE, hk⟩ := hrel
    have hz := hk.1.size
    by_cases hlt : m < 128
    · have HF : Hid (bs ++ Pl.encV 6 n = c ++ [Pl.u8 m]) := by show _ = _; rw [HE.out, Pl.encV_small hlt]
      go_wp2_with (at_builtin; refine append_b1 rfl (.tmp 16) (.tmp 19) rfl base u c m rfl HC.out (by omega) rfl (by omega) (by omega) (by omega) ?_; intro v1 w1 ho1 hk1)
      go_ret
      exact ⟨_, rfl, by rw [HF.out]; exact ho1, hk.trans hk1⟩
    · obtain ⟨g, rfl⟩ : ∃ g, f = g + 1 := by
        cases f with
        | zero => exact absurd HL.out (by simp only [Pl.lim]; omega)
        | succ g => exact ⟨g, rfl⟩
      have HF : Hid (bs ++ Pl.encV 6 n = (c ++ [Pl.u8 (m % 128 + 128)]) ++ Pl.encV g (m / 128)) := by
        show _ = _
        rw [HE.out, Pl.encV_great hlt]; simp
      have HLG : Hid (m / 128 < Pl.lim g) := by
        have := HL.out
        simp only [Pl.lim] at this
        show _ < _
        omega
      go_wp2_with (at_builtin; refine append_b1 rfl (.tmp 7) (.tmp 12) rfl base u c (m % 128 + 128) rfl HC.out (by omega) rfl (by omega) (by omega) (by omega) ?_; intro v1 w1 ho1 hk1)
      go_roundw
      case rel => exact ⟨g, c ++ [Pl.u8 (m % 128 + 128)], m / 128, _, rfl, by go_num, by omega, by omega, by omega, HLG, ho1, by simp; omega, HF, hk.trans hk1⟩
      case measure => simp [intOf]; omega
end Go.Proofs.Ytcdobhdbafpkiad
