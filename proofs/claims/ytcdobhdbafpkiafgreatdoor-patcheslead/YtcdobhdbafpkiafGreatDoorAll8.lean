/-
  Contracts and facts that the proof rests on, put together out of several texts.
-/
import Derived.Test.YtcdobhdbafpkiafGreatDoorAll7
import Derived.Test.YtcdobhdbafpkiafGreatDoorAll1
import Derived.Test.YtcdobhdbafpkiafGreatDoorAll5
import Derived.Test.YtcdobhdbafpkiafGreatDoorAll3
import Derived.WalkKit
/-
  Contracts: texts, numbers and seals as bytes: the program's functions and the document's.
-/
namespace Go.Proofs.YtcdobhdbafpkiafGreatDoor
open Go.RowKit
set_option maxRecDepth 20000

set_option maxHeartbeats 400000 in
theorem appendText_any (base : Nat) (v : Value) (bs : List UInt8) (s : ByteArray) (w : World) (h : OwnB w base v bs) (hb : base ≤ w.heap.size) (hs : s.size ≤ 255) (hl : bs.length ≤ 1000000) :
    Calls Tryz.prog 54 #[v, .string s] w fun e w' => ∃ v', e = .returned v' ∧ OwnB w' base v' (bs ++ Pl.encT s) ∧ Keep base w w' := by
  have HO := hid h
  clear h
  go_enter Tryz.func54, Tryz.ntmps54
  go_wp2_with (first
    | (at_builtin; refine append_b1 rfl (.tmp 5) (.tmp 9) rfl base v bs (s.size : Int) rfl HO.out hb rfl (by omega) (by omega) (by omega) ?_; intro v1 w1 ho1 hk1; have HO1 := hid ho1; clear ho1; have hz1 := hk1.1.size)
    | (at_builtin; refine append_str rfl (.tmp 11) (.tmp 12) rfl base v1 (bs ++ [Pl.u8 (s.size : Int)]) s rfl HO1.out (by omega) rfl (by simp; omega) ?_; intro v2 w2 ho2 hk2))
  go_ret
  exact ⟨_, rfl, by have e := ho2; rw [List.append_assoc] at e; exact e, hk1.trans hk2⟩

set_option maxHeartbeats 400000 in
theorem appendVersion_any (base : Nat) (v : Value) (bs : List UInt8) (n : Int) (w : World) (h : OwnB w base v bs) (hb : base ≤ w.heap.size) (h0 : 0 ≤ n) (h1 : n ≤ 1099511627776) (hl : bs.length ≤ 1000000) :
    Calls Tryz.prog 55 #[v, .int .i64 n] w fun e w' => ∃ v', e = .returned v' ∧ OwnB w' base v' (bs ++ Pl.encV 6 n) ∧ Keep base w w' := by
  have HO := hid h
  clear h
  go_enter Tryz.func55, Tryz.ntmps55
  go_wp2
  go_loopw [0, 1] (fun vv x wr => ∃ (f : Nat) (c : List UInt8) (m : Int) (u : Value), u = vv ∧ x = .int .i64 m ∧ f ≤ 6 ∧ 0 ≤ m ∧ m ≤ 1099511627776 ∧ Hid (m < Pl.lim f) ∧ Hid (OwnB wr base u c) ∧ c.length ≤ 1000000 + 6 - f ∧ Hid (bs ++ Pl.encV 6 n = c ++ Pl.encV f m) ∧ Keep base w wr) (fun _ x _ => (intOf x).toNat)
  case atStart => exact ⟨6, bs, n, v, rfl, rfl, by omega, h0, h1, by show _ < _; simp only [Pl.lim]; omega, HO, by omega, rfl, Keep.refl _ _⟩
  case round =>
    obtain ⟨f, c, m, u, rfl, rfl, hf, hm0, hm1, HL, HC, hc, HE, hk⟩ := hrel
    have hz := hk.1.size
    by_cases hlt : m < 128
    · have HF : Hid (bs ++ Pl.encV 6 n = c ++ [Pl.u8 m]) := by show _ = _; rw [HE.out, Pl.encV_small hlt]
      go_wp2_with (at_builtin; refine append_b1 rfl (.tmp 16) (.tmp 19) rfl base u c m rfl HC.out (by omega) rfl (by omega) (by omega) (by omega) ?_; intro v1 w1 ho1 hk1)
      go_ret
      exact ⟨_, rfl, by rw [HF.out]; exact ho1, hk.trans hk1⟩
    · obtain ⟨g, rfl⟩ : ∃ g, f = g + 1 := by
        cases f with
        | zero => exact absurd HL.out (by simp only [Pl.lim]; omega)
        | succ g => exact ⟨g, rfl⟩
      have HF : Hid (bs ++ Pl.encV 6 n = (c ++ [Pl.u8 (m % 128 + 128)]) ++ Pl.encV g (m / 128)) := by
        show _ = _
        rw [HE.out, Pl.encV_great hlt]; simp
      have HLG : Hid (m / 128 < Pl.lim g) := by
        have := HL.out
        simp only [Pl.lim] at this
        show _ < _
        omega
      go_wp2_with (at_builtin; refine append_b1 rfl (.tmp 7) (.tmp 12) rfl base u c (m % 128 + 128) rfl HC.out (by omega) rfl (by omega) (by omega) (by omega) ?_; intro v1 w1 ho1 hk1)
      go_roundw
      case rel => exact ⟨g, c ++ [Pl.u8 (m % 128 + 128)], m / 128, _, rfl, by go_num, by omega, by omega, by omega, HLG, ho1, by simp; omega, HF, hk.trans hk1⟩
      case measure => simp [intOf]; omega
end Go.Proofs.YtcdobhdbafpkiafGreatDoor
/-
  Contracts: the seal of bytes, the program's and the document's.
-/
namespace Go.Proofs.YtcdobhdbafpkiafGreatDoor
open Go.RowKit
set_option maxRecDepth 20000

theorem ownb_lit4 (w : World) (a b c d : Int) (ha : 0 ≤ a ∧ a ≤ 255) (hb : 0 ≤ b ∧ b ≤ 255) (hc : 0 ≤ c ∧ c ≤ 255) (hd : 0 ≤ d ∧ d ≤ 255) :
    OwnB (w.alloc (.cells #[.int .u8 a, .int .u8 b, .int .u8 c, .int .u8 d] 5)) w.heap.size (.slice (some ⟨w.heap.size, 0, none⟩) 4 4) [Pl.u8 a, Pl.u8 b, Pl.u8 c, Pl.u8 d] := by
  have h := World.ownsRow_lit (base := w.heap.size) (e := 5) (size := 1) w #[.int .u8 a, .int .u8 b, .int .u8 c, .int .u8 d] 4 (Nat.le_refl _) (by unfold maxLen; omega) rfl
  exact ownb_of h (by simp [bcells, Pl.u8_val ha.1 ha.2, Pl.u8_val hb.1 hb.2, Pl.u8_val hc.1 hc.2, Pl.u8_val hd.1 hd.2])

theorem ownb_lit1 (w : World) (a : Int) (ha : 0 ≤ a ∧ a ≤ 255) :
    OwnB (w.alloc (.cells #[.int .u8 a] 5)) w.heap.size (.slice (some ⟨w.heap.size, 0, none⟩) 1 1) [Pl.u8 a] := by
  have h := World.ownsRow_lit (base := w.heap.size) (e := 5) (size := 1) w #[.int .u8 a] 1 (Nat.le_refl _) (by unfold maxLen; omega) rfl
  exact ownb_of h (by simp [bcells, Pl.u8_val ha.1 ha.2])
theorem ownb_lit2 (w : World) (a b : Int) (ha : 0 ≤ a ∧ a ≤ 255) (hb : 0 ≤ b ∧ b ≤ 255) :
    OwnB (w.alloc (.cells #[.int .u8 a, .int .u8 b] 5)) w.heap.size (.slice (some ⟨w.heap.size, 0, none⟩) 2 2) [Pl.u8 a, Pl.u8 b] := by
  have h := World.ownsRow_lit (base := w.heap.size) (e := 5) (size := 1) w #[.int .u8 a, .int .u8 b] 2 (Nat.le_refl _) (by unfold maxLen; omega) rfl
  exact ownb_of h (by simp [bcells, Pl.u8_val ha.1 ha.2, Pl.u8_val hb.1 hb.2])

theorem sxy_drop (bs : List UInt8) (k : Nat) (x y : Int) (h : k < bs.length) : Pl.sxy (bs.drop k) x y = Pl.sxy (bs.drop (k + 1)) ((x + ((bs.getD k 0).toNat : Int)) % 65521) ((y + (x + ((bs.getD k 0).toNat : Int)) % 65521) % 65521) := by
  rw [List.drop_eq_getElem_cons h]
  simp [Pl.sxy, List.getD, h]

set_option maxHeartbeats 400000 in
theorem seal_any (a : Option Addr) (len cap : Nat) (bs : List UInt8) (w : World) (h : IsBytes w a len cap bs) :
    Calls Tryz.prog 56 #[.slice a len cap] w fun e w' => ∃ v, e = .returned v ∧ OwnB w' w.heap.size v (Pl.sealL bs) ∧ Below w.heap.size w w' := by
  obtain ⟨hl, hc, hm, hrow⟩ := h
  unfold maxLen at hm
  have HR := hid hrow
  clear hrow
  go_enter Tryz.func56, Tryz.ntmps56
  go_wp2
  go_loop [3, 4, 9] (fun p q i => ∃ (k : Nat) (x y : Int), k ≤ len ∧ i = .int .i64 k ∧ p = .int .i64 x ∧ q = .int .i64 y ∧ 0 ≤ x ∧ x < 65521 ∧ 0 ≤ y ∧ y < 65521 ∧ Hid (Pl.sxy bs 1 0 = Pl.sxy (bs.drop k) x y)) (fun _ _ i => len - (intOf i).toNat)
  case atStart => exact ⟨0, 1, 0, Nat.zero_le _, rfl, rfl, rfl, by omega, by omega, by omega, by omega, rfl⟩
  case round =>
    obtain ⟨k, x, y, hk, rfl, rfl, rfl, hx0, hx1, hy0, hy1, HS⟩ := hrel
    by_cases hlt : k < len
    · obtain ⟨b, off, rfl, hb, hr⟩ : ∃ b off, a = some ⟨b, off, none⟩ ∧ b < w.heap.size ∧ ∀ j u, (bcells bs)[j]? = some u → w.cell? ⟨b, off + j, none⟩ = some u := by
        rcases HR.out with h | h
        · rw [h] at hl; simp at hl; omega
        · exact h
      have q0 := hr k _ (bcell_at (by omega))
      clear hr
      have HN := hid (sxy_drop bs k x y (by omega))
      have hbl := byte_le (bs.getD k 0)
      generalize (bs.getD k 0).toNat = c at *
      have hlt' : (k : Int) < (len : Int) := by omega
      go_wp2
      go_round
      case rel => exact ⟨k + 1, (x + (c : Int)) % 65521, (y + (x + (c : Int)) % 65521) % 65521, by omega, by go_num, by first | rfl | go_num, by first | rfl | go_num, by omega, by omega, by omega, by omega, by show _ = _; rw [HS.out, HN.out]⟩
      case measure => simp [intOf]; omega
    · obtain rfl : k = len := by omega
      have HF : Hid (Pl.sealL bs = [Pl.u8 (y / 256), Pl.u8 (y % 256), Pl.u8 (x / 256), Pl.u8 (x % 256)]) := by
        show _ = _
        unfold Pl.sealL; rw [HS.out, List.drop_eq_nil_of_le (by omega)]; rfl
      go_wp2
      go_ret
      exact ⟨_, rfl, by rw [HF.out]; exact ownb_lit4 w _ _ _ _ (by omega) (by omega) (by omega) (by omega), (Below.refl _ _).alloc (Nat.le_refl _) _⟩

set_option maxHeartbeats 400000 in
theorem SealOf_any (a : Option Addr) (len cap : Nat) (bs : List UInt8) (w : World) (h : IsBytes w a len cap bs) :
    Calls Tryz.prog 128 #[.slice a len cap] w fun e w' => ∃ v, e = .returned v ∧ OwnB w' w.heap.size v (Pl.sealL bs) ∧ Below w.heap.size w w' := by
  obtain ⟨hl, hc, hm, hrow⟩ := h
  unfold maxLen at hm
  have HR := hid hrow
  clear hrow
  go_enter Tryz.func128, Tryz.ntmps128
  go_wp2
  go_loop [3, 4, 5] (fun p q i => ∃ (k : Nat) (x y : Int), k ≤ len ∧ i = .int .i64 k ∧ p = .int .i64 x ∧ q = .int .i64 y ∧ 0 ≤ x ∧ x < 65521 ∧ 0 ≤ y ∧ y < 65521 ∧ Hid (Pl.sxy bs 1 0 = Pl.sxy (bs.drop k) x y)) (fun _ _ i => len - (intOf i).toNat)
  case atStart => exact ⟨0, 1, 0, Nat.zero_le _, rfl, rfl, rfl, by omega, by omega, by omega, by omega, rfl⟩
  case round =>
    obtain ⟨k, x, y, hk, rfl, rfl, rfl, hx0, hx1, hy0, hy1, HS⟩ := hrel
    by_cases hlt : k < len
    · obtain ⟨b, off, rfl, hb, hr⟩ : ∃ b off, a = some ⟨b, off, none⟩ ∧ b < w.heap.size ∧ ∀ j u, (bcells bs)[j]? = some u → w.cell? ⟨b, off + j, none⟩ = some u := by
        rcases HR.out with h | h
        · rw [h] at hl; simp at hl; omega
        · exact h
      have q0 := hr k _ (bcell_at (by omega))
      clear hr
      have HN := hid (sxy_drop bs k x y (by omega))
      have hbl := byte_le (bs.getD k 0)
      generalize (bs.getD k 0).toNat = c at *
      have hlt' : (k : Int) < (len : Int) := by omega
      go_wp2
      go_round
      case rel => exact ⟨k + 1, (x + (c : Int)) % 65521, (y + (x + (c : Int)) % 65521) % 65521, by omega, by go_num, by first | rfl | go_num, by first | rfl | go_num | (congr 1; omega), by omega, by omega, by omega, by omega, by show _ = _; rw [HS.out, HN.out]⟩
      case measure => simp [intOf]; omega
    · obtain rfl : k = len := by omega
      have HF : Hid (Pl.sealL bs = [Pl.u8 (y / 256), Pl.u8 (y % 256), Pl.u8 (x / 256), Pl.u8 (x % 256)]) := by
        show _ = _
        unfold Pl.sealL; rw [HS.out, List.drop_eq_nil_of_le (by omega)]; rfl
      go_wp2
      go_ret
      exact ⟨_, rfl, by rw [HF.out]; exact ownb_lit4 w _ _ _ _ (by omega) (by omega) (by omega) (by omega), (Below.refl _ _).alloc (Nat.le_refl _) _⟩


set_option maxHeartbeats 400000 in
theorem sevens_any : ∀ (f : Nat) (n : Int) (w : World), 0 ≤ n → n < Pl.lim f → n ≤ 1099511627776 → f ≤ 6 →
    Calls Tryz.prog 127 #[.int .i64 n] w fun e w' => ∃ v, e = .returned v ∧ OwnB w' w.heap.size v (Pl.encV f n) ∧ Below w.heap.size w w' := by
  intro f
  induction f with
  | zero =>
    intro n w h0 h1 h2 _
    simp only [Pl.lim] at h1
    have hlt : n < 128 := by omega
    have HF : Hid (Pl.encV 0 n = [Pl.u8 n]) := Pl.encV_small hlt
    go_enter Tryz.func127, Tryz.ntmps127
    go_wp2
    go_ret
    exact ⟨_, rfl, by rw [HF.out]; exact ownb_lit1 w _ (by omega), (Below.refl _ _).alloc (Nat.le_refl _) _⟩
  | succ g ih =>
    intro n w h0 h1 h2 h6
    have IH := hid ih
    clear ih
    by_cases hlt : n < 128
    · have HF : Hid (Pl.encV (g + 1) n = [Pl.u8 n]) := Pl.encV_small hlt
      clear h1
      go_enter Tryz.func127, Tryz.ntmps127
      go_wp2
      go_ret
      exact ⟨_, rfl, by rw [HF.out]; exact ownb_lit1 w _ (by omega), (Below.refl _ _).alloc (Nat.le_refl _) _⟩
    · have HF : Hid (Pl.encV (g + 1) n = [Pl.u8 (n % 128 + 128)] ++ Pl.encV g (n / 128)) := by show _ = _; rw [Pl.encV_great hlt]; rfl
      have H1 : Hid (n / 128 < Pl.lim g) := by simp only [Pl.lim] at h1; show _ < _; omega
      have HLE := Pl.encV_len g (n / 128)
      clear h1
      go_enter Tryz.func127, Tryz.ntmps127
      go_wp2_with fail
      refine (IH.out (n / 128) _ (by omega) H1.out (by omega) (by omega)).mono ?_
      rintro e w1 ⟨v1, rfl, ho1, hb1⟩
      obtain ⟨a1, c1, rfl, hI1, hn1, _⟩ := ho1.shape
      have HI := hid hI1
      have HN := hid hn1
      have ho : OwnB w1 w.heap.size (.slice (some ⟨w.heap.size, 0, none⟩) 1 1) [Pl.u8 (n % 128 + 128)] := by
        rw [show n % 128 + 128 = 128 + n % 128 by omega]
        exact (ownb_lit1 w (128 + n % 128) (by omega)).below hb1
      have HO := hid ho
      have hz := hb1.size
      simp at hz
      clear ho hI1 hn1 ho1
      go_wp2_with (at_builtin; refine append_bs rfl (.tmp 12) (.tmp 15) rfl w.heap.size _ [Pl.u8 (n % 128 + 128)] _ _ _ (Pl.encV g (n / 128)) rfl HO.out (by omega) rfl HI.out HN.out (by simp; omega) ?_; intro v2 w2 ho2 hk2)
      go_ret
      exact ⟨_, rfl, by rw [HF.out]; exact ho2, ((Below.refl _ _).alloc (Nat.le_refl _) _).trans ((hb1.mono (by simp)).trans hk2.1)⟩
end Go.Proofs.YtcdobhdbafpkiafGreatDoor
/-
  Contract: what StoreFault, the document's answer to Check, answers at every list of entries.
-/
namespace Go.Proofs.YtcdobhdbafpkiafGreatDoor
open Go.RowKit
set_option maxRecDepth 20000

set_option maxHeartbeats 1000000 in
theorem StoreFault_any (a : Option Addr) (len cap : Nat) (es : List Pl.Ent) (w : World) (h : IsEnts w a len cap es) :
    Calls Tryz.prog 126 #[.slice a len cap] w fun e w' => e = .returned (.int .i64 (Pl.fault es)) ∧ Below w.heap.size w w' := by
  obtain ⟨hl, hc, hm, hok, hrow⟩ := h
  unfold maxLen at hm
  by_cases h60 : 60 < len
  · go_enter Tryz.func126, Tryz.ntmps126
    go_wp2
    go_ret
    exact ⟨ret_int (Pl.fault_size (by omega)).symm, Below.refl _ _⟩
  go_enter Tryz.func126, Tryz.ntmps126
  go_wp2
  go_loopw [3] (fun i wr => ∃ k : Nat, k ≤ len ∧ i = .int .i64 k ∧ Hid (Pl.fault es = Pl.faultN es (len - k) k) ∧ Below w.heap.size w wr) (fun i _ => len - (intOf i).toNat)
  case atStart => exact ⟨0, Nat.zero_le _, rfl, by show _ = _; rw [Pl.fault_from (by omega), hl]; rfl, Below.refl _ _⟩
  case round =>
    obtain ⟨k, hk, rfl, HF, hb⟩ := hrel
    by_cases hlt : k < len
    · obtain ⟨b, off, rfl, hbw, hr⟩ : ∃ b off, a = some ⟨b, off, none⟩ ∧ b < w.heap.size ∧ RowAt w b off es := by
        rcases hrow with rfl | h
        · simp at hl; omega
        · exact h
      clear hrow
      have hr' := hr.below hbw hb
      obtain ⟨c0, c1, c2, c3⟩ := hr' k (by omega)
      have hoke := hok _ (Pl.ent_mem es k (by omega))
      obtain ⟨hok0, _, _, hok3⟩ := hoke
      have hz := hb.size
      obtain ⟨n, hn⟩ : ∃ n, len - k = n + 1 := ⟨len - k - 1, by omega⟩
      have HN : Hid (len - k = n + 1) := hn
      clear hn
      obtain ⟨kk, HK⟩ : ∃ kk, Hid (Pl.keyB (Pl.ent es k).key = kk) := ⟨_, rfl⟩
      obtain ⟨vv, HV⟩ : ∃ vv, Hid (decide (1 ≤ (Pl.ent es k).ver ∧ (Pl.ent es k).ver ≤ 1099511627776) = vv) := ⟨_, rfl⟩
      obtain ⟨oo, HO⟩ : ∃ oo, Hid (decide (0 ≤ (Pl.ent es k).org ∧ (Pl.ent es k).org ≤ 11) = oo) := ⟨_, rfl⟩
      obtain ⟨xx, HX⟩ : ∃ xx, Hid (decide ((Pl.ent es k).val.size ≤ 120) = xx) := ⟨_, rfl⟩
      have HM : Hid ((Pl.ent es k).may = (kk && vv && oo && xx)) := by
        show _ = _
        unfold Pl.Ent.may Pl.entB
        rw [HK.out, HV.out, HO.out, HX.out]
      have hx120 : ((120 : Int) < ((Pl.ent es k).val.size : Int)) = (xx = false) := by
        have := HX.out
        cases xx
        · simp at this ⊢; omega
        · simp at this ⊢; omega
      by_cases hall : (kk && vv && oo && xx) = true
      · simp only [Bool.and_eq_true] at hall
        obtain ⟨⟨⟨rfl, rfl⟩, rfl⟩, rfl⟩ := hall
        have HM' : Hid ((Pl.ent es k).may = true) := HM.out
        clear HM
        rcases Nat.eq_zero_or_pos k with hk0 | hk0
        · have hd : decide (0 < k) = false := by simp; omega
          have HK0 : Hid (k = 0) := hk0
          clear hk0
          go_wp2_with (first | (go_at_call 134; refine (KeyMay_any _ _ hok0).mono ?_; rw [HK.out]; rintro e w' ⟨rfl, rfl⟩) | (go_at_call 79; refine (In_any _ _ _ _).mono ?_; (first | rw [HV.out] | rw [HO.out]); rintro e w' ⟨rfl, rfl⟩))
          go_quiet (fail)
          go_wp2
          go_roundw
          case rel => exact ⟨k + 1, by omega, by go_num, by show _ = _; rw [HF.out, HN.out, Pl.faultN_on HM'.out (by simp [Pl.lowB, HK0.out])]; congr 1; have := HN.out; omega, below_drewN (hb.alloc hz _) _⟩
          case measure => simp [intOf]; omega
        · obtain ⟨m, rfl⟩ : ∃ m, k = m + 1 := ⟨k - 1, by omega⟩
          obtain ⟨d0, d1, d2, d3⟩ := hr' m (by omega)
          have hbr : b < wr.heap.size := by omega
          go_wp2_with (first | (go_at_call 134; refine (KeyMay_any _ _ hok0).mono ?_; rw [HK.out]; rintro e w' ⟨rfl, rfl⟩) | (go_at_call 79; refine (In_any _ _ _ _).mono ?_; (first | rw [HV.out] | rw [HO.out]); rintro e w' ⟨rfl, rfl⟩))
          go_quiet (fail)
          go_wp2
          · go_ret
            exact ⟨ret_int (by rw [HF.out, HN.out, Pl.faultN_low HM'.out (Pl.lowB_true ‹_›)]), below_drewN (hb.alloc hz _) _⟩
          · go_roundw
            case rel => exact ⟨m + 1 + 1, by omega, by go_num, by show _ = _; rw [HF.out, HN.out, Pl.faultN_on HM'.out (Pl.lowB_false ‹_›)]; congr 1; have := HN.out; omega, below_drewN (hb.alloc hz _) _⟩
            case measure => simp [intOf]; omega
      · have HM' : Hid ((Pl.ent es k).may = false) := by
          show _ = _
          rw [HM.out]; simpa using hall
        have HR : Hid (Pl.fault es = 4) := by
          show _ = _
          rw [HF.out, HN.out, Pl.faultN_form HM'.out]
        cases kk
        all_goals cases vv
        all_goals cases oo
        all_goals cases xx
        all_goals first | (exact absurd rfl hall) | skip
        all_goals
          go_wp2_with (first | (go_at_call 134; refine (KeyMay_any _ _ hok0).mono ?_; rw [HK.out]; rintro e w' ⟨rfl, rfl⟩) | (go_at_call 79; refine (In_any _ _ _ _).mono ?_; (first | rw [HV.out] | rw [HO.out]); rintro e w' ⟨rfl, rfl⟩))
          go_ret
          exact ⟨ret_int HR.out.symm, hb.alloc hz _⟩
    · obtain rfl : k = len := by omega
      go_wp2
      go_ret
      exact ⟨ret_int (by rw [HF.out]; simp [Pl.faultN]), hb⟩
end Go.Proofs.YtcdobhdbafpkiafGreatDoor
/-
  Contracts: what Encode and the document's StoreBytes answer at every list of entries.
-/
namespace Go.Proofs.YtcdobhdbafpkiafGreatDoor
open Go.RowKit
set_option maxRecDepth 20000

def Pl.encO (es : List Pl.Ent) : List UInt8 := if Pl.fault es = 0 then Pl.enc es else []

theorem box_keep {base : Nat} {w w' : World} {c0 c1 c2 c3 : Value} (h : Keep base (w.alloc (.cells #[c0, c1, c2, c3] 63)) w') :
    w'.cell? ⟨w.heap.size, 0, none⟩ = some c0 ∧ w'.cell? ⟨w.heap.size, 1, none⟩ = some c1 ∧ w'.cell? ⟨w.heap.size, 2, none⟩ = some c2 ∧ w'.cell? ⟨w.heap.size, 3, none⟩ = some c3 := by
  have hh := h.2 w.heap.size _ _ _ (heap_new w _) (by decide)
  refine ⟨?_, ?_, ?_, ?_⟩
  all_goals simp [World.cell?, hh]

set_option maxHeartbeats 1000000 in
theorem Encode_any (a : Option Addr) (len cap : Nat) (es : List Pl.Ent) (w : World) (h : IsEnts w a len cap es) :
    Calls Tryz.prog 30 #[.slice a len cap] w fun e w' => ∃ v, e = .returned (.tuple #[v, .int .i64 (Pl.fault es)]) ∧ OwnB w' w.heap.size v (Pl.encO es) ∧ Below w.heap.size w w' := by
  have HH := hid h
  have hlen : es.length = len := h.1
  have hcap := h.2.1
  have hm := h.2.2.1
  unfold maxLen at hm
  clear h
  obtain ⟨c, HC⟩ : ∃ c, Hid (Pl.fault es = c) := ⟨_, rfl⟩
  by_cases hc0 : c = 0
  · subst hc0
    have HG := hid ((Pl.good_iff es).1 HC.out)
    have hl60 : len ≤ 60 := by have := HG.out.1; omega
    go_enter Tryz.func30, Tryz.ntmps30
    go_wp2_with fail
    refine (Check_any _ _ _ es _ HH.out).mono ?_
    rw [HC.out]
    rintro e w1 ⟨rfl, hb1⟩
    have hz1 := hb1.size
    go_wp2_with fail
    go_loopw [5, 19] (fun vv i wr => ∃ (k : Nat) (c : List UInt8) (u : Value), u = vv ∧ k ≤ len ∧ i = .int .i64 k ∧ Hid (OwnB wr w.heap.size u c) ∧ c.length ≤ 2 + k * 138 ∧ Hid (Pl.body es = c ++ Pl.encL (es.drop k)) ∧ Below w.heap.size w wr) (fun _ i _ => len - (intOf i).toNat)
    case atStart => exact ⟨0, [116, Pl.u8 (es.length : Int)], _, rfl, Nat.zero_le _, rfl, by rw [hlen]; exact (ownb_lit2 w1 116 (len : Int) (by omega) (by omega)).mono hz1, by simp, rfl, hb1.alloc hz1 _⟩
    case round =>
      obtain ⟨k, c, u, rfl, hk, rfl, HO, hcl, HE, hb⟩ := hrel
      have hz := hb.size
      by_cases hlt : k < len
      · obtain ⟨b, off, rfl, hbw, hr⟩ : ∃ b off, a = some ⟨b, off, none⟩ ∧ b < w.heap.size ∧ RowAt w b off es := by
          rcases HH.out.2.2.2.2 with h | h
          · rw [h] at hlen; simp at hlen; omega
          · exact h
        obtain ⟨q0, q1, q2, q3⟩ := hr.below hbw hb k (by omega)
        clear hr
        have hpp := Pl.may_parts (HG.out.2.1 _ (Pl.ent_mem es k (by omega)))
        have HLN := hid (Pl.encE_len (HG.out.2.1 _ (Pl.ent_mem es k (by omega))))
        have HD := hid (Pl.drop_ent es k (by omega))
        generalize Pl.ent es k = x at *
        obtain ⟨xk, xv, xo, xx⟩ := x
        simp only at q0 q1 q2 q3 hpp
        obtain ⟨p1, p2, p3, p4, p5, p6, p7⟩ := hpp
        go_wp2_with fail
        refine (appendText_any w.heap.size u c xk _ (HO.out.below ((Below.refl _ _).alloc (Nat.le_refl _) _)) (by simp; omega) (by omega) (by omega)).mono ?_
        rintro e w3 ⟨v3, rfl, ho3, hk3⟩
        have HO3 := hid ho3
        clear ho3
        obtain ⟨x0, x1, x2, x3⟩ := box_keep hk3
        have hz3 := hk3.1.size
        simp at hz3
        have hl3 : (c ++ Pl.encT xk).length ≤ 2 + k * 138 + 9 := by rw [List.length_append, Pl.encT_len]; omega
        go_wp2_with fail
        refine (appendVersion_any w.heap.size v3 _ xv _ HO3.out (by omega) (by omega) (by omega) (by omega)).mono ?_
        rintro e w4 ⟨v4, rfl, ho4, hk4⟩
        have HO4 := hid ho4
        clear ho4 x0 x1 x2 x3
        have hk34 := hk3.trans hk4
        obtain ⟨x0, x1, x2, x3⟩ := box_keep hk34
        have hz4 := hk4.1.size
        have hl4 : (c ++ Pl.encT xk ++ Pl.encV 6 xv).length ≤ 2 + k * 138 + 16 := by rw [List.length_append]; have := Pl.encV_len 6 xv; omega
        go_wp2_with (at_builtin; refine append_b1 rfl (.tmp 31) (.tmp 35) rfl w.heap.size v4 (c ++ Pl.encT xk ++ Pl.encV 6 xv) xo rfl HO4.out (by omega) rfl (by omega) (by omega) (by omega) ?_; intro v5 w5 ho5 hk5; have HO5 := hid ho5; clear ho5 x0 x1 x2 x3; have hk35 := hk34.trans hk5; obtain ⟨x0, x1, x2, x3⟩ := box_keep hk35; have hz5 := hk5.1.size)
        have hl5 : (c ++ Pl.encT xk ++ Pl.encV 6 xv ++ [Pl.u8 xo]).length ≤ 2 + k * 138 + 17 := by rw [List.length_append]; simp only [List.length_singleton]; omega
        refine (appendText_any w.heap.size v5 _ xx _ HO5.out (by omega) (by omega) (by omega)).mono ?_
        rintro e w6 ⟨v6, rfl, ho6, hk6⟩
        have HF : Hid (OwnB w6 w.heap.size v6 (c ++ Pl.encE ⟨xk, xv, xo, xx⟩)) := by
          have := ho6
          rw [show c ++ Pl.encT xk ++ Pl.encV 6 xv ++ [Pl.u8 xo] ++ Pl.encT xx = c ++ Pl.encE ⟨xk, xv, xo, xx⟩ by simp [Pl.encE]] at this
          exact this
        clear ho6
        go_wp2_with fail
        go_roundw
        case rel => exact ⟨k + 1, _, _, rfl, by omega, by go_num, HF, by rw [List.length_append]; have := HLN.out; omega, by show _ = _; rw [HE.out, HD.out]; simp [Pl.encL], (hb.alloc hz _).trans (hk35.trans hk6).1⟩
        case measure => simp [intOf]; omega
      · obtain rfl : k = len := by omega
        have HB : Hid (Pl.body es = c) := by show _ = _; rw [HE.out, List.drop_eq_nil_of_le (by omega)]; simp [Pl.encL]
        obtain ⟨a2, c2, rfl, hI2, hn2, _⟩ := HO.out.shape
        have HI := hid hI2
        clear hI2 hn2
        go_wp2_with fail
        refine (seal_any _ _ _ c _ HI.out).mono ?_
        rintro e w3 ⟨v3, rfl, ho3, hb3⟩
        have hz3 := hb3.size
        obtain ⟨a3, c3, rfl, hI3, hn3, _⟩ := ho3.shape
        have HI3 := hid hI3
        have HN3 := hid hn3
        have HOC := hid (HO.out.below hb3)
        clear ho3 hI3 hn3
        go_wp2_with (at_builtin; refine append_bs rfl (.tmp 42) (.tmp 44) rfl w.heap.size _ c _ _ _ (Pl.sealL c) rfl HOC.out (by omega) rfl HI3.out HN3.out (by rw [Pl.sealL_len]; omega) ?_; intro v4 w4 ho4 hk4)
        go_ret2
        exact ⟨_, by rw [HC.out]; rfl, by unfold Pl.encO Pl.enc; rw [if_pos HC.out, HB.out]; exact ho4, (hb.trans (hb3.mono hz)).trans hk4.1⟩
  · have hcn : (c != 0) = true := by simp [hc0]
    have HP : Hid (Pl.encO es = []) := by show _ = _; unfold Pl.encO; rw [HC.out, if_neg hc0]
    clear hc0
    go_enter Tryz.func30, Tryz.ntmps30
    go_wp2_with fail
    refine (Check_any _ _ _ es _ HH.out).mono ?_
    rw [HC.out]
    rintro e w1 ⟨rfl, hb1⟩
    go_wp2_with fail
    go_ret2
    exact ⟨_, by rw [HC.out]; rfl, by rw [HP.out]; exact OwnB.nil _ _, hb1⟩
end Go.Proofs.YtcdobhdbafpkiafGreatDoor
/-
  Contracts: merged; StoreTells.
-/
namespace Go.Proofs.YtcdobhdbafpkiafGreatDoor
open Go.RowKit
set_option maxRecDepth 20000

theorem Pl.merge_good {a b : List Pl.Ent} (ha : Pl.Good a) (hb : Pl.Good b) : Pl.mergeC a b = 0 ∧ Pl.mergeO a b = (Pl.mrg a [] b).1 ∧ Pl.Good (Pl.mergeO a b) := by
  have h1 := (Pl.good_iff a).2 ha
  have h2 := (Pl.good_iff b).2 hb
  have hc : Pl.mergeC a b = 0 := by unfold Pl.mergeC; rw [if_pos h1]; exact h2
  have ho : Pl.mergeO a b = (Pl.mrg a [] b).1 := by unfold Pl.mergeO; rw [if_pos hc]
  exact ⟨hc, ho, by rw [ho]; exact Pl.mrg_good _ _ _ ha hb.2.1⟩

set_option maxHeartbeats 1000000 in
theorem StoreTells_any (w : World) : Calls Tryz.prog 8 #[] w fun e w' => e = .returned (.bool true) ∧ Below w.heap.size w w' := by
  have HRW : Hid (IsRaws (w.alloc (.cells #[.int .i64 1, .int .i64 1, .int .i64 1, .int .i64 1, .int .i64 2, .int .i64 2, .int .i64 2, .int .i64 2] 74)) (some ⟨w.heap.size, 0, none⟩) 2 2) := by
    refine ⟨Nat.le_refl _, by decide, .inr ⟨_, _, rfl, by simp, ?_⟩⟩
    intro i hi
    have hi' : i = 0 ∨ i = 1 := by omega
    rcases hi' with rfl | rfl
    · exact ⟨1, 1, 1, 1, ⟨by simp, by simp, by simp, by simp⟩, by decide, by decide, by decide, by decide⟩
    · exact ⟨2, 2, 2, 2, ⟨by simp, by simp, by simp, by simp⟩, by decide, by decide, by decide, by decide⟩
  have HBA := hid ((Below.refl w.heap.size w).alloc (Nat.le_refl _) (.cells #[.int .i64 1, .int .i64 1, .int .i64 1, .int .i64 1, .int .i64 2, .int .i64 2, .int .i64 2, .int .i64 2] 74))
  have HST := hid (Store_any _ _ _ 20 _ HRW.out (by omega))
  go_enter Tryz.func8, Tryz.ntmps8
  go_wp2_with fail
  refine HST.out.mono ?_
  rintro e w1 ⟨v, es, rfl, ho, hg, hlen, hne, hb1⟩
  have hne1 := hne (by omega) (by omega)
  have HG := hid hg
  obtain ⟨a1, c1, rfl, hE, _, _⟩ := ho.shape hg.ok
  have HE := hid hE
  have HB1 := hid (HBA.out.trans (hb1.mono HBA.out.size))
  have hmg := Pl.merge_good Pl.good_nil hg
  have hmt : Pl.mergeO [] es = es := by rw [hmg.2.1, Pl.mrg_tail es [] [] (by simpa using hg.2.2) (by simpa using hg.1)]; rfl
  have HMC := hid hmg.1
  have HMT := hid hmt
  have HF := hid ((Pl.good_iff es).2 hg)
  clear ho hg hE hne hmg hmt hb1
  go_wp2_with fail
  refine (Merge_any none 0 0 [] _ _ _ es _ ⟨rfl, Nat.le_refl _, by simp, by simp, .inl rfl⟩ (fun _ => rfl) HE.out).mono ?_
  rw [HMC.out, HMT.out]
  rintro e w2 ⟨vo, vk, rfl, ho2, _, hb2⟩
  obtain ⟨a2, c2, rfl, hE2, _, _⟩ := ho2.shape HG.out.ok
  have HE2 := hid hE2
  have HB2 := hid (HB1.out.trans (hb2.mono HB1.out.size))
  clear ho2 hE2 hb2
  go_wp2_with fail
  refine (Encode_any _ _ _ es _ HE2.out).mono ?_
  rw [HF.out]
  rintro e w3 ⟨v3, rfl, ho3, hb3⟩
  obtain ⟨a3, c3, rfl, hI3, _, _⟩ := ho3.shape
  have HB3 := hid (HB2.out.trans (hb3.mono HB2.out.size))
  have hbl : (0 : Int) < ((Pl.encO es).length : Int) := by
    unfold Pl.encO
    rw [if_pos HF.out, Pl.enc, List.length_append, Pl.sealL_len]
    omega
  generalize (Pl.encO es).length = nb at *
  have hel : (0 : Int) < (es.length : Int) := by omega
  clear ho3 hI3 hb3
  go_wp2
  go_ret
  exact ⟨ret_bool (by simp; omega), HB3.out⟩
end Go.Proofs.YtcdobhdbafpkiafGreatDoor
/-
  Plain definitions: routes, tables, what is wrong with one, the place of a prefix; no program in sight.
-/
namespace Go.Proofs.YtcdobhdbafpkiafGreatDoor.Pl

/-- a route: its prefix, is it here, its cost, its hops -/
structure Rt where
  p : Int × Int
  here : Bool
  cost : Int
  hops : List Int
def Rt.none : Rt := ⟨(0, 0), false, 0, []⟩
/-- the route at a place -/
def rt (rs : List Rt) (i : Nat) : Rt := rs.getD i Rt.none
theorem rt_eq (rs : List Rt) (i : Nat) (h : i < rs.length) : rt rs i = rs[i] := by simp [rt, List.getD, h]
theorem rt_mem (rs : List Rt) (i : Nat) (h : i < rs.length) : rt rs i ∈ rs := by rw [rt_eq rs i h]; exact List.getElem_mem h
theorem rt_cons_succ (e : Rt) (es : List Rt) (i : Nat) : rt (e :: es) (i + 1) = rt es i := by simp [rt]
theorem rt_cons_zero (e : Rt) (es : List Rt) : rt (e :: es) 0 = e := by simp [rt]
theorem drop_rt (rs : List Rt) (i : Nat) (h : i < rs.length) : rs.drop i = rt rs i :: rs.drop (i + 1) := by
  rw [rt_eq rs i h]; exact List.drop_eq_getElem_cons h

/-- the number at a place -/
def nm (l : List Int) (i : Nat) : Int := l.getD i 0
theorem nm_eq (l : List Int) (i : Nat) (h : i < l.length) : nm l i = l[i] := by simp [nm, List.getD, h]

/-- may the hop at a place be? -/
def hopB (l : List Int) (i : Nat) : Bool := decide (0 ≤ nm l i ∧ nm l i ≤ 11) && (decide (i = 0) || decide (nm l (i - 1) < nm l i))
def hopsB (l : List Int) : Bool := (List.range l.length).all (hopB l)
theorem hopsB_false {l : List Int} {k : Nat} (hk : k < l.length) (h : hopB l k = false) : hopsB l = false := by
  unfold hopsB
  rw [List.all_eq_false]
  exact ⟨k, List.mem_range.2 hk, by simp [h]⟩
theorem hopsB_true {l : List Int} (h : ∀ k, k < l.length → hopB l k = true) : hopsB l = true := by
  unfold hopsB
  rw [List.all_eq_true]
  intro k hk
  exact h k (List.mem_range.1 hk)
theorem hopsB_at {l : List Int} (h : hopsB l = true) (k : Nat) (hk : k < l.length) : hopB l k = true := by
  unfold hopsB at h
  rw [List.all_eq_true] at h
  exact h k (List.mem_range.2 hk)
theorem hopB_zero (l : List Int) : hopB l 0 = decide (0 ≤ nm l 0 ∧ nm l 0 ≤ 11) := by simp [hopB]
theorem hopB_succ (l : List Int) (m : Nat) : hopB l (m + 1) = (decide (0 ≤ nm l (m + 1) ∧ nm l (m + 1) ≤ 11) && decide (nm l m < nm l (m + 1))) := by simp [hopB]

/-- may a route be? -/
def routeB (r : Rt) : Bool := decide (pfx1 r.p = 0) && decide (0 ≤ r.cost ∧ r.cost ≤ 1048576) && (if r.here then decide (r.cost = 0) && decide (r.hops = []) else decide (r.hops ≠ [])) && hopsB r.hops

/-- does a prefix stand ahead of another one? -/
def pltB (p q : Int × Int) : Bool := decide (p.1 < q.1 ∨ p.1 = q.1 ∧ p.2 < q.2)
theorem pltB_iff {p q : Int × Int} : pltB p q = true ↔ (p.1 < q.1 ∨ p.1 = q.1 ∧ p.2 < q.2) := by simp [pltB]
theorem pltB_not {p q : Int × Int} : pltB p q = false ↔ (q.1 < p.1 ∨ q.1 = p.1 ∧ q.2 ≤ p.2) := by
  rw [Bool.eq_false_iff, Ne, pltB_iff]; omega
theorem pltB_irrefl (p : Int × Int) : pltB p p = false := by rw [pltB_not]; omega
theorem pltB_asymm {p q : Int × Int} (h : pltB p q = true) : pltB q p = false := by rw [pltB_iff] at h; rw [pltB_not]; omega
theorem pltB_trans {p q r : Int × Int} (h : pltB p q = true) (k : pltB q r = true) : pltB p r = true := by rw [pltB_iff] at h k ⊢; omega
theorem pltB_total {p q : Int × Int} (h : pltB p q = false) (k : pltB q p = false) : p = q := by
  rw [pltB_not] at h k
  obtain ⟨a, b⟩ := p; obtain ⟨c, d⟩ := q
  simp only [Prod.mk.injEq] at *
  omega
theorem pltB_ne {p q : Int × Int} (h : pltB p q = true) : ¬ p = q := fun e => by rw [e, pltB_irrefl] at h; cases h
theorem pfxC_ge (p q : Int × Int) : decide (0 ≤ pfxC p q) = !pltB p q := by
  unfold pfxC cmpI pltB
  rw [Bool.eq_iff_iff]
  simp only [decide_eq_true_eq, Bool.not_eq_true', decide_eq_false_iff_not]
  split <;> (try split) <;> (try split) <;> (try split) <;> omega
theorem pair_eq_iff (p q : Int × Int) : p = q ↔ p.1 = q.1 ∧ p.2 = q.2 := by
  obtain ⟨a, b⟩ := p; obtain ⟨c, d⟩ := q; simp

/-- does the prefix at a place not stand behind that of the route ahead? -/
def lowR (rs : List Rt) (i : Nat) : Bool := decide (0 < i) && !pltB (rt rs (i - 1)).p (rt rs i).p
theorem lowR_zero (rs : List Rt) : lowR rs 0 = false := by simp [lowR]
theorem lowR_succ (rs : List Rt) (m : Nat) : lowR rs (m + 1) = !pltB (rt rs m).p (rt rs (m + 1)).p := by simp [lowR]
/-- what is wrong with a table from a place on: so many are still to be looked at -/
def tabN (rs : List Rt) : Nat → Nat → Int
  | 0, _ => 0
  | n + 1, i => if routeB (rt rs i) then (if lowR rs i then 7 else tabN rs n (i + 1)) else 4
def tabF (rs : List Rt) : Int := if rs.length ≤ 200 then tabN rs rs.length 0 else 1
theorem tabF_size {rs : List Rt} (h : 200 < rs.length) : tabF rs = 1 := by unfold tabF; rw [if_neg (by omega)]
theorem tabF_from {rs : List Rt} (h : rs.length ≤ 200) : tabF rs = tabN rs rs.length 0 := by unfold tabF; rw [if_pos h]
theorem tabN_form {rs : List Rt} {n i : Nat} (h : routeB (rt rs i) = false) : tabN rs (n + 1) i = 4 := by simp [tabN, h]
theorem tabN_low {rs : List Rt} {n i : Nat} (h : routeB (rt rs i) = true) (k : lowR rs i = true) : tabN rs (n + 1) i = 7 := by simp [tabN, h, k]
theorem tabN_on {rs : List Rt} {n i : Nat} (h : routeB (rt rs i) = true) (k : lowR rs i = false) : tabN rs (n + 1) i = tabN rs n (i + 1) := by simp [tabN, h, k]

/-- prefixes in their order -/
def AscP (ps : List (Int × Int)) : Prop := ∀ i j, i < j → j < ps.length → pltB (pr ps i) (pr ps j) = true
theorem pr_map (rs : List Rt) (i : Nat) (h : i < rs.length) : pr (rs.map Rt.p) i = (rt rs i).p := by
  rw [pr_eq _ _ (by simpa using h), rt_eq rs i h]; simp
theorem tabN_zero (rs : List Rt) : ∀ n i, tabN rs n i = 0 → ∀ j, i ≤ j → j < i + n → routeB (rt rs j) = true ∧ lowR rs j = false
  | 0, _, _, j, h1, h2 => by omega
  | n + 1, i, h, j, h1, h2 => by
    simp only [tabN] at h
    cases hm : routeB (rt rs i)
    · simp [hm] at h
    · cases hl : lowR rs i
      · simp only [hm, hl] at h
        rcases Nat.lt_or_ge i j with k | k
        · exact tabN_zero rs n (i + 1) (by simpa using h) j (by omega) (by omega)
        · obtain rfl : j = i := by omega
          exact ⟨hm, hl⟩
      · simp [hm, hl] at h
theorem good_of_tabF {rs : List Rt} (h : tabF rs = 0) : rs.length ≤ 200 ∧ (∀ i, i < rs.length → routeB (rt rs i) = true) ∧ AscP (rs.map Rt.p) := by
  unfold tabF at h
  split at h
  · rename_i hl
    have hz := tabN_zero rs rs.length 0 h
    refine ⟨hl, fun i hi => (hz i (by omega) (by omega)).1, ?_⟩
    intro i j hij hj
    simp only [List.length_map] at hj
    rw [pr_map rs i (by omega), pr_map rs j hj]
    induction j with
    | zero => omega
    | succ m ih =>
      have hlow := (hz (m + 1) (by omega) (by omega)).2
      have hstep : pltB (rt rs m).p (rt rs (m + 1)).p = true := by
        rw [lowR_succ] at hlow
        simpa using hlow
      rcases Nat.lt_or_ge i m with k | k
      · exact pltB_trans (ih k (by omega)) hstep
      · obtain rfl : i = m := by omega
        exact hstep
  · cases h
theorem tabN_of_good (rs : List Rt) (h : ∀ j, j < rs.length → routeB (rt rs j) = true ∧ lowR rs j = false) : ∀ n i, i + n ≤ rs.length → tabN rs n i = 0
  | 0, _, _ => rfl
  | n + 1, i, hi => by
    obtain ⟨h1, h2⟩ := h i (by omega)
    rw [tabN_on h1 h2]
    exact tabN_of_good rs h n (i + 1) (by omega)
theorem tabF_of_good {rs : List Rt} (hl : rs.length ≤ 200) (hm : ∀ i, i < rs.length → routeB (rt rs i) = true) (ha : AscP (rs.map Rt.p)) : tabF rs = 0 := by
  rw [tabF_from hl]
  refine tabN_of_good rs (fun j hj => ⟨hm j hj, ?_⟩) _ _ (by omega)
  rcases Nat.eq_zero_or_pos j with rfl | k
  · exact lowR_zero _
  · obtain ⟨m, rfl⟩ : ∃ m, j = m + 1 := ⟨j - 1, by omega⟩
    rw [lowR_succ]
    have := ha m (m + 1) (by omega) (by simpa using hj)
    rw [pr_map rs m (by omega), pr_map rs (m + 1) hj] at this
    rw [this]; rfl

/-- the place of a prefix, or that at which it would come -/
def posP : List (Int × Int) → Int × Int → Nat
  | [], _ => 0
  | e :: r, p => if pltB e p then posP r p + 1 else 0
theorem pr_cons_succ (e : Int × Int) (es : List (Int × Int)) (i : Nat) : pr (e :: es) (i + 1) = pr es i := by simp [pr]
theorem pr_cons_zero (e : Int × Int) (es : List (Int × Int)) : pr (e :: es) 0 = e := by simp [pr]
theorem posP_le : ∀ (ps : List (Int × Int)) (p : Int × Int), posP ps p ≤ ps.length
  | [], _ => Nat.le_refl _
  | e :: r, p => by
    simp only [posP, List.length_cons]
    have := posP_le r p
    split <;> omega
theorem posP_lt : ∀ (ps : List (Int × Int)) (p : Int × Int) (i : Nat), i < posP ps p → pltB (pr ps i) p = true
  | [], _, i, h => by simp [posP] at h
  | e :: r, p, i, h => by
    simp only [posP] at h
    split at h
    · rename_i he
      cases i with
      | zero => simpa [pr] using he
      | succ i => rw [pr_cons_succ]; exact posP_lt r p i (by omega)
    · omega
theorem posP_at : ∀ (ps : List (Int × Int)) (p : Int × Int), posP ps p < ps.length → pltB (pr ps (posP ps p)) p = false
  | [], _, h => by simp at h
  | e :: r, p, h => by
    cases he : pltB e p
    · simp [posP, he, pr]
    · simp only [posP, he, if_true] at h ⊢
      rw [pr_cons_succ]
      exact posP_at r p (by simpa using h)
theorem posP_of {ps : List (Int × Int)} {p : Int × Int} {i : Nat} (hi : i ≤ ps.length) (h1 : ∀ t, t < i → pltB (pr ps t) p = true) (h2 : i < ps.length → pltB (pr ps i) p = false) : posP ps p = i := by
  rcases Nat.lt_trichotomy (posP ps p) i with k | k | k
  · have a := h1 _ k
    rw [posP_at ps p (by omega)] at a; cases a
  · exact k
  · have a := posP_lt ps p i k
    have b := posP_le ps p
    rw [h2 (by omega)] at a; cases a
/-- is the prefix there? -/
def thereP (ps : List (Int × Int)) (p : Int × Int) : Bool := decide (posP ps p < ps.length) && decide (pr ps (posP ps p) = p)
theorem thereP_lt {ps : List (Int × Int)} {p : Int × Int} (h : thereP ps p = true) : posP ps p < ps.length := by
  unfold thereP at h
  simp only [Bool.and_eq_true, decide_eq_true_eq] at h
  exact h.1
theorem thereP_eq {ps : List (Int × Int)} {p : Int × Int} (h : thereP ps p = true) : pr ps (posP ps p) = p := by
  unfold thereP at h
  simp only [Bool.and_eq_true, decide_eq_true_eq] at h
  exact h.2
theorem ascP_lt {ps : List (Int × Int)} (h : AscP ps) {p : Int × Int} {t m : Nat} (hm : m < ps.length) (ht : t ≤ m) (k : pltB (pr ps m) p = true) : pltB (pr ps t) p = true := by
  rcases Nat.lt_or_ge t m with q | q
  · exact pltB_trans (h t m q hm) k
  · obtain rfl : t = m := by omega
    exact k
theorem ascP_ge {ps : List (Int × Int)} (h : AscP ps) {p : Int × Int} {t m : Nat} (ht : t < ps.length) (hm : m ≤ t) (k : pltB (pr ps m) p = false) : pltB (pr ps t) p = false := by
  cases q : pltB (pr ps t) p
  · rfl
  · rw [ascP_lt h ht hm q] at k; cases k
/-- in order, a prefix is there just where it is one of them -/
theorem thereP_mem {ps : List (Int × Int)} (h : AscP ps) {p : Int × Int} {i : Nat} (hi : i < ps.length) (e : pr ps i = p) : posP ps p = i ∧ thereP ps p = true := by
  have hp : posP ps p = i := by
    refine posP_of (by omega) (fun u hu => ?_) (fun _ => by rw [e]; exact pltB_irrefl _)
    have := h u i hu hi
    rwa [e] at this
  refine ⟨hp, ?_⟩
  unfold thereP
  rw [hp, e]
  simp [hi]
theorem thereP_iff {ps : List (Int × Int)} (h : AscP ps) (p : Int × Int) : thereP ps p = true ↔ p ∈ ps := by
  constructor
  · intro ht
    rw [← thereP_eq ht]
    exact pr_mem ps _ (thereP_lt ht)
  · intro hm
    obtain ⟨i, hi, e⟩ := List.getElem_of_mem hm
    exact (thereP_mem h hi (by rw [pr_eq ps i hi]; exact e)).2
end Go.Proofs.YtcdobhdbafpkiafGreatDoor.Pl
/-
  Plain definitions and facts: what is found in a table, what parts two tables, a table that is patched; no program in sight.
-/
namespace Go.Proofs.YtcdobhdbafpkiafGreatDoor.Pl

/-- the prefix of so many bits to which an address belongs -/
def pfxAt (addr : Int) (bits : Nat) : Int × Int := (addr - addr % span bits, bits)
/-- the place of what is found, of so many bits and fewer -/
def lookN (ps : List (Int × Int)) (addr : Int) : Nat → Option Nat
  | 0 => none
  | n + 1 => if thereP ps (pfxAt addr n) then some (posP ps (pfxAt addr n)) else lookN ps addr n
theorem lookN_lt {ps : List (Int × Int)} {addr : Int} : ∀ {n i : Nat}, lookN ps addr n = some i → i < ps.length
  | 0, i, h => by simp [lookN] at h
  | n + 1, i, h => by
    unfold lookN at h
    split at h
    · rename_i ht
      cases h
      exact thereP_lt ht
    · exact lookN_lt h
/-- what is wrong with looking up -/
def lookC (rs : List Rt) (addr : Int) : Int :=
  if tabF rs = 0 then (if 0 ≤ addr ∧ addr ≤ 255 then (match lookN (rs.map Rt.p) addr 9 with | some _ => 0 | none => 6) else 2) else tabF rs
def lookR (rs : List Rt) (addr : Int) : Rt :=
  if tabF rs = 0 then (if 0 ≤ addr ∧ addr ≤ 255 then (match lookN (rs.map Rt.p) addr 9 with | some i => rt rs i | none => Rt.none) else Rt.none) else Rt.none

/-- are two routes of a prefix the same? -/
def sameR (a b : Rt) : Bool := decide (a.here = b.here) && decide (a.cost = b.cost) && decide (a.hops = b.hops)
/-- is a route there, and the same? -/
def keptB (a : List Rt) (r : Rt) : Bool := thereP (a.map Rt.p) r.p && sameR (rt a (posP (a.map Rt.p) r.p)) r
/-- what is to be set, what is to go -/
def setL (a b : List Rt) : List Rt := b.filter fun r => !keptB a r
def goneL (a b : List Rt) : List (Int × Int) := (a.filter fun r => !thereP (b.map Rt.p) r.p).map Rt.p

/-- without the route of a prefix -/
def delR (rs : List Rt) (p : Int × Int) : List Rt := if thereP (rs.map Rt.p) p then rs.take (posP (rs.map Rt.p) p) ++ rs.drop (posP (rs.map Rt.p) p + 1) else rs
def delsR (rs : List Rt) (ps : List (Int × Int)) : List Rt := ps.foldl delR rs
/-- a route comes to its place, instead of that with its prefix -/
def insR : List Rt → Rt → List Rt
  | [], x => [x]
  | e :: r, x => if pltB e.p x.p then e :: insR r x else if e.p = x.p then x :: r else x :: e :: r
def inssR (rs : List Rt) (set : List Rt) : List Rt := set.foldl insR rs
/-- what is laid at a place -/
def layR (rs : List Rt) (i : Nat) (instead : Bool) (x : Rt) : List Rt := rs.take i ++ x :: rs.drop (if instead then i + 1 else i)

/-- in order, as pairs -/
def SrtR (rs : List Rt) : Prop := rs.Pairwise fun a b => pltB a.p b.p = true
theorem ascP_srt (rs : List Rt) : AscP (rs.map Rt.p) ↔ SrtR rs := by
  unfold AscP SrtR
  rw [List.pairwise_iff_getElem]
  constructor
  · intro h i j hi hj hij
    have := h i j hij (by simpa using hj)
    rwa [pr_map rs i hi, pr_map rs j hj, rt_eq rs i hi, rt_eq rs j hj] at this
  · intro h i j hij hj
    simp only [List.length_map] at hj
    have := h i j (by omega) hj hij
    rwa [pr_map rs i (by omega), pr_map rs j hj, rt_eq rs i (by omega), rt_eq rs j hj]
/-- a table that may be -/
def GoodT (rs : List Rt) : Prop := rs.length ≤ 200 ∧ (∀ r ∈ rs, routeB r = true) ∧ SrtR rs
theorem goodT_iff (rs : List Rt) : tabF rs = 0 ↔ GoodT rs := by
  constructor
  · intro h
    obtain ⟨h1, h2, h3⟩ := good_of_tabF h
    refine ⟨h1, fun r hr => ?_, (ascP_srt rs).1 h3⟩
    obtain ⟨i, hi, rfl⟩ := List.getElem_of_mem hr
    rw [← rt_eq rs i hi]; exact h2 i hi
  · rintro ⟨h1, h2, h3⟩
    exact tabF_of_good h1 (fun i hi => h2 _ (rt_mem rs i hi)) ((ascP_srt rs).2 h3)

theorem thereP_cons_lt {e : Int × Int} {r : List (Int × Int)} {p : Int × Int} (h : pltB e p = true) : thereP (e :: r) p = thereP r p := by
  unfold thereP
  simp only [posP, h, if_true, pr_cons_succ, List.length_cons]
  simp
theorem thereP_cons_ge {e : Int × Int} {r : List (Int × Int)} {p : Int × Int} (h : pltB e p = false) : thereP (e :: r) p = decide (e = p) := by
  unfold thereP
  simp [posP, h, pr]
theorem lay_insR : ∀ (rs : List Rt) (x : Rt), layR rs (posP (rs.map Rt.p) x.p) (thereP (rs.map Rt.p) x.p) x = insR rs x
  | [], x => by simp [layR, insR, posP, thereP]
  | e :: r, x => by
    cases h : pltB e.p x.p
    · rw [List.map_cons, thereP_cons_ge h]
      simp only [posP, h, insR, layR]
      by_cases k : e.p = x.p
      · simp [k]
      · simp [k]
    · rw [List.map_cons, thereP_cons_lt h]
      have ih := lay_insR r x
      unfold layR at ih ⊢
      simp only [posP, h, if_true, insR, List.take_succ_cons, List.cons_append]
      rw [← ih]
      cases thereP (r.map Rt.p) x.p <;> simp
theorem mem_insR {rs : List Rt} {x e : Rt} (h : e ∈ insR rs x) : e = x ∨ e ∈ rs := by
  induction rs with
  | nil => simp [insR] at h; exact .inl h
  | cons a r ih =>
    unfold insR at h
    split at h
    · rcases List.mem_cons.1 h with rfl | h
      · exact .inr (by simp)
      · rcases ih h with h | h
        · exact .inl h
        · exact .inr (by simp [h])
    · split at h
      · rcases List.mem_cons.1 h with rfl | h
        · exact .inl rfl
        · exact .inr (by simp [h])
      · rcases List.mem_cons.1 h with rfl | h
        · exact .inl rfl
        · exact .inr h
theorem insR_srt {rs : List Rt} {x : Rt} (h : SrtR rs) : SrtR (insR rs x) := by
  induction rs with
  | nil => simp [SrtR, insR]
  | cons a r ih =>
    unfold SrtR at h ih ⊢
    rw [List.pairwise_cons] at h
    obtain ⟨h1, h2⟩ := h
    unfold insR
    split
    · rename_i hl
      refine List.pairwise_cons.2 ⟨fun e he => ?_, ih h2⟩
      rcases mem_insR he with rfl | he
      · exact hl
      · exact h1 e he
    · rename_i hl
      split
      · rename_i he
        refine List.pairwise_cons.2 ⟨fun e hm => ?_, h2⟩
        rw [← he]; exact h1 e hm
      · rename_i he
        have hlt : pltB x.p a.p = true := by
          cases k : pltB x.p a.p
          · exact absurd (pltB_total (by simpa using hl) k) he
          · rfl
        refine List.pairwise_cons.2 ⟨fun e hm => ?_, List.pairwise_cons.2 ⟨h1, h2⟩⟩
        rcases List.mem_cons.1 hm with rfl | hm
        · exact hlt
        · exact pltB_trans hlt (h1 e hm)
theorem insR_len : ∀ (rs : List Rt) (x : Rt), (insR rs x).length = if thereP (rs.map Rt.p) x.p then rs.length else rs.length + 1
  | [], x => by simp [insR, thereP]
  | e :: r, x => by
    have ih := insR_len r x
    cases h : pltB e.p x.p
    · rw [List.map_cons, thereP_cons_ge h]
      simp only [insR, h]
      by_cases k : e.p = x.p <;> simp [k]
    · rw [List.map_cons, thereP_cons_lt h]
      simp only [insR, h, if_true, List.length_cons, ih]
      cases thereP (r.map Rt.p) x.p <;> simp
theorem insR_len_ge (rs : List Rt) (x : Rt) : rs.length ≤ (insR rs x).length := by
  rw [insR_len]; split <;> omega
theorem inssR_len_ge : ∀ (set rs : List Rt), rs.length ≤ (inssR rs set).length
  | [], _ => Nat.le_refl _
  | x :: r, rs => Nat.le_trans (insR_len_ge rs x) (inssR_len_ge r (insR rs x))
theorem inssR_len_le : ∀ (set rs : List Rt), (inssR rs set).length ≤ rs.length + set.length
  | [], rs => by simp [inssR]
  | x :: r, rs => by
    have h1 := inssR_len_le r (insR rs x)
    have h2 : (insR rs x).length ≤ rs.length + 1 := by rw [insR_len]; split <;> omega
    show (inssR (insR rs x) r).length ≤ _
    simp only [List.length_cons]
    omega
theorem inssR_srt : ∀ (set rs : List Rt), SrtR rs → SrtR (inssR rs set)
  | [], _, h => h
  | _ :: r, _, h => inssR_srt r _ (insR_srt h)

/-- the document's way to lay a route -/
def wR : List Rt → Bool → Rt → List Rt
  | [], done, x => if done then [] else [x]
  | e :: r, done, x => (if !done && !pltB e.p x.p then [x] else []) ++ ((if e.p = x.p then [] else [e]) ++ wR r (done || !pltB e.p x.p) x)
theorem wR_done : ∀ (rs : List Rt) (x : Rt), (∀ e ∈ rs, ¬ e.p = x.p) → wR rs true x = rs
  | [], _, _ => rfl
  | e :: r, x, h => by
    have h0 := h e (by simp)
    simp [wR, h0, wR_done r x (fun e he => h e (by simp [he]))]
theorem wR_insR : ∀ (rs : List Rt) (x : Rt), SrtR rs → wR rs false x = insR rs x
  | [], x, _ => rfl
  | e :: r, x, h => by
    unfold SrtR at h
    rw [List.pairwise_cons] at h
    obtain ⟨h1, h2⟩ := h
    cases hl : pltB e.p x.p
    · have hrest : ∀ a ∈ r, ¬ a.p = x.p := by
        intro a ha he
        have := h1 a ha
        rw [he, hl] at this; cases this
      simp only [wR, insR, hl, Bool.not_false, Bool.and_self, if_true, Bool.or_true]
      rw [wR_done r x hrest]
      by_cases k : e.p = x.p <;> simp [k]
    · have k : ¬ e.p = x.p := pltB_ne hl
      simp [wR, insR, hl, k, wR_insR r x h2]

theorem delR_filter : ∀ (rs : List Rt) (p : Int × Int), SrtR rs → delR rs p = rs.filter fun r => decide (¬ r.p = p)
  | [], p, _ => by simp [delR, thereP]
  | e :: r, p, h => by
    unfold SrtR at h
    rw [List.pairwise_cons] at h
    obtain ⟨h1, h2⟩ := h
    have ih := delR_filter r p h2
    cases hl : pltB e.p p
    · have hrest : ∀ a ∈ r, ¬ a.p = p := by
        intro a ha he
        have := h1 a ha
        rw [he, hl] at this; cases this
      have hall : (r.filter fun r => decide (¬ r.p = p)) = r := List.filter_eq_self.2 fun a ha => by simpa using hrest a ha
      unfold delR
      rw [List.map_cons, thereP_cons_ge hl]
      simp only [posP, hl]
      by_cases k : e.p = p
      · simp only [k, decide_true, if_true]
        rw [List.filter_cons_of_neg (by simp [k]), hall]
        simp
      · simp only [k, decide_false]
        rw [List.filter_cons_of_pos (by simp [k]), hall]
        simp
    · have k : ¬ e.p = p := pltB_ne hl
      rw [List.filter_cons_of_pos (by simp [k]), ← ih]
      unfold delR
      rw [List.map_cons, thereP_cons_lt hl]
      simp only [posP, hl, if_true, List.take_succ_cons, List.drop_succ_cons]
      split <;> simp
theorem filter_srt {rs : List Rt} (f : Rt → Bool) (h : SrtR rs) : SrtR (rs.filter f) := List.Pairwise.filter _ h
theorem delsR_filter : ∀ (ps : List (Int × Int)) (rs : List Rt), SrtR rs → delsR rs ps = rs.filter fun r => decide (¬ r.p ∈ ps)
  | [], rs, _ => by
    simp only [delsR, List.foldl_nil, List.not_mem_nil, not_false_eq_true, decide_true]
    exact (List.filter_eq_self.2 fun _ _ => rfl).symm
  | p :: ps, rs, h => by
    show delsR (delR rs p) ps = _
    rw [delR_filter rs p h, delsR_filter ps _ (filter_srt _ h), List.filter_filter]
    congr 1
    funext r
    rw [Bool.eq_iff_iff]
    simp
    exact And.comm
theorem delsR_srt {rs : List Rt} {ps : List (Int × Int)} (h : SrtR rs) : SrtR (delsR rs ps) := by rw [delsR_filter ps rs h]; exact filter_srt _ h
theorem delsR_len {rs : List Rt} {ps : List (Int × Int)} (h : SrtR rs) : (delsR rs ps).length ≤ rs.length := by rw [delsR_filter ps rs h]; exact List.length_filter_le _ _

/-- what comes of a patch, and what is wrong with it -/
def patR (a set : List Rt) (gone : List (Int × Int)) : List Rt := inssR (delsR a gone) set
def patC (a set : List Rt) (gone : List (Int × Int)) : Int := if tabF a = 0 then tabF (patR a set gone) else tabF a
def patL (a set : List Rt) (gone : List (Int × Int)) : List Rt := if tabF a = 0 then (if tabF (patR a set gone) = 0 then patR a set gone else []) else []
end Go.Proofs.YtcdobhdbafpkiafGreatDoor.Pl
