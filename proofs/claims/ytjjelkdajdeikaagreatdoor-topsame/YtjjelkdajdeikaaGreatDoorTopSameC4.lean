/-
  Contracts and facts that the proof rests on, put together out of several texts.
-/
import Derived.Test.YtjjelkdajdeikaaGreatDoorTopSameC3
import Derived.Test.YtjjelkdajdeikaaGreatDoorTopSameC1
import Derived.Test.YtjjelkdajdeikaaGreatDoorTopSameC2
namespace Go.Proofs.YtjjelkdajdeikaaGreatDoor
open Go.RowKit
set_option maxRecDepth 20000
theorem frame_len {bs : List UInt8} (h : Pl.frameC bs = 0) : 6 ≤ bs.length ∧ bs.length ≤ 20000 := by
 unfold Pl.frameC at h
 by_cases h1 : 20000 < bs.length
 ·rw [if_pos h1] at h; simp at h
 ·by_cases h2 : bs.length < 6
  ·rw [if_neg h1, if_pos h2] at h; simp at h
  ·omega
set_option maxHeartbeats 1000000 in
theorem Decode_any (a : Option Addr) (len cap : Nat) (bs : List UInt8) (w : World) (h : IsBytes w a len cap bs) :
  Calls Tryz.prog 191 #[.slice a len cap] w fun e w' => ∃ v, e = .returned (.tuple #[v, .int .i64 (Pl.decC bs)]) ∧ Own w' w.heap.size v (Pl.decO bs) ∧ Below w.heap.size w w' := by
 have HI := hid h
 obtain ⟨hl, hlc, hm, hrow⟩ := h
 unfold maxLen at hm
 have HFR := hid (checkFrame_any _ _ _ _ _ HI.out)
 by_cases hf : Pl.frameC bs = 0
 ·have hfl := frame_len hf
  obtain ⟨b, off, rfl, hb, hr⟩ : ∃ b off, a = some ⟨b, off, none⟩ ∧ b < w.heap.size ∧ ∀ j u, (bcells bs)[j]? = some u → w.cell? ⟨b, off + j, none⟩ = some u := by
   rcases hrow with h | h
   ·rw [h] at hfl; simp at hfl
   ·exact h
  clear hr
  obtain ⟨e, he⟩ : ∃ e, len = e + 4 := ⟨len - 4, by omega⟩
  have HMID := hid (bytes_on (n := 1) (bytes_to HI.out (show e ≤ len by omega)) (by omega))
  have HC : Hid (Pl.decC bs = if (Pl.rdL ((bs.take e).drop 1)).2 = 0 then Pl.fault (Pl.rdL ((bs.take e).drop 1)).1 else (Pl.rdL ((bs.take e).drop 1)).2) := by
   show _ = _
   unfold Pl.decC
   rw [if_pos hf, hl, show len - 4 = e by omega]
  have HO : Hid (Pl.decO bs = if Pl.decC bs = 0 then (Pl.rdL ((bs.take e).drop 1)).1 else []) := by
   show _ = _
   unfold Pl.decO
   rw [hl, show len - 4 = e by omega]
  have HRK := hid (Pl.rdL_ok ((bs.take e).drop 1))
  rw [hf] at HFR
  have hsub : (len : Int) - 4 = (e : Int) := by omega
  have hle : (e : Int) ≤ (len : Int) := by omega
  have hce : ¬ (cap = 1) := by omega
  have hce2 : ¬ ((cap : Int) = 1) := by omega
  have hle1 : (1 : Int) ≤ (e : Int) := by omega
  clear hl hrow hf he
  obtain ⟨rd, HR⟩ : ∃ rd, Hid (Pl.rdL ((bs.take e).drop 1) = rd) := ⟨_, rfl⟩
  obtain ⟨l, c⟩ := rd
  rw [HR.out] at HC HO HRK
  simp only at HC HO HRK
  go_enter Tryz.func191, Tryz.ntmps191
  go_wp2_with fail
  refine HFR.out.mono ?_
  rintro x w1 ⟨rfl, hb1⟩
  have HB1 := hid hb1
  clear hb1
  go_wp2_with fail
  refine (readEntries_any _ _ _ _ _ (HMID.out.below HB1.out) (by intro h; cases h)).mono ?_
  rw [HR.out]
  rintro x w2 ⟨v2, rfl, ho2, hb2⟩
  simp only at ho2
  have HOK := HRK
  obtain ⟨a2, c2, rfl, hE2, _, _⟩ := ho2.shape HRK.out
  have HE2 := hid hE2
  have HO2 := hid ho2
  have HB2 := hid hb2
  clear hE2 ho2 hb2
  by_cases hc : c = 0
  ·subst hc
   go_wp2_with fail
   refine (Check_any _ _ _ _ _ HE2.out).mono ?_
   rintro x w3 ⟨rfl, hb3⟩
   have HB3 := hid hb3
   clear hb3
   have HC3 : Hid (Pl.decC bs = Pl.fault l) := by show _ = _; rw [HC.out]; simp
   by_cases hz : Pl.fault l = 0
   ·rw [hz] at HC3 ⊢
    go_wp2
    go_ret2
    exact ⟨_, by rw [HC3.out]; rfl, by rw [HO.out, if_pos HC3.out]; exact (HO2.out.mono HB1.out.size).below HB3.out, HB1.out.trans ((HB2.out.trans (HB3.out.mono HB2.out.size)).mono HB1.out.size)⟩
   ·generalize Pl.fault l = c3 at *
    go_wp2
    go_ret2
    exact ⟨_, by rw [HC3.out]; rfl, by rw [HO.out, if_neg (by rw [HC3.out]; exact hz)]; exact Own.nil _ _, HB1.out.trans ((HB2.out.trans (HB3.out.mono HB2.out.size)).mono HB1.out.size)⟩
  ·have HC3 : Hid (Pl.decC bs = c) := by show _ = _; rw [HC.out]; rw [if_neg hc]
   go_wp2
   go_ret2
   exact ⟨_, by rw [HC3.out]; rfl, by rw [HO.out, if_neg (by rw [HC3.out]; exact hc)]; exact Own.nil _ _, HB1.out.trans (HB2.out.mono HB1.out.size)⟩
 ·have HC : Hid (Pl.decC bs = Pl.frameC bs) := by show _ = _; unfold Pl.decC; rw [if_neg hf]
  have HO : Hid (Pl.decO bs = []) := by show _ = _; unfold Pl.decO; rw [if_neg (by rw [HC.out]; exact hf)]
  clear hrow
  generalize Pl.frameC bs = c at *
  go_enter Tryz.func191, Tryz.ntmps191
  go_wp2_with fail
  refine HFR.out.mono ?_
  rintro x w1 ⟨rfl, hb1⟩
  have HB1 := hid hb1
  clear hb1
  go_wp2
  go_ret2
  exact ⟨_, by rw [HC.out]; rfl, by rw [HO.out]; exact Own.nil _ _, HB1.out⟩
set_option maxHeartbeats 400000 in
theorem appendText_any (base : Nat) (v : Value) (bs : List UInt8) (s : ByteArray) (w : World) (h : OwnB w base v bs) (hb : base ≤ w.heap.size) (hs : s.size ≤ 255) (hl : bs.length ≤ 1000000) :
  Calls Tryz.prog 90 #[v, .string s] w fun e w' => ∃ v', e = .returned v' ∧ OwnB w' base v' (bs ++ Pl.encT s) ∧ Keep base w w' := by
 have HO := hid h
 clear h
 go_enter Tryz.func90, Tryz.ntmps90
 go_wp2_with (first
  | (at_builtin; refine append_b1 rfl (.tmp 5) (.tmp 9) rfl base v bs (s.size : Int) rfl HO.out hb rfl (by omega) (by omega) (by omega) ?_; intro v1 w1 ho1 hk1; have HO1 := hid ho1; clear ho1; have hz1 := hk1.1.size)
  | (at_builtin; refine append_str rfl (.tmp 11) (.tmp 12) rfl base v1 (bs ++ [Pl.u8 (s.size : Int)]) s rfl HO1.out (by omega) rfl (by simp; omega) ?_; intro v2 w2 ho2 hk2))
 go_ret
 exact ⟨_, rfl, by have e := ho2; rw [List.append_assoc] at e; exact e, hk1.trans hk2⟩
set_option maxHeartbeats 400000 in
theorem appendVersion_any (base : Nat) (v : Value) (bs : List UInt8) (n : Int) (w : World) (h : OwnB w base v bs) (hb : base ≤ w.heap.size) (h0 : 0 ≤ n) (h1 : n ≤ 1099511627776) (hl : bs.length ≤ 1000000) :
  Calls Tryz.prog 91 #[v, .int .i64 n] w fun e w' => ∃ v', e = .returned v' ∧ OwnB w' base v' (bs ++ Pl.encV 6 n) ∧ Keep base w w' := by
 have HO := hid h
 clear h
 go_enter Tryz.func91, Tryz.ntmps91
 go_wp2
 go_loopw [0, 1] (fun vv x wr => ∃ (f : Nat) (c : List UInt8) (m : Int) (u : Value), u = vv ∧ x = .int .i64 m ∧ f ≤ 6 ∧ 0 ≤ m ∧ m ≤ 1099511627776 ∧ Hid (m < Pl.lim f) ∧ Hid (OwnB wr base u c) ∧ c.length ≤ 1000000 + 6 - f ∧ Hid (bs ++ Pl.encV 6 n = c ++ Pl.encV f m) ∧ Keep base w wr) (fun _ x _ => (intOf x).toNat)
 case atStart => exact ⟨6, bs, n, v, rfl, rfl, by omega, h0, h1, by show _ < _; simp only [Pl.lim]; omega, HO, by omega, rfl, Keep.refl _ _⟩
 case round =>
  obtain ⟨f, c, m, u, rfl, rfl, hf, hm0, hm1, HL, HC, hc, HE, hk⟩ := hrel
  have hz := hk.1.size
  by_cases hlt : m < 128
  ·have HF : Hid (bs ++ Pl.encV 6 n = c ++ [Pl.u8 m]) := by show _ = _; rw [HE.out, Pl.encV_small hlt]
   go_wp2_with (at_builtin; refine append_b1 rfl (.tmp 16) (.tmp 19) rfl base u c m rfl HC.out (by omega) rfl (by omega) (by omega) (by omega) ?_; intro v1 w1 ho1 hk1)
   go_ret
   exact ⟨_, rfl, by rw [HF.out]; exact ho1, hk.trans hk1⟩
  ·obtain ⟨g, rfl⟩ : ∃ g, f = g + 1 := by
    cases f with
    | zero => exact absurd HL.out (by simp only [Pl.lim]; omega)
    | succ g => exact ⟨g, rfl⟩
   have HF : Hid (bs ++ Pl.encV 6 n = (c ++ [Pl.u8 (m % 128 + 128)]) ++ Pl.encV g (m / 128)) := by
    show _ = _
    rw [HE.out, Pl.encV_great hlt]; simp
   have HLG : Hid (m / 128 < Pl.lim g) := by
    have := HL.out
    simp only [Pl.lim] at this
    show _ < _
    omega
   go_wp2_with (at_builtin; refine append_b1 rfl (.tmp 7) (.tmp 12) rfl base u c (m % 128 + 128) rfl HC.out (by omega) rfl (by omega) (by omega) (by omega) ?_; intro v1 w1 ho1 hk1)
   go_roundw
   case rel => exact ⟨g, c ++ [Pl.u8 (m % 128 + 128)], m / 128, _, rfl, by go_num, by omega, by omega, by omega, HLG, ho1, by simp; omega, HF, hk.trans hk1⟩
   case measure => simp [intOf]; omega
def Pl.encO (es : List Pl.Ent) : List UInt8 := if Pl.fault es = 0 then Pl.enc es else []
theorem box_keep {base : Nat} {w w' : World} {c0 c1 c2 c3 : Value} (h : Keep base (w.alloc (.cells #[c0, c1, c2, c3] 55)) w') :
  w'.cell? ⟨w.heap.size, 0, none⟩ = some c0 ∧ w'.cell? ⟨w.heap.size, 1, none⟩ = some c1 ∧ w'.cell? ⟨w.heap.size, 2, none⟩ = some c2 ∧ w'.cell? ⟨w.heap.size, 3, none⟩ = some c3 := by
 have hh := h.2 w.heap.size _ _ _ (heap_new w _) (by decide)
 refine ⟨?_, ?_, ?_, ?_⟩
 all_goals simp [World.cell?, hh]
set_option maxHeartbeats 1000000 in
theorem Encode_any (a : Option Addr) (len cap : Nat) (es : List Pl.Ent) (w : World) (h : IsEnts w a len cap es) :
  Calls Tryz.prog 53 #[.slice a len cap] w fun e w' => ∃ v, e = .returned (.tuple #[v, .int .i64 (Pl.fault es)]) ∧ OwnB w' w.heap.size v (Pl.encO es) ∧ Below w.heap.size w w' := by
 have HH := hid h
 have hlen : es.length = len := h.1
 have hcap := h.2.1
 have hm := h.2.2.1
 unfold maxLen at hm
 clear h
 obtain ⟨c, HC⟩ : ∃ c, Hid (Pl.fault es = c) := ⟨_, rfl⟩
 by_cases hc0 : c = 0
 ·subst hc0
  have HG := hid ((Pl.good_iff es).1 HC.out)
  have hl60 : len ≤ 60 := by have := HG.out.1; omega
  go_enter Tryz.func53, Tryz.ntmps53
  go_wp2_with fail
  refine (Check_any _ _ _ es _ HH.out).mono ?_
  rw [HC.out]
  rintro e w1 ⟨rfl, hb1⟩
  have hz1 := hb1.size
  go_wp2_with fail
  go_loopw [5, 19] (fun vv i wr => ∃ (k : Nat) (c : List UInt8) (u : Value), u = vv ∧ k ≤ len ∧ i = .int .i64 k ∧ Hid (OwnB wr w.heap.size u c) ∧ c.length ≤ 2 + k * 138 ∧ Hid (Pl.body es = c ++ Pl.encL (es.drop k)) ∧ Below w.heap.size w wr) (fun _ i _ => len - (intOf i).toNat)
  case atStart => exact ⟨0, [116, Pl.u8 (es.length : Int)], _, rfl, Nat.zero_le _, rfl, by rw [hlen]; exact (ownb_lit2 w1 116 (len : Int) (by omega) (by omega)).mono hz1, by simp, rfl, hb1.alloc hz1 _⟩
  case round =>
   obtain ⟨k, c, u, rfl, hk, rfl, HO, hcl, HE, hb⟩ := hrel
   have hz := hb.size
   by_cases hlt : k < len
   ·obtain ⟨b, off, rfl, hbw, hr⟩ : ∃ b off, a = some ⟨b, off, none⟩ ∧ b < w.heap.size ∧ RowAt w b off es := by
     rcases HH.out.2.2.2.2 with h | h
     ·rw [h] at hlen; simp at hlen; omega
     ·exact h
    obtain ⟨q0, q1, q2, q3⟩ := hr.below hbw hb k (by omega)
    clear hr
    have hpp := Pl.may_parts (HG.out.2.1 _ (Pl.ent_mem es k (by omega)))
    have HLN := hid (Pl.encE_len (HG.out.2.1 _ (Pl.ent_mem es k (by omega))))
    have HD := hid (Pl.drop_ent es k (by omega))
    generalize Pl.ent es k = x at *
    obtain ⟨xk, xv, xo, xx⟩ := x
    simp only at q0 q1 q2 q3 hpp
    obtain ⟨p1, p2, p3, p4, p5, p6, p7⟩ := hpp
    go_wp2_with fail
    refine (appendText_any w.heap.size u c xk _ (HO.out.below ((Below.refl _ _).alloc (Nat.le_refl _) _)) (by simp; omega) (by omega) (by omega)).mono ?_
    rintro e w3 ⟨v3, rfl, ho3, hk3⟩
    have HO3 := hid ho3
    clear ho3
    obtain ⟨x0, x1, x2, x3⟩ := box_keep hk3
    have hz3 := hk3.1.size
    simp at hz3
    have hl3 : (c ++ Pl.encT xk).length ≤ 2 + k * 138 + 9 := by rw [List.length_append, Pl.encT_len]; omega
    go_wp2_with fail
    refine (appendVersion_any w.heap.size v3 _ xv _ HO3.out (by omega) (by omega) (by omega) (by omega)).mono ?_
    rintro e w4 ⟨v4, rfl, ho4, hk4⟩
    have HO4 := hid ho4
    clear ho4 x0 x1 x2 x3
    have hk34 := hk3.trans hk4
    obtain ⟨x0, x1, x2, x3⟩ := box_keep hk34
    have hz4 := hk4.1.size
    have hl4 : (c ++ Pl.encT xk ++ Pl.encV 6 xv).length ≤ 2 + k * 138 + 16 := by rw [List.length_append]; have := Pl.encV_len 6 xv; omega
    go_wp2_with (at_builtin; refine append_b1 rfl (.tmp 31) (.tmp 35) rfl w.heap.size v4 (c ++ Pl.encT xk ++ Pl.encV 6 xv) xo rfl HO4.out (by omega) rfl (by omega) (by omega) (by omega) ?_; intro v5 w5 ho5 hk5; have HO5 := hid ho5; clear ho5 x0 x1 x2 x3; have hk35 := hk34.trans hk5; obtain ⟨x0, x1, x2, x3⟩ := box_keep hk35; have hz5 := hk5.1.size)
    have hl5 : (c ++ Pl.encT xk ++ Pl.encV 6 xv ++ [Pl.u8 xo]).length ≤ 2 + k * 138 + 17 := by rw [List.length_append]; simp only [List.length_singleton]; omega
    refine (appendText_any w.heap.size v5 _ xx _ HO5.out (by omega) (by omega) (by omega)).mono ?_
    rintro e w6 ⟨v6, rfl, ho6, hk6⟩
    have HF : Hid (OwnB w6 w.heap.size v6 (c ++ Pl.encE ⟨xk, xv, xo, xx⟩)) := by
     have := ho6
     rw [show c ++ Pl.encT xk ++ Pl.encV 6 xv ++ [Pl.u8 xo] ++ Pl.encT xx = c ++ Pl.encE ⟨xk, xv, xo, xx⟩ by simp [Pl.encE]] at this
     exact this
    clear ho6
    go_wp2_with fail
    go_roundw
    case rel => exact ⟨k + 1, _, _, rfl, by omega, by go_num, HF, by rw [List.length_append]; have := HLN.out; omega, by show _ = _; rw [HE.out, HD.out]; simp [Pl.encL], (hb.alloc hz _).trans (hk35.trans hk6).1⟩
    case measure => simp [intOf]; omega
   ·obtain rfl : k = len := by omega
    have HB : Hid (Pl.body es = c) := by show _ = _; rw [HE.out, List.drop_eq_nil_of_le (by omega)]; simp [Pl.encL]
    obtain ⟨a2, c2, rfl, hI2, hn2, _⟩ := HO.out.shape
    have HI := hid hI2
    clear hI2 hn2
    go_wp2_with fail
    refine (seal_any _ _ _ c _ HI.out).mono ?_
    rintro e w3 ⟨v3, rfl, ho3, hb3⟩
    have hz3 := hb3.size
    obtain ⟨a3, c3, rfl, hI3, hn3, _⟩ := ho3.shape
    have HI3 := hid hI3
    have HN3 := hid hn3
    have HOC := hid (HO.out.below hb3)
    clear ho3 hI3 hn3
    go_wp2_with (at_builtin; refine append_bs rfl (.tmp 42) (.tmp 44) rfl w.heap.size _ c _ _ _ (Pl.sealL c) rfl HOC.out (by omega) rfl HI3.out HN3.out (by rw [Pl.sealL_len]; omega) ?_; intro v4 w4 ho4 hk4)
    go_ret2
    exact ⟨_, by rw [HC.out]; rfl, by unfold Pl.encO Pl.enc; rw [if_pos HC.out, HB.out]; exact ho4, (hb.trans (hb3.mono hz)).trans hk4.1⟩
 ·have hcn : (c != 0) = true := by simp [hc0]
  have HP : Hid (Pl.encO es = []) := by show _ = _; unfold Pl.encO; rw [HC.out, if_neg hc0]
  clear hc0
  go_enter Tryz.func53, Tryz.ntmps53
  go_wp2_with fail
  refine (Check_any _ _ _ es _ HH.out).mono ?_
  rw [HC.out]
  rintro e w1 ⟨rfl, hb1⟩
  go_wp2_with fail
  go_ret2
  exact ⟨_, by rw [HC.out]; rfl, by rw [HP.out]; exact OwnB.nil _ _, hb1⟩
end Go.Proofs.YtjjelkdajdeikaaGreatDoor
namespace Go.Proofs.YtjjelkdajdeikaaGreatDoor.Pl
theorem u8_toNat (x : UInt8) : u8 (x.toNat : Int) = x := by
 unfold u8
 apply UInt8.toNat_inj.1
 rw [UInt8.toNat_ofNat']
 have := x.toNat_lt
 simp
theorem num_back {c : Int} {r : List UInt8} (h : (num c r).2.1 = 0) : c = 0 ∧ r = u8 (num c r).1 :: (num c r).2.2 := by
 by_cases hc : c = 0
 ·subst hc
  cases r with
  | nil => rw [num_nil] at h; simp at h
  | cons x t => rw [num_cons]; exact ⟨rfl, by rw [u8_toNat]⟩
 ·rw [num_bad hc] at h; exact absurd h hc
theorem txt_back {c : Int} {r : List UInt8} (h : (txt c r).2.1 = 0) : c = 0 ∧ r = encT (txt c r).1 ++ (txt c r).2.2 := by
 unfold txt at h ⊢
 by_cases h1 : (num c r).2.1 = 0
 ·rw [if_pos h1] at h ⊢
  by_cases h2 : (num c r).1.toNat ≤ (num c r).2.2.length
  ·rw [if_pos h2]
   have hb := num_back h1
   have hr := num_range c r
   refine ⟨hb.1, ?_⟩
   have hs : ((⟨((num c r).2.2.take (num c r).1.toNat).toArray⟩ : ByteArray).size : Int) = (num c r).1 := by
    show ((((num c r).2.2.take (num c r).1.toNat).toArray.size : Nat) : Int) = _
    simp; omega
   unfold encT
   rw [hs]
   simp only [List.cons_append, List.take_append_drop]
   exact hb.2
  ·rw [if_neg h2] at h; simp at h
 ·rw [if_neg h1] at h; exact absurd h h1
theorem verF_back : ∀ (f k : Nat) (v c : Int) (r : List UInt8), f + k = 8 → k ≤ 7 → (verF f k v c r).2.1 = 0 →
  c = 0 ∧ k ≤ 6 ∧ ∃ m : Int, (verF f k v c r).1 = v + m * 128 ^ k ∧ 0 ≤ m ∧ (0 < k → 1 ≤ m) ∧ r = encV (6 - k) m ++ (verF f k v c r).2.2
 | 0, k, v, c, r => fun h1 h2 => by omega
 | f + 1, k, v, c, r => fun h1 h2 h => by
  rw [verF] at h ⊢
  by_cases hn : (num c r).2.1 = 0
  ·rw [if_pos hn] at h ⊢
   have hb := num_back hn
   have hr := num_range c r
   generalize (num c r).1 = x at *
   generalize (num c r).2.2 = t at *
   by_cases hk : k = 7 ∨ (0 < k ∧ x = 0)
   ·rw [if_pos hk] at h; simp at h
   ·rw [if_neg hk] at h ⊢
    by_cases hx : x < 128
    ·rw [if_pos hx]
     refine ⟨hb.1, by omega, x, ?_, by omega, by omega, ?_⟩
     ·rw [Int.emod_eq_of_lt hr.1 hx]
     ·rw [encV_small hx]; exact hb.2
    ·rw [if_neg hx] at h ⊢
     obtain ⟨_, k6, m, e1, e2, e3, e4⟩ := verF_back f (k + 1) _ _ _ (by omega) (by omega) h
     have m1 := e3 (by omega)
     refine ⟨hb.1, by omega, x % 128 + 128 * m, ?_, by omega, by omega, ?_⟩
     ·rw [e1, Int.pow_succ, Int.add_mul, Int.add_assoc]
      congr 2
      rw [Int.mul_comm 128 m, Int.mul_assoc, Int.mul_comm (128 ^ k) 128]
     ·obtain ⟨g, hg⟩ : ∃ g, 6 - k = g + 1 := ⟨5 - k, by omega⟩
      rw [hg, encV_great (by omega)]
      have ha : (x % 128 + 128 * m) % 128 + 128 = x := by omega
      have hd : (x % 128 + 128 * m) / 128 = m := by omega
      rw [ha, hd, show g = 6 - (k + 1) by omega, List.cons_append, ← e4]
      exact hb.2
  ·rw [if_neg hn] at h; exact absurd h hn
theorem ver_back {c : Int} {r : List UInt8} (h : (ver c r).2.1 = 0) : c = 0 ∧ r = encV 6 (ver c r).1 ++ (ver c r).2.2 := by
 unfold ver at h ⊢
 obtain ⟨h0, _, m, e1, _, _, e2⟩ := verF_back 8 0 0 c r rfl (by omega) h
 refine ⟨h0, ?_⟩
 have : (verF 8 0 0 c r).1 = m := by rw [e1]; simp
 rw [this]; exact e2
theorem ent4_back {c : Int} {r : List UInt8} (h : (ent4 c r).2.1 = 0) : c = 0 ∧ r = encE (ent4 c r).1 ++ (ent4 c r).2.2 := by
 unfold ent4 at h ⊢
 simp only at h ⊢
 have h4 := txt_back h
 have h3 := num_back h4.1
 have h2 := ver_back h3.1
 have h1 := txt_back h2.1
 refine ⟨h1.1, ?_⟩
 unfold encE
 simp only [List.append_assoc]
 rw [← h4.2, List.singleton_append, ← h3.2, ← h2.2, ← h1.2]
theorem entsN_back : ∀ (n : Nat) (l : List Ent) (c : Int) (r : List UInt8), (entsN n l c r).2.1 = 0 →
  ∃ m, (entsN n l c r).1 = l ++ m ∧ m.length = n ∧ r = encL m ++ (entsN n l c r).2.2
 | 0, l, c, r => fun _ => ⟨[], by simp [entsN], rfl, by simp [entsN, encL]⟩
 | n + 1, l, c, r => fun h => by
  rw [entsN] at h ⊢
  by_cases h1 : (ent4 c r).2.1 = 0
  ·rw [if_pos h1] at h ⊢
   obtain ⟨m, e1, e2, e3⟩ := entsN_back n _ _ _ h
   refine ⟨(ent4 c r).1 :: m, by rw [e1]; simp, by simp [e2], ?_⟩
   rw [encL, List.append_assoc, ← e3]
   exact (ent4_back h1).2
  ·rw [if_neg h1] at h; exact absurd h h1
theorem rdL_back {r : List UInt8} (h : (rdL r).2 = 0) : r = u8 ((rdL r).1.length : Int) :: encL (rdL r).1 := by
 unfold rdL at h ⊢
 by_cases h1 : (num 0 r).2.1 = 0
 ·rw [if_pos h1] at h ⊢
  by_cases h2 : (entsN (num 0 r).1.toNat [] (num 0 r).2.1 (num 0 r).2.2).2.1 = 0
  ·rw [if_pos h2] at h ⊢
   by_cases h3 : (entsN (num 0 r).1.toNat [] (num 0 r).2.1 (num 0 r).2.2).2.2 = []
   ·rw [if_pos h3]
    obtain ⟨m, e1, e2, e3⟩ := entsN_back _ _ _ _ h2
    rw [h3, List.append_nil] at e3
    rw [List.nil_append] at e1
    simp only
    rw [e1, e2, ← e3]
    have hr := num_range 0 r
    rw [show (((num 0 r).1.toNat : Nat) : Int) = (num 0 r).1 by omega]
    exact (num_back h1).2
   ·rw [if_neg h3] at h; simp at h
  ·rw [if_neg h2] at h; exact absurd h h2
 ·rw [if_neg h1] at h; exact absurd h h1
theorem dec_back {b : List UInt8} (h : decC b = 0) : fault (decO b) = 0 ∧ encO (decO b) = b := by
 have ho : decO b = (rdL ((b.take (b.length - 4)).drop 1)).1 := by unfold decO; rw [if_pos h]
 unfold decC at h
 by_cases h1 : frameC b = 0
 ·rw [if_pos h1] at h
  by_cases h2 : (rdL ((b.take (b.length - 4)).drop 1)).2 = 0
  ·rw [if_pos h2, ← ho] at h
   refine ⟨h, ?_⟩
   have hb := rdL_back h2
   rw [← ho] at hb
   unfold frameC at h1
   by_cases g1 : 20000 < b.length
   ·rw [if_pos g1] at h1; simp at h1
   rw [if_neg g1] at h1
   by_cases g2 : b.length < 6
   ·rw [if_pos g2] at h1; simp at h1
   rw [if_neg g2] at h1
   by_cases g3 : b.getD 0 0 = 116
   ·rw [if_neg (fun x => x g3)] at h1
    by_cases g4 : sealL (b.take (b.length - 4)) = b.drop (b.length - 4)
    ·have ht : b.take (b.length - 4) = body (decO b) := by
      unfold body
      rw [List.cons_append, List.singleton_append, ← hb]
      match b, g2, g3 with
      | x :: t, g2, g3 =>
       simp only [List.getD_cons_zero] at g3
       subst g3
       simp only [List.length_cons] at g2 ⊢
       obtain ⟨k, hk⟩ : ∃ k, t.length + 1 - 4 = k + 1 := ⟨t.length - 4, by omega⟩
       rw [hk]
       simp
     unfold encO
     rw [h]
     simp only [if_true]
     unfold enc
     rw [← ht, g4, List.take_append_drop]
    ·rw [if_pos g4] at h1; simp at h1
   ·rw [if_pos g3] at h1; simp at h1
  ·rw [if_neg h2] at h; exact absurd h h2
 ·rw [if_neg h1] at h; exact absurd h h1
end Go.Proofs.YtjjelkdajdeikaaGreatDoor.Pl
namespace Go.Proofs.YtjjelkdajdeikaaGreatDoor
open Go.RowKit
set_option maxRecDepth 20000
theorem RowAt.drewN {w : World} {b off : Nat} {es : List Pl.Ent} (h : RowAt w b off es) (n : Nat) : RowAt (w.drewN n) b off es := fun i hi => h i hi
set_option maxHeartbeats 400000 in
theorem clo_any (es : List Pl.Ent) (key : ByteArray) (b off len cap bl bk i : Nat) (w : World) (hl : es.length = len) (_hc : len ≤ cap) (_hm : cap ≤ maxLen)
  (hrow : RowAt w b off es) (h1 : w.cell? ⟨bl, 0, none⟩ = some (.slice (some ⟨b, off, none⟩) len cap)) (h2 : w.cell? ⟨bk, 0, none⟩ = some (.string key)) (hi : i < len) :
  Calls Tryz.prog 95 #[.int .i64 i, .pointer (some ⟨bl, 0, none⟩), .pointer (some ⟨bk, 0, none⟩)] w fun e w' => e = .returned (.bool (!Pl.ltB (Pl.ent es i).key key)) ∧ ∃ n, w' = w.drewN n := by
 unfold maxLen at _hm
 obtain ⟨c0, _, _, _⟩ := hrow i (by omega)
 have hi' : (i : Int) < (len : Int) := by omega
 go_enter Tryz.func95, Tryz.ntmps95
 go_wp2_with fail
 go_quiet (fail)
 go_wp2
 go_ret
 exact ⟨rfl, _, rfl⟩
set_option maxHeartbeats 400000 in
theorem Search_any (es : List Pl.Ent) (key : ByteArray) (a : Option Addr) (len cap bl bk : Nat) (w : World) (hl : es.length = len) (hc : len ≤ cap) (hm : cap ≤ maxLen)
  (hrow : es = [] ∨ ∃ b off, a = some ⟨b, off, none⟩ ∧ RowAt w b off es) (h1 : w.cell? ⟨bl, 0, none⟩ = some (.slice a len cap)) (h2 : w.cell? ⟨bk, 0, none⟩ = some (.string key)) (has : Pl.Asc es) (h60 : len ≤ 60) :
  Calls Tryz.prog 94 #[.int .i64 len, .func (.func 95) #[] #[.pointer (some ⟨bl, 0, none⟩), .pointer (some ⟨bk, 0, none⟩)]] w fun e w' => e = .returned (.int .i64 (Pl.pos es key)) ∧ ∃ n, w' = w.drewN n := by
 have hm' : cap ≤ maxLen := hm
 have HM : Hid (cap ≤ maxLen) := hm'
 clear hm'
 unfold maxLen at hm
 have HR : Hid (es = [] ∨ ∃ b off, a = some ⟨b, off, none⟩ ∧ RowAt w b off es) := hrow
 have H1 : Hid (w.cell? ⟨bl, 0, none⟩ = some (.slice a len cap)) := h1
 have H2 : Hid (w.cell? ⟨bk, 0, none⟩ = some (.string key)) := h2
 have HA : Hid (Pl.Asc es) := has
 clear hrow h1 h2 has
 go_enter Tryz.func94, Tryz.ntmps94
 go_wp2
 go_loopw [5, 6] (fun i j wr => ∃ x y n : Nat, x ≤ y ∧ y ≤ len ∧ i = .int .i64 x ∧ j = .int .i64 y ∧ Hid (wr = w.drewN n) ∧ Hid (∀ t, t < x → Pl.ltB (Pl.ent es t).key key = true) ∧ Hid (∀ t, y ≤ t → t < len → Pl.ltB (Pl.ent es t).key key = false)) (fun i j _ => (intOf j).toNat - (intOf i).toNat)
 case atStart => exact ⟨0, len, 0, Nat.zero_le _, Nat.le_refl _, rfl, rfl, rfl, fun t h => by omega, fun t h h' => by omega⟩
 case round =>
  obtain ⟨x, y, n, hxy, hy, rfl, rfl, HW, HX, HY⟩ := hrel
  by_cases hlt : x < y
  ·obtain ⟨b, off, rfl, hrow⟩ : ∃ b off, a = some ⟨b, off, none⟩ ∧ RowAt w b off es := by
    rcases HR.out with h | h
    ·rw [h] at hl; simp at hl; omega
    ·exact h
   have hr : RowAt wr b off es := by rw [HW.out]; exact hrow.drewN n
   have h1 : wr.cell? ⟨bl, 0, none⟩ = some (.slice (some ⟨b, off, none⟩) len cap) := by rw [HW.out]; exact H1.out
   have h2 : wr.cell? ⟨bk, 0, none⟩ = some (.string key) := by rw [HW.out]; exact H2.out
   have HC := fun m => clo_any es key b off len cap bl bk m wr hl hc HM.out hr h1 h2
   have HC' : Hid _ := HC
   clear HC hr h1 h2
   go_wp2_with fail
   obtain ⟨m, hm2, hxm, hmy⟩ : ∃ m : Nat, ((x : Int) + (y : Int)) / 2 = (m : Int) ∧ x ≤ m ∧ m < y := ⟨(x + y) / 2, by omega, by omega, by omega⟩
   rw [hm2]
   clear hm2
   refine (HC'.out m (by omega)).mono ?_
   rintro e w' ⟨rfl, q, hq⟩
   have HQ : Hid (w' = wr.drewN q) := hq
   clear hq
   obtain ⟨ll, HL⟩ : ∃ ll, Hid (Pl.ltB (Pl.ent es m).key key = ll) := ⟨_, rfl⟩
   rw [HL.out]
   have HW' : Hid (w' = w.drewN (n + q)) := by show _ = _; rw [HQ.out, HW.out, World.drewN_drewN]
   cases ll
   ·go_wp2
    go_roundw
    case rel => exact ⟨x, m, n + q, by omega, by omega, rfl, rfl, HW', HX, fun t h h' => Pl.asc_ge HA.out (by omega) h HL.out⟩
    case measure => simp [intOf]; omega
   ·go_wp2
    go_roundw
    case rel => exact ⟨m + 1, y, n + q, by omega, by omega, by go_num, rfl, HW', fun t h => Pl.asc_lt HA.out (by omega) (by omega) HL.out, HY⟩
    case measure => simp [intOf]; omega
  ·obtain rfl : x = y := by omega
   go_wp2
   go_ret
   exact ⟨ret_int (by rw [Pl.pos_of (by omega) HX.out (fun h => HY.out x (Nat.le_refl _) (by omega))]), n, HW.out⟩
set_option maxHeartbeats 400000 in
theorem find_any (a : Option Addr) (len cap : Nat) (es : List Pl.Ent) (key : ByteArray) (w : World) (h : IsEnts w a len cap es) (has : Pl.Asc es) (h60 : len ≤ 60) :
  Calls Tryz.prog 57 #[.slice a len cap, .string key] w fun e w' => e = .returned (.tuple #[.int .i64 (Pl.pos es key), .bool (Pl.there es key)]) ∧ Below w.heap.size w w' := by
 obtain ⟨hl, hc, hm, _, hrow⟩ := h
 have hmf : ∀ (fn : Fn) (first cap : Array Value) (w : World), (Instr.makeFunc fn first cap).run Tryz.prog w = .ok (.func fn first cap) w := fun _ _ _ _ => rfl
 have HB : Hid (Below w.heap.size w ((w.alloc (.cells #[.slice a len cap] 28)).alloc (.cells #[.string key] 9))) := ((Below.refl _ _).alloc (Nat.le_refl _) _).alloc (by simp) _
 have HS : Hid (Calls Tryz.prog 94 #[.int .i64 len, .func (.func 95) #[] #[.pointer (some ⟨w.heap.size, 0, none⟩), .pointer (some ⟨w.heap.size + 1, 0, none⟩)]] ((w.alloc (.cells #[.slice a len cap] 28)).alloc (.cells #[.string key] 9)) fun e w' => e = .returned (.int .i64 (Pl.pos es key)) ∧ ∃ n, w' = ((w.alloc (.cells #[.slice a len cap] 28)).alloc (.cells #[.string key] 9)).drewN n) := by
  refine Search_any es key a len cap _ _ _ hl hc hm ?_ ?_ ?_ has h60
  ·rcases hrow with h | ⟨b, off, rfl, hb, hr⟩
   ·exact .inl h
   ·exact .inr ⟨b, off, rfl, hr.below hb HB.out⟩
  ·go_simp
  ·go_simp
 have hp := Pl.pos_le es key
 unfold maxLen at hm
 rcases Nat.lt_or_ge (Pl.pos es key) len with hlt | hge
 ·obtain ⟨b, off, rfl, hb, hr⟩ : ∃ b off, a = some ⟨b, off, none⟩ ∧ b < w.heap.size ∧ RowAt w b off es := by
   rcases hrow with h | h
   ·rw [h] at hl; simp at hl; omega
   ·exact h
  obtain ⟨c0, _, _, _⟩ := hr (Pl.pos es key) (by omega)
  have HT : Hid (Pl.there es key = ((Pl.ent es (Pl.pos es key)).key.toList == key.toList)) := by
   show _ = _
   unfold Pl.there
   rw [Pl.beqL, decide_eq_true (show Pl.pos es key < es.length by omega)]; rfl
  generalize Pl.pos es key = p at *
  clear hrow hr
  have hlt' : (p : Int) < (len : Int) := by omega
  go_enter Tryz.func57, Tryz.ntmps57
  go_wp2_with fail
  refine HS.out.mono ?_
  rintro e w' ⟨rfl, n, hn⟩
  subst hn
  go_wp2_with fail
  go_quiet (fail)
  go_wp2
  go_ret2
  exact ⟨by rw [HT.out]; rfl, below_drewN (below_drewN HB.out _) _⟩
 ·have HT : Hid (Pl.there es key = false) := by
   show _ = _
   unfold Pl.there
   rw [decide_eq_false (show ¬ Pl.pos es key < es.length by omega)]; rfl
  generalize Pl.pos es key = p at *
  have hd : decide ((p : Int) < (len : Int)) = false := by simp; omega
  have hd' : decide (p < len) = false := by simp; omega
  go_enter Tryz.func57, Tryz.ntmps57
  go_wp2_with fail
  refine HS.out.mono ?_
  rintro e w' ⟨rfl, n, hn⟩
  subst hn
  go_wp2_with fail
  go_quiet (fail)
  go_wp2
  go_ret2
  exact ⟨by rw [HT.out]; rfl, below_drewN (below_drewN HB.out _) _⟩
set_option maxHeartbeats 1000000 in
theorem comes_any (a : Option Addr) (len cap : Nat) (es : List Pl.Ent) (x : Pl.Ent) (w : World) (h : IsEnts w a len cap es) :
  Calls Tryz.prog 88 #[.slice a len cap, .int .i64 (Pl.pos es x.key), .bool (Pl.there es x.key), .agg #[.string x.key, .int .i64 x.ver, .int .i64 x.org, .string x.val]] w
   fun e w' => e = .returned (.bool (Pl.comesB es x)) ∧ Below w.heap.size w w' := by
 obtain ⟨hl, hc, hm, _, hrow⟩ := h
 unfold maxLen at hm
 obtain ⟨t, HT⟩ : ∃ t, Hid (Pl.there es x.key = t) := ⟨_, rfl⟩
 cases t
 ·have HC : Hid (Pl.comesB es x = decide ((len : Int) < 60)) := by
   show _ = _
   unfold Pl.comesB; rw [HT.out, Bool.eq_iff_iff]; simp; omega
  rw [HT.out]
  generalize Pl.comesB es x = cb at *
  generalize Pl.pos es x.key = p at *
  obtain ⟨xk, xv, xo, xx⟩ := x
  go_enter Tryz.func88, Tryz.ntmps88
  go_wp2
  go_ret
  exact ⟨ret_bool HC.out.symm, (Below.refl _ _).alloc (Nat.le_refl _) _⟩
 ·have hlt : Pl.pos es x.key < len := by
   have := HT.out
   unfold Pl.there at this
   simp only [Bool.and_eq_true, decide_eq_true_eq] at this
   omega
  have HC : Hid (Pl.comesB es x = decide (0 < Pl.cmpE x.ver x.org x.val (Pl.ent es (Pl.pos es x.key)).ver (Pl.ent es (Pl.pos es x.key)).org (Pl.ent es (Pl.pos es x.key)).val)) := by
   show _ = _
   unfold Pl.comesB; rw [HT.out]; rfl
  rw [HT.out]
  generalize Pl.comesB es x = cb at *
  obtain ⟨b, off, rfl, hb, hr⟩ : ∃ b off, a = some ⟨b, off, none⟩ ∧ b < w.heap.size ∧ RowAt w b off es := by
   rcases hrow with h | h
   ·rw [h] at hl; simp at hl; omega
   ·exact h
  clear hrow
  obtain ⟨q0, q1, q2, q3⟩ := hr (Pl.pos es x.key) (by omega)
  generalize Pl.pos es x.key = p at *
  generalize Pl.ent es p = y at *
  obtain ⟨xk, xv, xo, xx⟩ := x
  obtain ⟨yk, yv, yo, yx⟩ := y
  simp only at q0 q1 q2 q3
  have hlt' : (p : Int) < (len : Int) := by omega
  go_enter Tryz.func88, Tryz.ntmps88
  go_wp2_with fail
  go_region_with (go_at_call 139; refine (Compare_any _ _ _ _ _ _ _ _ _).mono ?_; rintro e w' ⟨rfl, hbc⟩)
  all_goals
   go_wp2_with fail
   go_ret
   exact ⟨ret_bool HC.out.symm, (((Below.refl _ _).alloc (Nat.le_refl _) _).drew).trans (hbc.mono (by simp))⟩
def Pl.mergeC (a b : List Pl.Ent) : Int := if Pl.fault a = 0 then Pl.fault b else Pl.fault a
def Pl.mergeO (a b : List Pl.Ent) : List Pl.Ent := if Pl.mergeC a b = 0 then (Pl.mrg a [] b).1 else []
def Pl.mergeK (a b : List Pl.Ent) : List ByteArray := if Pl.mergeC a b = 0 then (Pl.mrg a [] b).2 else []
theorem Pl.Good.ok {es : List Pl.Ent} (h : Pl.Good es) : ∀ e ∈ es, e.ok := fun e he => Pl.may_ok (h.2.1 e he)
set_option maxHeartbeats 2000000 in
theorem Merge_any (a : Option Addr) (len cap : Nat) (ea : List Pl.Ent) (b : Option Addr) (lenb capb : Nat) (eb : List Pl.Ent) (w : World) (h : IsEnts w a len cap ea) (hnil : a = none → cap = 0) (hB : IsEnts w b lenb capb eb) :
  Calls Tryz.prog 52 #[.slice a len cap, .slice b lenb capb] w fun e w' => ∃ vo vk, e = .returned (.tuple #[vo, vk, .int .i64 (Pl.mergeC ea eb)]) ∧
   Own w' w.heap.size vo (Pl.mergeO ea eb) ∧ OwnS w' w.heap.size vk (Pl.mergeK ea eb) ∧ Below w.heap.size w w' := by
 have HH : Hid (IsEnts w a len cap ea) := h
 have HN : Hid (a = none → cap = 0) := hnil
 have HB : Hid (IsEnts w b lenb capb eb) := hB
 clear h hnil hB
 obtain ⟨ca, HCA⟩ : ∃ c, Hid (Pl.fault ea = c) := ⟨_, rfl⟩
 obtain ⟨cb, HCB⟩ : ∃ c, Hid (Pl.fault eb = c) := ⟨_, rfl⟩
 by_cases hca : ca = 0
 ·by_cases hcb : cb = 0
  ·subst hca hcb
   have HGA : Hid (Pl.Good ea) := (Pl.good_iff ea).1 HCA.out
   have HGB : Hid (Pl.Good eb) := (Pl.good_iff eb).1 HCB.out
   have HM : Hid (Pl.mergeC ea eb = 0 ∧ Pl.mergeO ea eb = (Pl.mrg ea [] eb).1 ∧ Pl.mergeK ea eb = (Pl.mrg ea [] eb).2) := by
    have : Pl.mergeC ea eb = 0 := by unfold Pl.mergeC; rw [HCA.out, HCB.out]; rfl
    refine ⟨this, ?_, ?_⟩
    ·unfold Pl.mergeO; rw [if_pos this]
    ·unfold Pl.mergeK; rw [if_pos this]
   have hlen : len ≤ 60 := by have := HH.out.1; have := HGA.out.1; omega
   have hlenb : lenb ≤ 60 := by have := HB.out.1; have := HGB.out.1; omega
   have hlb : eb.length = lenb := HB.out.1
   have hcapb := HB.out.2.1
   have hmb := HB.out.2.2.1
   unfold maxLen at hmb
   go_enter Tryz.func52, Tryz.ntmps52
   go_wp2_with fail
   refine (Check_any _ _ _ ea _ HH.out).mono ?_
   rw [HCA.out]
   rintro e w1 ⟨rfl, hb1⟩
   go_wp2_with fail
   refine (Check_any _ _ _ eb _ (HB.out.below hb1)).mono ?_
   rw [HCB.out]
   rintro e w2 ⟨rfl, hb2⟩
   have hbl2 : Below w.heap.size w w2 := hb1.trans (hb2.mono hb1.size)
   clear hb1 hb2
   go_wp2_with (at_builtin; refine append_copy rfl (.const (.slice none 0 0)) (.tmp 25) rfl _ _ _ ea rfl rfl (HH.out.below hbl2) HN.out (by omega) ?_; intro vo w3 hown hb3)
   have hbl3 : Below w.heap.size w w3 := hbl2.trans (hb3.mono hbl2.size)
   have HO : Hid (Own w3 w.heap.size vo ea) := hown.mono hbl2.size
   clear hown hb3
   go_loopw [9, 10, 29] (fun vo vk i wr => ∃ (k : Nat) (ol : List Pl.Ent) (ks : List ByteArray) (vkk : Value), vkk = vk ∧ k ≤ lenb ∧ i = .int .i64 k ∧ Hid (Own wr w.heap.size vo ol) ∧ Hid (OwnS wr w.heap.size vkk ks) ∧ ks.length ≤ k ∧ Hid (Pl.mrg ea [] eb = Pl.mrg ol ks (eb.drop k)) ∧ Hid (Pl.Good ol) ∧ Below w.heap.size w wr) (fun _ _ i _ => lenb - (intOf i).toNat)
   case atStart => exact ⟨0, ea, [], _, rfl, Nat.zero_le _, rfl, HO, OwnS.nil _ _, Nat.le_refl _, rfl, HGA, hbl3⟩
   case round =>
    obtain ⟨k, ol, ks, vk, rfl, hk, rfl, HOR, HKR, hks, HMR, HGR, hbr⟩ := hrel
    by_cases hlt : k < lenb
    ·obtain ⟨bb, boff, rfl, hbw, hrw⟩ : ∃ b0 off, b = some ⟨b0, off, none⟩ ∧ b0 < w.heap.size ∧ RowAt w b0 off eb := by
      rcases HB.out.2.2.2.2 with h | h
      ·rw [h] at hlb; simp at hlb; omega
      ·exact h
     obtain ⟨q0, q1, q2, q3⟩ := hrw.below hbw hbr k (by omega)
     have HX : Hid ((Pl.ent eb k).may = true) := HGB.out.2.1 _ (Pl.ent_mem eb k (by omega))
     have HD : Hid (eb.drop k = Pl.ent eb k :: eb.drop (k + 1)) := Pl.drop_ent eb k (by omega)
     have HA : Hid (Pl.Asc ol) := (Pl.asc_iff ol).2 HGR.out.2.2
     obtain ⟨ao, cp, rfl, hE, hn, hpl⟩ := HOR.out.shape HGR.out.ok
     have HE : Hid (IsEnts wr ao ol.length cp ol) := hE
     have HN2 : Hid (ao = none → cp = 0) := hn
     have HL : Hid (ol.length ≤ 60) := HGR.out.1
     clear hE hn hrw hpl
     have hz := hbr.size
     generalize Pl.ent eb k = x at *
     obtain ⟨xk, xv, xo, xx⟩ := x
     simp only at q0 q1 q2 q3
     go_wp2_with fail
     refine (find_any _ _ _ ol _ _ (HE.out.below ((Below.refl _ _).alloc (Nat.le_refl _) _)) HA.out HL.out).mono ?_
     rintro e w4 ⟨rfl, hb4⟩
     have hq4 : Below (wr.heap.size + 1) _ w4 := hb4.mono (by simp)
     obtain ⟨x0, x1, x2, x3⟩ := box4 hq4
     have hz4 := hb4.size
     simp at hz4
     go_wp2_with fail
     refine (comes_any _ _ _ ol ⟨xk, xv, xo, xx⟩ _ (HE.out.below (((Below.refl _ _).alloc (Nat.le_refl _) _).trans (hb4.mono (by simp))))).mono ?_
     rintro e w5 ⟨rfl, hb5⟩
     have hq5 : Below (wr.heap.size + 1) _ w5 := hq4.trans (hb5.mono (by omega))
     have hz5 := hb5.size
     clear x0 x1 x2 x3
     obtain ⟨x0, x1, x2, x3⟩ := box4 hq5
     have hbr5 : Below w.heap.size w w5 := (hbr.alloc hz _).trans (hq5.mono (by omega))
     have hwr5 : Below wr.heap.size wr w5 := ((Below.refl _ _).alloc (Nat.le_refl _) _).trans (hq5.mono (by omega))
     obtain ⟨cc, HCC⟩ : ∃ cc, Hid (Pl.comesB ol ⟨xk, xv, xo, xx⟩ = cc) := ⟨_, rfl⟩
     rw [HCC.out]
     cases cc
     ·go_wp2_with fail
      go_roundw
      case rel => exact ⟨k + 1, ol, ks, _, rfl, by omega, by go_num, HOR.out.below hwr5, HKR.out.below hwr5, by omega, by show _ = _; rw [HMR.out, HD.out]; simp [Pl.mrg, HCC.out], HGR, hbr5⟩
      case measure => simp [intOf]; omega
     ·have HT : Hid (Pl.there ol xk = true → Pl.pos ol xk < ol.length) := by
       intro ht
       unfold Pl.there at ht
       simp only [Bool.and_eq_true, decide_eq_true_eq] at ht
       exact ht.1
      go_wp2_with fail
      refine (lay_any _ _ _ ol (Pl.pos ol xk) (Pl.there ol xk) ⟨xk, xv, xo, xx⟩ _ (HE.out.below hwr5) HN2.out HL.out (Pl.pos_le _ _) HT.out).mono ?_
      rintro e w6 ⟨v6, rfl, hown6, hb6⟩
      have hq6 : Below (wr.heap.size + 1) _ w6 := hq5.trans (hb6.mono (by omega))
      have hz6 := hb6.size
      clear x0 x1 x2 x3
      obtain ⟨x0, x1, x2, x3⟩ := box4 hq6
      have hwr6 : Below wr.heap.size wr w6 := hwr5.trans (hb6.mono (by omega))
      have HK6 : Hid (OwnS w6 w.heap.size vk ks) := HKR.out.below hwr6
      have HO6 : Hid (Own w6 w5.heap.size v6 (Pl.layL ol (Pl.pos ol xk) (Pl.there ol xk) ⟨xk, xv, xo, xx⟩)) := hown6
      clear hown6
      go_wp2_with (at_builtin; refine append_key rfl (.tmp 50) (.tmp 53) rfl w.heap.size vk ks xk rfl HK6.out (by omega) rfl (by omega) ?_; intro vk7 w7 hk7 hg7 hb7)
      have HO7 : Hid (Own w7 w.heap.size v6 (Pl.ins ol ⟨xk, xv, xo, xx⟩)) := by
       have h6 := HO6.out
       rw [Pl.lay_ins ol ⟨xk, xv, xo, xx⟩] at h6
       have ha := Own.below h6 ((Below.refl _ _).alloc (Nat.le_refl _) (.cells #[.string xk] 9))
       refine (Own.kept ha hg7 ?_).mono (by omega)
       have l1 := World.ownsRow.lt h6
       have l2 := World.ownsRow.lt HKR.out
       cases e1 : v6.ownBlock with
       | none => exact .inl rfl
       | some g =>
        right
        intro e2
        have a1 := (l1 g e1).1
        have a2 := (l2 g e2.symm).2
        omega
      have HG7 : Hid (Pl.Good (Pl.ins ol ⟨xk, xv, xo, xx⟩)) := Pl.ins_good HGR.out HX.out HCC.out
      have hbr7 : Below w.heap.size w w7 := (hbr5.trans (hb6.mono (by omega))).trans hb7
      clear hg7 hb7
      go_wp2_with fail
      go_roundw
      case rel => exact ⟨k + 1, _, ks ++ [xk], _, rfl, by omega, by go_num, HO7, hk7, by simp; omega, by show _ = _; rw [HMR.out, HD.out]; simp [Pl.mrg, HCC.out], HG7, hbr7⟩
      case measure => simp [intOf]; omega
    ·obtain rfl : k = lenb := by omega
     go_wp2_with fail
     go_ret3
     have hmm : Pl.mrg ea [] eb = (ol, ks) := by
      rw [HMR.out, List.drop_eq_nil_of_le (by omega)]; rfl
     exact ⟨_, _, by rw [HM.out.1]; rfl, by rw [HM.out.2.1, hmm]; exact HOR.out, by rw [HM.out.2.2, hmm]; exact HKR.out, hbr⟩
  ·subst hca
   have hcn : (cb != 0) = true := by simp [hcb]
   have HM : Hid (Pl.mergeC ea eb = cb ∧ Pl.mergeO ea eb = [] ∧ Pl.mergeK ea eb = []) := by
    have : Pl.mergeC ea eb = cb := by unfold Pl.mergeC; rw [HCA.out, HCB.out]; rfl
    refine ⟨this, ?_, ?_⟩
    ·unfold Pl.mergeO; rw [this, if_neg hcb]
    ·unfold Pl.mergeK; rw [this, if_neg hcb]
   clear hcb
   go_enter Tryz.func52, Tryz.ntmps52
   go_wp2_with fail
   refine (Check_any _ _ _ ea _ HH.out).mono ?_
   rw [HCA.out]
   rintro e w1 ⟨rfl, hb1⟩
   go_wp2_with fail
   refine (Check_any _ _ _ eb _ (HB.out.below hb1)).mono ?_
   rw [HCB.out]
   rintro e w2 ⟨rfl, hb2⟩
   go_wp2_with fail
   go_ret3
   exact ⟨_, _, by rw [HM.out.1]; rfl, by rw [HM.out.2.1]; exact Own.nil _ _, by rw [HM.out.2.2]; exact OwnS.nil _ _, hb1.trans (hb2.mono hb1.size)⟩
 ·have hcn : (ca != 0) = true := by simp [hca]
  have HM : Hid (Pl.mergeC ea eb = ca ∧ Pl.mergeO ea eb = [] ∧ Pl.mergeK ea eb = []) := by
   have : Pl.mergeC ea eb = ca := by unfold Pl.mergeC; rw [HCA.out, if_neg hca]
   refine ⟨this, ?_, ?_⟩
   ·unfold Pl.mergeO; rw [this, if_neg hca]
   ·unfold Pl.mergeK; rw [this, if_neg hca]
  clear hca
  go_enter Tryz.func52, Tryz.ntmps52
  go_wp2_with fail
  refine (Check_any _ _ _ ea _ HH.out).mono ?_
  rw [HCA.out]
  rintro e w1 ⟨rfl, hb1⟩
  go_wp2_with fail
  go_ret3
  exact ⟨_, _, by rw [HM.out.1]; rfl, by rw [HM.out.2.1]; exact Own.nil _ _, by rw [HM.out.2.2]; exact OwnS.nil _ _, hb1⟩
def Pl.dNew (k : Nat) : Pl.DS := ⟨fun j => if j < k then -1 else 0, fun _ _ => false, fun _ => false⟩
theorem zeroSearch : Tryz.zeroCells209 = Array.ofFn (n := 169) fun i => srch 0 (Pl.dNew 0) i.1 := by kernel_rfl
theorem SAt.ext {w B f s t} (h : SAt w B f s) (e1 : ∀ i, i < 12 → s.cost i = t.cost i) (e2 : ∀ i k, i < 12 → k < 12 → s.hops i k = t.hops i k) (e3 : ∀ i, i < 12 → s.done i = t.done i) : SAt w B f t := by
 refine CellsAt.ext h fun o ho => ?_
 unfold srch
 split
 ·rfl
 ·split
  ·rw [e1 _ (by omega)]
  ·split
   ·rw [e2 _ _ (by omega) (by omega)]
   ·rw [e3 _ (by omega)]
theorem newSearch_block (f : Nat) (w : World) : SAt (w.alloc (.cells (Tryz.zeroCells209.setIfInBounds 0 (.int .i64 f)) 209)) w.heap.size f (Pl.dNew 0) := by
 refine CellsAt.new w _ _ _ _ (by rw [zeroSearch]; simp) fun i hi => ?_
 simp only [zeroSearch, Array.size_setIfInBounds, Array.size_ofFn] at hi
 rw [Array.getElem_setIfInBounds (by rw [zeroSearch]; simpa using hi)]
 simp only [zeroSearch, Array.getElem_ofFn]
 by_cases h : 0 = i
 ·subst h; rfl
 ·rw [if_neg h]; unfold srch; rw [if_neg (Ne.symm h), if_neg (Ne.symm h)]
set_option maxHeartbeats 1000000 in
theorem newSearch_any (f : Nat) (hf : f < 12) (w : World) :
  Calls Tryz.prog 102 #[.int .i64 f] w fun e w' => e = .returned (.pointer (some ⟨w.heap.size, 0, none⟩)) ∧ SAt w' w.heap.size f (Pl.dInit f) ∧ Below w.heap.size w w' := by
 go_enter Tryz.func102, Tryz.ntmps102
 go_wp2_with fail
 go_loopw [8] (fun i wr => ∃ k : Nat, k ≤ 12 ∧ i = .int .i64 k ∧ Hid (SAt wr w.heap.size f (Pl.dNew k)) ∧ Hid (Below w.heap.size w wr)) (fun i _ => 12 - (intOf i).toNat)
 case atStart => exact ⟨0, by omega, rfl, newSearch_block f w, (Below.refl _ _).alloc (Nat.le_refl _) _⟩
 case round =>
  obtain ⟨k, hk, rfl, HS, HB⟩ := hrel
  by_cases hlt : k < 12
  ·have hc := HS.out.cost k hlt
   have hz := CellsAt.soft HS.out (1 + k)
   have hB := CellsAt.lt HS.out
   go_wp2_with fail
   go_roundw
   case rel =>
    refine ⟨k + 1, by omega, by go_num, (HS.out.setCost k hlt (-1)).ext (fun i hi => ?_) (fun _ _ _ _ => rfl) (fun _ _ => rfl), HB.out.setCell (Nat.le_refl _) _⟩
    simp only [Pl.dNew, Pl.upd]
    split <;> split <;> omega
   case measure => simp [intOf]; omega
  ·obtain rfl : k = 12 := by omega
   have hc := HS.out.cost f hf
   have hz := CellsAt.soft HS.out (1 + f)
   have hB := CellsAt.lt HS.out
   go_wp2_with fail
   go_ret
   refine ⟨rfl, (HS.out.setCost f hf 0).ext (fun i hi => ?_) (fun _ _ _ _ => rfl) (fun _ _ => rfl), HB.out.setCell (Nat.le_refl _) _⟩
   simp only [Pl.dNew, Pl.upd, Pl.dInit]
   split
   ·rfl
   ·simp
theorem infoInts : (Tryz.prog.info? 31).map (·.size) = some 12 := by kernel_rfl
theorem infoBools : (Tryz.prog.info? 206).map (·.size) = some 12 := by kernel_rfl
def ints12 (c : Nat → Int) : List Value := (List.range 12).map fun i => .int .i64 (c i)
def bools12 (c : Nat → Bool) : List Value := (List.range 12).map fun i => .bool (c i)
theorem ints12_get (c : Nat → Int) (k : Nat) (hk : k < 12) : (ints12 c).toArray[k]? = some (.int .i64 (c k)) := by simp [ints12, hk]
theorem bools12_get (c : Nat → Bool) (k : Nat) (hk : k < 12) : (bools12 c).toArray[k]? = some (.bool (c k)) := by simp [bools12, hk]
theorem wpList_store_as {ops : Array Oper} {rest : List Oper} {op : Oper} {a : Act} {w w1 : World} {Q : Exit → Act → World → Prop} (hgd : op.guard = none) (ty : TypeId) (x y : Operand) (ho : op.op = .store ty x y)
  (b o : Nat) (cells : List Value) (hx : a.eval x = .pointer (some ⟨b, o, none⟩)) (hy : a.eval y = .agg cells.toArray)
  (ht : w.there b o cells.length) (hi : (Tryz.prog.info? ty).map (·.size) = some cells.length) (h1 : ∀ v ∈ cells, v.oneCell' = true) (hw : w1 = w.setCells b o cells)
  (h : wpList Tryz.prog ops Q rest (a.put op.dst undef) w1) : wpList Tryz.prog ops Q (op :: rest) a w :=
 wpList_store_mid hgd ty x y ho b o cells.toArray hx hy (by simpa using ht) (by simpa using hi) (all_oneCell_toArray h1) (by rw [hw] at h; exact h)
theorem infoInt1 : (Tryz.prog.info? 3).map (·.size) = some 1 := by kernel_rfl
theorem infoBool1 : (Tryz.prog.info? 4).map (·.size) = some 1 := by kernel_rfl
theorem infoSome {T : TypeId} {n : Nat} (h : (Tryz.prog.info? T).map (·.size) = some n) : ∃ i, Tryz.prog.info? T = some i ∧ i.size = n := by
 cases hx : Tryz.prog.info? T with
 | none => rw [hx] at h; cases h
 | some i => rw [hx] at h; exact ⟨i, rfl, by simpa using h⟩
theorem run_index_ints (c : Nat → Int) (k : Nat) (hk : k < 12) (w : World) : (Instr.index 31 (.agg (ints12 c).toArray) (.int .i64 k)).run Tryz.prog w = .ok (.int .i64 (c k)) w := by
 have h1 := ints12_get c k hk
 simp only [List.getElem?_toArray] at h1
 obtain ⟨i, hi, hz⟩ := infoSome infoInt1
 simp [Instr.index, part, isAgg, sizeOf, typeInfo, underlying, go_sem, Tryz.underlying31, Tryz.underlying3, hi, hz, h1, hk]
theorem run_index_bools (c : Nat → Bool) (k : Nat) (hk : k < 12) (w : World) : (Instr.index 206 (.agg (bools12 c).toArray) (.int .i64 k)).run Tryz.prog w = .ok (.bool (c k)) w := by
 have h1 := bools12_get c k hk
 simp only [List.getElem?_toArray] at h1
 obtain ⟨i, hi, hz⟩ := infoSome infoBool1
 simp [Instr.index, part, isAgg, sizeOf, typeInfo, underlying, go_sem, Tryz.underlying206, Tryz.underlying4, hi, hz, h1, hk]
theorem SAt.costs {w B f s} (h : SAt w B f s) : w.rangeAt B 1 (ints12 s.cost) := CellsAt.range h 1 _ (by simp [ints12]) fun j hj => by
 simp only [ints12, List.length_map, List.length_range] at hj
 rw [srch_cost _ _ _ hj]; simp [ints12]
theorem SAt.hopsOf {w B f s} (h : SAt w B f s) (i : Nat) (hi : i < 12) : w.rangeAt B (13 + i * 12) (bools12 (s.hops i)) := CellsAt.range h _ _ (by simp [bools12]; omega) fun j hj => by
 simp only [bools12, List.length_map, List.length_range] at hj
 rw [srch_hops _ _ _ _ hi hj]; simp [bools12]
set_option maxHeartbeats 1000000 in
theorem nearest_any (B f : Nat) (s : Pl.DS) (w : World) (h : SAt w B f s) :
  Calls Tryz.prog 151 #[.pointer (some ⟨B, 0, none⟩)] w fun e w' => e = .returned (.int .i64 (Pl.near s 12)) ∧ w' = w := by
 have HC := hid h.costs
 have HH := hid h
 clear h
 go_enter Tryz.func151, Tryz.ntmps151
 go_wp2_with (refine wpList_load_mid rfl 31 (.tmp 8) rfl B 1 rfl (ints12 s.cost) _ HC.out Tryz.underlying31 rfl infoInts ?_)
 go_loop [3, 10] (fun b i => ∃ (k : Nat) (v : Int), k ≤ 12 ∧ i = .int .i64 k ∧ b = .int .i64 v ∧ Hid (v = Pl.near s k)) (fun _ i => 12 - (intOf i).toNat)
 case atStart => exact ⟨0, -1, by omega, rfl, rfl, rfl⟩
 case round =>
  obtain ⟨k, v, hk, rfl, rfl, HV⟩ := hrel
  by_cases hlt : k < 12
  ·have hg := run_index_ints s.cost k hlt w
   have hd := HH.out.done k hlt
   obtain ⟨c, HCK⟩ : ∃ c, Hid (s.cost k = c) := ⟨_, rfl⟩
   obtain ⟨d, HDK⟩ : ∃ d, Hid (s.done k = d) := ⟨_, rfl⟩
   rw [HCK.out] at hg
   rw [HDK.out] at hd
   have HN : Hid (Pl.near s (k + 1) = if c = -1 ∨ d = true then v else if v = -1 ∨ c < s.cost v.toNat then k else v) := hid (by
    conv => lhs; unfold Pl.near
    rw [HCK.out, HDK.out, ← HV.out])
   have hB := CellsAt.lt HH.out
   by_cases hc1 : c = -1
   ·subst hc1
    go_wp2_with fail
    go_round
    case rel => exact ⟨k + 1, v, by omega, by go_num, rfl, by show _ = _; rw [HN.out, if_pos (.inl rfl)]⟩
    case measure => simp [intOf]; omega
   ·cases d
    case true =>
     go_wp2_with fail
     go_round
     case rel => exact ⟨k + 1, v, by omega, by go_num, rfl, by show _ = _; rw [HN.out, if_pos (.inr rfl)]⟩
     case measure => simp [intOf]; omega
    case false =>
     have HN2 : Hid (Pl.near s (k + 1) = if v = -1 ∨ c < s.cost v.toNat then (k : Int) else v) := hid (by rw [HN.out, if_neg (by simpa using hc1)])
     clear HN
     by_cases hv : v = -1
     ·subst hv
      go_wp2_with fail
      go_round
      case rel => exact ⟨k + 1, k, by omega, by go_num, rfl, by show _ = _; rw [HN2.out, if_pos (.inl rfl)]⟩
      case measure => simp [intOf]; omega
     ·obtain ⟨n, rfl, hn⟩ : ∃ n : Nat, v = n ∧ n < 12 := by
       rcases Pl.near_spec s k with ⟨h1, _⟩ | ⟨n, h1, h2, _⟩
       ·exact absurd (HV.out.trans h1) hv
       ·exact ⟨n, HV.out.trans h1, by omega⟩
      have hcn := HH.out.cost n hn
      obtain ⟨q, HQ⟩ : ∃ q, Hid (s.cost n = q) := ⟨_, rfl⟩
      rw [HQ.out] at hcn
      have HN3 : Hid (Pl.near s (k + 1) = if c < q then (k : Int) else n) := hid (by
       have e := HN2.out
       rw [Int.toNat_natCast, HQ.out] at e
       rw [e]
       by_cases hx : c < q
       ·rw [if_pos (.inr hx), if_pos hx]
       ·rw [if_neg (by omega), if_neg hx])
      by_cases hx : c < q
      ·go_wp2_with fail
       go_round
       case rel => exact ⟨k + 1, k, by omega, by go_num, rfl, by show _ = _; rw [HN3.out, if_pos hx]⟩
       case measure => simp [intOf]; omega
      ·go_wp2_with fail
       go_round
       case rel => exact ⟨k + 1, n, by omega, by go_num, rfl, by show _ = _; rw [HN3.out, if_neg hx]⟩
       case measure => simp [intOf]; omega
  ·obtain rfl : k = 12 := by omega
   go_wp2_with fail
   go_ret
   exact ⟨ret_int HV.out, rfl⟩
theorem oneBools : ∀ v ∈ List.replicate 12 (Value.bool false), v.oneCell' = true := by intro v hv; rw [(List.mem_replicate.1 hv).2]; rfl
theorem Pl.dS3_on (n j k : Nat) (h : Nat → Nat → Bool) (hk : h n k = true) (i x : Nat) :
  Pl.upd (Pl.dS3 n j k h) j (Pl.upd (Pl.dS3 n j k h j) k true) i x = Pl.dS3 n j (k + 1) h i x := by
 unfold Pl.dS3 Pl.upd
 by_cases hi : i = j
 ·subst hi
  simp only [if_true]
  by_cases hx : x = k
  ·subst hx; simp [hk]
  ·rw [if_neg hx]
   congr 2
   exact decide_eq_decide.2 (by omega)
 ·simp [hi]
theorem Pl.dS3_off (n j k : Nat) (h : Nat → Nat → Bool) (hk : h n k = false) (i x : Nat) :
  Pl.dS3 n j k h i x = Pl.dS3 n j (k + 1) h i x := by
 unfold Pl.dS3 Pl.upd
 by_cases hi : i = j
 ·subst hi
  simp only [if_true]
  by_cases hx : x = k
  ·subst hx; simp [hk]
  ·congr 2
   exact decide_eq_decide.2 (by omega)
 ·simp [hi]
theorem Pl.dS3_zero (n j : Nat) (h : Nat → Nat → Bool) (i x : Nat) : Pl.dS3 n j 0 h i x = h i x := by
 unfold Pl.dS3 Pl.upd
 by_cases hi : i = j
 ·subst hi; simp
 ·simp [hi]
set_option maxHeartbeats 2000000 in
theorem step_any (B f n j : Nat) (c : Int) (s : Pl.DS) (w : World) (h : SAt w B f s) (hn : n < 12) (hj : j < 12) :
  Calls Tryz.prog 152 #[.pointer (some ⟨B, 0, none⟩), .int .i64 n, .int .i64 j, .int .i64 c] w fun e w' => e = .returned (.tuple #[]) ∧ SAt w' B f (Pl.dStep f n j c s) ∧ But B w w' := by
 have HS := hid h
 have hB := CellsAt.lt h
 have hc0 := h.cost j hj
 have hz0 := CellsAt.soft h (1 + j)
 have hf0 := h.from
 clear h
 obtain ⟨q, HQ⟩ : ∃ q, Hid (s.cost j = q) := ⟨_, rfl⟩
 obtain ⟨s1, HS1⟩ : ∃ s1, Hid (Pl.dS1 j c s = s1) := ⟨_, rfl⟩
 obtain ⟨h2, HH2⟩ : ∃ h2, Hid (Pl.dS2 f n j s1.hops = h2) := ⟨_, rfl⟩
 have HD : Hid (Pl.dStep f n j c s = if s1.cost j < c then s1 else ⟨s1.cost, Pl.dS3 n j 12 h2, s1.done⟩) := hid (by unfold Pl.dStep; rw [HS1.out, HH2.out])
 obtain ⟨ff, HFF⟩ : ∃ x, Hid (f = x) := ⟨_, rfl⟩
 rw [HQ.out] at hc0
 have hcase : (q = -1 ∨ c < q) ∨ (q ≠ -1 ∧ q < c) ∨ (q ≠ -1 ∧ q = c) := by omega
 rcases hcase with hq | ⟨hq1, hq2⟩ | ⟨hq1, hq2⟩
 ·have HS1' : Hid (s1 = ⟨Pl.upd s.cost j c, Pl.upd s.hops j (fun _ => false), s.done⟩) := hid (by rw [← HS1.out]; unfold Pl.dS1; rw [HQ.out, if_pos hq])
  have HE : Hid (s1.cost j = c) := hid (by rw [HS1'.out]; exact Pl.upd_same _ _ _)
  obtain ⟨w1, HX⟩ : ∃ x, Hid (x = (w.setCell ⟨B, 1 + j, none⟩ (.int .i64 c)).setCells B (13 + j * 12) (List.replicate 12 (.bool false))) := ⟨_, rfl⟩
  have HW1 : Hid (SAt w1 B f s1) := hid (by rw [HX.out, HS1'.out]; exact (HS.out.setCost j hj c).clearHops j hj)
  have HB1 : Hid (But B w w1) := hid (by rw [HX.out]; exact But.setCells _ (13 + j * 12) _ ((But.refl B w).setCell (1 + j) (.int .i64 c)))
  have HT1 := hid (CellsAt.there (HS.out.setCost j hj c) (13 + j * 12) 12 (by omega))
  have hB1 := CellsAt.lt HW1.out
  have hc1 := HW1.out.cost j hj
  rw [HE.out] at hc1
  have hf1 := HW1.out.from
  have hh1 := HW1.out.hops j j hj hj
  have hz1 := CellsAt.soft HW1.out (13 + j * 12 + j)
  by_cases hnf : n = f
  ·have HW2 : Hid (SAt (w1.setCell ⟨B, 13 + j * 12 + j, none⟩ (.bool true)) B ff ⟨s1.cost, h2, s1.done⟩) := hid (by
    rw [← HH2.out, ← HFF.out]; unfold Pl.dS2; rw [if_pos hnf]; exact HW1.out.setHop j j hj hj true)
   have HB2 := hid (HB1.out.setCell (13 + j * 12 + j) (.bool true))
   have HR2 := hid (HW2.out.hopsOf n hn)
   subst hnf
   go_enter Tryz.func152, Tryz.ntmps152
   rcases (by omega : q = -1 ∨ (q ≠ -1 ∧ c < q)) with rfl | ⟨hq1, hq⟩
   all_goals
    go_wp2_with (first
     | refine wpList_store_as rfl 206 (.tmp 38) (.tmp 35) rfl B (13 + j * 12) (List.replicate 12 (Value.bool false)) rfl rfl HT1.out infoBools oneBools HX.out ?_
     | refine wpList_load_mid rfl 206 (.tmp 64) rfl B (13 + n * 12) rfl (bools12 (h2 n)) _ HR2.out Tryz.underlying206 rfl infoBools ?_)
    go_loopw [66] (fun i wr => ∃ k : Nat, k ≤ 12 ∧ i = .int .i64 k ∧ Hid (SAt wr B ff ⟨s1.cost, Pl.dS3 n j k h2, s1.done⟩) ∧ Hid (But B w wr)) (fun i _ => 12 - (intOf i).toNat)
    case atStart => exact ⟨0, by omega, rfl, HW2.out.ext (fun _ _ => rfl) (fun i x _ _ => (Pl.dS3_zero n j h2 i x).symm) (fun _ _ => rfl), HB2⟩
    case round =>
     obtain ⟨k, hk, rfl, HS3, HB3⟩ := hrel
     by_cases hlt : k < 12
     ·have hg := fun w => run_index_bools (h2 n) k hlt w
      have hk3 := HS3.out.hops j k hj hlt
      have hz3 := CellsAt.soft HS3.out (13 + j * 12 + k)
      have hB3 := CellsAt.lt HS3.out
      obtain ⟨b, HBK⟩ : ∃ b, Hid (h2 n k = b) := ⟨_, rfl⟩
      rw [HBK.out] at hg
      cases b
      case true =>
       go_wp2_with fail
       go_roundw
       case rel => exact ⟨k + 1, by omega, by go_num, (HS3.out.setHop j k hj hlt true).ext (fun _ _ => rfl) (fun i x _ _ => Pl.dS3_on n j k h2 HBK.out i x) (fun _ _ => rfl), HB3.out.setCell _ _⟩
       case measure => simp [intOf]; omega
      case false =>
       go_wp2_with fail
       go_roundw
       case rel => exact ⟨k + 1, by omega, by go_num, HS3.out.ext (fun _ _ => rfl) (fun i x _ _ => Pl.dS3_off n j k h2 HBK.out i x) (fun _ _ => rfl), HB3⟩
       case measure => simp [intOf]; omega
     ·obtain rfl : k = 12 := by omega
      go_wp2_with fail
      (try simp only [Exit.inBlock, Exit.then])
      first | refine bodyPost_end (v := .tuple #[]) (by simp [results, Tryz.results152, go_sem]) rfl ?_ | refine bodyPost_ret (v := .tuple #[]) (by simp [results, Tryz.results152, go_sem]) rfl ?_
      have hfin := HS3.out
      rw [← HFF.out] at hfin
      refine ⟨rfl, ?_, HB3.out⟩
      rw [HD.out, if_neg (by rw [HE.out]; omega)]
      exact hfin
  ·have HW2 : Hid (SAt w1 B ff ⟨s1.cost, h2, s1.done⟩) := hid (by
    rw [← HH2.out, ← HFF.out]; unfold Pl.dS2; rw [if_neg hnf]; exact HW1.out)
   have HB2 := HB1
   have HR2 := hid (HW2.out.hopsOf n hn)
   go_enter Tryz.func152, Tryz.ntmps152
   rcases (by omega : q = -1 ∨ (q ≠ -1 ∧ c < q)) with rfl | ⟨hq1, hq⟩
   all_goals
    go_wp2_with (first
     | refine wpList_store_as rfl 206 (.tmp 38) (.tmp 35) rfl B (13 + j * 12) (List.replicate 12 (Value.bool false)) rfl rfl HT1.out infoBools oneBools HX.out ?_
     | refine wpList_load_mid rfl 206 (.tmp 64) rfl B (13 + n * 12) rfl (bools12 (h2 n)) _ HR2.out Tryz.underlying206 rfl infoBools ?_)
    go_loopw [66] (fun i wr => ∃ k : Nat, k ≤ 12 ∧ i = .int .i64 k ∧ Hid (SAt wr B ff ⟨s1.cost, Pl.dS3 n j k h2, s1.done⟩) ∧ Hid (But B w wr)) (fun i _ => 12 - (intOf i).toNat)
    case atStart => exact ⟨0, by omega, rfl, HW2.out.ext (fun _ _ => rfl) (fun i x _ _ => (Pl.dS3_zero n j h2 i x).symm) (fun _ _ => rfl), HB2⟩
    case round =>
     obtain ⟨k, hk, rfl, HS3, HB3⟩ := hrel
     by_cases hlt : k < 12
     ·have hg := fun w => run_index_bools (h2 n) k hlt w
      have hk3 := HS3.out.hops j k hj hlt
      have hz3 := CellsAt.soft HS3.out (13 + j * 12 + k)
      have hB3 := CellsAt.lt HS3.out
      obtain ⟨b, HBK⟩ : ∃ b, Hid (h2 n k = b) := ⟨_, rfl⟩
      rw [HBK.out] at hg
      cases b
      case true =>
       go_wp2_with fail
       go_roundw
       case rel => exact ⟨k + 1, by omega, by go_num, (HS3.out.setHop j k hj hlt true).ext (fun _ _ => rfl) (fun i x _ _ => Pl.dS3_on n j k h2 HBK.out i x) (fun _ _ => rfl), HB3.out.setCell _ _⟩
       case measure => simp [intOf]; omega
      case false =>
       go_wp2_with fail
       go_roundw
       case rel => exact ⟨k + 1, by omega, by go_num, HS3.out.ext (fun _ _ => rfl) (fun i x _ _ => Pl.dS3_off n j k h2 HBK.out i x) (fun _ _ => rfl), HB3⟩
       case measure => simp [intOf]; omega
     ·obtain rfl : k = 12 := by omega
      go_wp2_with fail
      (try simp only [Exit.inBlock, Exit.then])
      first | refine bodyPost_end (v := .tuple #[]) (by simp [results, Tryz.results152, go_sem]) rfl ?_ | refine bodyPost_ret (v := .tuple #[]) (by simp [results, Tryz.results152, go_sem]) rfl ?_
      have hfin := HS3.out
      rw [← HFF.out] at hfin
      refine ⟨rfl, ?_, HB3.out⟩
      rw [HD.out, if_neg (by rw [HE.out]; omega)]
      exact hfin
 ·have HS1' : Hid (s1 = s) := hid (by rw [← HS1.out]; unfold Pl.dS1; rw [HQ.out, if_neg (by omega)])
  have hq3 : ¬ c < q := by omega
  have hq4 : ¬ q = -1 := hq1
  go_enter Tryz.func152, Tryz.ntmps152
  go_wp2_with fail
  (try simp only [Exit.inBlock, Exit.then])
  refine bodyPost_ret (v := .tuple #[]) (results_none rfl _ _ _) rfl ?_
  refine ⟨rfl, ?_, But.refl _ _⟩
  rw [HD.out, HS1'.out, HQ.out, if_pos hq2]
  exact HS.out
 ·have HS1' : Hid (s1 = s) := hid (by rw [← HS1.out]; unfold Pl.dS1; rw [HQ.out, if_neg (by omega)])
  have HE : Hid (s1.cost j = c) := hid (by rw [HS1'.out, HQ.out, hq2])
  have HW1 : Hid (SAt w B f s1) := hid (by rw [HS1'.out]; exact HS.out)
  have hh1 := HW1.out.hops j j hj hj
  have hz1 := CellsAt.soft HW1.out (13 + j * 12 + j)
  subst hq2
  by_cases hnf : n = f
  ·have HW2 : Hid (SAt (w.setCell ⟨B, 13 + j * 12 + j, none⟩ (.bool true)) B ff ⟨s1.cost, h2, s1.done⟩) := hid (by
    rw [← HH2.out, ← HFF.out]; unfold Pl.dS2; rw [if_pos hnf]; exact HW1.out.setHop j j hj hj true)
   have HB2 := hid ((But.refl B w).setCell (13 + j * 12 + j) (.bool true))
   have HR2 := hid (HW2.out.hopsOf n hn)
   subst hnf
   go_enter Tryz.func152, Tryz.ntmps152
   all_goals
    go_wp2_with (refine wpList_load_mid rfl 206 (.tmp 64) rfl B (13 + n * 12) rfl (bools12 (h2 n)) _ HR2.out Tryz.underlying206 rfl infoBools ?_)
    go_loopw [66] (fun i wr => ∃ k : Nat, k ≤ 12 ∧ i = .int .i64 k ∧ Hid (SAt wr B ff ⟨s1.cost, Pl.dS3 n j k h2, s1.done⟩) ∧ Hid (But B w wr)) (fun i _ => 12 - (intOf i).toNat)
    case atStart => exact ⟨0, by omega, rfl, HW2.out.ext (fun _ _ => rfl) (fun i x _ _ => (Pl.dS3_zero n j h2 i x).symm) (fun _ _ => rfl), HB2⟩
    case round =>
     obtain ⟨k, hk, rfl, HS3, HB3⟩ := hrel
     by_cases hlt : k < 12
     ·have hg := fun w => run_index_bools (h2 n) k hlt w
      have hk3 := HS3.out.hops j k hj hlt
      have hz3 := CellsAt.soft HS3.out (13 + j * 12 + k)
      have hB3 := CellsAt.lt HS3.out
      obtain ⟨b, HBK⟩ : ∃ b, Hid (h2 n k = b) := ⟨_, rfl⟩
      rw [HBK.out] at hg
      cases b
      case true =>
       go_wp2_with fail
       go_roundw
       case rel => exact ⟨k + 1, by omega, by go_num, (HS3.out.setHop j k hj hlt true).ext (fun _ _ => rfl) (fun i x _ _ => Pl.dS3_on n j k h2 HBK.out i x) (fun _ _ => rfl), HB3.out.setCell _ _⟩
       case measure => simp [intOf]; omega
      case false =>
       go_wp2_with fail
       go_roundw
       case rel => exact ⟨k + 1, by omega, by go_num, HS3.out.ext (fun _ _ => rfl) (fun i x _ _ => Pl.dS3_off n j k h2 HBK.out i x) (fun _ _ => rfl), HB3⟩
       case measure => simp [intOf]; omega
     ·obtain rfl : k = 12 := by omega
      go_wp2_with fail
      (try simp only [Exit.inBlock, Exit.then])
      first | refine bodyPost_end (v := .tuple #[]) (by simp [results, Tryz.results152, go_sem]) rfl ?_ | refine bodyPost_ret (v := .tuple #[]) (by simp [results, Tryz.results152, go_sem]) rfl ?_
      have hfin := HS3.out
      rw [← HFF.out] at hfin
      refine ⟨rfl, ?_, HB3.out⟩
      rw [HD.out, if_neg (by rw [HE.out]; omega)]
      exact hfin
  ·have HW2 : Hid (SAt w B ff ⟨s1.cost, h2, s1.done⟩) := hid (by
    rw [← HH2.out, ← HFF.out]; unfold Pl.dS2; rw [if_neg hnf]; exact HW1.out)
   have HB2 := hid (But.refl B w)
   have HR2 := hid (HW2.out.hopsOf n hn)
   go_enter Tryz.func152, Tryz.ntmps152
   all_goals
    go_wp2_with (refine wpList_load_mid rfl 206 (.tmp 64) rfl B (13 + n * 12) rfl (bools12 (h2 n)) _ HR2.out Tryz.underlying206 rfl infoBools ?_)
    go_loopw [66] (fun i wr => ∃ k : Nat, k ≤ 12 ∧ i = .int .i64 k ∧ Hid (SAt wr B ff ⟨s1.cost, Pl.dS3 n j k h2, s1.done⟩) ∧ Hid (But B w wr)) (fun i _ => 12 - (intOf i).toNat)
    case atStart => exact ⟨0, by omega, rfl, HW2.out.ext (fun _ _ => rfl) (fun i x _ _ => (Pl.dS3_zero n j h2 i x).symm) (fun _ _ => rfl), HB2⟩
    case round =>
     obtain ⟨k, hk, rfl, HS3, HB3⟩ := hrel
     by_cases hlt : k < 12
     ·have hg := fun w => run_index_bools (h2 n) k hlt w
      have hk3 := HS3.out.hops j k hj hlt
      have hz3 := CellsAt.soft HS3.out (13 + j * 12 + k)
      have hB3 := CellsAt.lt HS3.out
      obtain ⟨b, HBK⟩ : ∃ b, Hid (h2 n k = b) := ⟨_, rfl⟩
      rw [HBK.out] at hg
      cases b
      case true =>
       go_wp2_with fail
       go_roundw
       case rel => exact ⟨k + 1, by omega, by go_num, (HS3.out.setHop j k hj hlt true).ext (fun _ _ => rfl) (fun i x _ _ => Pl.dS3_on n j k h2 HBK.out i x) (fun _ _ => rfl), HB3.out.setCell _ _⟩
       case measure => simp [intOf]; omega
      case false =>
       go_wp2_with fail
       go_roundw
       case rel => exact ⟨k + 1, by omega, by go_num, HS3.out.ext (fun _ _ => rfl) (fun i x _ _ => Pl.dS3_off n j k h2 HBK.out i x) (fun _ _ => rfl), HB3⟩
       case measure => simp [intOf]; omega
     ·obtain rfl : k = 12 := by omega
      go_wp2_with fail
      (try simp only [Exit.inBlock, Exit.then])
      first | refine bodyPost_end (v := .tuple #[]) (by simp [results, Tryz.results152, go_sem]) rfl ?_ | refine bodyPost_ret (v := .tuple #[]) (by simp [results, Tryz.results152, go_sem]) rfl ?_
      have hfin := HS3.out
      rw [← HFF.out] at hfin
      refine ⟨rfl, ?_, HB3.out⟩
      rw [HD.out, if_neg (by rw [HE.out]; omega)]
      exact hfin
def grid (M : Nat → Nat → Int) (o : Nat) : Value := .int .i64 (M (o / 12) (o % 12))
def GAt (w : World) (B : Nat) (T : TypeId) (M : Nat → Nat → Int) : Prop := CellsAt w B T 144 (grid M)
theorem grid_at (M : Nat → Nat → Int) (a b : Nat) (hb : b < 12) : grid M (a * 12 + b) = .int .i64 (M a b) := by
 unfold grid; rw [show (a * 12 + b) / 12 = a by omega, show (a * 12 + b) % 12 = b by omega]
theorem GAt.cell {w B T M} (h : GAt w B T M) (a b : Nat) (ha : a < 12) (hb : b < 12) : w.cell? ⟨B, a * 12 + b, none⟩ = some (.int .i64 (M a b)) := by
 rw [CellsAt.cell h _ (by omega), grid_at M a b hb]
theorem GAt.ext {w B T M M'} (h : GAt w B T M) (e : ∀ a b, a < 12 → b < 12 → M a b = M' a b) : GAt w B T M' := by
 refine CellsAt.ext h fun o ho => ?_
 unfold grid; rw [e _ _ (by omega) (by omega)]
theorem GAt.set {w B T M} (h : GAt w B T M) (a b : Nat) (hb : b < 12) (v : Int) : GAt (w.setCell ⟨B, a * 12 + b, none⟩ (.int .i64 v)) B T (Pl.upd M a (Pl.upd (M a) b v)) := by
 refine (CellsAt.set h _ _).ext fun o ho => ?_
 unfold Pl.upd grid
 by_cases h1 : o = a * 12 + b
 ·subst h1
  rw [if_pos rfl, show (a * 12 + b) / 12 = a by omega, show (a * 12 + b) % 12 = b by omega]
  simp
 ·rw [if_neg h1]
  by_cases h2 : o / 12 = a
  ·simp only [if_pos h2]; rw [if_neg (by omega), h2]
  ·simp only [if_neg h2]
theorem GAt.row {w B T M} (h : GAt w B T M) (a : Nat) (ha : a < 12) : w.rangeAt B (a * 12) (ints12 (M a)) := CellsAt.range h _ _ (by simp [ints12]; omega) fun j hj => by
 simp only [ints12, List.length_map, List.length_range] at hj
 rw [grid_at M a j hj]; simp [ints12]
def cells144 (M : Nat → Nat → Int) : List Value := (List.range 144).map (grid M)
theorem cells144_len (M) : (cells144 M).length = 144 := by simp [cells144]
theorem cells144_one (M) : ∀ v ∈ cells144 M, v.oneCell' = true := by
 intro v hv
 simp only [cells144, List.mem_map] at hv
 obtain ⟨o, _, rfl⟩ := hv
 rfl
theorem GAt.all {w B T M} (h : GAt w B T M) : w.rangeAt B 0 (cells144 M) := CellsAt.range h _ _ (by simp [cells144]) fun j hj => by
 simp only [cells144, List.length_map, List.length_range] at hj
 simp [cells144]
theorem zeroGrid : Tryz.zeroCells210 = Array.ofFn (n := 144) fun i => grid (fun _ _ => 0) i.1 := by kernel_rfl
theorem GAt.new (w : World) : GAt (w.alloc (.cells Tryz.zeroCells210 210)) w.heap.size 210 (fun _ _ => 0) := by
 refine CellsAt.new w _ _ _ _ (by rw [zeroGrid]; simp) fun i hi => ?_
 simp only [zeroGrid, Array.getElem_ofFn]
theorem infoCosts : (Tryz.prog.info? 210).map (·.size) = some 144 := by kernel_rfl
def toldCell (D : Nat → Bool) (V : Nat → Value) (o : Nat) : Value := if o % 2 = 0 then .bool (D (o / 2)) else V (o / 2)
def ToldAt (w : World) (B : Nat) (D : Nat → Bool) (ps : Nat → List (Int × Int)) : Prop :=
 ∃ V : Nat → Value, CellsAt w B 170 24 (toldCell D V) ∧ ∀ i, i < 12 → ∃ a len cap, V i = .slice a len cap ∧ (∀ x, a = some x → x.block ≠ B) ∧ IsPairs w a len cap (ps i)
theorem ToldAt.below {w w' B D ps} (h : ToldAt w B D ps) (k : Below w.heap.size w w') : ToldAt w' B D ps := by
 obtain ⟨V, h1, h2⟩ := h
 refine ⟨V, h1.below k, fun i hi => ?_⟩
 obtain ⟨a, len, cap, e, hx, hp⟩ := h2 i hi
 exact ⟨a, len, cap, e, hx, hp.below k⟩
theorem ToldAt.drain {w B D ps} (h : ToldAt w B D ps) (i : Nat) (hi : i < 12) : w.cell? ⟨B, i * 2, none⟩ = some (.bool (D i)) := by
 obtain ⟨V, h1, _⟩ := h
 rw [h1.cell _ (by omega)]; unfold toldCell; rw [if_pos (by omega), show i * 2 / 2 = i by omega]
theorem ToldAt.sides {w B D ps} (h : ToldAt w B D ps) (i : Nat) (hi : i < 12) : ∃ a len cap, w.cell? ⟨B, i * 2 + 1, none⟩ = some (.slice a len cap) ∧ IsPairs w a len cap (ps i) := by
 obtain ⟨V, h1, h2⟩ := h
 obtain ⟨a, len, cap, e, _, hp⟩ := h2 i hi
 refine ⟨a, len, cap, ?_, hp⟩
 rw [h1.cell _ (by omega)]; unfold toldCell; rw [if_neg (by omega), show (i * 2 + 1) / 2 = i by omega, e]
theorem ToldAt.lt {w B D ps} (h : ToldAt w B D ps) : B < w.heap.size := by
 obtain ⟨V, h1, _⟩ := h; exact h1.lt
def Pl.sidesOk (ps : List (Int × Int)) : Prop := ∀ p ∈ ps, 0 ≤ p.1 ∧ p.1 ≤ 11 ∧ 1 ≤ p.2 ∧ p.2 ≤ 1000
theorem Pl.sidesOk.at {ps : List (Int × Int)} (h : Pl.sidesOk ps) (k : Nat) (hk : k < ps.length) : 0 ≤ (Pl.pr ps k).1 ∧ (Pl.pr ps k).1 ≤ 11 ∧ 1 ≤ (Pl.pr ps k).2 ∧ (Pl.pr ps k).2 ≤ 1000 := by
 refine h _ ?_
 unfold Pl.pr
 rw [List.getD_eq_getElem?_getD, List.getElem?_eq_getElem hk]
 simp
def Pl.sayN (ps : List (Int × Int)) : Nat → Nat → Int
 | 0 => fun _ => 0
 | k + 1 => Pl.upd (Pl.sayN ps k) (Pl.pr ps k).1.toNat (Pl.pr ps k).2
def Pl.say (ps : List (Int × Int)) : Nat → Int := Pl.sayN ps ps.length
def Pl.said (ps : Nat → List (Int × Int)) (k j : Nat) : Nat → Nat → Int := fun a => if a < k then Pl.say (ps a) else if a = k then Pl.sayN (ps a) j else fun _ => 0
def Pl.lnk (ps : Nat → List (Int × Int)) : Nat → Nat → Int := fun a b => if 0 < Pl.say (ps b) a then Pl.say (ps a) b else 0
def Pl.lnkN (ps : Nat → List (Int × Int)) (k j : Nat) : Nat → Nat → Int := fun a b => if a < k ∨ (a = k ∧ b < j) then Pl.lnk ps a b else 0
theorem Pl.said_step (ps : Nat → List (Int × Int)) (k j b : Nat) (v : Int) (hb : (Pl.pr (ps k) j).1.toNat = b) (hv : (Pl.pr (ps k) j).2 = v) :
  Pl.upd (Pl.said ps k j) k (Pl.upd (Pl.said ps k j k) b v) = Pl.said ps k (j + 1) := by
 funext a
 unfold Pl.upd Pl.said
 by_cases h : a = k
 ·subst h
  rw [if_pos rfl, if_neg (by omega), if_pos rfl, if_neg (by omega), if_pos rfl]
  conv => rhs; unfold Pl.sayN
  rw [hb, hv]; rfl
 ·rw [if_neg h, if_neg h, if_neg h]
theorem Pl.said_next (ps : Nat → List (Int × Int)) (k : Nat) : Pl.said ps k (ps k).length = Pl.said ps (k + 1) 0 := by
 funext a
 unfold Pl.said
 by_cases h : a < k
 ·rw [if_pos h, if_pos (by omega)]
 ·rw [if_neg h]
  by_cases h2 : a = k
  ·subst h2; rw [if_pos rfl, if_pos (by omega)]; rfl
  ·rw [if_neg h2, if_neg (by omega)]; split <;> rfl
theorem Pl.said_zero (ps : Nat → List (Int × Int)) : Pl.said ps 0 0 = fun _ _ => 0 := by
 funext a
 unfold Pl.said
 rw [if_neg (by omega)]; split <;> rfl
theorem results_mid {P : Program} {fn : Func} {p : Tmp} {ty : TypeId} {tmps : Array Value} {w : World} {b o : Nat} {cs : List Value} {d : TypeDesc} (h : fn.results = #[.cell p ty]) (hp : tmps.getD p undef = .pointer (some ⟨b, o, none⟩))
  (hc : w.rangeAt b o cs) (hu : P.underlying ty = some d) (hd : d.isRow = true) (hi : (P.info? ty).map (·.size) = some cs.length) :
  (results fn tmps).run P w = .ok (.agg cs.toArray) w := by
 have hl := run_loadVar_mid (P := P) w b o ty cs d hc hu hd hi
 rw [Array.getD_eq_getD_getElem?] at hp
 simp only [results, h]
 simp [hp, asAddr, hl]
theorem alloc3 {w w3 : World} (h : w3 = ((w.alloc (.cells Tryz.zeroCells210 210)).alloc (.cells Tryz.zeroCells210 210)).alloc (.cells Tryz.zeroCells210 210)) :
  w3.heap.size = w.heap.size + 3 ∧ Below w.heap.size w w3 ∧ GAt w3 w.heap.size 210 (fun _ _ => 0) ∧ GAt w3 (w.heap.size + 1) 210 (fun _ _ => 0) ∧ GAt w3 (w.heap.size + 1 + 1) 210 (fun _ _ => 0) := by
 subst h
 refine ⟨by simp, (((Below.refl _ _).alloc (by simp) _).alloc (by simp) _).alloc (by simp; omega) _, ?_, ?_, ?_⟩
 ·exact CellsAt.below (CellsAt.below (GAt.new w) ((Below.refl _ _).alloc (Nat.le_refl _) _)) ((Below.refl _ _).alloc (Nat.le_refl _) _)
 ·have := GAt.new (w.alloc (.cells Tryz.zeroCells210 210))
  rw [show (w.alloc (.cells Tryz.zeroCells210 210)).heap.size = w.heap.size + 1 by simp] at this
  exact CellsAt.below this ((Below.refl _ _).alloc (Nat.le_refl _) _)
 ·have := GAt.new ((w.alloc (.cells Tryz.zeroCells210 210)).alloc (.cells Tryz.zeroCells210 210))
  rw [show ((w.alloc (.cells Tryz.zeroCells210 210)).alloc (.cells Tryz.zeroCells210 210)).heap.size = w.heap.size + 1 + 1 by simp] at this
  exact this
theorem But.drew {B : Nat} {a w : World} (h : But B a w) : But B a w.drew := ⟨h.os, h.tape, h.output, h.size, h.block⟩
theorem GAt.drew {w B T M} (h : GAt w B T M) : GAt w.drew B T M := h
theorem GAt.alloc {w B T M} (h : GAt w B T M) (o : Obj) : GAt (w.alloc o) B T M := heapOld h o
set_option maxHeartbeats 2000000 in
theorem linkCosts_any (B : Nat) (D : Nat → Bool) (ps : Nat → List (Int × Int)) (w : World) (h : ToldAt w B D ps) (hok : ∀ i, i < 12 → Pl.sidesOk (ps i)) :
  Calls Tryz.prog 150 #[.pointer (some ⟨B, 0, none⟩)] w fun e w' => e = .returned (.agg (cells144 (Pl.lnk ps)).toArray) ∧ Below w.heap.size w w' := by
 have HT := hid h
 have HOK := hid hok
 have hB := h.lt
 clear h hok
 obtain ⟨w3, HW3⟩ : ∃ x, Hid (x = ((w.alloc (.cells Tryz.zeroCells210 210)).alloc (.cells Tryz.zeroCells210 210)).alloc (.cells Tryz.zeroCells210 210)) := ⟨_, rfl⟩
 have H3 := hid (alloc3 HW3.out)
 go_enter Tryz.func150, Tryz.ntmps150
 go_wp2_with fail
 go_loopw [13] (fun i wr => ∃ k : Nat, k ≤ 12 ∧ i = .int .i64 k ∧ Hid (GAt wr (w.heap.size + 1) 210 (Pl.said ps k 0)) ∧ Hid (But (w.heap.size + 1) w3 wr)) (fun i _ => 12 - (intOf i).toNat)
 case atStart => exact ⟨0, by omega, rfl, by show GAt _ _ _ _; rw [Pl.said_zero, ← HW3.out]; exact H3.out.2.2.2.1, by show But _ _ _; rw [← HW3.out]; exact But.refl _ _⟩
 case round =>
  obtain ⟨k, hk, rfl, HG, HU⟩ := hrel
  have HBW : Hid (Below w.heap.size w wr) := hid (H3.out.2.1.trans (HU.out.below (by omega) (by have := H3.out.1; omega)))
  have hzr : w.heap.size + 3 ≤ wr.heap.size := by have := HU.out.size; have := H3.out.1; omega
  by_cases hlt : k < 12
  ·have hd := (HBW.out.cell (p := ⟨B, k * 2, none⟩) hB).trans (HT.out.drain k hlt)
   obtain ⟨a, len, cap, hs, hp⟩ := HT.out.sides k hlt
   have hs := (HBW.out.cell (p := ⟨B, k * 2 + 1, none⟩) hB).trans hs
   have HP := hid hp
   have hBr : B < wr.heap.size := by omega
   clear hp
   generalize D k = d at hd
   go_wp2_with fail
   go_region
   go_wp2_with fail
   go_loopw [22] (fun i wr => ∃ j : Nat, j ≤ len ∧ i = .int .i64 j ∧ Hid (GAt wr (w.heap.size + 1) 210 (Pl.said ps k j)) ∧ Hid (But (w.heap.size + 1) w3 wr)) (fun i _ => len - (intOf i).toNat)
   case atStart => exact ⟨0, by omega, rfl, HG.out.alloc _, (HU.out.alloc _).drew⟩
   case round =>
    obtain ⟨j, hj, rfl, HG2, HU2⟩ := hrel
    have HBW2 : Hid (Below w.heap.size w wr) := hid (H3.out.2.1.trans (HU2.out.below (by omega) (by have := H3.out.1; omega)))
    have hzq : w.heap.size + 3 ≤ wr.heap.size := by have := HU2.out.size; have := H3.out.1; omega
    have hlen : (ps k).length = len := HP.out.1
    by_cases hjl : j < len
    ·obtain ⟨b, off, rfl, hbw, hr⟩ : ∃ b off, a = some ⟨b, off, none⟩ ∧ b < w.heap.size ∧ PairsAt w b off (ps k) := by
      rcases HP.out.2.2.2.2 with h | h
      ·rw [h] at hlen; simp at hlen; omega
      ·exact h
     obtain ⟨c0, c1⟩ := (hr.below hbw HBW2.out) j (by omega)
     obtain ⟨o1, o2, o3, o4⟩ := (HOK.out k hlt).at j (by omega)
     obtain ⟨x, HX⟩ : ∃ x : Nat, Hid ((Pl.pr (ps k) j).1 = x) := ⟨(Pl.pr (ps k) j).1.toNat, hid (by omega)⟩
     obtain ⟨v, HV⟩ : ∃ v, Hid ((Pl.pr (ps k) j).2 = v) := ⟨_, rfl⟩
     have hx : x < 12 := by have := HX.out; omega
     rw [HX.out] at c0
     rw [HV.out] at c1
     clear o1 o2 o3 o4 hr hlen
     have hbr : b < wr.heap.size := by omega
     have hS : w.heap.size + 1 < wr.heap.size := by omega
     have hlm : len ≤ 9223372036854775807 := by have h1 := HP.out.2.1; have h2 := HP.out.2.2.1; unfold maxLen at h2; omega
     have hg := HG2.out.cell k x hlt hx
     have hgz := CellsAt.soft HG2.out (k * 12 + x)
     go_wp2_with fail
     go_region
     go_wp2_with fail
     go_roundw
     case rel =>
      refine ⟨j + 1, by omega, by go_num, ?_, ((HU2.out.setCell _ _).alloc _).drew⟩
      show GAt _ _ _ _
      rw [← Pl.said_step ps k j x v (by rw [HX.out]; simp) HV.out]
      exact ((HG2.out.set k x hx v).alloc _).drew
     case measure => simp [intOf]; omega
    ·obtain rfl : j = len := by omega
     go_wp2_with fail
     go_roundw
     case rel => exact ⟨k + 1, by omega, by go_num, by show GAt _ _ _ _; rw [← Pl.said_next, hlen]; exact HG2.out, HU2⟩
     case measure => simp [intOf]; omega
  ·obtain rfl : k = 12 := by omega
   have HK0 := hid (CellsAt.but H3.out.2.2.2.2 HU.out (by omega))
   have HR0 := hid (CellsAt.but H3.out.2.2.1 HU.out (by omega))
   rename World => w4
   go_wp2_with fail
   go_loopw [35] (fun i wr => ∃ k : Nat, k ≤ 12 ∧ i = .int .i64 k ∧ Hid (GAt wr (w.heap.size + 1 + 1) 210 (Pl.lnkN ps k 0)) ∧ Hid (But (w.heap.size + 1 + 1) w4 wr)) (fun i _ => 12 - (intOf i).toNat)
   case atStart => exact ⟨0, by omega, rfl, GAt.ext HK0.out (fun a b _ _ => by unfold Pl.lnkN; rw [if_neg (by omega)]), But.refl _ _⟩
   case round =>
    obtain ⟨k, hk, rfl, HG1, HU1⟩ := hrel
    by_cases hlt : k < 12
    ·go_wp2_with fail
     go_loopw [38] (fun i wr => ∃ j : Nat, j ≤ 12 ∧ i = .int .i64 j ∧ Hid (GAt wr (w.heap.size + 1 + 1) 210 (Pl.lnkN ps k j)) ∧ Hid (But (w.heap.size + 1 + 1) w4 wr)) (fun i _ => 12 - (intOf i).toNat)
     case atStart => exact ⟨0, by omega, rfl, HG1, HU1⟩
     case round =>
      obtain ⟨j, hj, rfl, HG2, HU2⟩ := hrel
      by_cases hjl : j < 12
      ·have hS := CellsAt.but HG.out HU2.out (by omega)
       have h1 := GAt.cell hS j k hjl hlt
       have h2 := GAt.cell hS k j hlt hjl
       have h3 := HG2.out.cell k j hlt hjl
       have h4 := CellsAt.soft HG2.out (k * 12 + j)
       have h5 := CellsAt.lt hS
       have h6 := CellsAt.lt HG2.out
       obtain ⟨x, HX⟩ : ∃ x, Hid (Pl.say (ps j) k = x) := ⟨_, rfl⟩
       obtain ⟨y, HY⟩ : ∃ x, Hid (Pl.say (ps k) j = x) := ⟨_, rfl⟩
       rw [show Pl.said ps 12 0 j k = x by unfold Pl.said; rw [if_pos hjl, HX.out]] at h1
       rw [show Pl.said ps 12 0 k j = y by unfold Pl.said; rw [if_pos hlt, HY.out]] at h2
       clear hS
       by_cases hx : 0 < x
       ·go_wp2_with fail
        go_region
        go_wp2_with fail
        go_roundw
        case rel =>
         refine ⟨j + 1, by omega, by go_num, (HG2.out.set k j hjl y).ext (fun a b ha hb => ?_), (HU2.out.setCell _ _).drew⟩
         unfold Pl.upd Pl.lnkN
         by_cases h1 : a = k
         ·subst h1
          rw [if_pos rfl]
          by_cases h2 : b = j
          ·subst h2; rw [if_pos rfl, if_pos (Or.inr ⟨rfl, by omega⟩)]; unfold Pl.lnk; rw [HX.out, if_pos hx, HY.out]
          ·rw [if_neg h2]
           by_cases h3 : b < j
           ·rw [if_pos (.inr ⟨rfl, h3⟩), if_pos (.inr ⟨rfl, by omega⟩)]
           ·rw [if_neg (by omega), if_neg (by omega)]
         ·rw [if_neg h1]
          by_cases h3 : a < k
          ·rw [if_pos (.inl h3), if_pos (.inl h3)]
          ·rw [if_neg (by omega), if_neg (by omega)]
        case measure => simp [intOf]; omega
       ·go_wp2_with fail
        go_roundw
        case rel =>
         refine ⟨j + 1, by omega, by go_num, HG2.out.ext (fun a b ha hb => ?_), HU2⟩
         unfold Pl.lnkN
         by_cases h1 : a = k ∧ b = j
         ·obtain ⟨rfl, rfl⟩ := h1
          rw [if_neg (by omega), if_pos (.inr ⟨rfl, by omega⟩)]
          unfold Pl.lnk
          rw [HX.out, if_neg hx]
         ·by_cases h2 : a < k ∨ a = k ∧ b < j
          ·rw [if_pos h2, if_pos (by omega)]
          ·rw [if_neg h2, if_neg (by omega)]
        case measure => simp [intOf]; omega
      ·obtain rfl : j = 12 := by omega
       go_wp2_with fail
       go_roundw
       case rel =>
        refine ⟨k + 1, by omega, by go_num, HG2.out.ext (fun a b ha hb => ?_), HU2⟩
        unfold Pl.lnkN
        by_cases h2 : a < k ∨ a = k ∧ b < 12
        ·rw [if_pos h2, if_pos (by omega)]
        ·rw [if_neg h2, if_neg (by omega)]
       case measure => simp [intOf]; omega
    ·obtain rfl : k = 12 := by omega
     have HA := hid (GAt.ext (M' := Pl.lnk ps) HG1.out (fun a b ha hb => by unfold Pl.lnkN; rw [if_pos (.inl ha)]))
     have HRA := hid HA.out.all
     have HR1 := hid (CellsAt.but HR0.out HU1.out (by omega))
     have HTH := hid (CellsAt.there HR1.out 0 144 (by omega))
     rw [← cells144_len (Pl.lnk ps)] at HTH
     obtain ⟨w5, HX⟩ : ∃ x, Hid (x = wr.setCells w.heap.size 0 (cells144 (Pl.lnk ps))) := ⟨_, rfl⟩
     have HRL : Hid (w5.rangeAt w.heap.size 0 (cells144 (Pl.lnk ps))) := hid (by rw [HX.out]; exact World.rangeAt_setCells_same _ _ _ _ HTH.out)
     go_wp2_with (first
      | refine wpList_load_mid rfl 210 (.tmp 4) rfl (w.heap.size + 1 + 1) 0 rfl (cells144 (Pl.lnk ps)) _ HRA.out Tryz.underlying210 rfl (by rw [cells144_len]; exact infoCosts) ?_
      | refine wpList_store_as rfl 210 (.tmp 2) (.tmp 58) rfl w.heap.size 0 (cells144 (Pl.lnk ps)) rfl rfl HTH.out (by rw [cells144_len]; exact infoCosts) (cells144_one _) HX.out ?_)
     refine bodyPost_ret (v := .agg (cells144 (Pl.lnk ps)).toArray) ?_ rfl ⟨rfl, ?_⟩
     ·exact results_mid rfl rfl HRL.out Tryz.underlying210 rfl (by rw [cells144_len]; exact infoCosts)
     ·rw [HX.out]
      exact (H3.out.2.1.trans ((HU.out.below (by omega) (by have := H3.out.1; omega)).trans (HU1.out.below (by omega) (by have := HU.out.size; have := H3.out.1; omega)))).trans ((But.setCells _ 0 _ (But.refl w.heap.size wr)).below (Nat.le_refl _) (by have := CellsAt.lt HR1.out; omega))
def Pl.CB (s : Pl.DS) (N : Int) : Prop := ∀ v, -1 ≤ s.cost v ∧ s.cost v ≤ N
theorem Pl.CB.step {s : Pl.DS} {N c : Int} (h : Pl.CB s N) (f n j : Nat) (h0 : -1 ≤ c) (h1 : c ≤ N) : Pl.CB (Pl.dStep f n j c s) N := by
 have e : (Pl.dStep f n j c s).cost = (Pl.dS1 j c s).cost := by unfold Pl.dStep; split <;> rfl
 intro v
 rw [e]
 unfold Pl.dS1
 split
 ·simp only [Pl.upd]
  split
  ·exact ⟨h0, h1⟩
  ·exact h v
 ·exact h v
theorem Pl.dRow_cost {L : Nat → Nat → Int} {f n : Nat} {s : Pl.DS} (h : s.cost n ≠ -1) (i : Nat) : (Pl.dRow L f n s i).cost n = s.cost n := by
 induction i with
 | zero => rfl
 | succ i ih =>
  unfold Pl.dRow
  split
  ·by_cases hn : n = i
   ·subst hn
    rw [Pl.dStep_idle (by rw [ih]; exact h) (by omega)]
    exact ih
   ·rw [Pl.dStep_cost_ne hn]; exact ih
  ·exact ih
theorem Pl.CB.row {L : Nat → Nat → Int} {f n : Nat} {s : Pl.DS} {N : Int} (hL : ∀ a b, L a b ≤ 1000) (h : Pl.CB s N) (hn : s.cost n ≠ -1) (i : Nat) : Pl.CB (Pl.dRow L f n s i) (N + 1000) := by
 induction i with
 | zero => intro v; have := h v; exact ⟨this.1, by show s.cost v ≤ _; omega⟩
 | succ i ih =>
  unfold Pl.dRow
  split
  ·refine ih.step f n i ?_ ?_
   ·rw [Pl.dRow_cost hn]; have := h n; omega
   ·rw [Pl.dRow_cost hn]; have := h n; have := hL n i; omega
  ·exact ih
theorem Pl.CB.iter {L : Nat → Nat → Int} {D : Nat → Bool} {f : Nat} (hL : ∀ a b, L a b ≤ 1000) (k : Nat) : Pl.CB (Pl.dIter L D f k) (1000 * k) := by
 induction k with
 | zero => intro v; show -1 ≤ (if v = f then (0 : Int) else -1) ∧ (if v = f then (0 : Int) else -1) ≤ _; split <;> omega
 | succ k ih =>
  unfold Pl.dIter
  rcases Pl.near_spec (Pl.dIter L D f k) 12 with ⟨h1, _⟩ | ⟨n, h1, h2, h3, h4, h5⟩
  ·rw [if_pos h1]; intro v; have := ih v; omega
  ·rw [h1, if_neg (by omega), Int.toNat_natCast]
   unfold Pl.dProc
   split
   ·intro v; have := ih v; exact ⟨this.1, by show (Pl.dIter L D f k).cost v ≤ _; omega⟩
   ·have := Pl.CB.row (f := f) (s := Pl.dDone (Pl.dIter L D f k) n) (n := n) (N := 1000 * k) hL ih h3 12
    intro v; have := this v; omega
def doneAt (w : World) (B i : Nat) : Bool := match w.cell? ⟨B, 157 + i, none⟩ with | some (.bool b) => b | _ => false
theorem SAt.doneAt {w B f s} (h : SAt w B f s) (i : Nat) (hi : i < 12) : Go.Proofs.YtjjelkdajdeikaaGreatDoor.doneAt w B i = s.done i := by unfold Go.Proofs.YtjjelkdajdeikaaGreatDoor.doneAt; rw [h.done i hi]
theorem Pl.cnt_congr {d e : Nat → Bool} (n : Nat) (h : ∀ i, i < n → d i = e i) : Pl.cnt d n = Pl.cnt e n := by
 induction n with
 | zero => rfl
 | succ n ih => unfold Pl.cnt; rw [ih fun i hi => h i (by omega), h n (by omega)]
theorem GAt.fill {w B T M0} (h : GAt w B T M0) (M : Nat → Nat → Int) : GAt (w.setCells B 0 (cells144 M)) B T M := by
 refine (CellsAt.sets _ 0 _ _ h).ext fun o ho => ?_
 rw [cells144_len, if_pos (by omega)]
 simp [cells144, ho]
theorem Pl.say_le {ps : List (Int × Int)} (h : Pl.sidesOk ps) (x : Nat) : 0 ≤ Pl.say ps x ∧ Pl.say ps x ≤ 1000 := by
 have key : ∀ k, k ≤ ps.length → 0 ≤ Pl.sayN ps k x ∧ Pl.sayN ps k x ≤ 1000 := by
  intro k
  induction k with
  | zero => intro _; show (0 : Int) ≤ 0 ∧ (0 : Int) ≤ 1000; omega
  | succ k ih =>
   intro hk
   unfold Pl.sayN Pl.upd
   split
   ·have := h.at k (by omega); omega
   ·exact ih (by omega)
 exact key _ (Nat.le_refl _)
set_option maxHeartbeats 2000000 in
theorem run_any (B BT f : Nat) (D : Nat → Bool) (ps : Nat → List (Int × Int)) (w : World) (h : SAt w B f (Pl.dInit f)) (hT : ToldAt w BT D ps) (hne : BT ≠ B) (hf : f < 12) (hok : ∀ i, i < 12 → Pl.sidesOk (ps i)) (hL : ∀ a b, Pl.lnk ps a b ≤ 1000) :
  Calls Tryz.prog 103 #[.pointer (some ⟨B, 0, none⟩), .pointer (some ⟨BT, 0, none⟩)] w fun e w' => e = .returned (.tuple #[]) ∧ SAt w' B f (Pl.dIter (Pl.lnk ps) D f 12) ∧ But B w w' := by
 have HS := hid h
 have HT := hid hT
 have HOK := hid hok
 have HL := hid hL
 have hB := CellsAt.lt h
 have hBT := hT.lt
 clear h hT hok hL
 go_enter Tryz.func103, Tryz.ntmps103
 go_wp2_with fail
 refine (linkCosts_any BT D ps w HT.out HOK.out).mono ?_
 rintro e w1 ⟨rfl, hb1⟩
 have HB1 := hid hb1
 have hz1 := hb1.size
 clear hb1
 obtain ⟨M, HM⟩ : ∃ M, Hid (Pl.lnk ps = M) := ⟨_, rfl⟩
 rw [HM.out] at HL ⊢
 have HG0 := hid (GAt.new w1)
 have HTH := hid (CellsAt.there HG0.out 0 144 (by omega))
 rw [← cells144_len M] at HTH
 obtain ⟨w2, HX⟩ : ∃ x, Hid (x = (w1.alloc (.cells Tryz.zeroCells210 210)).setCells w1.heap.size 0 (cells144 M)) := ⟨_, rfl⟩
 have HG : Hid (GAt w2 w1.heap.size 210 M) := hid (by rw [HX.out]; exact HG0.out.fill M)
 have HB2 : Hid (Below w.heap.size w w2) := hid (by
  rw [HX.out]
  exact (HB1.out.alloc hz1 _).trans ((But.setCells _ 0 _ (But.refl w1.heap.size _)).below hz1 (by simp; omega)))
 have HS2 := hid (CellsAt.below HS.out HB2.out)
 have hz2 : w.heap.size ≤ w2.heap.size := HB2.out.size
 have hl2 : w1.heap.size < w2.heap.size := CellsAt.lt HG.out
 go_wp2_with (refine wpList_store_as rfl 210 (.tmp 4) (.tmp 9) rfl w1.heap.size 0 (cells144 M) rfl rfl HTH.out (by rw [cells144_len]; exact infoCosts) (cells144_one _) HX.out ?_)
 refine (nearest_any B f (Pl.dInit f) w2 HS2.out).mono ?_
 rintro e w' ⟨rfl, hw'⟩
 rw [hw']
 clear hw' w'
 go_wp2_with fail
 go_loopw [5] (fun n wr => ∃ (k : Nat) (v : Int), k ≤ 12 ∧ n = .int .i64 v ∧ Hid (v = Pl.near (Pl.dIter M D f k) 12) ∧ Hid (SAt wr B f (Pl.dIter M D f k)) ∧ Hid (But B w2 wr)) (fun _ wr => 12 - Pl.cnt (doneAt wr B) 12)
 case atStart => exact ⟨0, _, by omega, rfl, rfl, HS2.out, But.refl _ _⟩
 case round =>
  obtain ⟨k, v, hk, rfl, HV, HSk, HUk⟩ := hrel
  rcases Pl.near_spec (Pl.dIter M D f k) 12 with ⟨h1, _⟩ | ⟨m, h1, h2, h3, h4, _⟩
  ·obtain rfl : v = -1 := by rw [HV.out]; exact h1
   go_wp2_with fail
   (try simp only [Exit.inBlock, Exit.then])
   first | refine bodyPost_end (v := .tuple #[]) (results_none rfl _ _ _) rfl ?_ | refine bodyPost_ret (v := .tuple #[]) (results_none rfl _ _ _) rfl ?_
   refine ⟨rfl, ?_, (But.of HB2.out).trans HUk.out⟩
   rw [HM.out, ← Pl.dIter_stop h1 hk]
   exact HSk.out
  ·obtain rfl : v = m := by rw [HV.out]; exact h1
   have hk12 : k < 12 := Pl.dIter_lt (L := M) (D := D) (f := f) (by rw [h1]; omega)
   have HN : Hid (Pl.dIter M D f (k + 1) = Pl.dProc M D f (Pl.dIter M D f k) m) := hid (by
    conv => lhs; unfold Pl.dIter
    rw [h1, if_neg (by omega), Int.toNat_natCast])
   have HCB := hid (Pl.CB.iter (L := M) (D := D) (f := f) HL.out k)
   clear HV
   obtain ⟨s, HSS⟩ : ∃ s, Hid (Pl.dIter M D f k = s) := ⟨_, rfl⟩
   rw [HSS.out] at HSk HN HCB h3 h4
   have h1 := hid h1
   have HCM : Hid (Pl.cnt s.done 12 < Pl.cnt (Pl.dIter M D f (k + 1)).done 12) := hid (by
    rw [HN.out, Pl.dProc_done]; exact Pl.cnt_upd h2 h4)
   have h3 := hid h3
   have h4 := hid h4
   have hBr := CellsAt.lt HSk.out
   have hd := HSk.out.done m h2
   have hdz := CellsAt.soft HSk.out (157 + m)
   have HD1 := hid (HSk.out.setDone m h2 true)
   have hfr := HD1.out.from
   have htd : wr.cell? ⟨BT, m * 2, none⟩ = some (.bool (D m)) := (World.cell?_of_block (w := w2) (HUk.out.block BT (by omega) hne)).trans ((HB2.out.cell (p := ⟨BT, m * 2, none⟩) hBT).trans (HT.out.drain m h2))
   have hBTr : BT < wr.heap.size := by have := HUk.out.size; omega
   have htd2 : (wr.setCell ⟨B, 157 + m, none⟩ (.bool true)).cell? ⟨BT, m * 2, none⟩ = some (.bool (D m)) := (World.cell?_of_block (w := wr) (Below.heap_setCell _ _ _ _ hne)).trans htd
   have HRW : Hid ((wr.setCell ⟨B, 157 + m, none⟩ (.bool true)).rangeAt w1.heap.size (m * 12) (ints12 (M m))) := hid (GAt.row (T := 210) (CellsAt.but HG.out (HUk.out.setCell (157 + m) (.bool true)) (by omega)) m h2)
   obtain ⟨d, HD⟩ : ∃ d, Hid (D m = d) := ⟨_, rfl⟩
   rw [HD.out] at htd htd2
   by_cases hdr : d = true ∧ m ≠ f
   ·obtain ⟨rfl, hmf⟩ := hdr
    have hmf' : ¬ ((m : Int) = (f : Int)) := by omega
    have HP : Hid (Pl.dProc M D f s m = Pl.dDone s m) := hid (by unfold Pl.dProc; rw [HD.out, if_pos ⟨rfl, hmf⟩])
    go_wp2_with fail
    refine (nearest_any B f _ _ HD1.out).mono ?_
    rintro e w' ⟨rfl, hw'⟩
    rw [hw']
    clear hw' w'
    go_wp2_with fail
    go_roundw
    case rel => exact ⟨k + 1, _, by omega, rfl, hid (by rw [HN.out, HP.out]; rfl), hid (by rw [HN.out, HP.out]; exact HD1.out), HUk.out.setCell _ _⟩
    case measure =>
     have e1 : Pl.cnt (doneAt wr B) 12 = Pl.cnt s.done 12 := Pl.cnt_congr 12 fun i hi => HSk.out.doneAt i hi
     have e2 : Pl.cnt (doneAt (wr.setCell ⟨B, 157 + m, none⟩ (.bool true)) B) 12 = Pl.cnt (Pl.upd s.done m true) 12 := Pl.cnt_congr 12 fun i hi => HD1.out.doneAt i hi
     have e3 := HCM.out
     rw [HN.out, Pl.dProc_done] at e3
     have e4 := Pl.cnt_le (Pl.upd s.done m true) 12
     rw [e1, e2]
     omega
   ·have HP : Hid (Pl.dProc M D f s m = Pl.dRow M f m (Pl.dDone s m) 12) := hid (by unfold Pl.dProc; rw [HD.out, if_neg hdr])
    have HCR := hid (fun j => Pl.CB.row (L := M) (f := f) (s := Pl.dDone s m) (n := m) (N := 1000 * k) HL.out HCB.out h3.out j)
    rename World => w4
    have hcase : d = false ∨ (d = true ∧ ((m : Int) != (f : Int)) = false ∧ ((m : Int) == (f : Int)) = true) := by
     cases d
     ·exact .inl rfl
     ·have : m = f := Classical.byContradiction fun g => hdr ⟨rfl, g⟩
      exact .inr ⟨rfl, by rw [this]; simp, by rw [this]; simp⟩
    rcases hcase with rfl | ⟨rfl, hmf1, hmf2⟩
    all_goals
     go_wp2_with (refine wpList_load_mid rfl 31 (.tmp 36) rfl w1.heap.size (m * 12) rfl (ints12 (M m)) _ HRW.out Tryz.underlying31 rfl infoInts ?_)
     go_loopw [38] (fun i wr => ∃ j : Nat, j ≤ 12 ∧ i = .int .i64 j ∧ Hid (SAt wr B f (Pl.dRow M f m (Pl.dDone s m) j)) ∧ Hid (But B w2 wr)) (fun i _ => 12 - (intOf i).toNat)
     case atStart => exact ⟨0, by omega, rfl, HD1.out, HUk.out.setCell _ _⟩
     case round =>
      obtain ⟨j, hj, rfl, HSj, HUj⟩ := hrel
      by_cases hlt : j < 12
      ·have hg := fun w => run_index_ints (M m) j hlt w
       have hcm := HSj.out.cost m h2
       have hBj := CellsAt.lt HSj.out
       obtain ⟨x, HXC⟩ : ∃ x, Hid ((Pl.dRow M f m (Pl.dDone s m) j).cost m = x) := ⟨_, rfl⟩
       rw [HXC.out] at hcm
       obtain ⟨y, HY⟩ : ∃ y, Hid (M m j = y) := ⟨_, rfl⟩
       rw [HY.out] at hg
       have hx1 : -1 ≤ x := by rw [← HXC.out]; exact (HCR.out j m).1
       have hx2 : x ≤ 20000 := by have := (HCR.out j m).2; rw [HXC.out] at this; omega
       have hy2 : y ≤ 1000 := by rw [← HY.out]; exact HL.out m j
       by_cases hy : 0 < y
       ·have HRS : Hid (Pl.dRow M f m (Pl.dDone s m) (j + 1) = Pl.dStep f m j (x + y) (Pl.dRow M f m (Pl.dDone s m) j)) := hid (by
         conv => lhs; unfold Pl.dRow
         rw [HY.out, if_pos hy, HXC.out])
        go_wp2_with fail
        refine (step_any B f m j (x + y) _ _ HSj.out h2 hlt).mono ?_
        rintro e w5 ⟨rfl, hs5, hu5⟩
        have HS5 := hid hs5
        have HU5 := hid hu5
        clear hs5 hu5
        go_wp2_with fail
        go_roundw
        case rel => exact ⟨j + 1, by omega, by go_num, hid (by rw [HRS.out]; exact HS5.out), HUj.out.trans HU5.out⟩
        case measure => simp [intOf]; omega
       ·have HRS : Hid (Pl.dRow M f m (Pl.dDone s m) (j + 1) = Pl.dRow M f m (Pl.dDone s m) j) := hid (by
         conv => lhs; unfold Pl.dRow
         rw [HY.out, if_neg hy])
        go_wp2_with fail
        go_roundw
        case rel => exact ⟨j + 1, by omega, by go_num, hid (by rw [HRS.out]; exact HSj.out), HUj⟩
        case measure => simp [intOf]; omega
      ·obtain rfl : j = 12 := by omega
       go_wp2_with fail
       refine (nearest_any B f _ _ HSj.out).mono ?_
       rintro e w' ⟨rfl, hw'⟩
       rw [hw']
       clear hw' w'
       go_wp2_with fail
       go_roundw
       case rel => exact ⟨k + 1, _, by omega, rfl, hid (by rw [HN.out, HP.out]), hid (by rw [HN.out, HP.out]; exact HSj.out), HUj⟩
       case measure =>
        have e1 : Pl.cnt (doneAt w4 B) 12 = Pl.cnt s.done 12 := Pl.cnt_congr 12 fun i hi => HSk.out.doneAt i hi
        have e2 : Pl.cnt (doneAt wr B) 12 = Pl.cnt (Pl.upd s.done m true) 12 := Pl.cnt_congr 12 fun i hi => by rw [HSj.out.doneAt i hi, Pl.dRow_done]; rfl
        have e3 := HCM.out
        rw [HN.out, Pl.dProc_done] at e3
        have e4 := Pl.cnt_le (Pl.upd s.done m true) 12
        rw [e1, e2]
        omega
def cellsI (xs : List Int) : List Value := xs.map fun x => .int .i64 x
def OwnI (w : World) (base : Nat) (v : Value) (xs : List Int) : Prop := w.ownsRow base 3 1 v xs.length (cellsI xs)
theorem OwnI.nil (w : World) (base : Nat) : OwnI w base (.slice none 0 0) [] := World.ownsRow_nil _ _ _ _
theorem OwnI.below {w w' : World} {base : Nat} {v : Value} {xs : List Int} (h : OwnI w base v xs) (k : Below w.heap.size w w') : OwnI w' base v xs := ownsRow_under h k
theorem OwnI.mono {w : World} {base base' : Nat} {v : Value} {xs : List Int} (h : OwnI w base v xs) (k : base' ≤ base) : OwnI w base' v xs := by
 obtain ⟨h0, h1⟩ := h
 refine ⟨h0, ?_⟩
 rcases h1 with h1 | ⟨g, cap, cur, rfl, hb, hr⟩
 ·exact .inl h1
 ·exact .inr ⟨g, cap, cur, rfl, by omega, hr⟩
theorem OwnI.slice {w : World} {base : Nat} {v : Value} {xs : List Int} (h : OwnI w base v xs) : ∃ a cap, v = .slice a xs.length cap := by
 obtain ⟨_, ⟨h, h1⟩ | ⟨g, cap, cur, rfl, _⟩⟩ := h
 ·rw [h1]; exact ⟨_, _, h⟩
 ·exact ⟨_, _, rfl⟩
theorem infoInt : (Tryz.prog.info? 3).map (fun i => (i.zero, i.size, i.bytes)) = some (some (.int .i64 0), 1, 8) := by kernel_rfl
theorem append_intT {tS : TypeId} (hS : Tryz.prog.underlying tS = some (.slice 3))
  {w : World} {ops : Array Oper} {rest : List Oper} {o : Oper} {a : Act} {Q : Exit → Act → World → Prop} (hgd : o.guard = none) (s x : Operand)
  (ho : o.op = .call { callee := .builtin .append, args := #[s, x], argTypes := #[tS, tS] })
  (base : Nat) (v : Value) (xs : List Int) (p : Int) (hs : a.eval s = v) (hown : OwnI w base v xs) (hbase : base ≤ w.heap.size) (hx : a.eval x = .slice (some ⟨w.heap.size, 0, none⟩) 1 1) (hb : xs.length ≤ 1000000)
  (h : ∀ v' w', OwnI w' base v' (xs ++ [p]) → Below base w w' → wpList Tryz.prog ops Q rest (a.put o.dst v') w') :
  wpList Tryz.prog ops Q (o :: rest) a (w.alloc (.cells #[.int .i64 p] 3)) := by
 obtain ⟨i0, hi0, hz0, hz1, hz2⟩ := partsOf infoInt
 refine wpList_append_own (w := _) hgd s x tS ho base 3 i0 _ 1 8 hS hi0 hz0 hz1 hz2 rfl (by decide) _ xs.length (cellsI xs) hs (World.ownsRow.alloc hown _) ⟨w.heap.size, 0, none⟩ 1 1 [.int .i64 p] hx rfl ?_ ?_ (by unfold maxLen; omega) (by omega) (by simp; omega) ?_
 ·intro j u hj
  rw [add_none]
  match j, hj with
  | 0, hj => simp at hj; subst hj; simp
 ·intro u hu; simp at hu; subst hu; rfl
 ·intro v' w' hown' hg _
  have hlt := World.ownsRow.lt hown
  refine h v' w' ?_ (((Below.refl _ _).alloc hbase _).grown hg (by simp; omega) (fun k hk => (hlt k hk).1))
  unfold OwnI
  simpa [cellsI] using hown'
def cellsW : List (Int × Value × List Int) → List Value
 | [] => []
 | t :: r => .int .i64 t.1 :: t.2.1 :: cellsW r
theorem cellsW_append : ∀ a b : List (Int × Value × List Int), cellsW (a ++ b) = cellsW a ++ cellsW b
 | [], _ => rfl
 | t :: r, b => by simp [cellsW, cellsW_append r b]
def OwnW (w : World) (base : Nat) (v : Value) (ts : List (Int × Value × List Int)) : Prop :=
 w.ownsRow base 126 2 v ts.length (cellsW ts) ∧ ∀ t ∈ ts, OwnI w 0 t.2.1 t.2.2
theorem OwnW.nil (w : World) (base : Nat) : OwnW w base (.slice none 0 0) [] := ⟨World.ownsRow_nil _ _ _ _, by simp⟩
theorem OwnW.below {w w' : World} {base : Nat} {v : Value} {ts : List (Int × Value × List Int)} (h : OwnW w base v ts) (k : Below w.heap.size w w') : OwnW w' base v ts :=
 ⟨ownsRow_under h.1 k, fun t ht => (h.2 t ht).below k⟩
theorem infoWay : (Tryz.prog.info? 126).map (fun i => (i.zero, i.size, i.bytes)) = some (some (.agg #[.int .i64 0, .slice none 0 0]), 2, 32) := by kernel_rfl
theorem append_wayT
  {w : World} {ops : Array Oper} {rest : List Oper} {o : Oper} {a : Act} {Q : Exit → Act → World → Prop} (hgd : o.guard = none) (s x : Operand)
  (ho : o.op = .call { callee := .builtin .append, args := #[s, x], argTypes := #[122, 122] })
  (base : Nat) (v : Value) (ts : List (Int × Value × List Int)) (c : Int) (hv : Value) (xs : List Int) (hs : a.eval s = v) (hown : OwnW w base v ts) (hh : OwnI w 0 hv xs) (hbase : base ≤ w.heap.size) (hx : a.eval x = .slice (some ⟨w.heap.size, 0, none⟩) 1 1) (hb : ts.length ≤ 1000000)
  (h : ∀ v' w', OwnW w' base v' (ts ++ [(c, hv, xs)]) → Below base w w' → wpList Tryz.prog ops Q rest (a.put o.dst v') w') :
  wpList Tryz.prog ops Q (o :: rest) a (w.alloc (.cells #[.int .i64 c, hv] 126)) := by
 obtain ⟨i0, hi0, hz0, hz1, hz2⟩ := partsOf infoWay
 obtain ⟨ah, caph, rfl⟩ := hh.slice
 refine wpList_append_own (w := _) hgd s x 122 ho base 126 i0 _ 2 32 Tryz.underlying122 hi0 hz0 hz1 hz2 rfl (by decide) _ ts.length (cellsW ts) hs (World.ownsRow.alloc hown.1 _) ⟨w.heap.size, 0, none⟩ 1 1 [.int .i64 c, .slice ah xs.length caph] hx rfl ?_ ?_ (by unfold maxLen; omega) (by omega) (by simp; omega) ?_
 ·intro j u hj
  rw [add_none]
  match j, hj with
  | 0, hj => simp at hj; subst hj; simp
  | 1, hj => simp at hj; subst hj; simp
 ·intro u hu; simp at hu; rcases hu with rfl | rfl <;> rfl
 ·intro v' w' hown' hg _
  have hlt := World.ownsRow.lt hown.1
  refine h v' w' ⟨?_, ?_⟩ (((Below.refl _ _).alloc hbase _).grown hg (by simp; omega) (fun k hk => (hlt k hk).1))
  ·rw [cellsW_append]
   simpa [cellsW] using hown'
  ·have key : ∀ hv' xs', OwnI w 0 hv' xs' → OwnI w' 0 hv' xs' := by
    intro hv' xs' ⟨q0, q1⟩
    refine ⟨q0, ?_⟩
    rcases q1 with q1 | ⟨g, cap, cur, rfl, qb, qh, qr⟩
    ·exact .inl q1
    ·refine .inr ⟨g, cap, cur, rfl, qb, ?_, qr⟩
     have hgl := blockLt qh
     rw [hg.block g (by simp; omega) ?_, Below.heap_alloc _ _ _ hgl]
     ·exact qh
     ·intro e
      rcases hown.1.2 with ⟨rfl, _⟩ | ⟨g2, cap2, cur2, rfl, _, qh2, _⟩
      ·simp [Value.ownBlock] at e
      ·simp only [Value.ownBlock, Option.some.injEq] at e
       rw [e, qh2] at qh
       simp at qh
   intro t ht
   simp only [List.mem_append, List.mem_singleton] at ht
   rcases ht with ht | rfl
   ·exact key _ _ (hown.2 t ht)
   ·exact key _ _ hh
def Pl.hopsL (h : Nat → Bool) : Nat → List Int
 | 0 => []
 | k + 1 => if h k = true then Pl.hopsL h k ++ [(k : Int)] else Pl.hopsL h k
theorem Pl.hopsL_len (h : Nat → Bool) (k : Nat) : (Pl.hopsL h k).length ≤ k := by
 induction k with
 | zero => exact Nat.le_refl _
 | succ k ih =>
  unfold Pl.hopsL
  split
  ·rw [List.length_append]; show _ + 1 ≤ _; omega
  ·omega
theorem Pl.hopsL_on {h : Nat → Bool} {k : Nat} (e : h k = true) : Pl.hopsL h (k + 1) = Pl.hopsL h k ++ [(k : Int)] := by
 show (if h k = true then _ else _) = _
 rw [if_pos e]
theorem Pl.hopsL_off {h : Nat → Bool} {k : Nat} (e : h k = false) : Pl.hopsL h (k + 1) = Pl.hopsL h k := by
 show (if h k = true then _ else _) = _
 rw [if_neg (by rw [e]; decide)]
def Pl.wayL (s : Pl.DS) : Nat → List (Int × List Int)
 | 0 => []
 | k + 1 => Pl.wayL s k ++ [(s.cost k, Pl.hopsL (s.hops k) 12)]
def Pl.flat (ts : List (Int × Value × List Int)) : List (Int × List Int) := ts.map fun t => (t.1, t.2.2)
set_option maxHeartbeats 2000000 in
theorem ways_any (B f : Nat) (s : Pl.DS) (w : World) (h : SAt w B f s) :
  Calls Tryz.prog 104 #[.pointer (some ⟨B, 0, none⟩)] w fun e w' => ∃ v ts, e = .returned v ∧ OwnW w' w.heap.size v ts ∧ Pl.flat ts = Pl.wayL s 12 ∧ Below w.heap.size w w' := by
 have HS := hid h
 have hB := CellsAt.lt h
 clear h
 go_enter Tryz.func104, Tryz.ntmps104
 go_wp2_with fail
 go_loopw [3, 8] (fun vl i wr => ∃ (k : Nat) (v : Value) (ts : List (Int × Value × List Int)), v = vl ∧ k ≤ 12 ∧ i = .int .i64 k ∧ Hid (OwnW wr w.heap.size v ts) ∧ Hid (Pl.flat ts = Pl.wayL s k) ∧ Hid (ts.length = k) ∧ Hid (Below w.heap.size w wr)) (fun _ i _ => 12 - (intOf i).toNat)
 case atStart => exact ⟨0, .slice none 0 0, [], rfl, by omega, rfl, OwnW.nil _ _, rfl, rfl, Below.refl _ _⟩
 case round =>
  obtain ⟨k, v, ts, hvl, hk, rfl, HO, HF, HN, HB⟩ := hrel
  subst hvl
  by_cases hlt : k < 12
  ·have HSr := hid (CellsAt.below HS.out HB.out)
   have hc := SAt.cost HSr.out k hlt
   have hBr := CellsAt.lt HSr.out
   obtain ⟨c, HC⟩ : ∃ c, Hid (s.cost k = c) := ⟨_, rfl⟩
   rw [HC.out] at hc
   obtain ⟨H, HH⟩ : ∃ x, Hid (s.hops k = x) := ⟨_, rfl⟩
   have HRH : Hid ((wr.alloc (.cells #[.int .i64 c, .slice none 0 0] 126)).rangeAt B (13 + k * 12) (bools12 H)) := hid (by
    rw [← HH.out]; exact World.rangeAt_alloc (SAt.hopsOf HSr.out k hlt) _)
   rename World => w4
   go_wp2_with (refine wpList_load_mid rfl 206 (.tmp 22) rfl B (13 + k * 12) rfl (bools12 H) _ HRH.out Tryz.underlying206 rfl infoBools ?_)
   go_loopw [24] (fun i wr => ∃ (j : Nat) (hv : Value), j ≤ 12 ∧ i = .int .i64 j ∧ Hid (wr.heap[w4.heap.size]? = some (.cells #[.int .i64 c, hv] 126)) ∧ Hid (OwnI wr (w4.heap.size + 1) hv (Pl.hopsL H j)) ∧ Hid (Below w4.heap.size w4 wr)) (fun i _ => 12 - (intOf i).toNat)
   case atStart => exact ⟨0, .slice none 0 0, by omega, rfl, heapNew _ _, OwnI.nil _ _, (Below.refl _ _).alloc (Nat.le_refl _) _⟩
   case round =>
    obtain ⟨j, hv, hj, rfl, HA, HI, HB4⟩ := hrel
    obtain ⟨a3, cap3, rfl⟩ := HI.out.slice
    obtain ⟨z0, z1, f0, f1, hAr⟩ := adjAt_cells HA.out
    by_cases hjl : j < 12
    ·have hg := fun w => run_index_bools H j hjl w
     obtain ⟨b, HBK⟩ : ∃ b, Hid (H j = b) := ⟨_, rfl⟩
     rw [HBK.out] at hg
     have hlen := Pl.hopsL_len H j
     obtain ⟨n3, HN3⟩ : ∃ n, Hid ((Pl.hopsL H j).length = n) := ⟨_, rfl⟩
     rw [HN3.out] at HA HI z1 hlen
     cases b
     case true =>
      have HNX := hid (Pl.hopsL_on HBK.out)
      go_wp2_with (at_builtin; refine append_intT Tryz.underlying37 rfl (.tmp 30) (.tmp 32) rfl (w4.heap.size + 1) (.slice a3 n3 cap3) (Pl.hopsL H j) j rfl HI.out (by omega) rfl (by have := HN3.out; omega) ?_; intro v5 w5 ho5 hb5; obtain ⟨a5, cap5, rfl⟩ := ho5.slice; obtain ⟨n5, HN5⟩ : ∃ n, Hid ((Pl.hopsL H j ++ [(j : Int)]).length = n) := ⟨_, rfl⟩; rw [HN5.out] at ho5; have HO5 := hid ho5; have HB5 := hid hb5; have h5 := (hb5.block w4.heap.size (Nat.lt_succ_self _)).trans HA.out; obtain ⟨y0, y1, g0, g1, hA5⟩ := adjAt_cells h5; have H5 := hid h5; rw [HN5.out]; clear ho5 hb5 h5)
      go_roundw
      case rel =>
       refine ⟨j + 1, .slice a5 n5 cap5, by omega, by go_num, adjAt_set H5.out _, hid ?_, (HB4.out.trans (HB5.out.mono (Nat.le_succ _))).setCell (Nat.le_refl _) _⟩
       rw [HNX.out]
       exact ownsRow_setCell_below HO5.out (Nat.lt_succ_self _) _
      case measure => simp [intOf]; omega
     case false =>
      have HNX := hid (Pl.hopsL_off HBK.out)
      go_wp2_with fail
      go_roundw
      case rel => exact ⟨j + 1, .slice a3 n3 cap3, by omega, by go_num, HA, hid (by rw [HNX.out]; exact HI.out), HB4⟩
      case measure => simp [intOf]; omega
    ·obtain rfl : j = 12 := by omega
     have HOr := hid (HO.out.below HB4.out)
     have HI0 := hid (HI.out.mono (Nat.zero_le _))
     obtain ⟨n3, HN3⟩ : ∃ n, Hid ((Pl.hopsL H 12).length = n) := ⟨_, rfl⟩
     rw [HN3.out] at HA HI HI0 z1
     have hz4 := HB.out.size
     have hzr := HB4.out.size
     go_wp2_with (at_builtin; refine append_wayT rfl (.tmp 36) (.tmp 38) rfl w.heap.size v ts c (.slice a3 n3 cap3) (Pl.hopsL H 12) rfl HOr.out HI0.out (by omega) rfl (by have := HN.out; omega) ?_; intro v5 w5 ho5 hb5; have HO5 := hid ho5; have HB5 := hid hb5; clear ho5 hb5)
     go_roundw
     case rel =>
      refine ⟨k + 1, _, ts ++ [(c, .slice a3 n3 cap3, Pl.hopsL H 12)], rfl, by omega, by go_num, HO5, hid ?_, hid (by simp [HN.out]), (HB.out.trans (HB4.out.mono hz4)).trans HB5.out⟩
      show (ts ++ _).map _ = Pl.wayL s k ++ _
      rw [List.map_append, ← HF.out, ← HC.out, ← HH.out]
      rfl
     case measure => simp [intOf]; omega
  ·obtain rfl : k = 12 := by omega
   go_wp2_with fail
   go_ret
   exact ⟨_, ts, rfl, HO.out, HF.out, HB.out⟩
end Go.Proofs.YtjjelkdajdeikaaGreatDoor
