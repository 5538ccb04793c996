/-
  Contracts: what Encode and the document's StoreBytes answer at every list of entries.
-/
import Derived.Test.YtcdobhdbafpkiadEnc1
import Derived.Test.YtcdobhdbafpkiadSeal
import Derived.Test.YtcdobhdbafpkiadFault
import Derived.Test.YtcdobhdbafpkiadQuiet
namespace Go.Proofs.Ytcdobhdbafpkiad
open Go.RowKit
set_option maxRecDepth 20000

def Pl.encO (es : List Pl.Ent) : List UInt8 := if Pl.fault es = 0 then Pl.enc es else []

theorem box_keep {base : Nat} {w w' : World} {c0 c1 c2 c3 : Value} (h : Keep base (w.alloc (.cells #[c0, c1, c2, c3] 28)) w') :
    w'.cell? ⟨w.heap.size, 0, none⟩ = some c0 ∧ w'.cell? ⟨w.heap.size, 1, none⟩ = some c1 ∧ w'.cell? ⟨w.heap.size, 2, none⟩ = some c2 ∧ w'.cell? ⟨w.heap.size, 3, none⟩ = some c3 := by
  have hh := h.2 w.heap.size _ _ _ (heap_new w _) (by decide)
  refine ⟨?_, ?_, ?_, ?_⟩
  all_goals simp [World.cell?, hh]

set_option maxHeartbeats 1000000 in
theorem Encode_any (a : Option Addr) (len cap : Nat) (es : List Pl.Ent) (w : World) (h : IsEnts w a len cap es) :
    Calls Try.prog 19 #[.slice a len cap] w fun e w' => ∃ v, e = .returned (.tuple #[v, .int .i64 (Pl.fault es)]) ∧ OwnB w' w.heap.size v (Pl.encO es) ∧ Below w.heap.size w w' := by
  have HH := hid h
  have hlen : es.length = len := h.1
  have hcap := h.2.1
  have hm := h.2.2.1
  unfold maxLen at hm
  clear h
  obtain ⟨c, HC⟩ : ∃ c, Hid (Pl.fault es = c) := ⟨_, rfl⟩
  by_cases hc0 : c = 0
  · subst hc0
    have HG := hid ((Pl.good_iff es).1 HC.out)
    have hl60 : len ≤ 60 := by have := HG.out.1; omega
    go_enter Try.func19, Try.ntmps19
    go_wp2_with fail
    refine (Check_any _ _ _ es _ HH.out).mono ?_
    rw [HC.out]
    rintro e w1 ⟨rfl, hb1⟩
    have hz1 := hb1.size
    go_wp2_with fail
    go_loopw [5, 19] (fun vv i wr => ∃ (k : Nat) (c : List UInt8) (u : Value), u = vv ∧ k ≤ len ∧ i = .int .i64 k ∧ Hid (OwnB wr w.heap.size u c) ∧ c.length ≤ 2 + k * 138 ∧ Hid (Pl.body es = c ++ Pl.encL (es.drop k)) ∧ Below w.heap.size w wr) (fun _ i _ => len - (intOf i).toNat)
    case atStart => exact ⟨0, [116, Pl.u8 (es.length : Int)], _, rfl, Nat.zero_le _, rfl, by rw [hlen]; exact (ownb_lit2 w1 116 (len : Int) (by omega) (by omega)).mono hz1, by simp, rfl, hb1.alloc hz1 _⟩
    case round =>
      obtain ⟨k, c, u, rfl, hk, rfl, HO, hcl, HE, hb⟩ := hrel
      have hz := hb.size
      by_cases hlt : k < len
      · obtain ⟨b, off, rfl, hbw, hr⟩ : ∃ b off, a = some ⟨b, off, none⟩ ∧ b < w.heap.size ∧ RowAt w b off es := by
          rcases HH.out.2.2.2.2 with h | h
          · rw [h] at hlen; simp at hlen; omega
          · exact h
        obtain ⟨q0, q1, q2, q3⟩ := hr.below hbw hb k (by omega)
        clear hr
        have hpp := Pl.may_parts (HG.out.2.1 _ (Pl.ent_mem es k (by omega)))
        have HLN := hid (Pl.encE_len (HG.out.2.1 _ (Pl.ent_mem es k (by omega))))
        have HD := hid (Pl.drop_ent es k (by omega))
        generalize Pl.ent es k = x at *
        obtain ⟨xk, xv, xo, xx⟩ := x
        simp only at q0 q1 q2 q3 hpp
        obtain ⟨p1, p2, p3, p4, p5, p6, p7⟩ := hpp
        go_wp2_with fail
        refine (appendText_any w.heap.size u c xk _ (HO.out.below ((Below.refl _ _).alloc (Nat.le_refl _) _)) (by simp; omega) (by omega) (by omega)).mono ?_
        rintro e w3 ⟨v3, rfl, ho3, hk3⟩
        have HO3 := hid ho3
        clear ho3
        obtain ⟨x0, x1, x2, x3⟩ := box_keep hk3
        have hz3 := hk3.1.size
        simp at hz3
        have hl3 : (c ++ Pl.encT xk).length ≤ 2 + k * 138 + 9 := by rw [List.length_append, Pl.encT_len]; omega
        go_wp2_with fail
        refine (appendVersion_any w.heap.size v3 _ xv _ HO3.out (by omega) (by omega) (by omega) (by omega)).mono ?_
        rintro e w4 ⟨v4, rfl, ho4, hk4⟩
        have HO4 := hid ho4
        clear ho4 x0 x1 x2 x3
        have hk34 := hk3.trans hk4
        obtain ⟨x0, x1, x2, x3⟩ := box_keep hk34
        have hz4 := hk4.1.size
        have hl4 : (c ++ Pl.encT xk ++ Pl.encV 6 xv).length ≤ 2 + k * 138 + 16 := by rw [List.length_append]; have := Pl.encV_len 6 xv; omega
        go_wp2_with (at_builtin; refine append_b1 rfl (.tmp 31) (.tmp 35) rfl w.heap.size v4 (c ++ Pl.encT xk ++ Pl.encV 6 xv) xo rfl HO4.out (by omega) rfl (by omega) (by omega) (by omega) ?_; intro v5 w5 ho5 hk5; have HO5 := hid ho5; clear ho5 x0 x1 x2 x3; have hk35 := hk34.trans hk5; obtain ⟨x0, x1, x2, x3⟩ := box_keep hk35; have hz5 := hk5.1.size)
        have hl5 : (c ++ Pl.encT xk ++ Pl.encV 6 xv ++ [Pl.u8 xo]).length ≤ 2 + k * 138 + 17 := by rw [List.length_append]; simp only [List.length_singleton]; omega
        refine (appendText_any w.heap.size v5 _ xx _ HO5.out (by omega) (by omega) (by omega)).mono ?_
        rintro e w6 ⟨v6, rfl, ho6, hk6⟩
        have HF : Hid (OwnB w6 w.heap.size v6 (c ++ Pl.encE ⟨xk, xv, xo, xx⟩)) := by
          have := ho6
          rw [show c ++ Pl.encT xk ++ Pl.encV 6 xv ++ [Pl.u8 xo] ++ Pl.encT xx = c ++ Pl.encE ⟨xk, xv, xo, xx⟩ by simp [Pl.encE]] at this
          exact this
        clear ho6
        go_wp2_with fail
        go_roundw
        case rel => exact ⟨k + 1, _, _, rfl, by omega, by go_num, HF, by rw [List.length_append]; have := HLN.out; omega, by show _ = _; rw [HE.out, HD.out]; simp [Pl.encL], (hb.alloc hz _).trans (hk35.trans hk6).1⟩
        case measure => simp [intOf]; omega
      · obtain rfl : k = len := by omega
        have HB : Hid (Pl.body es = c) := by show _ = _; rw [HE.out, List.drop_eq_nil_of_le (by omega)]; simp [Pl.encL]
        obtain ⟨a2, c2, rfl, hI2, hn2, _⟩ := HO.out.shape
        have HI := hid hI2
        clear hI2 hn2
        go_wp2_with fail
        refine (seal_any _ _ _ c _ HI.out).mono ?_
        rintro e w3 ⟨v3, rfl, ho3, hb3⟩
        have hz3 := hb3.size
        obtain ⟨a3, c3, rfl, hI3, hn3, _⟩ := ho3.shape
        have HI3 := hid hI3
        have HN3 := hid hn3
        have HOC := hid (HO.out.below hb3)
        clear ho3 hI3 hn3
        go_wp2_with (at_builtin; refine append_bs rfl (.tmp 42) (.tmp 44) rfl w.heap.size _ c _ _ _ (Pl.sealL c) rfl HOC.out (by omega) rfl HI3.out HN3.out (by rw [Pl.sealL_len]; omega) ?_; intro v4 w4 ho4 hk4)
        go_ret2
        exact ⟨_, by rw [HC.out]; rfl, by unfold Pl.encO Pl.enc; rw [if_pos HC.out, HB.out]; exact ho4, (hb.trans (hb3.mono hz)).trans hk4.1⟩
  · have hcn : (c != 0) = true := by simp [hc0]
    have HP : Hid (Pl.encO es = []) := by show _ = _; unfold Pl.encO; rw [HC.out, if_neg hc0]
    clear hc0
    go_enter Try.func19, Try.ntmps19
    go_wp2_with fail
    refine (Check_any _ _ _ es _ HH.out).mono ?_
    rw [HC.out]
    rintro e w1 ⟨rfl, hb1⟩
    go_wp2_with fail
    go_ret2
    exact ⟨_, by rw [HC.out]; rfl, by rw [HP.out]; exact OwnB.nil _ _, hb1⟩
end Go.Proofs.Ytcdobhdbafpkiad
