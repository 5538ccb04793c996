/-
  Contract: what ShowAdj answers at whatever is told of links.
-/
import Derived.Test.YtcdobhdbafpkiabDoorAdjTx
namespace Go.Proofs.YtcdobhdbafpkiabDoor
open Go.RowKit

theorem infoPairS : (Tryd.prog.info? 34).map (fun i => (i.zero, i.size, i.bytes)) = some (some (.agg #[.int .i64 0, .int .i64 0]), 2, 16) := by kernel_rfl
theorem Pl.small_ok {p : Int × Int} (h : Pl.small p) : Pl.pairOk p := Pl.pairOk_of ⟨h.1, by have := h.2.1; omega, h.2.2.1, by have := h.2.2.2; omega⟩

set_option maxHeartbeats 2000000 in
theorem ShowAdj_any (d : Bool) (a : Option Addr) (len cap : Nat) (ps : List (Int × Int)) (w : World) (h : IsPairs w a len cap ps) (hT : Tab w) :
    Calls Tryd.prog 4 #[.agg #[.bool d, .slice a len cap]] w fun e w' => e = .returned (.tuple #[.string (Pl.adjText d ps), .int .i64 (Pl.adjF ps)]) ∧ Below w.heap.size w w' := by
  have HH := hid h
  have HTB := hid hT
  have hlen := h.1
  have hcap := h.2.1
  have hmax := h.2.2.1
  unfold maxLen at hmax
  clear h hT
  obtain ⟨cc, HCC⟩ : ∃ c, Hid (Pl.adjF ps = c) := ⟨_, hid rfl⟩
  rw [HCC.out]
  have b1 : Below w.heap.size w (w.alloc (.cells #[.bool d, .slice a len cap] 24)) := (Below.refl _ _).alloc (Nat.le_refl _) _
  have HI1 := hid (HH.out.below b1)
  by_cases hc0 : cc = 0
  · subst hc0
    have HOK := hid (Pl.adjF_ok HCC.out)
    have hl12 : len ≤ 12 := by have := HOK.out.1; omega
    go_enter Tryd.func4, Tryd.ntmps4
    go_wp2_with fail
    refine (CheckAdj_any _ _ _ _ ps _ HI1.out).mono ?_
    rw [HCC.out]
    rintro e w1 ⟨rfl, hb1⟩
    have hbA : Below (w.heap.size + 1) (w.alloc (.cells #[.bool d, .slice a len cap] 24)) w1 := by simpa using hb1
    obtain ⟨q0, q1, qs, hq1⟩ := box2 hbA
    clear hb1 b1
    go_wp2_with fail
    go_loopw [5, 17] (fun vl i wr => ∃ (k : Nat) (vv : Value), vv = vl ∧ k ≤ len ∧ i = .int .i64 k ∧ Hid (OwnP 34 wr w1.heap.size vv (ps.take k)) ∧ Below w1.heap.size w1 wr) (fun _ i _ => len - (intOf i).toNat)
    case atStart => exact ⟨0, _, rfl, Nat.zero_le _, rfl, hid (OwnP.nil _ _ _), Below.refl _ _⟩
    case round =>
      obtain ⟨k, vl, rfl, hk, rfl, HO, hb⟩ := hrel
      have hz := hb.size
      by_cases hlt : k < len
      · obtain ⟨b, off, rfl, hbw, hr⟩ : ∃ b off, a = some ⟨b, off, none⟩ ∧ b < w.heap.size ∧ PairsAt w b off ps := by
          rcases HH.out.2.2.2.2 with rfl | h
          · simp at hlen; omega
          · exact h
        obtain ⟨c0, c1⟩ := (hr.below hbw (hq1.trans (hb.mono hq1.size))) k (by omega)
        have hbr : b < wr.heap.size := by omega
        clear hr
        obtain ⟨pp, hpp⟩ : ∃ pp, Hid (Pl.pr ps k = pp) := ⟨_, rfl⟩
        rw [hpp.out] at c0 c1
        have HO4 := hid (HO.out.below ((Below.refl wr.heap.size wr).alloc (Nat.le_refl _) (.cells #[.int .i64 pp.1, .int .i64 pp.2] 32)))
        have htk : (ps.take k).length = k := by simp; omega
        go_wp2_with (at_builtin; refine append_pairT Tryd.underlying30 infoPairS rfl (.tmp 21) (.tmp 27) rfl w1.heap.size vl (ps.take k) pp rfl HO4.out (by simp; omega) (by show Value.slice (some ⟨wr.heap.size + 1, 0, none⟩) 1 1 = _; simp) (by rw [htk]; omega) ?_; intro v5 w5 ho5 hb5 _; have HO5 := hid ho5; clear ho5)
        go_roundw
        case rel => exact ⟨k + 1, _, rfl, by omega, by go_num, hid (by show OwnP _ _ _ _ _; rw [Pl.take_prS ps k (by omega), hpp.out]; exact HO5.out), (hb.alloc hz _).trans hb5⟩
        case measure => simp [intOf]; omega
      · obtain rfl : k = len := by omega
        have HO' : Hid (OwnP 34 wr w1.heap.size vl ps) := by have h := HO.out; rw [List.take_of_length_le (by omega)] at h; exact hid h
        obtain ⟨a3, cap3, rfl, hp3, _, _⟩ := OwnP.shape HO'.out (fun p hp => Pl.small_ok (HOK.out.2 p hp))
        rw [hlen] at hp3 ⊢
        have HP3 := hid hp3
        have hbx : Below (w.heap.size + 1) (w.alloc (.cells #[.bool d, .slice a k cap] 24)) wr := hbA.trans (hb.mono (by omega))
        obtain ⟨y0, y1, ys, hbb⟩ := box2 hbx
        have HTW := hid (HTB.out.below hbb)
        have HSP := hid (showPairs_any a3 k cap3 ps ⟨#[61]⟩ wr HP3.out HOK.out.2 (by omega) (by decide) HTW.out)
        have HSZ := hid (Pl.showT_size ⟨#[61]⟩ ps HOK.out.2 (by decide))
        have HAT : Hid (Pl.adjText d ps = if d then ⟨#[33]⟩ ++ Pl.showT ⟨#[61]⟩ ps else Pl.showT ⟨#[61]⟩ ps) := hid (by unfold Pl.adjText; rw [if_pos HCC.out])
        generalize Pl.showT ⟨#[61]⟩ ps = t at *
        have htz : t.size ≤ 2000 := by have := HSZ.out; omega
        clear hp3 HO HSZ q0 q1 hlen
        cases d
        all_goals
          go_wp2_with fail
          refine HSP.out.mono ?_
          rintro e w4 ⟨rfl, hb4⟩
          obtain ⟨z0, z1, zs, hbz⟩ := box2 (hbx.trans (hb4.mono (by omega)))
          go_wp2_with fail
          go_ret2
          exact ⟨by rw [HAT.out]; rfl, hbz⟩
  · have HAT : Hid (Pl.adjText d ps = ⟨#[]⟩) := hid (by unfold Pl.adjText; rw [if_neg (by rw [HCC.out]; exact hc0)])
    have hd0 : (cc == 0) = false := by simpa using hc0
    go_enter Tryd.func4, Tryd.ntmps4
    go_wp2_with fail
    refine (CheckAdj_any _ _ _ _ ps _ HI1.out).mono ?_
    rw [HCC.out]
    rintro e w1 ⟨rfl, hb1⟩
    go_wp2_with fail
    go_ret2
    exact ⟨by rw [HAT.out]; rfl, b1.trans (hb1.mono b1.size)⟩
end Go.Proofs.YtcdobhdbafpkiabDoor
