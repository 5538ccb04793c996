/-
  Proved: for every list of raw things and every two numbers, the law WaysStep returns true and leaves its arguments as they were: in what Map makes of them, each way is a step to a hop and a way from there, and nothing cheaper leads over any neighbor; the condition: strconv's table holds what the program's text lays there.
-/
import Derived.Test.YtcdobhdbafpkiadDoorCards
import Derived.Test.YtcdobhdbafpkiadDoorTie
import Derived.Test.YtcdobhdbafpkiadDoorMapB
import Derived.Test.YtcdobhdbafpkiadDoorAll8
import Derived.Deep.DeepHandedRow
import Derived.Lib.LaidTab
namespace Go.Proofs.YtcdobhdbafpkiadDoor.waysStep
open Go.ChangeShapes Go.WideShapes Go.ChangeAt Go.RowKit
set_option maxRecDepth 20000
set_option linter.unusedVariables false

/-- what keep.Told answered, laid into a block of its own -/
theorem laidNet {w w3 : World} {C D V} (h : w3 = (w.alloc (.cells Tryd.zeroCells58 58)).setCells w.heap.size 0 (cells168 C D V)) :
    NAt w3 w.heap.size C D V ∧ Below w.heap.size w w3 := by
  have n1 := NAt.new w
  have hb : Below w.heap.size w (w.alloc (.cells Tryd.zeroCells58 58)) := (Below.refl _ _).alloc (Nat.le_refl _) _
  generalize (w.alloc (.cells Tryd.zeroCells58 58)) = w2 at *
  have hu : But w.heap.size w2 w3 := by rw [h]; exact But.setCells _ 0 _ (But.refl _ _)
  refine ⟨?_, hb.trans (hu.below (Nat.le_refl _) hb.size)⟩
  rw [h]
  refine (CellsAt.sets (cells168 C D V) 0 w2 _ n1).ext fun o ho => ?_
  rw [if_pos (by rw [cells168_len]; omega)]
  simp [cells168, ho]

set_option maxHeartbeats 8000000 in
theorem walk (a : Option Addr) (len cap : Nat) (n f : Int) (w : World) (h : IsRaws w a len cap) (hn : (Lit.int .i64 n).wf = true) (hf : (Lit.int .i64 f).wf = true) (hT : Tab w) :
    Calls Tryd.prog 4 #[.slice a len cap, .int .i64 n, .int .i64 f] w fun e w' => e = .returned (.bool true) ∧ Below w.heap.size w w' := by
  have HH := hid h
  have HT := hid hT
  have bn := wf_bounds hn
  have bf := wf_bounds hf
  clear h hT hn hf
  have HP1 := hid (fun W => picked_any n 7 W bn.1 bn.2 (by omega) (by omega))
  obtain ⟨q, hq⟩ := Int.eq_ofNat_of_zero_le (Pl.pk_range n 7 (by omega)).1
  have hq7 : q < 7 := by have := (Pl.pk_range n 7 (by omega)).2; omega
  rw [hq] at HP1
  have hw2 : IntKind.i64.wrap (2 + (q : Int)) = ((q + 2 : Nat) : Int) := by rw [IntKind.wrap_i64]; omega
  have HP2 := hid (fun W => picked_any f ((q + 2 : Nat) : Int) W bf.1 bf.2 (by omega) (by omega))
  obtain ⟨p, hp⟩ := Int.eq_ofNat_of_zero_le (Pl.pk_range f ((q + 2 : Nat) : Int) (by omega)).1
  have hp12 : p < 12 := by have := (Pl.pk_range f ((q + 2 : Nat) : Int) (by omega)).2; omega
  rw [hp] at HP2
  clear hq hp bn bf
  obtain ⟨nd, hnd⟩ : ∃ m : Nat, q + 2 = m := ⟨_, rfl⟩
  rw [hnd] at HP2 hw2
  go_enter Tryd.func4, Tryd.ntmps4
  go_wp2_with fail
  refine (HP1.out _).mono ?_
  rintro e wx ⟨rfl, hx⟩; rw [hx]; clear hx wx
  go_wp2_with fail
  refine (Map_any a len cap nd w HH.out (by omega) (by omega) HT.out).mono ?_
  rintro e w1 ⟨v1, es, rfl, ho1, hg1, hb1⟩
  have HF : Hid (Pl.fault es = 0) := hid ((Pl.good_iff es).2 hg1)
  obtain ⟨a1, c1, rfl, hi1, _, _⟩ := ho1.shape hg1.ok
  have HE1 := hid hi1
  have HB1 := hid hb1
  obtain ⟨l1, HL1⟩ : ∃ m, Hid (es.length = m) := ⟨_, hid rfl⟩
  rw [HL1.out] at HE1 ⊢
  clear ho1 hg1 hb1 hi1
  go_wp2_with fail
  refine (HP2.out _).mono ?_
  rintro e wx ⟨rfl, hx⟩; rw [hx]; clear hx wx
  have HT1 := hid (HT.out.below HB1.out)
  have HWC : Hid (∀ x : Nat, x < 12 → Pl.wayC es (x : Int) = 0) := hid fun x hx => Pl.wayC_ok HF.out hx
  go_wp2_with fail
  refine (Ways_any a1 l1 c1 es (p : Int) w1 HE1.out HT1.out).mono ?_
  rw [HWC.out p hp12]
  rintro e w2 ⟨v2, ts, rfl, ho2, hf2, hb2⟩
  obtain ⟨g2, c2, rfl, hc2, hm2, ha2⟩ := ho2.at12 hf2 (HWC.out p hp12)
  unfold maxLen at hm2
  have HW2 := hid ha2
  have HB2 : Hid (Below w.heap.size w w2) := hid (HB1.out.trans (hb2.mono HB1.out.size))
  have HE2 := hid (HE1.out.below hb2)
  obtain ⟨z0, hz1, cz, z2, z3⟩ := ha2.2 p hp12
  have hg2 := ha2.1
  rw [Pl.wC_self es hp12] at z0
  rw [Pl.wH_self es hp12] at z2
  simp only [List.length_nil] at z2
  clear ho2 hf2 hb2 ha2 z3
  go_wp2_with fail
  refine (Told_any a1 l1 c1 es w2 HE2.out HF.out (HT.out.below HB2.out)).mono ?_
  rintro e w3 ⟨V, rfl, hv3, hb3⟩
  have HVS := hid hv3.slices
  have HB3 : Hid (Below w.heap.size w w3) := hid (HB2.out.trans (hb3.mono HB2.out.size))
  have HW3 := hid (HW2.out.below hb3)
  have HE3 := hid (HE2.out.below hb3)
  clear hv3 hb3 z0 z2 hg2 HW2 HE2 HE1
  obtain ⟨w4, HX⟩ : ∃ x : World, Hid (x = (w3.alloc (.cells Tryd.zeroCells58 58)).setCells w3.heap.size 0 (cells168 (Pl.c2 (Pl.c1 es)) (Pl.tD es) V)) := ⟨_, hid rfl⟩
  have H4 := hid (laidNet HX.out)
  have HTH : Hid ((w3.alloc (.cells Tryd.zeroCells58 58)).there w3.heap.size 0 (cells168 (Pl.c2 (Pl.c1 es)) (Pl.tD es) V).length) := hid (by
    rw [cells168_len]
    exact CellsAt.there (NAt.new w3) 0 168 (by omega))
  go_wp2_with (refine wpList_store_as rfl 58 (.tmp 12) (.tmp 60) rfl w3.heap.size 0 (cells168 (Pl.c2 (Pl.c1 es)) (Pl.tD es) V) rfl rfl HTH.out (by rw [cells168_len]; exact infoNet) (one168 HVS.out) HX.out ?_)
  have HB4 : Hid (Below w.heap.size w w4) := hid (HB3.out.trans (H4.out.2.mono HB3.out.size))
  have HW4 := hid (HW3.out.below H4.out.2)
  have HE4 := hid (HE3.out.below H4.out.2)
  have HN4 : Hid (NAt w4 w3.heap.size (Pl.c2 (Pl.c1 es)) (Pl.tD es) V) := hid H4.out.1
  have HT4 := hid (HT.out.below HB4.out)
  clear HX HTH H4 HW3 HE3
  go_loopw [61] (fun i wr => ∃ k : Nat, k ≤ 12 ∧ i = .int .i64 k ∧ Hid (Below w4.heap.size w4 wr)) (fun i _ => 12 - (intOf i).toNat)
  case atStart => exact ⟨0, by omega, rfl, hid (Below.refl _ _)⟩
  case round =>
    obtain ⟨t, ht, rfl, HBr⟩ := hrel
    have hzr := HBr.out.size
    by_cases hlt : t < 12
    · by_cases htp : (t : Int) = p
      · have htp' : ((t : Int) == (p : Int)) = true := by simp [htp]
        clear htp
        go_wp2_with fail
        go_roundw
        case rel => exact ⟨t + 1, by omega, by go_num, HBr⟩
        case measure => simp [intOf]; omega
      · have htp' : ((t : Int) == (p : Int)) = false := by simpa using htp
        have htp2 : t ≠ p := by omega
        have hdk : decide ((t : Int) < 12) = true := by simp; omega
        have hdn : decide (t < 12) = true := by simp; omega
        have HSS := hid (Pl.waysStep_same es hp12 hlt htp2)
        obtain ⟨o, HO⟩ : ∃ o, Hid (Pl.over (Pl.c2 (Pl.c1 es)) (Pl.tD es) (fun k => (Pl.dIter (Pl.lnk (Pl.tS es)) (Pl.tD es) k 12).cost) p t = o) := ⟨_, hid rfl⟩
        rw [HO.out] at HSS
        clear htp htp2
        go_wp2_with fail
        (try rw [hdk])
        (try rw [hdn])
        clear hdk hdn
        go_loopw [14, 15, 67] (fun b hv i wk => ∃ k : Nat, k ≤ 12 ∧ i = .int .i64 k ∧ b = .int .i64 (Pl.ovB o k) ∧ Hid (OwnI wk wr.heap.size hv (Pl.ovH o k)) ∧ Hid (Below wr.heap.size wr wk)) (fun _ _ i _ => 12 - (intOf i).toNat)
        case atStart => exact ⟨0, by omega, rfl, rfl, hid (OwnI.nil _ _), hid (Below.refl _ _)⟩
        case round =>
          obtain ⟨k, hk, rfl, rfl, HV, HB⟩ := hrel
          rename World => wk
          have HB4k : Hid (Below w4.heap.size w4 wk) := hid (HBr.out.trans (HB.out.mono hzr))
          obtain ⟨ah, hc, rfl⟩ := HV.out.slice
          obtain ⟨hl, HHL⟩ : ∃ m, Hid ((Pl.ovH o k).length = m ∧ m ≤ k) := ⟨_, hid ⟨rfl, Pl.ovH_len o k⟩⟩
          rw [HHL.out.1] at HV ⊢
          have hhl := HHL.out.2
          by_cases hkl : k < 12
          · have HNk : Hid (NAt wk w3.heap.size (Pl.c2 (Pl.c1 es)) (Pl.tD es) V) := hid (CellsAt.below HN4.out HB4k.out)
            have ec := HNk.out.cost p k hp12 hkl
            have ed := HNk.out.drained k hkl
            have hBk := HNk.out.lt
            have HOK : Hid (o k = Pl.over (Pl.c2 (Pl.c1 es)) (Pl.tD es) (fun k => (Pl.dIter (Pl.lnk (Pl.tS es)) (Pl.tD es) k 12).cost) p t k) := hid (by rw [HO.out])
            have hLb : 0 ≤ Pl.c2 (Pl.c1 es) p k ∧ Pl.c2 (Pl.c1 es) p k ≤ 1000 := by
              rw [Pl.c2_lnk]; split
              · omega
              · exact Pl.lnk_le es p k
            have hCb := Pl.wC_bound es k t
            have HCD : Hid ((Pl.dIter (Pl.lnk (Pl.tS es)) (Pl.tD es) k 12).cost t = Pl.wC es k t) := hid rfl
            have HSKIP := hid (fun h => Pl.ov_skip o k h)
            unfold Pl.over at HOK
            simp only [HCD.out] at HOK
            obtain ⟨L, hL⟩ : ∃ L, Pl.c2 (Pl.c1 es) p k = L := ⟨_, rfl⟩
            obtain ⟨dr, hdr⟩ : ∃ d, Pl.tD es k = d := ⟨_, rfl⟩
            rw [hL] at ec hLb HOK
            rw [hdr] at ed HOK
            clear hL hdr
            by_cases hL0 : L = 0
            · subst hL0
              obtain ⟨e1, e2⟩ := HSKIP.out (by rw [HOK.out, if_pos rfl]; omega)
              have HE1x := hid e1
              have HE2x := hid e2
              clear e1 e2
              go_wp2_with fail
              go_roundw
              case rel => exact ⟨k + 1, by omega, by go_num, by rw [HE1x.out], hid (by rw [HE2x.out]; exact HV.out), HB⟩
              case measure => simp [intOf]; omega
            · have hL0' : (L == 0) = false := by simpa using hL0
              rw [if_neg hL0] at HOK
              obtain ⟨B, HBB⟩ : ∃ B, Hid (Pl.ovB o k = B) := ⟨_, hid rfl⟩
              by_cases hkt : k = t
              · subst hkt
                rw [if_pos rfl] at HOK
                have hkk : ((k : Int) != (k : Int)) = false := by simp
                have HNEW := hid (fun h => Pl.ov_new o k (by rw [HOK.out]; omega) h)
                have HSAME := hid (fun h h' => Pl.ov_same o k (by rw [HOK.out]; omega) h h')
                have HMORE := hid (fun h h' => Pl.ov_more o k (by rw [HOK.out]; omega) h h')
                rw [HOK.out, HBB.out] at HNEW HSAME HMORE
                rw [HBB.out]
                have hwr : IntKind.i64.wrap (0 + L) = L := by rw [IntKind.wrap_i64]; omega
                by_cases hnew : B < 0 ∨ L < B
                · obtain ⟨e1, e2⟩ := HNEW.out hnew
                  have HE1x := hid e1
                  have HE2x := hid e2
                  have hb0 : (decide (B < 0) || decide (L < B)) = true := by simpa using hnew
                  have heq : ((L : Int) == L) = true := by simp
                  clear hnew e1 e2
                  by_cases hB0 : B < 0
                  · have hB1 : decide (B < 0) = true := by simpa using hB0
                    clear hb0
                    go_wp2_with (at_builtin; refine append_intT Tryd.underlying50 rfl (.tmp 126) (.tmp 128) rfl wr.heap.size (.slice none 0 0) [] (k : Int) rfl (OwnI.nil _ _) (Nat.le_trans HB.out.size (Nat.le_refl _)) rfl (by simp) ?_; intro v6 w6 ho6 hb6; obtain ⟨a6, cap6, rfl⟩ := ho6.slice; obtain ⟨n6, HN6⟩ : ∃ n, Hid (([] ++ [(k : Int)] : List Int).length = n) := ⟨_, hid rfl⟩; rw [HN6.out] at ho6 ⊢; have HO6 := hid ho6; have HB6 := hid hb6; clear ho6 hb6)
                    go_roundw
                    case rel => exact ⟨k + 1, by omega, by go_num, by rw [HE1x.out], hid (by rw [HE2x.out]; exact HO6.out), hid (HB.out.trans HB6.out)⟩
                    case measure => simp [intOf]; omega
                  · have hB1 : decide (B < 0) = false := by simpa using hB0
                    have hB2 : decide (L < B) = true := by simpa [hB1] using hb0
                    clear hb0
                    go_wp2_with (at_builtin; refine append_intT Tryd.underlying50 rfl (.tmp 126) (.tmp 128) rfl wr.heap.size (.slice none 0 0) [] (k : Int) rfl (OwnI.nil _ _) (Nat.le_trans HB.out.size (Nat.le_refl _)) rfl (by simp) ?_; intro v6 w6 ho6 hb6; obtain ⟨a6, cap6, rfl⟩ := ho6.slice; obtain ⟨n6, HN6⟩ : ∃ n, Hid (([] ++ [(k : Int)] : List Int).length = n) := ⟨_, hid rfl⟩; rw [HN6.out] at ho6 ⊢; have HO6 := hid ho6; have HB6 := hid hb6; clear ho6 hb6)
                    go_roundw
                    case rel => exact ⟨k + 1, by omega, by go_num, by rw [HE1x.out], hid (by rw [HE2x.out]; exact HO6.out), hid (HB.out.trans HB6.out)⟩
                    case measure => simp [intOf]; omega
                · have hB1 : decide (B < 0) = false := by simp; omega
                  have hB2 : decide (L < B) = false := by simp; omega
                  by_cases hsame : L = B
                  · obtain ⟨e1, e2⟩ := HSAME.out hnew hsame
                    have HE1x := hid e1
                    have HE2x := hid e2
                    have heq : (L == B) = true := by simp [hsame]
                    clear hnew hsame e1 e2
                    go_wp2_with (at_builtin; refine append_intT Tryd.underlying50 rfl (.tmp 126) (.tmp 128) rfl wr.heap.size (.slice ah hl hc) (Pl.ovH o k) (k : Int) rfl HV.out (Nat.le_trans HB.out.size (Nat.le_refl _)) rfl (by have := HHL.out; omega) ?_; intro v6 w6 ho6 hb6; obtain ⟨a6, cap6, rfl⟩ := ho6.slice; obtain ⟨n6, HN6⟩ : ∃ n, Hid ((Pl.ovH o k ++ [(k : Int)]).length = n) := ⟨_, hid rfl⟩; rw [HN6.out] at ho6 ⊢; have HO6 := hid ho6; have HB6 := hid hb6; clear ho6 hb6)
                    go_roundw
                    case rel => exact ⟨k + 1, by omega, by go_num, by rw [HE1x.out], hid (by rw [HE2x.out]; exact HO6.out), hid (HB.out.trans HB6.out)⟩
                    case measure => simp [intOf]; omega
                  · obtain ⟨e1, e2⟩ := HMORE.out hnew hsame
                    have HE1x := hid e1
                    have HE2x := hid e2
                    have heq : (L == B) = false := by simpa using hsame
                    clear hnew hsame e1 e2
                    go_wp2_with fail
                    go_roundw
                    case rel => exact ⟨k + 1, by omega, by go_num, by rw [HE1x.out], hid (by rw [HE2x.out]; exact HV.out), HB⟩
                    case measure => simp [intOf]; omega
              · have hkt' : ((k : Int) != (t : Int)) = true := by simp; omega
                rw [if_neg hkt] at HOK
                go_wp2_with fail
                refine (Ways_any a1 l1 c1 es (k : Int) wk (HE4.out.below HB4k.out) (HT4.out.below HB4k.out)).mono ?_
                rw [HWC.out k hkl]
                rintro e w5 ⟨v5, us, rfl, ho5, hf5, hb5⟩
                obtain ⟨g5, c5, rfl, hc5, hm5, ha5⟩ := ho5.at12 hf5 (HWC.out k hkl)
                unfold maxLen at hm5
                obtain ⟨y0, _, _, _, _⟩ := ha5.2 t hlt
                have hg5 := ha5.1
                have HB5 : Hid (Below wr.heap.size wr w5) := hid (HB.out.trans (hb5.mono HB.out.size))
                have HV5 := hid (HV.out.below hb5)
                have HN5 : Hid (NAt w5 w3.heap.size (Pl.c2 (Pl.c1 es)) (Pl.tD es) V) := hid (CellsAt.below HNk.out hb5)
                have ec5 := (hb5.cell (p := ⟨w3.heap.size, p * 12 + k, none⟩) hBk).trans ec
                have ed5 := (hb5.cell (p := ⟨w3.heap.size, 144 + k, none⟩) hBk).trans ed
                have hB5 := HN5.out.lt
                clear ho5 hf5 hb5 ha5 ec ed
                obtain ⟨cc, hcc⟩ : ∃ x, Pl.wC es k t = x := ⟨_, rfl⟩
                rw [hcc] at y0 hCb HOK
                clear hcc HCD
                by_cases hneg : cc < 0
                · have hneg' : decide (cc < 0) = true := by simpa using hneg
                  rw [if_pos (.inl hneg)] at HOK
                  obtain ⟨e1, e2⟩ := HSKIP.out (by rw [HOK.out]; omega)
                  have HE1x := hid e1
                  have HE2x := hid e2
                  clear e1 e2 hneg
                  go_wp2_with fail
                  go_roundw
                  case rel => exact ⟨k + 1, by omega, by go_num, by rw [HE1x.out], hid (by rw [HE2x.out]; exact HV5.out), HB5⟩
                  case measure => simp [intOf]; omega
                · have hneg' : decide (cc < 0) = false := by simpa using hneg
                  cases dr
                  case true =>
                    rw [if_pos (.inr rfl)] at HOK
                    obtain ⟨e1, e2⟩ := HSKIP.out (by rw [HOK.out]; omega)
                    have HE1x := hid e1
                    have HE2x := hid e2
                    clear e1 e2 hneg
                    go_wp2_with fail
                    go_roundw
                    case rel => exact ⟨k + 1, by omega, by go_num, by rw [HE1x.out], hid (by rw [HE2x.out]; exact HV5.out), HB5⟩
                    case measure => simp [intOf]; omega
                  case false =>
                    rw [if_neg (by simp; omega)] at HOK
                    have HNEW := hid (fun h => Pl.ov_new o k (by rw [HOK.out]; omega) h)
                    have HSAME := hid (fun h h' => Pl.ov_same o k (by rw [HOK.out]; omega) h h')
                    have HMORE := hid (fun h h' => Pl.ov_more o k (by rw [HOK.out]; omega) h h')
                    rw [HOK.out, HBB.out] at HNEW HSAME HMORE
                    rw [HBB.out]
                    obtain ⟨O, hO⟩ : ∃ O, cc + L = O := ⟨_, rfl⟩
                    have hwr : IntKind.i64.wrap (cc + L) = O := by rw [IntKind.wrap_i64]; omega
                    rw [hO] at HNEW HSAME HMORE
                    clear hneg
                    by_cases hnew : B < 0 ∨ O < B
                    · obtain ⟨e1, e2⟩ := HNEW.out hnew
                      have HE1x := hid e1
                      have HE2x := hid e2
                      have hb0 : (decide (B < 0) || decide (O < B)) = true := by simpa using hnew
                      have heq : ((O : Int) == O) = true := by simp
                      clear hnew e1 e2
                      by_cases hB0 : B < 0
                      · have hB1 : decide (B < 0) = true := by simpa using hB0
                        clear hb0
                        go_wp2_with (at_builtin; refine append_intT Tryd.underlying50 rfl (.tmp 126) (.tmp 128) rfl wr.heap.size (.slice none 0 0) [] (k : Int) rfl (OwnI.nil _ _) (Nat.le_trans HB5.out.size (Nat.le_refl _)) rfl (by simp) ?_; intro v6 w6 ho6 hb6; obtain ⟨a6, cap6, rfl⟩ := ho6.slice; obtain ⟨n6, HN6⟩ : ∃ n, Hid (([] ++ [(k : Int)] : List Int).length = n) := ⟨_, hid rfl⟩; rw [HN6.out] at ho6 ⊢; have HO6 := hid ho6; have HB6 := hid hb6; clear ho6 hb6)
                        go_roundw
                        case rel => exact ⟨k + 1, by omega, by go_num, by rw [HE1x.out], hid (by rw [HE2x.out]; exact HO6.out), hid (HB5.out.trans HB6.out)⟩
                        case measure => simp [intOf]; omega
                      · have hB1 : decide (B < 0) = false := by simpa using hB0
                        have hB2 : decide (O < B) = true := by simpa [hB1] using hb0
                        clear hb0
                        go_wp2_with (at_builtin; refine append_intT Tryd.underlying50 rfl (.tmp 126) (.tmp 128) rfl wr.heap.size (.slice none 0 0) [] (k : Int) rfl (OwnI.nil _ _) (Nat.le_trans HB5.out.size (Nat.le_refl _)) rfl (by simp) ?_; intro v6 w6 ho6 hb6; obtain ⟨a6, cap6, rfl⟩ := ho6.slice; obtain ⟨n6, HN6⟩ : ∃ n, Hid (([] ++ [(k : Int)] : List Int).length = n) := ⟨_, hid rfl⟩; rw [HN6.out] at ho6 ⊢; have HO6 := hid ho6; have HB6 := hid hb6; clear ho6 hb6)
                        go_roundw
                        case rel => exact ⟨k + 1, by omega, by go_num, by rw [HE1x.out], hid (by rw [HE2x.out]; exact HO6.out), hid (HB5.out.trans HB6.out)⟩
                        case measure => simp [intOf]; omega
                    · have hB1 : decide (B < 0) = false := by simp; omega
                      have hB2 : decide (O < B) = false := by simp; omega
                      by_cases hsame : O = B
                      · obtain ⟨e1, e2⟩ := HSAME.out hnew hsame
                        have HE1x := hid e1
                        have HE2x := hid e2
                        have heq : (O == B) = true := by simp [hsame]
                        clear hnew hsame e1 e2
                        go_wp2_with (at_builtin; refine append_intT Tryd.underlying50 rfl (.tmp 126) (.tmp 128) rfl wr.heap.size (.slice ah hl hc) (Pl.ovH o k) (k : Int) rfl HV5.out (Nat.le_trans HB5.out.size (Nat.le_refl _)) rfl (by have := HHL.out; omega) ?_; intro v6 w6 ho6 hb6; obtain ⟨a6, cap6, rfl⟩ := ho6.slice; obtain ⟨n6, HN6⟩ : ∃ n, Hid ((Pl.ovH o k ++ [(k : Int)]).length = n) := ⟨_, hid rfl⟩; rw [HN6.out] at ho6 ⊢; have HO6 := hid ho6; have HB6 := hid hb6; clear ho6 hb6)
                        go_roundw
                        case rel => exact ⟨k + 1, by omega, by go_num, by rw [HE1x.out], hid (by rw [HE2x.out]; exact HO6.out), hid (HB5.out.trans HB6.out)⟩
                        case measure => simp [intOf]; omega
                      · obtain ⟨e1, e2⟩ := HMORE.out hnew hsame
                        have HE1x := hid e1
                        have HE2x := hid e2
                        have heq : (O == B) = false := by simpa using hsame
                        clear hnew hsame e1 e2
                        go_wp2_with fail
                        go_roundw
                        case rel => exact ⟨k + 1, by omega, by go_num, by rw [HE1x.out], hid (by rw [HE2x.out]; exact HV5.out), HB5⟩
                        case measure => simp [intOf]; omega
          · have HK12 : Hid (k = 12) := hid (by omega)
            have HWk := hid (HW4.out.below HB4k.out)
            obtain ⟨x0, xa, xc, x1, x2⟩ := HWk.out.2 t hlt
            have hgk := HWk.out.1
            have HX2 := hid x2
            have HEB : Hid (Pl.ovB o k = Pl.wC es p t) := hid (by rw [HK12.out]; exact HSS.out.1)
            have HEH : Hid (Pl.ovH o k = Pl.wH es p t) := hid (by rw [HK12.out]; exact HSS.out.2)
            rw [← HEB.out] at x0
            rw [← HEH.out, HHL.out.1] at x1 HX2
            have hz : OwnZ wk wr.heap.size (.slice ah hl hc) (Pl.ovH o k) := HV.out
            obtain ⟨b', c', ez, hz2, _⟩ := hz.ints
            have HZ2 : Hid (IsInts wk ah hl hc (Pl.ovH o k)) := hid (by
              simp only [Value.slice.injEq] at ez
              obtain ⟨q1, q2, q3⟩ := ez
              rw [q1, q2, q3]; exact hz2)
            clear hz hz2 ez x2
            have heq : (Pl.ovB o k != Pl.ovB o k) = false := by simp
            obtain ⟨B, hBB⟩ : ∃ B, Pl.ovB o k = B := ⟨_, rfl⟩
            rw [hBB] at x0 heq ⊢
            clear hBB
            go_wp2_with fail
            refine (EqualI_any xa ah hl hl xc hc (Pl.ovH o k) (Pl.ovH o k) wk HX2.out HZ2.out).mono ?_
            rw [show decide (Pl.ovH o k = Pl.ovH o k) = true from decide_eq_true rfl]
            rintro e w6 ⟨rfl, hb6⟩
            have HB6 := hid hb6
            clear hb6
            go_wp2_with fail
            go_roundw
            case rel => exact ⟨t + 1, by omega, by go_num, hid (HB4k.out.trans (HB6.out.mono HB4k.out.size))⟩
            case measure => simp [intOf]; omega
    · obtain rfl : t = 12 := by omega
      go_wp2_with fail
      go_ret
      exact ⟨rfl, HB4.out.trans (HBr.out.mono HB4.out.size)⟩

theorem gTab : Tryd.prog.globalNamed "internal/strconv.uint64pow10" = some 1 := by kernel_rfl
theorem gTabType : (Tryd.prog.globals[1]?).map (·.type) = some 151 := by kernel_rfl
theorem cellsTab : Tryd.prog.cellsOf 151 = 20 := by kernel_rfl
theorem laidTab : (Rows.laid_internal_strconv_uint64pow10 : DataW Unit) = Lib.tabData .u64 Lib.pow10Tab := by rfl
theorem table {W : World} (h : laidMetH Tryd.prog Rows.waysStepRow.laid W) : Tab W := by
  have h1 : laidMet Tryd.prog Rows.waysStepRow.laid W := h
  have h2 := laidMet.filter (fun x => x.1 == "internal/strconv.uint64pow10") h1
  have h3 : laidMet Tryd.prog [("internal/strconv.uint64pow10", (Rows.laid_internal_strconv_uint64pow10 : DataW Unit))] W := h2
  rw [laidTab] at h3
  exact Lib.tabIs_of_head (rest := []) gTab gTabType Tryd.underlying151 Tryd.underlying139 (by kernel_rfl) cellsTab h3

theorem contract (H : Type) (enc : TypeId × Value → H) (W : World) (base : Nat) (args : Array Value) (ds gs : List (DataW H)) (before : List MemPlace)
    (hval : ∀ (j : Nat) t v, Tryd.f4.params[j]? = some t → args[j]? = some v → Value.okWide Tryd.prog W .any base t v)
    (hW : DataW.Whole enc Tryd.prog Tryd.f4.params.toList Rows.waysStepSpec.vars false W args.toList ds gs before) (hL : laidMetH Tryd.prog Rows.waysStepRow.laid W) :
    Calls Tryd.prog 4 args W fun e W' => ∃ v, e = .returned v ∧ Rows.waysStepSpec.post enc Tryd.prog Tryd.f4 false true false false W args v W' := by
  have hW' := hW
  obtain ⟨p, q, hA0, hV, rfl, hfz, hnd⟩ := hW
  have hA : DataW.TrodAll enc Tryd.prog W 0 (fun _ => true) true Tryd.f4.params.toList args.toList ds p := hA0
  rw [Tryd.params4] at hA hval
  obtain ⟨v0, vs0, d0, ds0, p0, q0, hargs, rfl, rfl, h0, r0⟩ := trodAll_cons hA
  obtain ⟨v1, vs1, d1, ds1, p1, q1, rfl, rfl, rfl, h1, r1⟩ := trodAll_cons r0
  obtain ⟨v2, vs2, d2, ds2, p2, q2, rfl, rfl, rfl, h2, r2⟩ := trodAll_cons r1
  obtain ⟨rfl, rfl, rfl⟩ := trodAll_nil r2
  obtain rfl : args = #[v0, v1, v2] := by cases args; simp_all
  obtain ⟨rfl, rfl⟩ := trodVars_none hV
  have k0 := h0
  have lt0 : ∀ x ∈ p0, x.block < W.heap.size := by obtain ⟨m, hm⟩ := k0; exact DataW.trod_lt m _ _ _ hm
  obtain ⟨a0, len0, cap0, rfl, w0⟩ := open_raws (hval 0 22 v0 rfl rfl) h0
  have k1 := h1
  have lt1 : ∀ x ∈ p1, x.block < W.heap.size := by obtain ⟨m, hm⟩ := k1; exact DataW.trod_lt m _ _ _ hm
  obtain ⟨a1, rfl, _, _, w1⟩ := open_int Tryd.underlying3 (hval 1 3 v1 rfl rfl) h1
  have k2 := h2
  have lt2 : ∀ x ∈ p2, x.block < W.heap.size := by obtain ⟨m, hm⟩ := k2; exact DataW.trod_lt m _ _ _ hm
  obtain ⟨a2, rfl, _, _, w2⟩ := open_int Tryd.underlying3 (hval 2 3 v2 rfl rfl) h2
  clear hA0
  refine (walk a0 len0 cap0 a1 a2 W w0 w1 w2 (table hL)).mono fun e W' ⟨he, bel⟩ => ?_
  subst he
  exact ⟨_, rfl, _, _, _, [], _, [], hW', trodAll_mk1 (shut_bool Tryd.underlying4 _), (trodAll_cons_mk (Below.trod laidOut (by kernel_rfl) (of_decide_eq_true (by kernel_rfl)) k0 bel lt0) (trodAll_cons_mk (Below.trod laidOut (by kernel_rfl) (of_decide_eq_true (by kernel_rfl)) k1 bel lt1) (trodAll_cons_mk (Below.trod laidOut (by kernel_rfl) (of_decide_eq_true (by kernel_rfl)) k2 bel lt2) trodAll_mk0))), rfl, bel.frame _, fun h => by cases h⟩

def cells_laid_math_bits_deBruijn32tab : Array Value := #[.int .u8 0, .int .u8 1, .int .u8 28, .int .u8 2, .int .u8 29, .int .u8 14, .int .u8 24, .int .u8 3, .int .u8 30, .int .u8 22, .int .u8 20, .int .u8 15, .int .u8 25, .int .u8 17, .int .u8 4, .int .u8 8, .int .u8 31, .int .u8 27, .int .u8 13, .int .u8 23, .int .u8 21, .int .u8 19, .int .u8 16, .int .u8 7, .int .u8 26, .int .u8 12, .int .u8 18, .int .u8 6, .int .u8 11, .int .u8 5, .int .u8 10, .int .u8 9]
def cells_laid_math_bits_deBruijn64tab : Array Value := #[.int .u8 0, .int .u8 1, .int .u8 56, .int .u8 2, .int .u8 57, .int .u8 49, .int .u8 28, .int .u8 3, .int .u8 61, .int .u8 58, .int .u8 42, .int .u8 50, .int .u8 38, .int .u8 29, .int .u8 17, .int .u8 4, .int .u8 62, .int .u8 47, .int .u8 59, .int .u8 36, .int .u8 45, .int .u8 43, .int .u8 51, .int .u8 22, .int .u8 53, .int .u8 39, .int .u8 33, .int .u8 30, .int .u8 24, .int .u8 18, .int .u8 12, .int .u8 5, .int .u8 63, .int .u8 55, .int .u8 48, .int .u8 27, .int .u8 60, .int .u8 41, .int .u8 37, .int .u8 16, .int .u8 46, .int .u8 35, .int .u8 44, .int .u8 21, .int .u8 52, .int .u8 32, .int .u8 23, .int .u8 11, .int .u8 54, .int .u8 26, .int .u8 40, .int .u8 15, .int .u8 34, .int .u8 20, .int .u8 31, .int .u8 10, .int .u8 25, .int .u8 14, .int .u8 19, .int .u8 9, .int .u8 13, .int .u8 8, .int .u8 7, .int .u8 6]
def cells_laid_internal_strconv_uint64pow10 : Array Value := #[.int .u64 1, .int .u64 10, .int .u64 100, .int .u64 1000, .int .u64 10000, .int .u64 100000, .int .u64 1000000, .int .u64 10000000, .int .u64 100000000, .int .u64 1000000000, .int .u64 10000000000, .int .u64 100000000000, .int .u64 1000000000000, .int .u64 10000000000000, .int .u64 100000000000000, .int .u64 1000000000000000, .int .u64 10000000000000000, .int .u64 100000000000000000, .int .u64 1000000000000000000, .int .u64 10000000000000000000]
noncomputable def laidWorld (os : Os) : World := { World.holding Tryd.prog os ⟨#[], #[], []⟩ with heap := ((((World.holding Tryd.prog os ⟨#[], #[], []⟩).heap.modify 2 fun | .cells _ t frozen => .cells cells_laid_math_bits_deBruijn32tab t frozen | o => o).modify 3 fun | .cells _ t frozen => .cells cells_laid_math_bits_deBruijn64tab t frozen | o => o).modify 1 fun | .cells _ t frozen => .cells cells_laid_internal_strconv_uint64pow10 t frozen | o => o) }
set_option maxRecDepth 100000 in
theorem laid_met (os : Os) : laidMet Tryd.prog Rows.waysStepRow.laid ((laidWorld os).forCall (fun _ _ => 0) ⟨#[], #[.slice none 0 0, .int .i64 0, .int .i64 0], []⟩).memory :=
  laidMet_of_run' 8 (by kernel_rfl) (by kernel_rfl)
set_option maxRecDepth 100000 in
theorem reads (os : Os) {H : Type} (enc : TypeId × Value → H) : ∃ places, DataW.whole enc Tryd.prog ((laidWorld os).forCall (fun _ _ => 0) ⟨#[], #[.slice none 0 0, .int .i64 0, .int .i64 0], []⟩).memory Tryd.f4.params.toList Rows.waysStepSpec.vars false (#[.slice none 0 0, .int .i64 0, .int .i64 0] : Array Value).toList 8 = some ([.nil, .lit (.int .i64 0), .lit (.int .i64 0)], [], places) :=
  ⟨[], by kernel_rfl⟩
set_option maxRecDepth 100000 in
theorem lifted (os : Os) (started : os.Started) (H : Type) (enc : TypeId × Value → H) (F : Stop.Interp) :
    ReturnsInHanded {} Tryd.checked os 4 .any ((OpenSpec.ofChange Rows.waysStepSpec).preRow enc Tryd.prog Tryd.f4 Rows.waysStepRow.domain false Rows.waysStepRow.laid) (((OpenSpec.ofChange Rows.waysStepSpec).at F).post enc Tryd.prog Tryd.f4 false true false false) := by
  obtain ⟨places, hx⟩ := reads os enc
  refine returnsInHanded_of_row (C := Tryd.checked) (s := OpenSpec.ofChange Rows.waysStepSpec) own started (by kernel_rfl) Tryd.func4
    (witness_row_at (enc := enc) (C := Tryd.checked) false (laidWorld os) #[.slice none 0 0, .int .i64 0, .int .i64 0] rfl (by kernel_rfl) (by kernel_rfl) (by kernel_rfl)
      (OpenSpec.preRow_of_cond 8 hx (by kernel_rfl) (fun k hk => by cases hk) (by kernel_rfl) (laid_met os))) ?_
  intro W base args ds gs before hval hW _ _ _ hL _ _
  exact contract H enc W base args ds gs before hval hW hL

theorem said : Rows.WaysStepSaid :=
  OpenClaim.holds_of_cond 4 Tryd.f4 rfl rfl rfl rfl rfl rfl rfl ⟨rfl, rfl, rfl, rfl, rfl⟩ rfl rfl rfl rfl rfl (by kernel_rfl) Tryd.func4 (by kernel_rfl)
    (of_decide_eq_true (by kernel_rfl)) (by unfold Func.isWrapper; first | (rw [if_pos (by decide +kernel)]; kernel_rfl) | (rw [if_neg (by decide +kernel)]; exact ⟨rfl, rfl⟩))
    (fun os started H enc _ F => by rw [OpenClaim.pre_eq_preRow]; exact lifted os started H enc F)

theorem plain (f : FuncId) (fn : Func) (hf : Tryd.pinned.checked.prog.funcNamed "tollbar/tollbarkeep.WaysStep" = some f) (hfn : Tryd.pinned.checked.prog.funcs[f]? = some fn) :
    false = Tryd.pinned.checked.prog.looks [] ∧ ∀ (j : Nat) t, fn.params[j]? = some t → Tryd.pinned.checked.prog.wantsStandIn t = false := by
  obtain rfl : f = 4 := Option.some.inj ((show Tryd.prog.funcNamed "tollbar/tollbarkeep.WaysStep" = some 4 by kernel_rfl).symm.trans hf) |>.symm
  obtain rfl : fn = Tryd.f4 := (Option.some.inj (Tryd.func4.symm.trans hfn)).symm
  refine ⟨by kernel_rfl, fun j t ht => ?_⟩
  rw [Tryd.params4] at ht
  have h : t = 22 ∨ t = 3 := by have := Array.mem_of_getElem? ht; simp at this; omega
  rcases h with rfl | rfl
  · exact (show Tryd.prog.wantsStandIn 22 = false by kernel_rfl)
  · exact (show Tryd.prog.wantsStandIn 3 = false by kernel_rfl)

end Go.Proofs.YtcdobhdbafpkiadDoor.waysStep
namespace Go.Proofs.YtcdobhdbafpkiadDoor
theorem waysStep_card : Rows.WaysStepCardSaid :=
  Claim7.holds_tied_plain_at .later [] _ _ _ _ waysStep.said (fun _ h => by cases h) (by kernel_rfl) (fun _ h => by cases h) waysStep_row_tie rfl ⟨rfl, rfl⟩ (by kernel_rfl) rfl waysStep.plain (by kernel_rfl)
#print axioms waysStep_card
end Go.Proofs.YtcdobhdbafpkiadDoor
