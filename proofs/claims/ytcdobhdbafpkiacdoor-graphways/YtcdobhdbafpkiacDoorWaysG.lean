/-
  Contracts, the document's side: all ways of a node (WaysOf); and that two lists of the same ways are told the same (sameInts, sameWays).
-/
import Derived.Test.YtcdobhdbafpkiacDoorWaysF
import Derived.Test.YtcdobhdbafpkiacDoorFault
namespace Go.Proofs.YtcdobhdbafpkiacDoor
open Go.RowKit
set_option maxRecDepth 20000

/-- hops and cost, as the document finds them -/
def Pl.refH (L : Nat → Nat → Int) (D : Nat → Bool) (f to : Nat) (c : Int) (k : Nat) : Bool := decide (to ≠ f ∧ 0 ≤ c ∧ Pl.bBest L D f k 12 to = c)
def Pl.refC (L : Nat → Nat → Int) (D : Nat → Bool) (f to : Nat) : Int := if to = f then 0 else Pl.bBest L D f (-1) 12 to
def Pl.refL (L : Nat → Nat → Int) (D : Nat → Bool) (f : Nat) : Nat → List (Int × List Int)
  | 0 => []
  | k + 1 => Pl.refL L D f k ++ [(Pl.refC L D f k, Pl.hopsL (Pl.refH L D f k (Pl.refC L D f k)) 12)]
def Pl.refA (es : List Pl.Ent) (f : Int) : List (Int × List Int) := if Pl.wayC es f = 0 then Pl.refL (Pl.lnkD (Pl.tS es)) (Pl.tD es) f.toNat 12 else []
theorem Pl.hopsL_congr {h g : Nat → Bool} (k : Nat) (e : ∀ i, i < k → h i = g i) : Pl.hopsL h k = Pl.hopsL g k := by
  induction k with
  | zero => rfl
  | succ k ih =>
    unfold Pl.hopsL
    rw [e k (by omega), ih fun i hi => e i (by omega)]
theorem Pl.hopsL_stop {h : Nat → Bool} (e : ∀ i, h i = false) (j k : Nat) : Pl.hopsL h j = Pl.hopsL h k := by
  have key : ∀ m, Pl.hopsL h m = [] := by
    intro m
    induction m with
    | zero => rfl
    | succ m ih => rw [Pl.hopsL_off (e m)]; exact ih
  rw [key j, key k]
/-- the program's ways are the document's -/
theorem Pl.ways_same (es : List Pl.Ent) (f : Int) : Pl.wayA es f = Pl.refA es f := by
  unfold Pl.wayA Pl.refA
  by_cases h : Pl.wayC es f = 0
  · rw [if_pos h, if_pos h]
    have hf : f.toNat < 12 := by
      unfold Pl.wayC at h
      split at h
      · omega
      · split at h
        · omega
        · omega
    have hM : ∀ a b, a ≠ b → Pl.lnk (Pl.tS es) a b = Pl.lnkD (Pl.tS es) a b := fun a b hab => by unfold Pl.lnkD; rw [if_neg hab]
    have hL : ∀ a, Pl.lnkD (Pl.tS es) a a = 0 := fun a => by unfold Pl.lnkD; rw [if_pos rfl]
    have h0 : ∀ a b, 0 ≤ Pl.lnkD (Pl.tS es) a b := fun a b => (Pl.lnkD_le (fun i => (Pl.adjS_up _).ok) a b).1
    generalize f.toNat = n at *
    have key : ∀ k, k ≤ 12 → Pl.wayL (Pl.dIter (Pl.lnk (Pl.tS es)) (Pl.tD es) n 12) k = Pl.refL (Pl.lnkD (Pl.tS es)) (Pl.tD es) n k := by
      intro k
      induction k with
      | zero => intro _; rfl
      | succ k ih =>
        intro hk
        have hc : (Pl.dIter (Pl.lnk (Pl.tS es)) (Pl.tD es) n 12).cost k = Pl.refC (Pl.lnkD (Pl.tS es)) (Pl.tD es) n k := by
          unfold Pl.refC
          by_cases hkn : k = n
          · rw [if_pos hkn, hkn]; exact Pl.from_cost hM hL hf
          · rw [if_neg hkn]; exact Pl.same_cost hM hL h0 hf (by omega) hkn
        unfold Pl.wayL Pl.refL
        rw [ih (by omega), hc]
        congr 3
        refine Pl.hopsL_congr 12 fun i hi => ?_
        rw [Pl.same_hops hM hL h0 hf (by omega), hc]
        rfl
    exact key 12 (Nat.le_refl _)
  · rw [if_neg h, if_neg h]

set_option maxHeartbeats 2000000 in
theorem WaysOf_any (a : Option Addr) (len cap : Nat) (es : List Pl.Ent) (f : Int) (w : World) (h : IsEnts w a len cap es) :
    Calls Tryd.prog 8 #[.slice a len cap, .int .i64 f] w fun e w' => ∃ v ts, e = .returned (.tuple #[v, .int .i64 (Pl.wayC es f)]) ∧ OwnW w' w.heap.size v ts ∧ Pl.flat ts = Pl.refA es f ∧ Below w.heap.size w w' := by
  have HE := hid h
  clear h
  obtain ⟨cd, HCD⟩ : ∃ x, Hid (Pl.fault es = x) := ⟨_, rfl⟩
  go_enter Tryd.func8, Tryd.ntmps8
  go_wp2_with fail
  refine (StoreFault_any a len cap es w HE.out).mono ?_
  rw [HCD.out]
  rintro e w1 ⟨rfl, hb1⟩
  have HB1 := hid hb1
  clear hb1
  by_cases hcd : cd = 0
  · subst hcd
    by_cases hfr : 0 ≤ f ∧ f ≤ 11
    · obtain ⟨n, rfl⟩ : ∃ n : Nat, f = n := ⟨f.toNat, by omega⟩
      have hn : n < 12 := by omega
      have hdec : decide (0 ≤ (n : Int) ∧ (n : Int) ≤ 11) = true := by simp; omega
      have HWC : Hid (Pl.wayC es n = 0) := hid (by unfold Pl.wayC; rw [HCD.out, if_neg (by simp), if_pos (by omega)])
      have HRE := hid (fun t (ht : t < 12) first (hfi : -1 ≤ first ∧ first ≤ 11) w' (hb : Below w.heap.size w w') => reach_any a len cap es n t first w' (HE.out.below hb) HCD.out hn ht hfi)
      have HRA : Hid (Pl.refA es n = Pl.refL (Pl.lnkD (Pl.tS es)) (Pl.tD es) n 12) := hid (by unfold Pl.refA; rw [HWC.out, if_pos rfl, Int.toNat_natCast])
      obtain ⟨L, HL⟩ : ∃ L, Hid (Pl.lnkD (Pl.tS es) = L) := ⟨_, rfl⟩
      obtain ⟨D, HD⟩ : ∃ L, Hid (Pl.tD es = L) := ⟨_, rfl⟩
      rw [HL.out, HD.out] at HRE HRA
      go_wp2_with (go_at_call 21; refine (In_any _ _ _ _).mono ?_; rw [hdec]; rintro e w' ⟨rfl, hw'⟩; rw [hw']; clear hw' w')
      go_loopw [7, 8] (fun vl i wr => ∃ (k : Nat) (v : Value) (ts : List (Int × Value × List Int)), v = vl ∧ k ≤ 12 ∧ i = .int .i64 k ∧ Hid (OwnW wr w.heap.size v ts) ∧ Hid (Pl.flat ts = Pl.refL L D n k) ∧ Hid (ts.length = k) ∧ Hid (Below w.heap.size w wr)) (fun _ i _ => 12 - (intOf i).toNat)
      case atStart => exact ⟨0, .slice none 0 0, [], rfl, by omega, rfl, OwnW.nil _ _, rfl, rfl, HB1⟩
      case round =>
        obtain ⟨k, v, ts, hvl, hk, rfl, HO, HF, HN, HB⟩ := hrel
        subst hvl
        by_cases hlt : k < 12
        · obtain ⟨c, HCC⟩ : ∃ x, Hid (Pl.refC L D n k = x) := ⟨_, rfl⟩
          obtain ⟨H, HH⟩ : ∃ x, Hid (Pl.refH L D n k c = x) := ⟨_, rfl⟩
          have HHJ : Hid (∀ j : Nat, H j = decide (k ≠ n ∧ 0 ≤ c ∧ Pl.bBest L D n j 12 k = c)) := hid (by intro j; rw [← HH.out]; rfl)
          rename World => w4
          have hz4 := HB.out.size
          obtain ⟨eb, hkb⟩ : ∃ e, ((k : Int) != (n : Int)) = e := ⟨_, rfl⟩
          have HKE : Hid (eb = true ↔ k ≠ n) := hid (by rw [← hkb]; simp; omega)
          have hblk := heapNew w4 (.cells #[.int .i64 (-1), .slice none 0 0] 57)
          obtain ⟨z0, z1, f0, f1, hA⟩ := adjAt_cells hblk
          rcases (by
            by_cases g : k = n
            · exact .inl ⟨by rw [g]; simp, by rw [← HCC.out]; unfold Pl.refC; rw [if_pos g]⟩
            · exact .inr ⟨by simp; omega, by rw [← HCC.out]; unfold Pl.refC; rw [if_neg g]⟩ : (((k : Int) == (n : Int)) = true ∧ 0 = c) ∨ (((k : Int) == (n : Int)) = false ∧ Pl.bBest L D n (-1) 12 k = c)) with ⟨hkn, rfl⟩ | ⟨hkn, hcr⟩
          · have HA0 := hid (heapNew w4 (.cells #[.int .i64 0, .slice none 0 0] 57))
            have HB0 := hid ((Below.refl w4.heap.size w4).alloc (Nat.le_refl _) (.cells #[.int .i64 0, .slice none 0 0] 57))
            have hkn2 : ((k : Int) != (n : Int)) = false := by simpa [bne] using hkn
            have HKN : Hid (k = n) := hid (by simp at hkn; omega)
            clear hkb HKE
            go_wp2_with fail
            go_loopw [10] (fun i wr => ∃ (j : Nat) (hv : Value), j ≤ 12 ∧ i = .int .i64 j ∧ Hid (wr.heap[w4.heap.size]? = some (.cells #[.int .i64 0, hv] 57)) ∧ Hid (OwnI wr (w4.heap.size + 1) hv (Pl.hopsL H j)) ∧ Hid (Below w4.heap.size w4 wr)) (fun i _ => 12 - (intOf i).toNat)
            case atStart => exact ⟨0, .slice none 0 0, by omega, rfl, HA0, OwnI.nil _ _, HB0⟩
            case round =>
              obtain ⟨j, hv, hj, rfl, HA, HI, HB4⟩ := hrel
              obtain ⟨a3, cap3, rfl⟩ := HI.out.slice
              obtain ⟨x0, x1, q0, q1, hAr⟩ := adjAt_cells HA.out
              obtain ⟨n3, HN3⟩ : ∃ n, Hid ((Pl.hopsL H j).length = n) := ⟨_, rfl⟩
              rw [HN3.out] at HA HI x1
              have hzr := HB4.out.size
              have HST : Hid (Pl.hopsL H j = Pl.hopsL H 12) := hid (Pl.hopsL_stop (fun i => by
                rw [HHJ.out]
                simp only [decide_eq_false_iff_not]
                rintro ⟨h1, _⟩
                exact h1 HKN.out) j 12)
              have HOr := hid (HO.out.below HB4.out)
              have HI0 := hid (HI.out.mono (Nat.zero_le _))
              rw [HST.out] at HI0
              by_cases h1 : j < 12
              all_goals
                go_wp2_with (at_builtin; refine append_wayT rfl (.tmp 65) (.tmp 67) rfl w.heap.size v ts 0 (.slice a3 n3 cap3) (Pl.hopsL H 12) rfl HOr.out HI0.out (by omega) rfl (by have := HN.out; omega) ?_; intro v7 w7 ho7 hb7; have HO7 := hid ho7; have HB7 := hid hb7; clear ho7 hb7)
                go_roundw
                case rel =>
                  refine ⟨k + 1, _, ts ++ [(0, .slice a3 n3 cap3, Pl.hopsL H 12)], rfl, by omega, by go_num, HO7, hid ?_, hid (by simp [HN.out]), (HB.out.trans (HB4.out.mono hz4)).trans HB7.out⟩
                  show (ts ++ _).map _ = Pl.refL L D n k ++ _
                  rw [List.map_append, HCC.out, HH.out, ← HF.out]
                  rfl
                case measure => simp [intOf]; omega
          · have HCR := hid hcr
            clear hcr
            go_wp2_with fail
            refine (HRE.out k hlt (-1) (by omega) _ (HB.out.alloc hz4 _)).mono ?_
            rw [HCR.out]
            rintro e w5 ⟨rfl, hb5⟩
            have hb5' : Below (w4.heap.size + 1) (w4.alloc (.cells #[.int .i64 (-1), .slice none 0 0] 57)) w5 := by simpa using hb5
            have hblk5 := (hb5'.block _ (Nat.lt_succ_self _)).trans hblk
            have HA0 := hid (adjAt_set0 hblk5 (.int .i64 c))
            have HB0 := hid ((((Below.refl w4.heap.size w4).alloc (Nat.le_refl _) (.cells #[.int .i64 (-1), .slice none 0 0] 57)).trans (hb5'.mono (Nat.le_succ _))).setCell (p := ⟨w4.heap.size, 0, none⟩) (Nat.le_refl _) (.int .i64 c))
            obtain ⟨y0, y1, g0, g1, hA5⟩ := adjAt_cells hblk5
            clear hb5 hb5' hblk5
            go_wp2_with fail
            go_loopw [10] (fun i wr => ∃ (j : Nat) (hv : Value), j ≤ 12 ∧ i = .int .i64 j ∧ Hid (wr.heap[w4.heap.size]? = some (.cells #[.int .i64 c, hv] 57)) ∧ Hid (OwnI wr (w4.heap.size + 1) hv (Pl.hopsL H j)) ∧ Hid (Below w4.heap.size w4 wr)) (fun i _ => 12 - (intOf i).toNat)
            case atStart => exact ⟨0, .slice none 0 0, by omega, rfl, HA0, OwnI.nil _ _, HB0⟩
            case round =>
              obtain ⟨j, hv, hj, rfl, HA, HI, HB4⟩ := hrel
              obtain ⟨a3, cap3, rfl⟩ := HI.out.slice
              obtain ⟨x0, x1, q0, q1, hAr⟩ := adjAt_cells HA.out
              obtain ⟨n3, HN3⟩ : ∃ n, Hid ((Pl.hopsL H j).length = n) := ⟨_, rfl⟩
              rw [HN3.out] at HA HI x1
              have hzr := HB4.out.size
              by_cases hgo : j < 12 ∧ eb = true ∧ 0 ≤ (c : Int)
              · obtain ⟨hjl, rfl, hc0⟩ := hgo
                have hkn' : k ≠ n := HKE.out.1 rfl
                obtain ⟨b, HBK⟩ : ∃ b, Hid (Pl.bBest L D n j 12 k = b) := ⟨_, rfl⟩
                have hlen := Pl.hopsL_len H j
                have hnl : n3 ≤ j := by have := HN3.out; omega
                go_wp2_with fail
                go_region_with (go_at_call 22; refine (HRE.out k hlt j (by omega) _ ((HB.out.trans (HB4.out.mono hz4)).drew)).mono ?_; rw [HBK.out]; rintro e w6 ⟨rfl, hb6⟩; have HA6 := hid ((hb6.block w4.heap.size (by simpa using hAr)).trans HA.out); have HI6 := hid (OwnI.below (w := wr.drew) HI.out hb6); have HB6 := hid (HB4.out.drew.trans (hb6.mono (by simpa using hzr))); obtain ⟨p0, p1, r0, r1, hA6⟩ := adjAt_cells HA6.out; clear hb6)
                all_goals
                  have hz6 := HB6.out.size
                  by_cases hbc : b = c
                  · have HHT := hid (Pl.hopsL_on (h := H) (k := j) (by rw [HHJ.out, HBK.out]; simp [hkn', hbc, hc0]))
                    have hbc' : (b == c) = true := by simp [hbc]
                    go_wp2_with (at_builtin; refine append_intT Tryd.underlying55 rfl (.tmp 60) (.tmp 62) rfl (w4.heap.size + 1) (.slice a3 n3 cap3) (Pl.hopsL H j) j rfl HI6.out (by omega) rfl (by have := HN3.out; omega) ?_; intro v7 w7 ho7 hb7; obtain ⟨a7, cap7, rfl⟩ := ho7.slice; obtain ⟨n7, HN7⟩ : ∃ n, Hid ((Pl.hopsL H j ++ [(j : Int)]).length = n) := ⟨_, rfl⟩; rw [HN7.out] at ho7; have HO7 := hid ho7; have HB7 := hid hb7; have h7 := (hb7.block w4.heap.size (Nat.lt_succ_self _)).trans HA6.out; obtain ⟨s0, s1, t0, t1, hA7⟩ := adjAt_cells h7; have H7 := hid h7; rw [HN7.out]; clear ho7 hb7 h7)
                    go_roundw
                    case rel =>
                      refine ⟨j + 1, .slice a7 n7 cap7, by omega, by go_num, adjAt_set H7.out _, hid ?_, (HB6.out.trans (HB7.out.mono (Nat.le_succ _))).setCell (Nat.le_refl _) _⟩
                      rw [HHT.out]
                      exact ownsRow_setCell_below HO7.out (Nat.lt_succ_self _) _
                    case measure => simp [intOf]; omega
                  · have HHT := hid (Pl.hopsL_off (h := H) (k := j) (by rw [HHJ.out, HBK.out]; simp [hbc]))
                    have hbc' : (b == c) = false := by simp [hbc]
                    go_wp2_with fail
                    go_roundw
                    case rel => exact ⟨j + 1, .slice a3 n3 cap3, by omega, by go_num, HA6, hid (by rw [HHT.out]; exact HI6.out), HB6⟩
                    case measure => simp [intOf]; omega
              · have HST : Hid (Pl.hopsL H j = Pl.hopsL H 12) := hid (by
                  by_cases g : j < 12
                  · refine Pl.hopsL_stop (fun i => ?_) j 12
                    rw [HHJ.out]
                    simp only [decide_eq_false_iff_not]
                    rintro ⟨h1, h2, _⟩
                    exact hgo ⟨g, HKE.out.2 h1, h2⟩
                  · rw [show j = 12 by omega])
                have HOr := hid (HO.out.below HB4.out)
                have HI0 := hid (HI.out.mono (Nat.zero_le _))
                rw [HST.out] at HI0
                rcases (by
                  by_cases g1 : j < 12
                  · cases eb with
                    | false => exact .inr (.inl ⟨g1, rfl⟩)
                    | true => exact .inr (.inr ⟨g1, rfl, by
                        rcases Int.lt_or_le (c : Int) 0 with h | h
                        · exact h
                        · exact absurd ⟨g1, rfl, h⟩ hgo⟩)
                  · exact .inl g1 : ¬ j < 12 ∨ (j < 12 ∧ eb = false) ∨ (j < 12 ∧ eb = true ∧ (c : Int) < 0)) with h1 | ⟨h1, rfl⟩ | ⟨h1, rfl, h2⟩
                all_goals
                  clear hgo
                  go_wp2_with (at_builtin; refine append_wayT rfl (.tmp 65) (.tmp 67) rfl w.heap.size v ts c (.slice a3 n3 cap3) (Pl.hopsL H 12) rfl HOr.out HI0.out (by omega) rfl (by have := HN.out; omega) ?_; intro v7 w7 ho7 hb7; have HO7 := hid ho7; have HB7 := hid hb7; clear ho7 hb7)
                  go_roundw
                  case rel =>
                    refine ⟨k + 1, _, ts ++ [(c, .slice a3 n3 cap3, Pl.hopsL H 12)], rfl, by omega, by go_num, HO7, hid ?_, hid (by simp [HN.out]), (HB.out.trans (HB4.out.mono hz4)).trans HB7.out⟩
                    show (ts ++ _).map _ = Pl.refL L D n k ++ _
                    rw [List.map_append, HCC.out, HH.out, ← HF.out]
                    rfl
                  case measure => simp [intOf]; omega
        · obtain rfl : k = 12 := by omega
          go_wp2_with fail
          refine bodyPost_ret (results_tmp2 rfl _ _ _) rfl ⟨v, ts, ret_two rfl HWC.out.symm, HO.out, by rw [HF.out, HRA.out], HB.out⟩
    · have hdec : decide (0 ≤ f ∧ f ≤ 11) = false := by simp; omega
      have HWC : Hid (Pl.wayC es f = 2) := hid (by unfold Pl.wayC; rw [HCD.out, if_neg (by simp), if_neg hfr])
      go_wp2_with (go_at_call 21; refine (In_any _ _ _ _).mono ?_; rw [hdec]; rintro e w' ⟨rfl, hw'⟩; rw [hw']; clear hw' w')
      refine bodyPost_ret (results_tmp2 rfl _ _ _) rfl ⟨_, [], ret_two rfl HWC.out.symm, OwnW.nil _ _, ?_, HB1.out⟩
      unfold Pl.refA; rw [HWC.out, if_neg (by decide)]; rfl
  · have HWC : Hid (Pl.wayC es f = cd) := hid (by unfold Pl.wayC; rw [HCD.out, if_pos hcd])
    have hcd' : (cd == 0) = false := by simp [hcd]
    have hcd2 : (cd != 0) = true := by simp [hcd]
    go_wp2_with fail
    refine bodyPost_ret (results_tmp2 rfl _ _ _) rfl ⟨_, [], ret_two rfl HWC.out.symm, OwnW.nil _ _, ?_, HB1.out⟩
    unfold Pl.refA; rw [HWC.out, if_neg hcd]; rfl
end Go.Proofs.YtcdobhdbafpkiacDoor
