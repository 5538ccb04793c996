/-
  Contracts and facts that the proof rests on, put together out of several texts.
-/
import Derived.Test.YtpaobnhcbeklfaaGreatDoorWaysF
import Derived.Test.YtpaobnhcbeklfaaGreatDoorAll6
import Derived.Test.YtpaobnhcbeklfaaGreatDoorAll10
import Derived.Test.YtpaobnhcbeklfaaGreatDoorAll1
import Derived.Test.YtpaobnhcbeklfaaGreatDoorAll8
/-
  Contracts, the document's side: all ways of a node (WaysOf); and that two lists of the same ways are told the same (sameInts, sameWays).
-/
namespace Go.Proofs.YtpaobnhcbeklfaaGreatDoor
open Go.RowKit
set_option maxRecDepth 20000

/-- hops and cost, as the document finds them -/
def Pl.refH (L : Nat → Nat → Int) (D : Nat → Bool) (f to : Nat) (c : Int) (k : Nat) : Bool := decide (to ≠ f ∧ 0 ≤ c ∧ Pl.bBest L D f k 12 to = c)
def Pl.refC (L : Nat → Nat → Int) (D : Nat → Bool) (f to : Nat) : Int := if to = f then 0 else Pl.bBest L D f (-1) 12 to
def Pl.refL (L : Nat → Nat → Int) (D : Nat → Bool) (f : Nat) : Nat → List (Int × List Int)
  | 0 => []
  | k + 1 => Pl.refL L D f k ++ [(Pl.refC L D f k, Pl.hopsL (Pl.refH L D f k (Pl.refC L D f k)) 12)]
def Pl.refA (es : List Pl.Ent) (f : Int) : List (Int × List Int) := if Pl.wayC es f = 0 then Pl.refL (Pl.lnkD (Pl.tS es)) (Pl.tD es) f.toNat 12 else []
theorem Pl.hopsL_congr {h g : Nat → Bool} (k : Nat) (e : ∀ i, i < k → h i = g i) : Pl.hopsL h k = Pl.hopsL g k := by
  induction k with
  | zero => rfl
  | succ k ih =>
    unfold Pl.hopsL
    rw [e k (by omega), ih fun i hi => e i (by omega)]
theorem Pl.hopsL_stop {h : Nat → Bool} (e : ∀ i, h i = false) (j k : Nat) : Pl.hopsL h j = Pl.hopsL h k := by
  have key : ∀ m, Pl.hopsL h m = [] := by
    intro m
    induction m with
    | zero => rfl
    | succ m ih => rw [Pl.hopsL_off (e m)]; exact ih
  rw [key j, key k]
/-- the program's ways are the document's -/
theorem Pl.ways_same (es : List Pl.Ent) (f : Int) : Pl.wayA es f = Pl.refA es f := by
  unfold Pl.wayA Pl.refA
  by_cases h : Pl.wayC es f = 0
  · rw [if_pos h, if_pos h]
    have hf : f.toNat < 12 := by
      unfold Pl.wayC at h
      split at h
      · omega
      · split at h
        · omega
        · omega
    have hM : ∀ a b, a ≠ b → Pl.lnk (Pl.tS es) a b = Pl.lnkD (Pl.tS es) a b := fun a b hab => by unfold Pl.lnkD; rw [if_neg hab]
    have hL : ∀ a, Pl.lnkD (Pl.tS es) a a = 0 := fun a => by unfold Pl.lnkD; rw [if_pos rfl]
    have h0 : ∀ a b, 0 ≤ Pl.lnkD (Pl.tS es) a b := fun a b => (Pl.lnkD_le (fun i => (Pl.adjS_up _).ok) a b).1
    generalize f.toNat = n at *
    have key : ∀ k, k ≤ 12 → Pl.wayL (Pl.dIter (Pl.lnk (Pl.tS es)) (Pl.tD es) n 12) k = Pl.refL (Pl.lnkD (Pl.tS es)) (Pl.tD es) n k := by
      intro k
      induction k with
      | zero => intro _; rfl
      | succ k ih =>
        intro hk
        have hc : (Pl.dIter (Pl.lnk (Pl.tS es)) (Pl.tD es) n 12).cost k = Pl.refC (Pl.lnkD (Pl.tS es)) (Pl.tD es) n k := by
          unfold Pl.refC
          by_cases hkn : k = n
          · rw [if_pos hkn, hkn]; exact Pl.from_cost hM hL hf
          · rw [if_neg hkn]; exact Pl.same_cost hM hL h0 hf (by omega) hkn
        unfold Pl.wayL Pl.refL
        rw [ih (by omega), hc]
        congr 3
        refine Pl.hopsL_congr 12 fun i hi => ?_
        rw [Pl.same_hops hM hL h0 hf (by omega), hc]
        rfl
    exact key 12 (Nat.le_refl _)
  · rw [if_neg h, if_neg h]

set_option maxHeartbeats 2000000 in
theorem WaysOf_any (a : Option Addr) (len cap : Nat) (es : List Pl.Ent) (f : Int) (w : World) (h : IsEnts w a len cap es) :
    Calls Tryz.prog 10 #[.slice a len cap, .int .i64 f] w fun e w' => ∃ v ts, e = .returned (.tuple #[v, .int .i64 (Pl.wayC es f)]) ∧ OwnW w' w.heap.size v ts ∧ Pl.flat ts = Pl.refA es f ∧ Below w.heap.size w w' := by
  have HE := hid h
  clear h
  obtain ⟨cd, HCD⟩ : ∃ x, Hid (Pl.fault es = x) := ⟨_, rfl⟩
  go_enter Tryz.func10, Tryz.ntmps10
  go_wp2_with fail
  refine (StoreFault_any a len cap es w HE.out).mono ?_
  rw [HCD.out]
  rintro e w1 ⟨rfl, hb1⟩
  have HB1 := hid hb1
  clear hb1
  by_cases hcd : cd = 0
  · subst hcd
    by_cases hfr : 0 ≤ f ∧ f ≤ 11
    · obtain ⟨n, rfl⟩ : ∃ n : Nat, f = n := ⟨f.toNat, by omega⟩
      have hn : n < 12 := by omega
      have hdec : decide (0 ≤ (n : Int) ∧ (n : Int) ≤ 11) = true := by simp; omega
      have HWC : Hid (Pl.wayC es n = 0) := hid (by unfold Pl.wayC; rw [HCD.out, if_neg (by simp), if_pos (by omega)])
      have HRE := hid (fun t (ht : t < 12) first (hfi : -1 ≤ first ∧ first ≤ 11) w' (hb : Below w.heap.size w w') => reach_any a len cap es n t first w' (HE.out.below hb) HCD.out hn ht hfi)
      have HRA : Hid (Pl.refA es n = Pl.refL (Pl.lnkD (Pl.tS es)) (Pl.tD es) n 12) := hid (by unfold Pl.refA; rw [HWC.out, if_pos rfl, Int.toNat_natCast])
      obtain ⟨L, HL⟩ : ∃ L, Hid (Pl.lnkD (Pl.tS es) = L) := ⟨_, rfl⟩
      obtain ⟨D, HD⟩ : ∃ L, Hid (Pl.tD es = L) := ⟨_, rfl⟩
      rw [HL.out, HD.out] at HRE HRA
      go_wp2_with (go_at_call 30; refine (In_any _ _ _ _).mono ?_; rw [hdec]; rintro e w' ⟨rfl, hw'⟩; rw [hw']; clear hw' w')
      go_loopw [7, 8] (fun vl i wr => ∃ (k : Nat) (v : Value) (ts : List (Int × Value × List Int)), v = vl ∧ k ≤ 12 ∧ i = .int .i64 k ∧ Hid (OwnW wr w.heap.size v ts) ∧ Hid (Pl.flat ts = Pl.refL L D n k) ∧ Hid (ts.length = k) ∧ Hid (Below w.heap.size w wr)) (fun _ i _ => 12 - (intOf i).toNat)
      case atStart => exact ⟨0, .slice none 0 0, [], rfl, by omega, rfl, OwnW.nil _ _, rfl, rfl, HB1⟩
      case round =>
        obtain ⟨k, v, ts, hvl, hk, rfl, HO, HF, HN, HB⟩ := hrel
        subst hvl
        by_cases hlt : k < 12
        · obtain ⟨c, HCC⟩ : ∃ x, Hid (Pl.refC L D n k = x) := ⟨_, rfl⟩
          obtain ⟨H, HH⟩ : ∃ x, Hid (Pl.refH L D n k c = x) := ⟨_, rfl⟩
          have HHJ : Hid (∀ j : Nat, H j = decide (k ≠ n ∧ 0 ≤ c ∧ Pl.bBest L D n j 12 k = c)) := hid (by intro j; rw [← HH.out]; rfl)
          rename World => w4
          have hz4 := HB.out.size
          obtain ⟨eb, hkb⟩ : ∃ e, ((k : Int) != (n : Int)) = e := ⟨_, rfl⟩
          have HKE : Hid (eb = true ↔ k ≠ n) := hid (by rw [← hkb]; simp; omega)
          have hblk := heapNew w4 (.cells #[.int .i64 (-1), .slice none 0 0] 34)
          obtain ⟨z0, z1, f0, f1, hA⟩ := adjAt_cells hblk
          rcases (by
            by_cases g : k = n
            · exact .inl ⟨by rw [g]; simp, by rw [← HCC.out]; unfold Pl.refC; rw [if_pos g]⟩
            · exact .inr ⟨by simp; omega, by rw [← HCC.out]; unfold Pl.refC; rw [if_neg g]⟩ : (((k : Int) == (n : Int)) = true ∧ 0 = c) ∨ (((k : Int) == (n : Int)) = false ∧ Pl.bBest L D n (-1) 12 k = c)) with ⟨hkn, rfl⟩ | ⟨hkn, hcr⟩
          · have HA0 := hid (heapNew w4 (.cells #[.int .i64 0, .slice none 0 0] 34))
            have HB0 := hid ((Below.refl w4.heap.size w4).alloc (Nat.le_refl _) (.cells #[.int .i64 0, .slice none 0 0] 34))
            have hkn2 : ((k : Int) != (n : Int)) = false := by simpa [bne] using hkn
            have HKN : Hid (k = n) := hid (by simp at hkn; omega)
            clear hkb HKE
            go_wp2_with fail
            go_loopw [10] (fun i wr => ∃ (j : Nat) (hv : Value), j ≤ 12 ∧ i = .int .i64 j ∧ Hid (wr.heap[w4.heap.size]? = some (.cells #[.int .i64 0, hv] 34)) ∧ Hid (OwnI wr (w4.heap.size + 1) hv (Pl.hopsL H j)) ∧ Hid (Below w4.heap.size w4 wr)) (fun i _ => 12 - (intOf i).toNat)
            case atStart => exact ⟨0, .slice none 0 0, by omega, rfl, HA0, OwnI.nil _ _, HB0⟩
            case round =>
              obtain ⟨j, hv, hj, rfl, HA, HI, HB4⟩ := hrel
              obtain ⟨a3, cap3, rfl⟩ := HI.out.slice
              obtain ⟨x0, x1, q0, q1, hAr⟩ := adjAt_cells HA.out
              obtain ⟨n3, HN3⟩ : ∃ n, Hid ((Pl.hopsL H j).length = n) := ⟨_, rfl⟩
              rw [HN3.out] at HA HI x1
              have hzr := HB4.out.size
              have HST : Hid (Pl.hopsL H j = Pl.hopsL H 12) := hid (Pl.hopsL_stop (fun i => by
                rw [HHJ.out]
                simp only [decide_eq_false_iff_not]
                rintro ⟨h1, _⟩
                exact h1 HKN.out) j 12)
              have HOr := hid (HO.out.below HB4.out)
              have HI0 := hid (HI.out.mono (Nat.zero_le _))
              rw [HST.out] at HI0
              by_cases h1 : j < 12
              all_goals
                go_wp2_with (at_builtin; refine append_wayT rfl (.tmp 65) (.tmp 67) rfl w.heap.size v ts 0 (.slice a3 n3 cap3) (Pl.hopsL H 12) rfl HOr.out HI0.out (by omega) rfl (by have := HN.out; omega) ?_; intro v7 w7 ho7 hb7; have HO7 := hid ho7; have HB7 := hid hb7; clear ho7 hb7)
                go_roundw
                case rel =>
                  refine ⟨k + 1, _, ts ++ [(0, .slice a3 n3 cap3, Pl.hopsL H 12)], rfl, by omega, by go_num, HO7, hid ?_, hid (by simp [HN.out]), (HB.out.trans (HB4.out.mono hz4)).trans HB7.out⟩
                  show (ts ++ _).map _ = Pl.refL L D n k ++ _
                  rw [List.map_append, HCC.out, HH.out, ← HF.out]
                  rfl
                case measure => simp [intOf]; omega
          · have HCR := hid hcr
            clear hcr
            go_wp2_with fail
            refine (HRE.out k hlt (-1) (by omega) _ (HB.out.alloc hz4 _)).mono ?_
            rw [HCR.out]
            rintro e w5 ⟨rfl, hb5⟩
            have hb5' : Below (w4.heap.size + 1) (w4.alloc (.cells #[.int .i64 (-1), .slice none 0 0] 34)) w5 := by simpa using hb5
            have hblk5 := (hb5'.block _ (Nat.lt_succ_self _)).trans hblk
            have HA0 := hid (adjAt_set0 hblk5 (.int .i64 c))
            have HB0 := hid ((((Below.refl w4.heap.size w4).alloc (Nat.le_refl _) (.cells #[.int .i64 (-1), .slice none 0 0] 34)).trans (hb5'.mono (Nat.le_succ _))).setCell (p := ⟨w4.heap.size, 0, none⟩) (Nat.le_refl _) (.int .i64 c))
            obtain ⟨y0, y1, g0, g1, hA5⟩ := adjAt_cells hblk5
            clear hb5 hb5' hblk5
            go_wp2_with fail
            go_loopw [10] (fun i wr => ∃ (j : Nat) (hv : Value), j ≤ 12 ∧ i = .int .i64 j ∧ Hid (wr.heap[w4.heap.size]? = some (.cells #[.int .i64 c, hv] 34)) ∧ Hid (OwnI wr (w4.heap.size + 1) hv (Pl.hopsL H j)) ∧ Hid (Below w4.heap.size w4 wr)) (fun i _ => 12 - (intOf i).toNat)
            case atStart => exact ⟨0, .slice none 0 0, by omega, rfl, HA0, OwnI.nil _ _, HB0⟩
            case round =>
              obtain ⟨j, hv, hj, rfl, HA, HI, HB4⟩ := hrel
              obtain ⟨a3, cap3, rfl⟩ := HI.out.slice
              obtain ⟨x0, x1, q0, q1, hAr⟩ := adjAt_cells HA.out
              obtain ⟨n3, HN3⟩ : ∃ n, Hid ((Pl.hopsL H j).length = n) := ⟨_, rfl⟩
              rw [HN3.out] at HA HI x1
              have hzr := HB4.out.size
              by_cases hgo : j < 12 ∧ eb = true ∧ 0 ≤ (c : Int)
              · obtain ⟨hjl, rfl, hc0⟩ := hgo
                have hkn' : k ≠ n := HKE.out.1 rfl
                obtain ⟨b, HBK⟩ : ∃ b, Hid (Pl.bBest L D n j 12 k = b) := ⟨_, rfl⟩
                have hlen := Pl.hopsL_len H j
                have hnl : n3 ≤ j := by have := HN3.out; omega
                go_wp2_with fail
                go_region_with (go_at_call 31; refine (HRE.out k hlt j (by omega) _ ((HB.out.trans (HB4.out.mono hz4)).drew)).mono ?_; rw [HBK.out]; rintro e w6 ⟨rfl, hb6⟩; have HA6 := hid ((hb6.block w4.heap.size (by simpa using hAr)).trans HA.out); have HI6 := hid (OwnI.below (w := wr.drew) HI.out hb6); have HB6 := hid (HB4.out.drew.trans (hb6.mono (by simpa using hzr))); obtain ⟨p0, p1, r0, r1, hA6⟩ := adjAt_cells HA6.out; clear hb6)
                all_goals
                  have hz6 := HB6.out.size
                  by_cases hbc : b = c
                  · have HHT := hid (Pl.hopsL_on (h := H) (k := j) (by rw [HHJ.out, HBK.out]; simp [hkn', hbc, hc0]))
                    have hbc' : (b == c) = true := by simp [hbc]
                    go_wp2_with (at_builtin; refine append_intT Tryz.underlying32 rfl (.tmp 60) (.tmp 62) rfl (w4.heap.size + 1) (.slice a3 n3 cap3) (Pl.hopsL H j) j rfl HI6.out (by omega) rfl (by have := HN3.out; omega) ?_; intro v7 w7 ho7 hb7; obtain ⟨a7, cap7, rfl⟩ := ho7.slice; obtain ⟨n7, HN7⟩ : ∃ n, Hid ((Pl.hopsL H j ++ [(j : Int)]).length = n) := ⟨_, rfl⟩; rw [HN7.out] at ho7; have HO7 := hid ho7; have HB7 := hid hb7; have h7 := (hb7.block w4.heap.size (Nat.lt_succ_self _)).trans HA6.out; obtain ⟨s0, s1, t0, t1, hA7⟩ := adjAt_cells h7; have H7 := hid h7; rw [HN7.out]; clear ho7 hb7 h7)
                    go_roundw
                    case rel =>
                      refine ⟨j + 1, .slice a7 n7 cap7, by omega, by go_num, adjAt_set H7.out _, hid ?_, (HB6.out.trans (HB7.out.mono (Nat.le_succ _))).setCell (Nat.le_refl _) _⟩
                      rw [HHT.out]
                      exact ownsRow_setCell_below HO7.out (Nat.lt_succ_self _) _
                    case measure => simp [intOf]; omega
                  · have HHT := hid (Pl.hopsL_off (h := H) (k := j) (by rw [HHJ.out, HBK.out]; simp [hbc]))
                    have hbc' : (b == c) = false := by simp [hbc]
                    go_wp2_with fail
                    go_roundw
                    case rel => exact ⟨j + 1, .slice a3 n3 cap3, by omega, by go_num, HA6, hid (by rw [HHT.out]; exact HI6.out), HB6⟩
                    case measure => simp [intOf]; omega
              · have HST : Hid (Pl.hopsL H j = Pl.hopsL H 12) := hid (by
                  by_cases g : j < 12
                  · refine Pl.hopsL_stop (fun i => ?_) j 12
                    rw [HHJ.out]
                    simp only [decide_eq_false_iff_not]
                    rintro ⟨h1, h2, _⟩
                    exact hgo ⟨g, HKE.out.2 h1, h2⟩
                  · rw [show j = 12 by omega])
                have HOr := hid (HO.out.below HB4.out)
                have HI0 := hid (HI.out.mono (Nat.zero_le _))
                rw [HST.out] at HI0
                rcases (by
                  by_cases g1 : j < 12
                  · cases eb with
                    | false => exact .inr (.inl ⟨g1, rfl⟩)
                    | true => exact .inr (.inr ⟨g1, rfl, by
                        rcases Int.lt_or_le (c : Int) 0 with h | h
                        · exact h
                        · exact absurd ⟨g1, rfl, h⟩ hgo⟩)
                  · exact .inl g1 : ¬ j < 12 ∨ (j < 12 ∧ eb = false) ∨ (j < 12 ∧ eb = true ∧ (c : Int) < 0)) with h1 | ⟨h1, rfl⟩ | ⟨h1, rfl, h2⟩
                all_goals
                  clear hgo
                  go_wp2_with (at_builtin; refine append_wayT rfl (.tmp 65) (.tmp 67) rfl w.heap.size v ts c (.slice a3 n3 cap3) (Pl.hopsL H 12) rfl HOr.out HI0.out (by omega) rfl (by have := HN.out; omega) ?_; intro v7 w7 ho7 hb7; have HO7 := hid ho7; have HB7 := hid hb7; clear ho7 hb7)
                  go_roundw
                  case rel =>
                    refine ⟨k + 1, _, ts ++ [(c, .slice a3 n3 cap3, Pl.hopsL H 12)], rfl, by omega, by go_num, HO7, hid ?_, hid (by simp [HN.out]), (HB.out.trans (HB4.out.mono hz4)).trans HB7.out⟩
                    show (ts ++ _).map _ = Pl.refL L D n k ++ _
                    rw [List.map_append, HCC.out, HH.out, ← HF.out]
                    rfl
                  case measure => simp [intOf]; omega
        · obtain rfl : k = 12 := by omega
          go_wp2_with fail
          refine bodyPost_ret (results_tmp2 rfl _ _ _) rfl ⟨v, ts, ret_two rfl HWC.out.symm, HO.out, by rw [HF.out, HRA.out], HB.out⟩
    · have hdec : decide (0 ≤ f ∧ f ≤ 11) = false := by simp; omega
      have HWC : Hid (Pl.wayC es f = 2) := hid (by unfold Pl.wayC; rw [HCD.out, if_neg (by simp), if_neg hfr])
      go_wp2_with (go_at_call 30; refine (In_any _ _ _ _).mono ?_; rw [hdec]; rintro e w' ⟨rfl, hw'⟩; rw [hw']; clear hw' w')
      refine bodyPost_ret (results_tmp2 rfl _ _ _) rfl ⟨_, [], ret_two rfl HWC.out.symm, OwnW.nil _ _, ?_, HB1.out⟩
      unfold Pl.refA; rw [HWC.out, if_neg (by decide)]; rfl
  · have HWC : Hid (Pl.wayC es f = cd) := hid (by unfold Pl.wayC; rw [HCD.out, if_pos hcd])
    have hcd' : (cd == 0) = false := by simp [hcd]
    have hcd2 : (cd != 0) = true := by simp [hcd]
    go_wp2_with fail
    refine bodyPost_ret (results_tmp2 rfl _ _ _) rfl ⟨_, [], ret_two rfl HWC.out.symm, OwnW.nil _ _, ?_, HB1.out⟩
    unfold Pl.refA; rw [HWC.out, if_neg hcd]; rfl
end Go.Proofs.YtpaobnhcbeklfaaGreatDoor
/-
  Frames: slots laid anew, written out again.
-/
namespace Go.Proofs.YtpaobnhcbeklfaaGreatDoor
open Go.RowKit
set_option maxRecDepth 20000

/-- a list with some of its values laid anew, from a place on -/
def spl : Nat → List Value → List Value → List Value
  | 0, l, [] => l
  | 0, [], _ :: _ => []
  | 0, _ :: l, x :: xs => x :: spl 0 l xs
  | _ + 1, [], _ => []
  | n + 1, v :: l, xs => v :: spl n l xs
theorem spl_nil : ∀ (s : Nat) (xs : List Value), spl s [] xs = []
  | 0, [] => rfl
  | 0, _ :: _ => rfl
  | _ + 1, _ => rfl
theorem setFrom_nil : ∀ (xs : List Value) (s : Nat), setFrom #[] s xs = #[]
  | [], _ => rfl
  | x :: r, s => by rw [setFrom]; exact setFrom_nil r (s + 1)
theorem spl_set : ∀ (l : List Value) (s : Nat) (x : Value) (xs : List Value), spl (s + 1) (l.set s x) xs = spl s l (x :: xs)
  | [], s, x, xs => by rw [List.set_nil, spl_nil, spl_nil]
  | v :: l, 0, x, xs => by
    show spl 1 (x :: l) xs = x :: spl 0 l xs
    rfl
  | v :: l, s + 1, x, xs => by
    show v :: spl (s + 1) (l.set s x) xs = v :: spl s l (x :: xs)
    rw [spl_set l s x xs]
theorem spl_done : ∀ (s : Nat) (l : List Value), spl s l [] = l
  | 0, [] => rfl
  | 0, _ :: _ => rfl
  | s + 1, [] => rfl
  | s + 1, v :: l => by show v :: spl s l [] = _; rw [spl_done s l]
theorem setFrom_spl : ∀ (xs : List Value) (l : List Value) (s : Nat), setFrom l.toArray s xs = (spl s l xs).toArray
  | [], l, s => by rw [setFrom, spl_done]
  | x :: r, l, s => by
    rw [setFrom, List.setIfInBounds_toArray, setFrom_spl r (l.set s x) (s + 1), spl_set]
end Go.Proofs.YtpaobnhcbeklfaaGreatDoor
/-
  A region that draws its order, where of each slot that it writes a fact is known, kept when the world grows: calls whose answers lie in new memory, and operations that a guard leaves out.
-/
namespace Go.Proofs.YtpaobnhcbeklfaaGreatDoor
open Go.RowKit
set_option maxRecDepth 20000

/-- off k: which of the n slots from s on operation k writes; V j v w: what is known of the value there -/
structure RInv (a0 : Act) (s n m : Nat) (off : Nat → Option Nat) (V : Nat → Value → World → Prop) (C : World → Prop) (listed : Array Bool) (a : Act) (w : World) : Prop where
  ls : listed.size = m
  fr : ∃ xs : List Value, xs.length = n ∧ a = { a0 with tmps := setFrom a0.tmps s xs } ∧ ∀ k j, off k = some j → listed.getD k false = true → V j (xs.getD j undef) w
  cw : C w
theorem RInv.put {a0 : Act} {s n m : Nat} {off : Nat → Option Nat} {V : Nat → Value → World → Prop} {C : World → Prop} {listed : Array Bool} {a : Act} {w w' : World} {i j : Nat} {v : Value}
    (h : RInv a0 s n m off V C listed a w) (ho : off i = some j) (hj : j < n) (hst : ∀ q u, V q u w → V q u w') (hv : V j v w') (hc : C w') : RInv a0 s n m off V C (listed.setIfInBounds i true) (a.put (some (s + j)) v) w' := by
  obtain ⟨xs, hl, rfl, hf⟩ := h.fr
  refine ⟨by simp [h.ls], ⟨xs.set j v, by simp [hl], ?_, ?_⟩, hc⟩
  · show ({ a0 with tmps := (setFrom a0.tmps s xs).setIfInBounds (s + j) v } : Act) = _
    rw [setFrom_set xs a0.tmps s j v (by omega)]
  · intro k q hk hlk
    by_cases e : q = j
    · subst e
      have : (xs.set q v).getD q undef = v := by simp [List.getD, hl, hj]
      rw [this]; exact hv
    · have e' : i ≠ k := by rintro rfl; rw [ho] at hk; cases hk; exact e rfl
      rw [getD_set_ne false e'] at hlk
      have : (xs.set j v).getD q undef = xs.getD q undef := by simp [List.getD, List.getElem?_set_ne (Ne.symm e)]
      rw [this]; exact hst _ _ (hf k q hk hlk)
theorem RInv.skip {a0 : Act} {s n m : Nat} {off : Nat → Option Nat} {V : Nat → Value → World → Prop} {C : World → Prop} {listed : Array Bool} {a : Act} {w w' : World} {i : Nat}
    (h : RInv a0 s n m off V C listed a w) (ho : off i = none) (hst : ∀ q u, V q u w → V q u w') (hc : C w') : RInv a0 s n m off V C (listed.setIfInBounds i true) a w' := by
  obtain ⟨xs, hl, rfl, hf⟩ := h.fr
  refine ⟨by simp [h.ls], ⟨xs, hl, rfl, ?_⟩, hc⟩
  intro k q hk hlk
  have e' : i ≠ k := by rintro rfl; rw [ho] at hk; cases hk
  rw [getD_set_ne false e'] at hlk
  exact hst _ _ (hf k q hk hlk)
theorem RInv.at {a0 : Act} {s n m : Nat} {off : Nat → Option Nat} {V : Nat → Value → World → Prop} {C : World → Prop} {listed : Array Bool} {a : Act} {w : World} {k j : Nat}
    (h : RInv a0 s n m off V C listed a w) (hs : s + n ≤ a0.tmps.size) (ho : off k = some j) (hj : j < n) (hl : listed.getD k false = true) : V j (a.tmps[s + j]?.getD undef) w := by
  obtain ⟨xs, hxl, rfl, hf⟩ := h.fr
  show V j ((setFrom a0.tmps s xs)[s + j]?.getD undef) w
  rw [setFrom_at xs a0.tmps s j (by omega) (by omega)]
  have := hf k j ho hl
  simpa [List.getD] using this
theorem RInv.out {a0 : Act} {s n m : Nat} {off : Nat → Option Nat} {V : Nat → Value → World → Prop} {C : World → Prop} {listed : Array Bool} {a : Act} {w : World} {k : Nat}
    (h : RInv a0 s n m off V C listed a w) (hk : k < s ∨ s + n ≤ k) : a.tmps[k]?.getD undef = a0.tmps[k]?.getD undef := by
  obtain ⟨xs, hxl, rfl, hf⟩ := h.fr
  show (setFrom a0.tmps s xs)[k]?.getD undef = _
  rw [setFrom_out xs a0.tmps s k (by omega)]
theorem RInv.start {a0 : Act} {s n m : Nat} {off : Nat → Option Nat} {V : Nat → Value → World → Prop} {C : World → Prop} {w : World} (hs : s + n ≤ a0.tmps.size) (hc : C w) : RInv a0 s n m off V C (Array.replicate m false) a0 w := by
  obtain ⟨xs, hxl, hxs⟩ := setFrom_self n a0.tmps s hs
  refine ⟨by simp, ⟨xs, hxl, by rw [hxs], ?_⟩, hc⟩
  intro k j _ h
  rw [show (Array.replicate m false).getD k false = false from by by_cases hk' : k < m <;> simp [hk']] at h
  cases h
/-- an operation that its guard leaves out -/
theorem wpOp_left {P : Program} {ops : Array Oper} {Q : Exit → Act → World → Prop} {i : Nat} {o : Oper} {K : Act → World → Prop} {a : Act} {w : World}
    (h : ops[i]? = some o) (hg : Region.wanted o (yielded ops a.tmps) = false) (hk : K (a.put o.dst undef) w) : wpOp P ops Q i K a w := by
  unfold wpOp
  simp only [h]
  rw [if_neg (by rw [hg]; exact Bool.false_ne_true)]
  exact hk
/-- .. that its guard lets through -/
theorem wpOp_let {P : Program} {ops : Array Oper} {Q : Exit → Act → World → Prop} {i : Nat} {o : Oper} {K : Act → World → Prop} {a : Act} {w : World}
    (h : ops[i]? = some o) (hg : Region.wanted o (yielded ops a.tmps) = true) (hw : o.wp P a w K Q) : wpOp P ops Q i K a w := by
  unfold wpOp
  simp only [h]
  rw [if_pos hg]
  exact .inl hw
/-- what a guard asks, where the slot that it looks at is known -/
theorem wanted_at {ops : Array Oper} {tmps : Array Value} {o og : Oper} {g d : Nat} {b c : Bool} (h : o.guard = some (g, b)) (hg : ops[g]? = some og) (hd : og.dst = some d) (hv : tmps[d]?.getD undef = .bool c) : Region.wanted o (yielded ops tmps) = (c == b) := by
  have e : tmps[d]? = some (.bool c) := by
    cases e : tmps[d]? with
    | none => rw [e] at hv; cases hv
    | some v => rw [e] at hv; exact congrArg some hv
  unfold Region.wanted yielded
  simp [h, hg, hd, e]
theorem wanted_undef {ops : Array Oper} {tmps : Array Value} {o og : Oper} {g d : Nat} {b : Bool} (h : o.guard = some (g, b)) (hg : ops[g]? = some og) (hd : og.dst = some d) (hv : tmps[d]?.getD undef = undef) : Region.wanted o (yielded ops tmps) = false := by
  unfold Region.wanted yielded
  cases e : tmps[d]? with
  | none => simp [h, hg, hd, e]
  | some v =>
    rw [e] at hv
    have hv : v = undef := hv
    subst hv
    simp [h, hg, hd, e, undef]

/-- the operations of a region, by its number -/
def regOps : Code → Nat → Option (Array Oper)
  | .region i ops _, n => if i = n then some ops else none
  | .seq a b, n => match regOps a n with
    | some x => some x
    | none => regOps b n
  | .cond _ a b, n => match regOps a n with
    | some x => some x
    | none => regOps b n
  | .block _ a, n => regOps a n
  | .loop a, n => regOps a n
  | .rangeFunc _ _ a b, n => match regOps a n with
    | some x => some x
    | none => regOps b n
  | .scope a, n => regOps a n
  | _, _ => none
def regIn (f : Func) (n : Nat) : Option (Array Oper) := match f.body with
  | some c => regOps c n
  | none => none

/-- as RInv, with one slot more, outside the others, that operation L writes -/
structure RInv2 (a0 : Act) (s n m t L : Nat) (off : Nat → Option Nat) (V : Nat → Value → World → Prop) (Z : Value) (C : World → Prop) (listed : Array Bool) (a : Act) (w : World) : Prop where
  ls : listed.size = m
  fr : ∃ (z : Value) (xs : List Value), xs.length = n ∧ a = { a0 with tmps := setFrom (a0.tmps.setIfInBounds t z) s xs } ∧ (∀ k j, off k = some j → listed.getD k false = true → V j (xs.getD j undef) w) ∧ (if listed.getD L false = true then z = Z else z = a0.tmps[t]?.getD undef)
  cw : C w
theorem RInv2.put {a0 : Act} {s n m t L : Nat} {off : Nat → Option Nat} {V : Nat → Value → World → Prop} {Z : Value} {C : World → Prop} {listed : Array Bool} {a : Act} {w w' : World} {i j : Nat} {v : Value}
    (h : RInv2 a0 s n m t L off V Z C listed a w) (ho : off i = some j) (hj : j < n) (hiL : i ≠ L) (hst : ∀ q u, V q u w → V q u w') (hv : V j v w') (hc : C w') : RInv2 a0 s n m t L off V Z C (listed.setIfInBounds i true) (a.put (some (s + j)) v) w' := by
  obtain ⟨z, xs, hl, rfl, hf, hz⟩ := h.fr
  refine ⟨by simp [h.ls], ⟨z, xs.set j v, by simp [hl], ?_, ?_, by rw [getD_set_ne false hiL]; exact hz⟩, hc⟩
  · show ({ a0 with tmps := (setFrom (a0.tmps.setIfInBounds t z) s xs).setIfInBounds (s + j) v } : Act) = _
    rw [setFrom_set xs _ s j v (by omega)]
  · intro k q hk hlk
    by_cases e : q = j
    · subst e
      have : (xs.set q v).getD q undef = v := by simp [List.getD, hl, hj]
      rw [this]; exact hv
    · have e' : i ≠ k := by rintro rfl; rw [ho] at hk; cases hk; exact e rfl
      rw [getD_set_ne false e'] at hlk
      have : (xs.set j v).getD q undef = xs.getD q undef := by simp [List.getD, List.getElem?_set_ne (Ne.symm e)]
      rw [this]; exact hst _ _ (hf k q hk hlk)
theorem setFrom_low (xs : List Value) : ∀ (ts : Array Value) (s t : Nat) (v : Value), t < s → (setFrom ts s xs).setIfInBounds t v = setFrom (ts.setIfInBounds t v) s xs := by
  induction xs with
  | nil => intro ts s t v _; rfl
  | cons x r ih =>
    intro ts s t v h
    show (setFrom (ts.setIfInBounds s x) (s + 1) r).setIfInBounds t v = setFrom ((ts.setIfInBounds t v).setIfInBounds s x) (s + 1) r
    rw [ih _ _ _ _ (by omega), Array.setIfInBounds_comm _ _ (by omega)]
theorem RInv2.last {a0 : Act} {s n m t L : Nat} {off : Nat → Option Nat} {V : Nat → Value → World → Prop} {Z : Value} {C : World → Prop} {listed : Array Bool} {a : Act} {w : World}
    (h : RInv2 a0 s n m t L off V Z C listed a w) (hL : off L = none) (hLm : L < m) (hts : t < s) : RInv2 a0 s n m t L off V Z C (listed.setIfInBounds L true) (a.put (some t) Z) w := by
  obtain ⟨z, xs, hl, rfl, hf, hz⟩ := h.fr
  refine ⟨by simp [h.ls], ⟨Z, xs, hl, ?_, ?_, ?_⟩, h.cw⟩
  · show ({ a0 with tmps := (setFrom (a0.tmps.setIfInBounds t z) s xs).setIfInBounds t Z } : Act) = _
    rw [setFrom_low xs _ s t Z hts]
    simp
  · intro k q hk hlk
    have e' : L ≠ k := by rintro rfl; rw [hL] at hk; cases hk
    rw [getD_set_ne false e'] at hlk
    exact hf k q hk hlk
  · have : L < listed.size := by rw [h.ls]; exact hLm
    simp [this]
theorem RInv2.at {a0 : Act} {s n m t L : Nat} {off : Nat → Option Nat} {V : Nat → Value → World → Prop} {Z : Value} {C : World → Prop} {listed : Array Bool} {a : Act} {w : World} {k j : Nat}
    (h : RInv2 a0 s n m t L off V Z C listed a w) (hs : s + n ≤ a0.tmps.size) (ho : off k = some j) (hj : j < n) (hl : listed.getD k false = true) : V j (a.tmps[s + j]?.getD undef) w := by
  obtain ⟨z, xs, hxl, rfl, hf, _⟩ := h.fr
  show V j ((setFrom (a0.tmps.setIfInBounds t z) s xs)[s + j]?.getD undef) w
  rw [setFrom_at xs _ s j (by omega) (by simp; omega)]
  have := hf k j ho hl
  simpa [List.getD] using this
theorem RInv2.out {a0 : Act} {s n m t L : Nat} {off : Nat → Option Nat} {V : Nat → Value → World → Prop} {Z : Value} {C : World → Prop} {listed : Array Bool} {a : Act} {w : World} {k : Nat}
    (h : RInv2 a0 s n m t L off V Z C listed a w) (hk : k < s ∨ s + n ≤ k) (hkt : k ≠ t) : a.tmps[k]?.getD undef = a0.tmps[k]?.getD undef := by
  obtain ⟨z, xs, hxl, rfl, hf, _⟩ := h.fr
  show (setFrom (a0.tmps.setIfInBounds t z) s xs)[k]?.getD undef = _
  rw [setFrom_out xs _ s k (by omega), Array.getElem?_setIfInBounds_ne (Ne.symm hkt)]
theorem RInv2.outT {a0 : Act} {s n m t L : Nat} {off : Nat → Option Nat} {V : Nat → Value → World → Prop} {Z : Value} {C : World → Prop} {listed : Array Bool} {a : Act} {w : World}
    (h : RInv2 a0 s n m t L off V Z C listed a w) (hts : t < s) (hta : t < a0.tmps.size) (hL : listed.getD L false = false) : a.tmps[t]?.getD undef = a0.tmps[t]?.getD undef := by
  obtain ⟨z, xs, hxl, rfl, hf, hz⟩ := h.fr
  rw [if_neg (by rw [hL]; exact Bool.false_ne_true)] at hz
  show (setFrom (a0.tmps.setIfInBounds t z) s xs)[t]?.getD undef = _
  rw [setFrom_out xs _ s t (by omega)]
  simp [hta, hz]
theorem RInv2.start {a0 : Act} {s n m t L : Nat} {off : Nat → Option Nat} {V : Nat → Value → World → Prop} {Z : Value} {C : World → Prop} {w : World} (hs : s + n ≤ a0.tmps.size) (hc : C w) : RInv2 a0 s n m t L off V Z C (Array.replicate m false) a0 w := by
  obtain ⟨xs, hxl, hxs⟩ := setFrom_self n a0.tmps s hs
  have hno : ∀ k, (Array.replicate m false).getD k false = false := fun k => by by_cases hk' : k < m <;> simp [hk']
  refine ⟨by simp, ⟨a0.tmps[t]?.getD undef, xs, hxl, ?_, ?_, ?_⟩, hc⟩
  · have : a0.tmps.setIfInBounds t (a0.tmps[t]?.getD undef) = a0.tmps := by
      apply Array.ext_getElem?
      intro i
      rw [Array.getElem?_setIfInBounds]
      split
      · rename_i e
        subst e
        split
        · rename_i h; simp [h]
        · rename_i h; simp at h; simp [h]
      · rfl
    rw [this, hxs]
  · intro k j _ h
    rw [hno] at h
    cases h
  · rw [hno, if_neg Bool.false_ne_true]

/-- what is known of the slots: at j0, where g lets it through, pairs of the call's own; else the value -/
def VV (T : TypeId) (base : Nat) (ps : List (Int × Int)) (j0 : Nat) (g : Bool) (VL : List Value) (j : Nat) (u : Value) (W : World) : Prop := (j = j0 → g = true → OwnP T W base u ps) ∧ ((j = j0 ∧ g = true) ∨ u = VL.getD j undef)
theorem VV.eq {T base ps j0 g VL j u W} (h : VV T base ps j0 g VL j u W) (hj : j ≠ j0) : u = VL.getD j undef := by
  rcases h.2 with ⟨e, _⟩ | e
  · exact absurd e hj
  · exact e
theorem VV.of {T base ps j0 g VL j u W} (hj : j ≠ j0) (h : u = VL.getD j undef) : VV T base ps j0 g VL j u W := ⟨fun e => absurd e hj, .inr h⟩
theorem VV.no {T base ps j0 VL j u W} (h : u = VL.getD j undef) : VV T base ps j0 false VL j u W := ⟨fun _ e => (by cases e), .inr h⟩
theorem VV.own {T base ps j0 g VL u W} (hg : g = true) (h : OwnP T W base u ps) : VV T base ps j0 g VL j0 u W := ⟨fun _ _ => h, .inl ⟨rfl, hg⟩⟩
theorem VV.grow {T base ps j0 g VL} {W W' : World} (hb : Below W.heap.size W W') : ∀ q u, VV T base ps j0 g VL q u W → VV T base ps j0 g VL q u W' := fun _ _ h => ⟨fun e1 e2 => (h.1 e1 e2).below hb, h.2⟩
end Go.Proofs.YtpaobnhcbeklfaaGreatDoor
/-
  The document's table (TableOf): a region that draws its order, with calls whose answers lie in new memory (written by tools/gen_tof.py).
-/
namespace Go.Proofs.YtpaobnhcbeklfaaGreatDoor
open Go.RowKit
set_option maxRecDepth 20000
theorem Pl.tP_ok {es : List Pl.Ent} {n : Nat} {p : Int × Int} (h : p ∈ Pl.tP es n) : Pl.pairOk p := Pl.rpS_ok _ p h
set_option maxHeartbeats 8000000 in
theorem tof13 {Q : Exit → Act → World → Prop} {a0 : Act} {wj : World} {a : Option Addr} {len cap : Nat} {es : List Pl.Ent} {n k b pb : Nat} {R : Bool}
    (h157 : a0.tmps.size = 157)
    (q0 : a0.tmps[0]?.getD undef = .slice a len cap)
    (q1 : a0.tmps[1]?.getD undef = .int .i64 n)
    (q11 : a0.tmps[11]?.getD undef = .pointer (some ⟨pb, 0, none⟩))
    (HE : IsEnts wj a len cap es)
    (HFT : Pl.fault es = 0)
    (hn : n < 12)
    (hpl : pb < wj.heap.size)
    (P0 : wj.cell? ⟨pb, 0, none⟩ = some (.int .i64 k))
    (P1 : wj.cell? ⟨pb, 1, none⟩ = some (.int .i64 b))
    (HR : decide (((k : Int), (b : Int)) ∈ Pl.tP es n) = R)
    (hQ : ∀ xs W, xs.length = 5 → xs.getD 4 undef = .bool R → Below wj.heap.size wj W → Q .normal { a0 with tmps := setFrom a0.tmps 42 xs } W) :
    ∀ ops, regIn Tryz.f5 13 = some ops → (Code.region 13 ops true).wp Tryz.prog Q a0 wj := by
  intro ops hops
  have eo := Option.some.inj (hops.symm.trans (rfl : regIn Tryz.f5 13 = some _))
  subst eo
  clear hops
  have hsz : 42 + 5 ≤ a0.tmps.size := by omega
  refine wp_region_any (by kernel_rfl) ?_
  refine wpAny_inv2 (RInv a0 42 5 5 (fun k => some k) (VV 38 wj.heap.size (Pl.tP es n) 2 true [.slice a len cap, .int .i64 n, undef, .agg #[.int .i64 k, .int .i64 b], .bool R]) (fun W => Below wj.heap.size wj W)) ?_ ?_ _ _ _ _ (by decide +kernel) ?_ (closed_start _ _ _)
  · rintro i listed a' W hi hCl hI
    rw [mem_ready] at hi
    obtain ⟨hl0, o, ho, hall⟩ := hi
    have hlti : i < 5 := (Array.getElem?_eq_some_iff.1 ho).1
    have o0 := (hI.out (k := 0) (by omega)).trans q0
    have o1 := (hI.out (k := 1) (by omega)).trans q1
    have o11 := (hI.out (k := 11) (by omega)).trans q11
    have p0 := (hI.cw.cell (p := ⟨pb, 0, none⟩) hpl).trans P0
    have p1 := (hI.cw.cell (p := ⟨pb, 1, none⟩) hpl).trans P1
    have hcs : i = 0 ∨ i = 1 ∨ i = 2 ∨ i = 3 ∨ i = 4 := by omega
    rcases hcs with rfl | rfl | rfl | rfl | rfl
    all_goals
      simp at ho
      subst ho
    · refine wpOp_of rfl rfl ?_
      simp [Oper.wp, go_sem, o0]
      exact hI.put (i := 0) (j := 0) rfl (by omega) (fun _ _ h => h) (VV.of (by decide) rfl) hI.cw
    · refine wpOp_of rfl rfl ?_
      simp [Oper.wp, go_sem, o1]
      exact hI.put (i := 1) (j := 1) rfl (by omega) (fun _ _ h => h) (VV.of (by decide) rfl) hI.cw
    · refine wpOp_of rfl rfl ?_
      have e0 : a'.tmps[42]?.getD undef = .slice a len cap := (hI.at (k := 0) (j := 0) hsz rfl (by omega) (hall ⟨0, .data⟩ (by simp) rfl)).eq (by decide)
      have e1 : a'.tmps[43]?.getD undef = .int .i64 n := (hI.at (k := 1) (j := 1) hsz rfl (by omega) (hall ⟨1, .data⟩ (by simp) rfl)).eq (by decide)
      simp [Oper.wp, go_sem, e0, e1]
      refine (PrefixesIn_any a len cap es n W (HE.below hI.cw) HFT (by omega)).mono ?_
      rintro e W' ⟨vl, rfl, ho', hb'⟩
      exact hI.put (i := 2) (j := 2) rfl (by omega) (VV.grow hb') (VV.own rfl (ho'.mono hI.cw.size)) (hI.cw.trans (hb'.mono hI.cw.size))
    · refine wpOp_of rfl rfl ?_
      simp [Oper.wp, go_sem, o11, p0, p1]
      exact hI.put (i := 3) (j := 3) rfl (by omega) (fun _ _ h => h) (VV.of (by decide) rfl) hI.cw
    · refine wpOp_of rfl rfl ?_
      have e3 : a'.tmps[45]?.getD undef = .agg #[.int .i64 k, .int .i64 b] := (hI.at (k := 3) (j := 3) hsz rfl (by omega) (hall ⟨3, .data⟩ (by simp) rfl)).eq (by decide)
      have hP := (hI.at (k := 2) (j := 2) hsz rfl (by omega) (hall ⟨2, .data⟩ (by simp) rfl)).1 rfl rfl
      obtain ⟨pa, pc, ev, hpp, _⟩ := hP.shape (fun p hp => Pl.tP_ok hp)
      have ev : a'.tmps[44]?.getD undef = .slice pa (Pl.tP es n).length pc := ev
      simp [Oper.wp, go_sem, ev, e3]
      refine (hasPrefix_any pa _ pc (Pl.tP es n) k b W hpp).mono ?_
      rintro e W' ⟨rfl, hb'⟩
      rw [HR]
      exact hI.put (i := 4) (j := 4) rfl (by omega) (VV.grow hb') (VV.of (by decide) rfl) (hI.cw.trans (hb'.mono hI.cw.size))
  · rintro listed a' W hr hI
    have hal := all_listed (by decide +kernel) hI.ls hr
    obtain ⟨xs, hxl, rfl, hf⟩ := hI.fr
    exact hQ xs W hxl ((hf 4 4 rfl (hal 4 (by decide))).eq (by decide)) hI.cw
  · exact RInv.start hsz (Below.refl _ _).drew
end Go.Proofs.YtpaobnhcbeklfaaGreatDoor
/-
  The document's table (TableOf): a region that draws its order, with calls whose answers lie in new memory (written by tools/gen_tof.py).
-/
namespace Go.Proofs.YtpaobnhcbeklfaaGreatDoor
open Go.RowKit
set_option maxRecDepth 20000

set_option maxHeartbeats 8000000 in
theorem tof19 {Q : Exit → Act → World → Prop} {a0 : Act} {wj : World} {a : Option Addr} {len cap : Nat} {es : List Pl.Ent} {n k b pb : Nat} {j g2 c2 rb : Nat} {c mm : Int} {b3 b4 b5 : Bool}
    (h157 : a0.tmps.size = 157)
    (q0 : a0.tmps[0]?.getD undef = .slice a len cap)
    (q1 : a0.tmps[1]?.getD undef = .int .i64 n)
    (q6 : a0.tmps[6]?.getD undef = .slice (some ⟨g2, 0, none⟩) 12 c2)
    (q11 : a0.tmps[11]?.getD undef = .pointer (some ⟨pb, 0, none⟩))
    (q12 : a0.tmps[12]?.getD undef = .pointer (some ⟨rb, 0, none⟩))
    (q13 : a0.tmps[13]?.getD undef = .int .i64 j)
    (HE : IsEnts wj a len cap es)
    (HFT : Pl.fault es = 0)
    (hpl : pb < wj.heap.size)
    (hg2 : g2 < wj.heap.size)
    (hrb : rb < wj.heap.size)
    (P0 : wj.cell? ⟨pb, 0, none⟩ = some (.int .i64 k))
    (P1 : wj.cell? ⟨pb, 1, none⟩ = some (.int .i64 b))
    (R3 : wj.cell? ⟨rb, 3, none⟩ = some (.int .i64 mm))
    (hj12 : (j : Int) < 12)
    (hjn : ((j : Int) != (n : Int)) = true)
    (Z0 : wj.cell? ⟨g2, j * 2, none⟩ = some (.int .i64 c))
    (hc0 : 0 ≤ c)
    (HB3 : decide (((k : Int), (b : Int)) ∈ Pl.tP es j) = b3)
    (hb4 : decide (mm < 0) = b4)
    (hb5 : decide (c < mm) = b5)
    (hQ : ∀ xs W, xs.length = 33 → xs.getD 32 undef = .bool (b3 && (b4 || b5)) → Below wj.heap.size wj W → Q .normal { a0 with tmps := setFrom a0.tmps 58 xs } W) :
    ∀ ops, regIn Tryz.f5 19 = some ops → (Code.region 19 ops true).wp Tryz.prog Q a0 wj := by
  intro ops hops
  have eo := Option.some.inj (hops.symm.trans (rfl : regIn Tryz.f5 19 = some _))
  subst eo
  clear hops
  have hsz : 58 + 33 ≤ a0.tmps.size := by omega
  refine wp_region_any (by kernel_rfl) ?_
  refine wpAny_inv2 (RInv a0 58 33 33 (fun k => some k) (VV 38 wj.heap.size (Pl.tP es j) 14 true [.int .i64 j, .int .i64 n, .bool true, .bool true, .slice (some ⟨g2, 0, none⟩) 12 c2, .int .i64 j, .pointer (some ⟨g2, j * 2, none⟩), .pointer (some ⟨g2, j * 2, none⟩), .int .i64 c, .bool true, .bool true, .bool true, .slice a len cap, .int .i64 j, undef, .agg #[.int .i64 k, .int .i64 b], .bool b3, .bool b3, .bool b3, cond b3 (.pointer (some ⟨rb, 3, none⟩)) undef, cond b3 (.int .i64 mm) undef, cond b3 (.bool b4) undef, cond b3 (.bool b4) undef, cond b3 (cond b4 undef (.slice (some ⟨g2, 0, none⟩) 12 c2)) undef, cond b3 (cond b4 undef (.int .i64 j)) undef, cond b3 (cond b4 undef (.pointer (some ⟨g2, j * 2, none⟩))) undef, cond b3 (cond b4 undef (.pointer (some ⟨g2, j * 2, none⟩))) undef, cond b3 (cond b4 undef (.int .i64 c)) undef, cond b3 (cond b4 undef (.pointer (some ⟨rb, 3, none⟩))) undef, cond b3 (cond b4 undef (.int .i64 mm)) undef, cond b3 (cond b4 undef (.bool b5)) undef, cond b3 (.bool (b4 || b5)) undef, .bool (b3 && (b4 || b5))]) (fun W => Below wj.heap.size wj W)) ?_ ?_ _ _ _ _ (by decide +kernel) ?_ (closed_start _ _ _)
  · rintro i listed a' W hi hCl hI
    rw [mem_ready] at hi
    obtain ⟨hl0, o, ho, hall⟩ := hi
    have hlti : i < 33 := (Array.getElem?_eq_some_iff.1 ho).1
    have o0 := (hI.out (k := 0) (by omega)).trans q0
    have o1 := (hI.out (k := 1) (by omega)).trans q1
    have o6 := (hI.out (k := 6) (by omega)).trans q6
    have o11 := (hI.out (k := 11) (by omega)).trans q11
    have o12 := (hI.out (k := 12) (by omega)).trans q12
    have o13 := (hI.out (k := 13) (by omega)).trans q13
    have p0 := (hI.cw.cell (p := ⟨pb, 0, none⟩) hpl).trans P0
    have p1 := (hI.cw.cell (p := ⟨pb, 1, none⟩) hpl).trans P1
    have z0 := (hI.cw.cell (p := ⟨g2, j * 2, none⟩) hg2).trans Z0
    have r3 := (hI.cw.cell (p := ⟨rb, 3, none⟩) hrb).trans R3
    have hcs : i = 0 ∨ i = 1 ∨ i = 2 ∨ i = 3 ∨ i = 4 ∨ i = 5 ∨ i = 6 ∨ i = 7 ∨ i = 8 ∨ i = 9 ∨ i = 10 ∨ i = 11 ∨ i = 12 ∨ i = 13 ∨ i = 14 ∨ i = 15 ∨ i = 16 ∨ i = 17 ∨ i = 18 ∨ i = 19 ∨ i = 20 ∨ i = 21 ∨ i = 22 ∨ i = 23 ∨ i = 24 ∨ i = 25 ∨ i = 26 ∨ i = 27 ∨ i = 28 ∨ i = 29 ∨ i = 30 ∨ i = 31 ∨ i = 32 := by omega
    rcases hcs with rfl | rfl | rfl | rfl | rfl | rfl | rfl | rfl | rfl | rfl | rfl | rfl | rfl | rfl | rfl | rfl | rfl | rfl | rfl | rfl | rfl | rfl | rfl | rfl | rfl | rfl | rfl | rfl | rfl | rfl | rfl | rfl | rfl
    all_goals
      simp at ho
      subst ho
    · refine wpOp_of rfl rfl ?_
      simp [Oper.wp, go_sem, o13]
      exact hI.put (i := 0) (j := 0) rfl (by omega) (fun _ _ h => h) (VV.of (by decide) rfl) hI.cw
    · refine wpOp_of rfl rfl ?_
      simp [Oper.wp, go_sem, o1]
      exact hI.put (i := 1) (j := 1) rfl (by omega) (fun _ _ h => h) (VV.of (by decide) rfl) hI.cw
    · refine wpOp_of rfl rfl ?_
      have e0 : a'.tmps[58]?.getD undef = .int .i64 j := (hI.at (k := 0) (j := 0) hsz rfl (by omega) (hall ⟨0, .data⟩ (by simp) rfl)).eq (by decide)
      have e1 : a'.tmps[59]?.getD undef = .int .i64 n := (hI.at (k := 1) (j := 1) hsz rfl (by omega) (hall ⟨1, .data⟩ (by simp) rfl)).eq (by decide)
      simp [Oper.wp, go_sem, e0, e1, hjn]
      exact hI.put (i := 2) (j := 2) rfl (by omega) (fun _ _ h => h) (VV.of (by decide) rfl) hI.cw
    · refine wpOp_of rfl rfl ?_
      have e2 : a'.tmps[60]?.getD undef = .bool true := (hI.at (k := 2) (j := 2) hsz rfl (by omega) (hall ⟨2, .data⟩ (by simp) rfl)).eq (by decide)
      simp [Oper.wp, go_sem, e2]
      exact hI.put (i := 3) (j := 3) rfl (by omega) (fun _ _ h => h) (VV.of (by decide) rfl) hI.cw
    · refine wpOp_let rfl ((wanted_at (c := true) rfl rfl rfl (show a'.tmps[61]?.getD undef = .bool true from (hI.at (k := 3) (j := 3) hsz rfl (by omega) (hall ⟨3, .guard⟩ (by simp) rfl)).eq (by decide))).trans rfl) ?_
      simp [Oper.wp, go_sem, o6]
      exact hI.put (i := 4) (j := 4) rfl (by omega) (fun _ _ h => h) (VV.of (by decide) rfl) hI.cw
    · refine wpOp_let rfl ((wanted_at (c := true) rfl rfl rfl (show a'.tmps[61]?.getD undef = .bool true from (hI.at (k := 3) (j := 3) hsz rfl (by omega) (hall ⟨3, .guard⟩ (by simp) rfl)).eq (by decide))).trans rfl) ?_
      simp [Oper.wp, go_sem, o13]
      exact hI.put (i := 5) (j := 5) rfl (by omega) (fun _ _ h => h) (VV.of (by decide) rfl) hI.cw
    · refine wpOp_let rfl ((wanted_at (c := true) rfl rfl rfl (show a'.tmps[61]?.getD undef = .bool true from (hI.at (k := 3) (j := 3) hsz rfl (by omega) (hall ⟨3, .guard⟩ (by simp) rfl)).eq (by decide))).trans rfl) ?_
      have e4 : a'.tmps[62]?.getD undef = .slice (some ⟨g2, 0, none⟩) 12 c2 := (hI.at (k := 4) (j := 4) hsz rfl (by omega) (hall ⟨4, .data⟩ (by simp) rfl)).eq (by decide)
      have e5 : a'.tmps[63]?.getD undef = .int .i64 j := (hI.at (k := 5) (j := 5) hsz rfl (by omega) (hall ⟨5, .data⟩ (by simp) rfl)).eq (by decide)
      simp [Oper.wp, go_sem, e4, e5, hj12]
      exact hI.put (i := 6) (j := 6) rfl (by omega) (fun _ _ h => h) (VV.of (by decide) rfl) hI.cw
    · refine wpOp_let rfl ((wanted_at (c := true) rfl rfl rfl (show a'.tmps[61]?.getD undef = .bool true from (hI.at (k := 3) (j := 3) hsz rfl (by omega) (hall ⟨3, .guard⟩ (by simp) rfl)).eq (by decide))).trans rfl) ?_
      have e6 : a'.tmps[64]?.getD undef = .pointer (some ⟨g2, j * 2, none⟩) := (hI.at (k := 6) (j := 6) hsz rfl (by omega) (hall ⟨6, .data⟩ (by simp) rfl)).eq (by decide)
      simp [Oper.wp, go_sem, e6]
      exact hI.put (i := 7) (j := 7) rfl (by omega) (fun _ _ h => h) (VV.of (by decide) rfl) hI.cw
    · refine wpOp_let rfl ((wanted_at (c := true) rfl rfl rfl (show a'.tmps[61]?.getD undef = .bool true from (hI.at (k := 3) (j := 3) hsz rfl (by omega) (hall ⟨3, .guard⟩ (by simp) rfl)).eq (by decide))).trans rfl) ?_
      have e7 : a'.tmps[65]?.getD undef = .pointer (some ⟨g2, j * 2, none⟩) := (hI.at (k := 7) (j := 7) hsz rfl (by omega) (hall ⟨7, .data⟩ (by simp) rfl)).eq (by decide)
      simp [Oper.wp, go_sem, e7, z0]
      exact hI.put (i := 8) (j := 8) rfl (by omega) (fun _ _ h => h) (VV.of (by decide) rfl) hI.cw
    · refine wpOp_let rfl ((wanted_at (c := true) rfl rfl rfl (show a'.tmps[61]?.getD undef = .bool true from (hI.at (k := 3) (j := 3) hsz rfl (by omega) (hall ⟨3, .guard⟩ (by simp) rfl)).eq (by decide))).trans rfl) ?_
      have e8 : a'.tmps[66]?.getD undef = .int .i64 c := (hI.at (k := 8) (j := 8) hsz rfl (by omega) (hall ⟨8, .data⟩ (by simp) rfl)).eq (by decide)
      simp [Oper.wp, go_sem, e8, hc0]
      exact hI.put (i := 9) (j := 9) rfl (by omega) (fun _ _ h => h) (VV.of (by decide) rfl) hI.cw
    · refine wpOp_of rfl rfl ?_
      have e3 : a'.tmps[61]?.getD undef = .bool true := (hI.at (k := 3) (j := 3) hsz rfl (by omega) (hall ⟨3, .data⟩ (by simp) rfl)).eq (by decide)
      have e9 : a'.tmps[67]?.getD undef = .bool true := (hI.at (k := 9) (j := 9) hsz rfl (by omega) (hall ⟨9, .data⟩ (by simp) rfl)).eq (by decide)
      simp [Oper.wp, go_sem, e3, e9]
      exact hI.put (i := 10) (j := 10) rfl (by omega) (fun _ _ h => h) (VV.of (by decide) rfl) hI.cw
    · refine wpOp_of rfl rfl ?_
      have e10 : a'.tmps[68]?.getD undef = .bool true := (hI.at (k := 10) (j := 10) hsz rfl (by omega) (hall ⟨10, .data⟩ (by simp) rfl)).eq (by decide)
      simp [Oper.wp, go_sem, e10]
      exact hI.put (i := 11) (j := 11) rfl (by omega) (fun _ _ h => h) (VV.of (by decide) rfl) hI.cw
    · refine wpOp_let rfl ((wanted_at (c := true) rfl rfl rfl (show a'.tmps[69]?.getD undef = .bool true from (hI.at (k := 11) (j := 11) hsz rfl (by omega) (hall ⟨11, .guard⟩ (by simp) rfl)).eq (by decide))).trans rfl) ?_
      simp [Oper.wp, go_sem, o0]
      exact hI.put (i := 12) (j := 12) rfl (by omega) (fun _ _ h => h) (VV.of (by decide) rfl) hI.cw
    · refine wpOp_let rfl ((wanted_at (c := true) rfl rfl rfl (show a'.tmps[69]?.getD undef = .bool true from (hI.at (k := 11) (j := 11) hsz rfl (by omega) (hall ⟨11, .guard⟩ (by simp) rfl)).eq (by decide))).trans rfl) ?_
      simp [Oper.wp, go_sem, o13]
      exact hI.put (i := 13) (j := 13) rfl (by omega) (fun _ _ h => h) (VV.of (by decide) rfl) hI.cw
    · refine wpOp_let rfl ((wanted_at (c := true) rfl rfl rfl (show a'.tmps[69]?.getD undef = .bool true from (hI.at (k := 11) (j := 11) hsz rfl (by omega) (hall ⟨11, .guard⟩ (by simp) rfl)).eq (by decide))).trans rfl) ?_
      have e12 : a'.tmps[70]?.getD undef = .slice a len cap := (hI.at (k := 12) (j := 12) hsz rfl (by omega) (hall ⟨12, .data⟩ (by simp) rfl)).eq (by decide)
      have e13 : a'.tmps[71]?.getD undef = .int .i64 j := (hI.at (k := 13) (j := 13) hsz rfl (by omega) (hall ⟨13, .data⟩ (by simp) rfl)).eq (by decide)
      simp [Oper.wp, go_sem, e12, e13]
      refine (PrefixesIn_any a len cap es j W (HE.below hI.cw) HFT (by omega)).mono ?_
      rintro e W' ⟨vl, rfl, ho', hb'⟩
      exact hI.put (i := 14) (j := 14) rfl (by omega) (VV.grow hb') (VV.own rfl (ho'.mono hI.cw.size)) (hI.cw.trans (hb'.mono hI.cw.size))
    · refine wpOp_let rfl ((wanted_at (c := true) rfl rfl rfl (show a'.tmps[69]?.getD undef = .bool true from (hI.at (k := 11) (j := 11) hsz rfl (by omega) (hall ⟨11, .guard⟩ (by simp) rfl)).eq (by decide))).trans rfl) ?_
      simp [Oper.wp, go_sem, o11, p0, p1]
      exact hI.put (i := 15) (j := 15) rfl (by omega) (fun _ _ h => h) (VV.of (by decide) rfl) hI.cw
    · refine wpOp_let rfl ((wanted_at (c := true) rfl rfl rfl (show a'.tmps[69]?.getD undef = .bool true from (hI.at (k := 11) (j := 11) hsz rfl (by omega) (hall ⟨11, .guard⟩ (by simp) rfl)).eq (by decide))).trans rfl) ?_
      have e15 : a'.tmps[73]?.getD undef = .agg #[.int .i64 k, .int .i64 b] := (hI.at (k := 15) (j := 15) hsz rfl (by omega) (hall ⟨15, .data⟩ (by simp) rfl)).eq (by decide)
      have hP := (hI.at (k := 14) (j := 14) hsz rfl (by omega) (hall ⟨14, .data⟩ (by simp) rfl)).1 rfl rfl
      obtain ⟨pa, pc, ev, hpp, _⟩ := hP.shape (fun p hp => Pl.tP_ok hp)
      have ev : a'.tmps[72]?.getD undef = .slice pa (Pl.tP es j).length pc := ev
      simp [Oper.wp, go_sem, ev, e15]
      refine (hasPrefix_any pa _ pc (Pl.tP es j) k b W hpp).mono ?_
      rintro e W' ⟨rfl, hb'⟩
      rw [HB3]
      exact hI.put (i := 16) (j := 16) rfl (by omega) (VV.grow hb') (VV.of (by decide) rfl) (hI.cw.trans (hb'.mono hI.cw.size))
    · refine wpOp_of rfl rfl ?_
      have e11 : a'.tmps[69]?.getD undef = .bool true := (hI.at (k := 11) (j := 11) hsz rfl (by omega) (hall ⟨11, .data⟩ (by simp) rfl)).eq (by decide)
      have e16 : a'.tmps[74]?.getD undef = .bool b3 := (hI.at (k := 16) (j := 16) hsz rfl (by omega) (hall ⟨16, .data⟩ (by simp) rfl)).eq (by decide)
      simp [Oper.wp, go_sem, e11, e16]
      exact hI.put (i := 17) (j := 17) rfl (by omega) (fun _ _ h => h) (VV.of (by decide) rfl) hI.cw
    · refine wpOp_of rfl rfl ?_
      have e17 : a'.tmps[75]?.getD undef = .bool b3 := (hI.at (k := 17) (j := 17) hsz rfl (by omega) (hall ⟨17, .data⟩ (by simp) rfl)).eq (by decide)
      simp [Oper.wp, go_sem, e17]
      exact hI.put (i := 18) (j := 18) rfl (by omega) (fun _ _ h => h) (VV.of (by decide) rfl) hI.cw
    · cases b3 with
      | false =>
        refine wpOp_left rfl ((wanted_at (c := false) rfl rfl rfl (show a'.tmps[76]?.getD undef = .bool false from (hI.at (k := 18) (j := 18) hsz rfl (by omega) (hall ⟨18, .guard⟩ (by simp) rfl)).eq (by decide))).trans rfl) ?_
        exact hI.put (i := 19) (j := 19) rfl (by omega) (fun _ _ h => h) (VV.of (by decide) rfl) hI.cw
      | true =>
        refine wpOp_let rfl ((wanted_at (c := true) rfl rfl rfl (show a'.tmps[76]?.getD undef = .bool true from (hI.at (k := 18) (j := 18) hsz rfl (by omega) (hall ⟨18, .guard⟩ (by simp) rfl)).eq (by decide))).trans rfl) ?_
        simp [Oper.wp, go_sem, o12]
        exact hI.put (i := 19) (j := 19) rfl (by omega) (fun _ _ h => h) (VV.of (by decide) rfl) hI.cw
    · cases b3 with
      | false =>
        refine wpOp_left rfl ((wanted_at (c := false) rfl rfl rfl (show a'.tmps[76]?.getD undef = .bool false from (hI.at (k := 18) (j := 18) hsz rfl (by omega) (hall ⟨18, .guard⟩ (by simp) rfl)).eq (by decide))).trans rfl) ?_
        exact hI.put (i := 20) (j := 20) rfl (by omega) (fun _ _ h => h) (VV.of (by decide) rfl) hI.cw
      | true =>
        refine wpOp_let rfl ((wanted_at (c := true) rfl rfl rfl (show a'.tmps[76]?.getD undef = .bool true from (hI.at (k := 18) (j := 18) hsz rfl (by omega) (hall ⟨18, .guard⟩ (by simp) rfl)).eq (by decide))).trans rfl) ?_
        have e19 : a'.tmps[77]?.getD undef = .pointer (some ⟨rb, 3, none⟩) := (hI.at (k := 19) (j := 19) hsz rfl (by omega) (hall ⟨19, .data⟩ (by simp) rfl)).eq (by decide)
        simp [Oper.wp, go_sem, e19, r3]
        exact hI.put (i := 20) (j := 20) rfl (by omega) (fun _ _ h => h) (VV.of (by decide) rfl) hI.cw
    · cases b3 with
      | false =>
        refine wpOp_left rfl ((wanted_at (c := false) rfl rfl rfl (show a'.tmps[76]?.getD undef = .bool false from (hI.at (k := 18) (j := 18) hsz rfl (by omega) (hall ⟨18, .guard⟩ (by simp) rfl)).eq (by decide))).trans rfl) ?_
        exact hI.put (i := 21) (j := 21) rfl (by omega) (fun _ _ h => h) (VV.of (by decide) rfl) hI.cw
      | true =>
        refine wpOp_let rfl ((wanted_at (c := true) rfl rfl rfl (show a'.tmps[76]?.getD undef = .bool true from (hI.at (k := 18) (j := 18) hsz rfl (by omega) (hall ⟨18, .guard⟩ (by simp) rfl)).eq (by decide))).trans rfl) ?_
        have e20 : a'.tmps[78]?.getD undef = .int .i64 mm := (hI.at (k := 20) (j := 20) hsz rfl (by omega) (hall ⟨20, .data⟩ (by simp) rfl)).eq (by decide)
        simp [Oper.wp, go_sem, e20, hb4]
        exact hI.put (i := 21) (j := 21) rfl (by omega) (fun _ _ h => h) (VV.of (by decide) rfl) hI.cw
    · cases b3 with
      | false =>
        refine wpOp_left rfl ((wanted_at (c := false) rfl rfl rfl (show a'.tmps[76]?.getD undef = .bool false from (hI.at (k := 18) (j := 18) hsz rfl (by omega) (hall ⟨18, .guard⟩ (by simp) rfl)).eq (by decide))).trans rfl) ?_
        exact hI.put (i := 22) (j := 22) rfl (by omega) (fun _ _ h => h) (VV.of (by decide) rfl) hI.cw
      | true =>
        refine wpOp_let rfl ((wanted_at (c := true) rfl rfl rfl (show a'.tmps[76]?.getD undef = .bool true from (hI.at (k := 18) (j := 18) hsz rfl (by omega) (hall ⟨18, .guard⟩ (by simp) rfl)).eq (by decide))).trans rfl) ?_
        have e21 : a'.tmps[79]?.getD undef = .bool b4 := (hI.at (k := 21) (j := 21) hsz rfl (by omega) (hall ⟨21, .data⟩ (by simp) rfl)).eq (by decide)
        simp [Oper.wp, go_sem, e21]
        exact hI.put (i := 22) (j := 22) rfl (by omega) (fun _ _ h => h) (VV.of (by decide) rfl) hI.cw
    · cases b3 with
      | false =>
        refine wpOp_left rfl (wanted_undef rfl rfl rfl (show a'.tmps[80]?.getD undef = undef from (hI.at (k := 22) (j := 22) hsz rfl (by omega) (hall ⟨22, .guard⟩ (by simp) rfl)).eq (by decide))) ?_
        exact hI.put (i := 23) (j := 23) rfl (by omega) (fun _ _ h => h) (VV.of (by decide) rfl) hI.cw
      | true =>
        cases b4 with
        | false =>
          refine wpOp_let rfl ((wanted_at (c := false) rfl rfl rfl (show a'.tmps[80]?.getD undef = .bool false from (hI.at (k := 22) (j := 22) hsz rfl (by omega) (hall ⟨22, .guard⟩ (by simp) rfl)).eq (by decide))).trans rfl) ?_
          simp [Oper.wp, go_sem, o6]
          exact hI.put (i := 23) (j := 23) rfl (by omega) (fun _ _ h => h) (VV.of (by decide) rfl) hI.cw
        | true =>
          refine wpOp_left rfl ((wanted_at (c := true) rfl rfl rfl (show a'.tmps[80]?.getD undef = .bool true from (hI.at (k := 22) (j := 22) hsz rfl (by omega) (hall ⟨22, .guard⟩ (by simp) rfl)).eq (by decide))).trans rfl) ?_
          exact hI.put (i := 23) (j := 23) rfl (by omega) (fun _ _ h => h) (VV.of (by decide) rfl) hI.cw
    · cases b3 with
      | false =>
        refine wpOp_left rfl (wanted_undef rfl rfl rfl (show a'.tmps[80]?.getD undef = undef from (hI.at (k := 22) (j := 22) hsz rfl (by omega) (hall ⟨22, .guard⟩ (by simp) rfl)).eq (by decide))) ?_
        exact hI.put (i := 24) (j := 24) rfl (by omega) (fun _ _ h => h) (VV.of (by decide) rfl) hI.cw
      | true =>
        cases b4 with
        | false =>
          refine wpOp_let rfl ((wanted_at (c := false) rfl rfl rfl (show a'.tmps[80]?.getD undef = .bool false from (hI.at (k := 22) (j := 22) hsz rfl (by omega) (hall ⟨22, .guard⟩ (by simp) rfl)).eq (by decide))).trans rfl) ?_
          simp [Oper.wp, go_sem, o13]
          exact hI.put (i := 24) (j := 24) rfl (by omega) (fun _ _ h => h) (VV.of (by decide) rfl) hI.cw
        | true =>
          refine wpOp_left rfl ((wanted_at (c := true) rfl rfl rfl (show a'.tmps[80]?.getD undef = .bool true from (hI.at (k := 22) (j := 22) hsz rfl (by omega) (hall ⟨22, .guard⟩ (by simp) rfl)).eq (by decide))).trans rfl) ?_
          exact hI.put (i := 24) (j := 24) rfl (by omega) (fun _ _ h => h) (VV.of (by decide) rfl) hI.cw
    · cases b3 with
      | false =>
        refine wpOp_left rfl (wanted_undef rfl rfl rfl (show a'.tmps[80]?.getD undef = undef from (hI.at (k := 22) (j := 22) hsz rfl (by omega) (hall ⟨22, .guard⟩ (by simp) rfl)).eq (by decide))) ?_
        exact hI.put (i := 25) (j := 25) rfl (by omega) (fun _ _ h => h) (VV.of (by decide) rfl) hI.cw
      | true =>
        cases b4 with
        | false =>
          refine wpOp_let rfl ((wanted_at (c := false) rfl rfl rfl (show a'.tmps[80]?.getD undef = .bool false from (hI.at (k := 22) (j := 22) hsz rfl (by omega) (hall ⟨22, .guard⟩ (by simp) rfl)).eq (by decide))).trans rfl) ?_
          have e23 : a'.tmps[81]?.getD undef = .slice (some ⟨g2, 0, none⟩) 12 c2 := (hI.at (k := 23) (j := 23) hsz rfl (by omega) (hall ⟨23, .data⟩ (by simp) rfl)).eq (by decide)
          have e24 : a'.tmps[82]?.getD undef = .int .i64 j := (hI.at (k := 24) (j := 24) hsz rfl (by omega) (hall ⟨24, .data⟩ (by simp) rfl)).eq (by decide)
          simp [Oper.wp, go_sem, e23, e24, hj12]
          exact hI.put (i := 25) (j := 25) rfl (by omega) (fun _ _ h => h) (VV.of (by decide) rfl) hI.cw
        | true =>
          refine wpOp_left rfl ((wanted_at (c := true) rfl rfl rfl (show a'.tmps[80]?.getD undef = .bool true from (hI.at (k := 22) (j := 22) hsz rfl (by omega) (hall ⟨22, .guard⟩ (by simp) rfl)).eq (by decide))).trans rfl) ?_
          exact hI.put (i := 25) (j := 25) rfl (by omega) (fun _ _ h => h) (VV.of (by decide) rfl) hI.cw
    · cases b3 with
      | false =>
        refine wpOp_left rfl (wanted_undef rfl rfl rfl (show a'.tmps[80]?.getD undef = undef from (hI.at (k := 22) (j := 22) hsz rfl (by omega) (hall ⟨22, .guard⟩ (by simp) rfl)).eq (by decide))) ?_
        exact hI.put (i := 26) (j := 26) rfl (by omega) (fun _ _ h => h) (VV.of (by decide) rfl) hI.cw
      | true =>
        cases b4 with
        | false =>
          refine wpOp_let rfl ((wanted_at (c := false) rfl rfl rfl (show a'.tmps[80]?.getD undef = .bool false from (hI.at (k := 22) (j := 22) hsz rfl (by omega) (hall ⟨22, .guard⟩ (by simp) rfl)).eq (by decide))).trans rfl) ?_
          have e25 : a'.tmps[83]?.getD undef = .pointer (some ⟨g2, j * 2, none⟩) := (hI.at (k := 25) (j := 25) hsz rfl (by omega) (hall ⟨25, .data⟩ (by simp) rfl)).eq (by decide)
          simp [Oper.wp, go_sem, e25]
          exact hI.put (i := 26) (j := 26) rfl (by omega) (fun _ _ h => h) (VV.of (by decide) rfl) hI.cw
        | true =>
          refine wpOp_left rfl ((wanted_at (c := true) rfl rfl rfl (show a'.tmps[80]?.getD undef = .bool true from (hI.at (k := 22) (j := 22) hsz rfl (by omega) (hall ⟨22, .guard⟩ (by simp) rfl)).eq (by decide))).trans rfl) ?_
          exact hI.put (i := 26) (j := 26) rfl (by omega) (fun _ _ h => h) (VV.of (by decide) rfl) hI.cw
    · cases b3 with
      | false =>
        refine wpOp_left rfl (wanted_undef rfl rfl rfl (show a'.tmps[80]?.getD undef = undef from (hI.at (k := 22) (j := 22) hsz rfl (by omega) (hall ⟨22, .guard⟩ (by simp) rfl)).eq (by decide))) ?_
        exact hI.put (i := 27) (j := 27) rfl (by omega) (fun _ _ h => h) (VV.of (by decide) rfl) hI.cw
      | true =>
        cases b4 with
        | false =>
          refine wpOp_let rfl ((wanted_at (c := false) rfl rfl rfl (show a'.tmps[80]?.getD undef = .bool false from (hI.at (k := 22) (j := 22) hsz rfl (by omega) (hall ⟨22, .guard⟩ (by simp) rfl)).eq (by decide))).trans rfl) ?_
          have e26 : a'.tmps[84]?.getD undef = .pointer (some ⟨g2, j * 2, none⟩) := (hI.at (k := 26) (j := 26) hsz rfl (by omega) (hall ⟨26, .data⟩ (by simp) rfl)).eq (by decide)
          simp [Oper.wp, go_sem, e26, z0]
          exact hI.put (i := 27) (j := 27) rfl (by omega) (fun _ _ h => h) (VV.of (by decide) rfl) hI.cw
        | true =>
          refine wpOp_left rfl ((wanted_at (c := true) rfl rfl rfl (show a'.tmps[80]?.getD undef = .bool true from (hI.at (k := 22) (j := 22) hsz rfl (by omega) (hall ⟨22, .guard⟩ (by simp) rfl)).eq (by decide))).trans rfl) ?_
          exact hI.put (i := 27) (j := 27) rfl (by omega) (fun _ _ h => h) (VV.of (by decide) rfl) hI.cw
    · cases b3 with
      | false =>
        refine wpOp_left rfl (wanted_undef rfl rfl rfl (show a'.tmps[80]?.getD undef = undef from (hI.at (k := 22) (j := 22) hsz rfl (by omega) (hall ⟨22, .guard⟩ (by simp) rfl)).eq (by decide))) ?_
        exact hI.put (i := 28) (j := 28) rfl (by omega) (fun _ _ h => h) (VV.of (by decide) rfl) hI.cw
      | true =>
        cases b4 with
        | false =>
          refine wpOp_let rfl ((wanted_at (c := false) rfl rfl rfl (show a'.tmps[80]?.getD undef = .bool false from (hI.at (k := 22) (j := 22) hsz rfl (by omega) (hall ⟨22, .guard⟩ (by simp) rfl)).eq (by decide))).trans rfl) ?_
          simp [Oper.wp, go_sem, o12]
          exact hI.put (i := 28) (j := 28) rfl (by omega) (fun _ _ h => h) (VV.of (by decide) rfl) hI.cw
        | true =>
          refine wpOp_left rfl ((wanted_at (c := true) rfl rfl rfl (show a'.tmps[80]?.getD undef = .bool true from (hI.at (k := 22) (j := 22) hsz rfl (by omega) (hall ⟨22, .guard⟩ (by simp) rfl)).eq (by decide))).trans rfl) ?_
          exact hI.put (i := 28) (j := 28) rfl (by omega) (fun _ _ h => h) (VV.of (by decide) rfl) hI.cw
    · cases b3 with
      | false =>
        refine wpOp_left rfl (wanted_undef rfl rfl rfl (show a'.tmps[80]?.getD undef = undef from (hI.at (k := 22) (j := 22) hsz rfl (by omega) (hall ⟨22, .guard⟩ (by simp) rfl)).eq (by decide))) ?_
        exact hI.put (i := 29) (j := 29) rfl (by omega) (fun _ _ h => h) (VV.of (by decide) rfl) hI.cw
      | true =>
        cases b4 with
        | false =>
          refine wpOp_let rfl ((wanted_at (c := false) rfl rfl rfl (show a'.tmps[80]?.getD undef = .bool false from (hI.at (k := 22) (j := 22) hsz rfl (by omega) (hall ⟨22, .guard⟩ (by simp) rfl)).eq (by decide))).trans rfl) ?_
          have e28 : a'.tmps[86]?.getD undef = .pointer (some ⟨rb, 3, none⟩) := (hI.at (k := 28) (j := 28) hsz rfl (by omega) (hall ⟨28, .data⟩ (by simp) rfl)).eq (by decide)
          simp [Oper.wp, go_sem, e28, r3]
          exact hI.put (i := 29) (j := 29) rfl (by omega) (fun _ _ h => h) (VV.of (by decide) rfl) hI.cw
        | true =>
          refine wpOp_left rfl ((wanted_at (c := true) rfl rfl rfl (show a'.tmps[80]?.getD undef = .bool true from (hI.at (k := 22) (j := 22) hsz rfl (by omega) (hall ⟨22, .guard⟩ (by simp) rfl)).eq (by decide))).trans rfl) ?_
          exact hI.put (i := 29) (j := 29) rfl (by omega) (fun _ _ h => h) (VV.of (by decide) rfl) hI.cw
    · cases b3 with
      | false =>
        refine wpOp_left rfl (wanted_undef rfl rfl rfl (show a'.tmps[80]?.getD undef = undef from (hI.at (k := 22) (j := 22) hsz rfl (by omega) (hall ⟨22, .guard⟩ (by simp) rfl)).eq (by decide))) ?_
        exact hI.put (i := 30) (j := 30) rfl (by omega) (fun _ _ h => h) (VV.of (by decide) rfl) hI.cw
      | true =>
        cases b4 with
        | false =>
          refine wpOp_let rfl ((wanted_at (c := false) rfl rfl rfl (show a'.tmps[80]?.getD undef = .bool false from (hI.at (k := 22) (j := 22) hsz rfl (by omega) (hall ⟨22, .guard⟩ (by simp) rfl)).eq (by decide))).trans rfl) ?_
          have e27 : a'.tmps[85]?.getD undef = .int .i64 c := (hI.at (k := 27) (j := 27) hsz rfl (by omega) (hall ⟨27, .data⟩ (by simp) rfl)).eq (by decide)
          have e29 : a'.tmps[87]?.getD undef = .int .i64 mm := (hI.at (k := 29) (j := 29) hsz rfl (by omega) (hall ⟨29, .data⟩ (by simp) rfl)).eq (by decide)
          simp [Oper.wp, go_sem, e27, e29, hb5]
          exact hI.put (i := 30) (j := 30) rfl (by omega) (fun _ _ h => h) (VV.of (by decide) rfl) hI.cw
        | true =>
          refine wpOp_left rfl ((wanted_at (c := true) rfl rfl rfl (show a'.tmps[80]?.getD undef = .bool true from (hI.at (k := 22) (j := 22) hsz rfl (by omega) (hall ⟨22, .guard⟩ (by simp) rfl)).eq (by decide))).trans rfl) ?_
          exact hI.put (i := 30) (j := 30) rfl (by omega) (fun _ _ h => h) (VV.of (by decide) rfl) hI.cw
    · cases b3 with
      | false =>
        refine wpOp_left rfl ((wanted_at (c := false) rfl rfl rfl (show a'.tmps[76]?.getD undef = .bool false from (hI.at (k := 18) (j := 18) hsz rfl (by omega) (hall ⟨18, .guard⟩ (by simp) rfl)).eq (by decide))).trans rfl) ?_
        exact hI.put (i := 31) (j := 31) rfl (by omega) (fun _ _ h => h) (VV.of (by decide) rfl) hI.cw
      | true =>
        refine wpOp_let rfl ((wanted_at (c := true) rfl rfl rfl (show a'.tmps[76]?.getD undef = .bool true from (hI.at (k := 18) (j := 18) hsz rfl (by omega) (hall ⟨18, .guard⟩ (by simp) rfl)).eq (by decide))).trans rfl) ?_
        cases b4 with
        | false =>
          have e22 : a'.tmps[80]?.getD undef = .bool false := (hI.at (k := 22) (j := 22) hsz rfl (by omega) (hall ⟨22, .data⟩ (by simp) rfl)).eq (by decide)
          have e30 : a'.tmps[88]?.getD undef = .bool b5 := (hI.at (k := 30) (j := 30) hsz rfl (by omega) (hall ⟨30, .data⟩ (by simp) rfl)).eq (by decide)
          simp [Oper.wp, go_sem, e22, e30]
          exact hI.put (i := 31) (j := 31) rfl (by omega) (fun _ _ h => h) (VV.of (by decide) rfl) hI.cw
        | true =>
          have e22 : a'.tmps[80]?.getD undef = .bool true := (hI.at (k := 22) (j := 22) hsz rfl (by omega) (hall ⟨22, .data⟩ (by simp) rfl)).eq (by decide)
          simp [Oper.wp, go_sem, e22]
          exact hI.put (i := 31) (j := 31) rfl (by omega) (fun _ _ h => h) (VV.of (by decide) rfl) hI.cw
    · cases b3 with
      | false =>
        refine wpOp_of rfl rfl ?_
        have e18 : a'.tmps[76]?.getD undef = .bool false := (hI.at (k := 18) (j := 18) hsz rfl (by omega) (hall ⟨18, .data⟩ (by simp) rfl)).eq (by decide)
        simp [Oper.wp, go_sem, e18]
        exact hI.put (i := 32) (j := 32) rfl (by omega) (fun _ _ h => h) (VV.of (by decide) rfl) hI.cw
      | true =>
        refine wpOp_of rfl rfl ?_
        have e18 : a'.tmps[76]?.getD undef = .bool true := (hI.at (k := 18) (j := 18) hsz rfl (by omega) (hall ⟨18, .data⟩ (by simp) rfl)).eq (by decide)
        have e31 : a'.tmps[89]?.getD undef = .bool (b4 || b5) := (hI.at (k := 31) (j := 31) hsz rfl (by omega) (hall ⟨31, .data⟩ (by simp) rfl)).eq (by decide)
        simp [Oper.wp, go_sem, e18, e31]
        exact hI.put (i := 32) (j := 32) rfl (by omega) (fun _ _ h => h) (VV.of (by decide) rfl) hI.cw
  · rintro listed a' W hr hI
    have hal := all_listed (by decide +kernel) hI.ls hr
    obtain ⟨xs, hxl, rfl, hf⟩ := hI.fr
    exact hQ xs W hxl ((hf 32 32 rfl (hal 32 (by decide))).eq (by decide)) hI.cw
  · exact RInv.start hsz (Below.refl _ _).drew
end Go.Proofs.YtpaobnhcbeklfaaGreatDoor
/-
  The document's table (TableOf): a region that draws its order, with calls whose answers lie in new memory (written by tools/gen_tof.py).
-/
namespace Go.Proofs.YtpaobnhcbeklfaaGreatDoor
open Go.RowKit
set_option maxRecDepth 20000

set_option maxHeartbeats 8000000 in
theorem tof28 {Q : Exit → Act → World → Prop} {a0 : Act} {wj : World} {a : Option Addr} {len cap : Nat} {es : List Pl.Ent} {n k b pb : Nat} {j g2 c2 rb hh hl ch : Nat} {ah : Option Addr} {mm : Int} {b3 b4 : Bool}
    (h157 : a0.tmps.size = 157)
    (q0 : a0.tmps[0]?.getD undef = .slice a len cap)
    (q1 : a0.tmps[1]?.getD undef = .int .i64 n)
    (q6 : a0.tmps[6]?.getD undef = .slice (some ⟨g2, 0, none⟩) 12 c2)
    (q11 : a0.tmps[11]?.getD undef = .pointer (some ⟨pb, 0, none⟩))
    (q12 : a0.tmps[12]?.getD undef = .pointer (some ⟨rb, 0, none⟩))
    (q14 : a0.tmps[14]?.getD undef = .int .i64 hh)
    (q15 : a0.tmps[15]?.getD undef = .bool false)
    (q16 : a0.tmps[16]?.getD undef = .int .i64 j)
    (HE : IsEnts wj a len cap es)
    (HFT : Pl.fault es = 0)
    (hpl : pb < wj.heap.size)
    (hg2 : g2 < wj.heap.size)
    (hrb : rb < wj.heap.size)
    (P0 : wj.cell? ⟨pb, 0, none⟩ = some (.int .i64 k))
    (P1 : wj.cell? ⟨pb, 1, none⟩ = some (.int .i64 b))
    (R3 : wj.cell? ⟨rb, 3, none⟩ = some (.int .i64 mm))
    (hj12 : (j : Int) < 12)
    (hjn : ((j : Int) != (n : Int)) = true)
    (Z0 : wj.cell? ⟨g2, j * 2, none⟩ = some (.int .i64 mm))
    (Z1 : wj.cell? ⟨g2, j * 2 + 1, none⟩ = some (.slice ah hl ch))
    (HHI : IsInts wj ah hl ch (Pl.wH es n j))
    (HB3 : decide (((k : Int), (b : Int)) ∈ Pl.tP es j) = b3)
    (HB4 : decide ((hh : Int) ∈ Pl.wH es n j) = b4)
    (hQ : ∀ xs W, xs.length = 32 → True → Below wj.heap.size wj W → Q .normal { a0 with tmps := setFrom (a0.tmps.setIfInBounds 15 (.bool (b3 && b4))) 110 xs } W) :
    ∀ ops, regIn Tryz.f5 28 = some ops → (Code.region 28 ops true).wp Tryz.prog Q a0 wj := by
  intro ops hops
  have eo := Option.some.inj (hops.symm.trans (rfl : regIn Tryz.f5 28 = some _))
  subst eo
  clear hops
  have hsz : 110 + 32 ≤ a0.tmps.size := by omega
  refine wp_region_any (by kernel_rfl) ?_
  refine wpAny_inv2 (RInv2 a0 110 32 33 15 32 (fun k => if k = 32 then none else some k) (VV 38 wj.heap.size (Pl.tP es j) 18 true [.bool false, .bool false, .int .i64 j, .int .i64 n, .bool true, .bool true, .slice (some ⟨g2, 0, none⟩) 12 c2, .int .i64 j, .pointer (some ⟨g2, j * 2, none⟩), .pointer (some ⟨g2, j * 2, none⟩), .int .i64 mm, .pointer (some ⟨rb, 3, none⟩), .int .i64 mm, .bool true, .bool true, .bool true, .slice a len cap, .int .i64 j, undef, .agg #[.int .i64 k, .int .i64 b], .bool b3, .bool b3, .bool b3, cond b3 (.slice (some ⟨g2, 0, none⟩) 12 c2) undef, cond b3 (.int .i64 j) undef, cond b3 (.pointer (some ⟨g2, j * 2, none⟩)) undef, cond b3 (.pointer (some ⟨g2, j * 2 + 1, none⟩)) undef, cond b3 (.slice ah hl ch) undef, cond b3 (.int .i64 hh) undef, cond b3 (.bool b4) undef, .bool (b3 && b4), .bool (b3 && b4)]) (.bool (b3 && b4)) (fun W => Below wj.heap.size wj W)) ?_ ?_ _ _ _ _ (by decide +kernel) ?_ (closed_start _ _ _)
  · rintro i listed a' W hi hCl hI
    rw [mem_ready] at hi
    obtain ⟨hl0, o, ho, hall⟩ := hi
    have hlti : i < 33 := (Array.getElem?_eq_some_iff.1 ho).1
    have o0 := (hI.out (k := 0) (by omega) (by decide)).trans q0
    have o1 := (hI.out (k := 1) (by omega) (by decide)).trans q1
    have o6 := (hI.out (k := 6) (by omega) (by decide)).trans q6
    have o11 := (hI.out (k := 11) (by omega) (by decide)).trans q11
    have o12 := (hI.out (k := 12) (by omega) (by decide)).trans q12
    have o14 := (hI.out (k := 14) (by omega) (by decide)).trans q14
    have o16 := (hI.out (k := 16) (by omega) (by decide)).trans q16
    have p0 := (hI.cw.cell (p := ⟨pb, 0, none⟩) hpl).trans P0
    have p1 := (hI.cw.cell (p := ⟨pb, 1, none⟩) hpl).trans P1
    have z0 := (hI.cw.cell (p := ⟨g2, j * 2, none⟩) hg2).trans Z0
    have r3 := (hI.cw.cell (p := ⟨rb, 3, none⟩) hrb).trans R3
    have z1 := (hI.cw.cell (p := ⟨g2, j * 2 + 1, none⟩) hg2).trans Z1
    have hcs : i = 0 ∨ i = 1 ∨ i = 2 ∨ i = 3 ∨ i = 4 ∨ i = 5 ∨ i = 6 ∨ i = 7 ∨ i = 8 ∨ i = 9 ∨ i = 10 ∨ i = 11 ∨ i = 12 ∨ i = 13 ∨ i = 14 ∨ i = 15 ∨ i = 16 ∨ i = 17 ∨ i = 18 ∨ i = 19 ∨ i = 20 ∨ i = 21 ∨ i = 22 ∨ i = 23 ∨ i = 24 ∨ i = 25 ∨ i = 26 ∨ i = 27 ∨ i = 28 ∨ i = 29 ∨ i = 30 ∨ i = 31 ∨ i = 32 := by omega
    rcases hcs with rfl | rfl | rfl | rfl | rfl | rfl | rfl | rfl | rfl | rfl | rfl | rfl | rfl | rfl | rfl | rfl | rfl | rfl | rfl | rfl | rfl | rfl | rfl | rfl | rfl | rfl | rfl | rfl | rfl | rfl | rfl | rfl | rfl
    all_goals
      simp at ho
      subst ho
    · refine wpOp_of rfl rfl ?_
      have h32 : listed.getD 32 false = false := by
        cases h : listed.getD 32 false with
        | false => rfl
        | true =>
          exfalso
          have e0 := hCl 32 _ rfl h ⟨0, .phase⟩ (by simp) rfl
          have hlt0 : 0 < listed.size := by rw [hI.ls]; omega
          simp [hlt0] at hl0 e0
          rw [hl0] at e0
          cases e0
      have o15 := (hI.outT (by omega) (by omega) h32).trans q15
      simp [Oper.wp, go_sem, o15]
      exact hI.put (i := 0) (j := 0) rfl (by omega) (by decide) (fun _ _ h => h) (VV.of (by decide) rfl) hI.cw
    · refine wpOp_of rfl rfl ?_
      have e0 : a'.tmps[110]?.getD undef = .bool false := (hI.at (k := 0) (j := 0) hsz rfl (by omega) (hall ⟨0, .data⟩ (by simp) rfl)).eq (by decide)
      simp [Oper.wp, go_sem, e0]
      exact hI.put (i := 1) (j := 1) rfl (by omega) (by decide) (fun _ _ h => h) (VV.of (by decide) rfl) hI.cw
    · refine wpOp_let rfl ((wanted_at (c := false) rfl rfl rfl (show a'.tmps[111]?.getD undef = .bool false from (hI.at (k := 1) (j := 1) hsz rfl (by omega) (hall ⟨1, .guard⟩ (by simp) rfl)).eq (by decide))).trans rfl) ?_
      simp [Oper.wp, go_sem, o16]
      exact hI.put (i := 2) (j := 2) rfl (by omega) (by decide) (fun _ _ h => h) (VV.of (by decide) rfl) hI.cw
    · refine wpOp_let rfl ((wanted_at (c := false) rfl rfl rfl (show a'.tmps[111]?.getD undef = .bool false from (hI.at (k := 1) (j := 1) hsz rfl (by omega) (hall ⟨1, .guard⟩ (by simp) rfl)).eq (by decide))).trans rfl) ?_
      simp [Oper.wp, go_sem, o1]
      exact hI.put (i := 3) (j := 3) rfl (by omega) (by decide) (fun _ _ h => h) (VV.of (by decide) rfl) hI.cw
    · refine wpOp_let rfl ((wanted_at (c := false) rfl rfl rfl (show a'.tmps[111]?.getD undef = .bool false from (hI.at (k := 1) (j := 1) hsz rfl (by omega) (hall ⟨1, .guard⟩ (by simp) rfl)).eq (by decide))).trans rfl) ?_
      have e2 : a'.tmps[112]?.getD undef = .int .i64 j := (hI.at (k := 2) (j := 2) hsz rfl (by omega) (hall ⟨2, .data⟩ (by simp) rfl)).eq (by decide)
      have e3 : a'.tmps[113]?.getD undef = .int .i64 n := (hI.at (k := 3) (j := 3) hsz rfl (by omega) (hall ⟨3, .data⟩ (by simp) rfl)).eq (by decide)
      simp [Oper.wp, go_sem, e2, e3, hjn]
      exact hI.put (i := 4) (j := 4) rfl (by omega) (by decide) (fun _ _ h => h) (VV.of (by decide) rfl) hI.cw
    · refine wpOp_let rfl ((wanted_at (c := false) rfl rfl rfl (show a'.tmps[111]?.getD undef = .bool false from (hI.at (k := 1) (j := 1) hsz rfl (by omega) (hall ⟨1, .guard⟩ (by simp) rfl)).eq (by decide))).trans rfl) ?_
      have e4 : a'.tmps[114]?.getD undef = .bool true := (hI.at (k := 4) (j := 4) hsz rfl (by omega) (hall ⟨4, .data⟩ (by simp) rfl)).eq (by decide)
      simp [Oper.wp, go_sem, e4]
      exact hI.put (i := 5) (j := 5) rfl (by omega) (by decide) (fun _ _ h => h) (VV.of (by decide) rfl) hI.cw
    · refine wpOp_let rfl ((wanted_at (c := true) rfl rfl rfl (show a'.tmps[115]?.getD undef = .bool true from (hI.at (k := 5) (j := 5) hsz rfl (by omega) (hall ⟨5, .guard⟩ (by simp) rfl)).eq (by decide))).trans rfl) ?_
      simp [Oper.wp, go_sem, o6]
      exact hI.put (i := 6) (j := 6) rfl (by omega) (by decide) (fun _ _ h => h) (VV.of (by decide) rfl) hI.cw
    · refine wpOp_let rfl ((wanted_at (c := true) rfl rfl rfl (show a'.tmps[115]?.getD undef = .bool true from (hI.at (k := 5) (j := 5) hsz rfl (by omega) (hall ⟨5, .guard⟩ (by simp) rfl)).eq (by decide))).trans rfl) ?_
      simp [Oper.wp, go_sem, o16]
      exact hI.put (i := 7) (j := 7) rfl (by omega) (by decide) (fun _ _ h => h) (VV.of (by decide) rfl) hI.cw
    · refine wpOp_let rfl ((wanted_at (c := true) rfl rfl rfl (show a'.tmps[115]?.getD undef = .bool true from (hI.at (k := 5) (j := 5) hsz rfl (by omega) (hall ⟨5, .guard⟩ (by simp) rfl)).eq (by decide))).trans rfl) ?_
      have e6 : a'.tmps[116]?.getD undef = .slice (some ⟨g2, 0, none⟩) 12 c2 := (hI.at (k := 6) (j := 6) hsz rfl (by omega) (hall ⟨6, .data⟩ (by simp) rfl)).eq (by decide)
      have e7 : a'.tmps[117]?.getD undef = .int .i64 j := (hI.at (k := 7) (j := 7) hsz rfl (by omega) (hall ⟨7, .data⟩ (by simp) rfl)).eq (by decide)
      simp [Oper.wp, go_sem, e6, e7, hj12]
      exact hI.put (i := 8) (j := 8) rfl (by omega) (by decide) (fun _ _ h => h) (VV.of (by decide) rfl) hI.cw
    · refine wpOp_let rfl ((wanted_at (c := true) rfl rfl rfl (show a'.tmps[115]?.getD undef = .bool true from (hI.at (k := 5) (j := 5) hsz rfl (by omega) (hall ⟨5, .guard⟩ (by simp) rfl)).eq (by decide))).trans rfl) ?_
      have e8 : a'.tmps[118]?.getD undef = .pointer (some ⟨g2, j * 2, none⟩) := (hI.at (k := 8) (j := 8) hsz rfl (by omega) (hall ⟨8, .data⟩ (by simp) rfl)).eq (by decide)
      simp [Oper.wp, go_sem, e8]
      exact hI.put (i := 9) (j := 9) rfl (by omega) (by decide) (fun _ _ h => h) (VV.of (by decide) rfl) hI.cw
    · refine wpOp_let rfl ((wanted_at (c := true) rfl rfl rfl (show a'.tmps[115]?.getD undef = .bool true from (hI.at (k := 5) (j := 5) hsz rfl (by omega) (hall ⟨5, .guard⟩ (by simp) rfl)).eq (by decide))).trans rfl) ?_
      have e9 : a'.tmps[119]?.getD undef = .pointer (some ⟨g2, j * 2, none⟩) := (hI.at (k := 9) (j := 9) hsz rfl (by omega) (hall ⟨9, .data⟩ (by simp) rfl)).eq (by decide)
      simp [Oper.wp, go_sem, e9, z0]
      exact hI.put (i := 10) (j := 10) rfl (by omega) (by decide) (fun _ _ h => h) (VV.of (by decide) rfl) hI.cw
    · refine wpOp_let rfl ((wanted_at (c := true) rfl rfl rfl (show a'.tmps[115]?.getD undef = .bool true from (hI.at (k := 5) (j := 5) hsz rfl (by omega) (hall ⟨5, .guard⟩ (by simp) rfl)).eq (by decide))).trans rfl) ?_
      simp [Oper.wp, go_sem, o12]
      exact hI.put (i := 11) (j := 11) rfl (by omega) (by decide) (fun _ _ h => h) (VV.of (by decide) rfl) hI.cw
    · refine wpOp_let rfl ((wanted_at (c := true) rfl rfl rfl (show a'.tmps[115]?.getD undef = .bool true from (hI.at (k := 5) (j := 5) hsz rfl (by omega) (hall ⟨5, .guard⟩ (by simp) rfl)).eq (by decide))).trans rfl) ?_
      have e11 : a'.tmps[121]?.getD undef = .pointer (some ⟨rb, 3, none⟩) := (hI.at (k := 11) (j := 11) hsz rfl (by omega) (hall ⟨11, .data⟩ (by simp) rfl)).eq (by decide)
      simp [Oper.wp, go_sem, e11, r3]
      exact hI.put (i := 12) (j := 12) rfl (by omega) (by decide) (fun _ _ h => h) (VV.of (by decide) rfl) hI.cw
    · refine wpOp_let rfl ((wanted_at (c := true) rfl rfl rfl (show a'.tmps[115]?.getD undef = .bool true from (hI.at (k := 5) (j := 5) hsz rfl (by omega) (hall ⟨5, .guard⟩ (by simp) rfl)).eq (by decide))).trans rfl) ?_
      have e10 : a'.tmps[120]?.getD undef = .int .i64 mm := (hI.at (k := 10) (j := 10) hsz rfl (by omega) (hall ⟨10, .data⟩ (by simp) rfl)).eq (by decide)
      have e12 : a'.tmps[122]?.getD undef = .int .i64 mm := (hI.at (k := 12) (j := 12) hsz rfl (by omega) (hall ⟨12, .data⟩ (by simp) rfl)).eq (by decide)
      simp [Oper.wp, go_sem, e10, e12]
      exact hI.put (i := 13) (j := 13) rfl (by omega) (by decide) (fun _ _ h => h) (VV.of (by decide) rfl) hI.cw
    · refine wpOp_let rfl ((wanted_at (c := false) rfl rfl rfl (show a'.tmps[111]?.getD undef = .bool false from (hI.at (k := 1) (j := 1) hsz rfl (by omega) (hall ⟨1, .guard⟩ (by simp) rfl)).eq (by decide))).trans rfl) ?_
      have e5 : a'.tmps[115]?.getD undef = .bool true := (hI.at (k := 5) (j := 5) hsz rfl (by omega) (hall ⟨5, .data⟩ (by simp) rfl)).eq (by decide)
      have e13 : a'.tmps[123]?.getD undef = .bool true := (hI.at (k := 13) (j := 13) hsz rfl (by omega) (hall ⟨13, .data⟩ (by simp) rfl)).eq (by decide)
      simp [Oper.wp, go_sem, e5, e13]
      exact hI.put (i := 14) (j := 14) rfl (by omega) (by decide) (fun _ _ h => h) (VV.of (by decide) rfl) hI.cw
    · refine wpOp_let rfl ((wanted_at (c := false) rfl rfl rfl (show a'.tmps[111]?.getD undef = .bool false from (hI.at (k := 1) (j := 1) hsz rfl (by omega) (hall ⟨1, .guard⟩ (by simp) rfl)).eq (by decide))).trans rfl) ?_
      have e14 : a'.tmps[124]?.getD undef = .bool true := (hI.at (k := 14) (j := 14) hsz rfl (by omega) (hall ⟨14, .data⟩ (by simp) rfl)).eq (by decide)
      simp [Oper.wp, go_sem, e14]
      exact hI.put (i := 15) (j := 15) rfl (by omega) (by decide) (fun _ _ h => h) (VV.of (by decide) rfl) hI.cw
    · refine wpOp_let rfl ((wanted_at (c := true) rfl rfl rfl (show a'.tmps[125]?.getD undef = .bool true from (hI.at (k := 15) (j := 15) hsz rfl (by omega) (hall ⟨15, .guard⟩ (by simp) rfl)).eq (by decide))).trans rfl) ?_
      simp [Oper.wp, go_sem, o0]
      exact hI.put (i := 16) (j := 16) rfl (by omega) (by decide) (fun _ _ h => h) (VV.of (by decide) rfl) hI.cw
    · refine wpOp_let rfl ((wanted_at (c := true) rfl rfl rfl (show a'.tmps[125]?.getD undef = .bool true from (hI.at (k := 15) (j := 15) hsz rfl (by omega) (hall ⟨15, .guard⟩ (by simp) rfl)).eq (by decide))).trans rfl) ?_
      simp [Oper.wp, go_sem, o16]
      exact hI.put (i := 17) (j := 17) rfl (by omega) (by decide) (fun _ _ h => h) (VV.of (by decide) rfl) hI.cw
    · refine wpOp_let rfl ((wanted_at (c := true) rfl rfl rfl (show a'.tmps[125]?.getD undef = .bool true from (hI.at (k := 15) (j := 15) hsz rfl (by omega) (hall ⟨15, .guard⟩ (by simp) rfl)).eq (by decide))).trans rfl) ?_
      have e16 : a'.tmps[126]?.getD undef = .slice a len cap := (hI.at (k := 16) (j := 16) hsz rfl (by omega) (hall ⟨16, .data⟩ (by simp) rfl)).eq (by decide)
      have e17 : a'.tmps[127]?.getD undef = .int .i64 j := (hI.at (k := 17) (j := 17) hsz rfl (by omega) (hall ⟨17, .data⟩ (by simp) rfl)).eq (by decide)
      simp [Oper.wp, go_sem, e16, e17]
      refine (PrefixesIn_any a len cap es j W (HE.below hI.cw) HFT (by omega)).mono ?_
      rintro e W' ⟨vl, rfl, ho', hb'⟩
      exact hI.put (i := 18) (j := 18) rfl (by omega) (by decide) (VV.grow hb') (VV.own rfl (ho'.mono hI.cw.size)) (hI.cw.trans (hb'.mono hI.cw.size))
    · refine wpOp_let rfl ((wanted_at (c := true) rfl rfl rfl (show a'.tmps[125]?.getD undef = .bool true from (hI.at (k := 15) (j := 15) hsz rfl (by omega) (hall ⟨15, .guard⟩ (by simp) rfl)).eq (by decide))).trans rfl) ?_
      simp [Oper.wp, go_sem, o11, p0, p1]
      exact hI.put (i := 19) (j := 19) rfl (by omega) (by decide) (fun _ _ h => h) (VV.of (by decide) rfl) hI.cw
    · refine wpOp_let rfl ((wanted_at (c := true) rfl rfl rfl (show a'.tmps[125]?.getD undef = .bool true from (hI.at (k := 15) (j := 15) hsz rfl (by omega) (hall ⟨15, .guard⟩ (by simp) rfl)).eq (by decide))).trans rfl) ?_
      have e19 : a'.tmps[129]?.getD undef = .agg #[.int .i64 k, .int .i64 b] := (hI.at (k := 19) (j := 19) hsz rfl (by omega) (hall ⟨19, .data⟩ (by simp) rfl)).eq (by decide)
      have hP := (hI.at (k := 18) (j := 18) hsz rfl (by omega) (hall ⟨18, .data⟩ (by simp) rfl)).1 rfl rfl
      obtain ⟨pa, pc, ev, hpp, _⟩ := hP.shape (fun p hp => Pl.tP_ok hp)
      have ev : a'.tmps[128]?.getD undef = .slice pa (Pl.tP es j).length pc := ev
      simp [Oper.wp, go_sem, ev, e19]
      refine (hasPrefix_any pa _ pc (Pl.tP es j) k b W hpp).mono ?_
      rintro e W' ⟨rfl, hb'⟩
      rw [HB3]
      exact hI.put (i := 20) (j := 20) rfl (by omega) (by decide) (VV.grow hb') (VV.of (by decide) rfl) (hI.cw.trans (hb'.mono hI.cw.size))
    · refine wpOp_let rfl ((wanted_at (c := false) rfl rfl rfl (show a'.tmps[111]?.getD undef = .bool false from (hI.at (k := 1) (j := 1) hsz rfl (by omega) (hall ⟨1, .guard⟩ (by simp) rfl)).eq (by decide))).trans rfl) ?_
      have e15 : a'.tmps[125]?.getD undef = .bool true := (hI.at (k := 15) (j := 15) hsz rfl (by omega) (hall ⟨15, .data⟩ (by simp) rfl)).eq (by decide)
      have e20 : a'.tmps[130]?.getD undef = .bool b3 := (hI.at (k := 20) (j := 20) hsz rfl (by omega) (hall ⟨20, .data⟩ (by simp) rfl)).eq (by decide)
      simp [Oper.wp, go_sem, e15, e20]
      exact hI.put (i := 21) (j := 21) rfl (by omega) (by decide) (fun _ _ h => h) (VV.of (by decide) rfl) hI.cw
    · refine wpOp_let rfl ((wanted_at (c := false) rfl rfl rfl (show a'.tmps[111]?.getD undef = .bool false from (hI.at (k := 1) (j := 1) hsz rfl (by omega) (hall ⟨1, .guard⟩ (by simp) rfl)).eq (by decide))).trans rfl) ?_
      have e21 : a'.tmps[131]?.getD undef = .bool b3 := (hI.at (k := 21) (j := 21) hsz rfl (by omega) (hall ⟨21, .data⟩ (by simp) rfl)).eq (by decide)
      simp [Oper.wp, go_sem, e21]
      exact hI.put (i := 22) (j := 22) rfl (by omega) (by decide) (fun _ _ h => h) (VV.of (by decide) rfl) hI.cw
    · cases b3 with
      | false =>
        refine wpOp_left rfl ((wanted_at (c := false) rfl rfl rfl (show a'.tmps[132]?.getD undef = .bool false from (hI.at (k := 22) (j := 22) hsz rfl (by omega) (hall ⟨22, .guard⟩ (by simp) rfl)).eq (by decide))).trans rfl) ?_
        exact hI.put (i := 23) (j := 23) rfl (by omega) (by decide) (fun _ _ h => h) (VV.of (by decide) rfl) hI.cw
      | true =>
        refine wpOp_let rfl ((wanted_at (c := true) rfl rfl rfl (show a'.tmps[132]?.getD undef = .bool true from (hI.at (k := 22) (j := 22) hsz rfl (by omega) (hall ⟨22, .guard⟩ (by simp) rfl)).eq (by decide))).trans rfl) ?_
        simp [Oper.wp, go_sem, o6]
        exact hI.put (i := 23) (j := 23) rfl (by omega) (by decide) (fun _ _ h => h) (VV.of (by decide) rfl) hI.cw
    · cases b3 with
      | false =>
        refine wpOp_left rfl ((wanted_at (c := false) rfl rfl rfl (show a'.tmps[132]?.getD undef = .bool false from (hI.at (k := 22) (j := 22) hsz rfl (by omega) (hall ⟨22, .guard⟩ (by simp) rfl)).eq (by decide))).trans rfl) ?_
        exact hI.put (i := 24) (j := 24) rfl (by omega) (by decide) (fun _ _ h => h) (VV.of (by decide) rfl) hI.cw
      | true =>
        refine wpOp_let rfl ((wanted_at (c := true) rfl rfl rfl (show a'.tmps[132]?.getD undef = .bool true from (hI.at (k := 22) (j := 22) hsz rfl (by omega) (hall ⟨22, .guard⟩ (by simp) rfl)).eq (by decide))).trans rfl) ?_
        simp [Oper.wp, go_sem, o16]
        exact hI.put (i := 24) (j := 24) rfl (by omega) (by decide) (fun _ _ h => h) (VV.of (by decide) rfl) hI.cw
    · cases b3 with
      | false =>
        refine wpOp_left rfl ((wanted_at (c := false) rfl rfl rfl (show a'.tmps[132]?.getD undef = .bool false from (hI.at (k := 22) (j := 22) hsz rfl (by omega) (hall ⟨22, .guard⟩ (by simp) rfl)).eq (by decide))).trans rfl) ?_
        exact hI.put (i := 25) (j := 25) rfl (by omega) (by decide) (fun _ _ h => h) (VV.of (by decide) rfl) hI.cw
      | true =>
        refine wpOp_let rfl ((wanted_at (c := true) rfl rfl rfl (show a'.tmps[132]?.getD undef = .bool true from (hI.at (k := 22) (j := 22) hsz rfl (by omega) (hall ⟨22, .guard⟩ (by simp) rfl)).eq (by decide))).trans rfl) ?_
        have e23 : a'.tmps[133]?.getD undef = .slice (some ⟨g2, 0, none⟩) 12 c2 := (hI.at (k := 23) (j := 23) hsz rfl (by omega) (hall ⟨23, .data⟩ (by simp) rfl)).eq (by decide)
        have e24 : a'.tmps[134]?.getD undef = .int .i64 j := (hI.at (k := 24) (j := 24) hsz rfl (by omega) (hall ⟨24, .data⟩ (by simp) rfl)).eq (by decide)
        simp [Oper.wp, go_sem, e23, e24, hj12]
        exact hI.put (i := 25) (j := 25) rfl (by omega) (by decide) (fun _ _ h => h) (VV.of (by decide) rfl) hI.cw
    · cases b3 with
      | false =>
        refine wpOp_left rfl ((wanted_at (c := false) rfl rfl rfl (show a'.tmps[132]?.getD undef = .bool false from (hI.at (k := 22) (j := 22) hsz rfl (by omega) (hall ⟨22, .guard⟩ (by simp) rfl)).eq (by decide))).trans rfl) ?_
        exact hI.put (i := 26) (j := 26) rfl (by omega) (by decide) (fun _ _ h => h) (VV.of (by decide) rfl) hI.cw
      | true =>
        refine wpOp_let rfl ((wanted_at (c := true) rfl rfl rfl (show a'.tmps[132]?.getD undef = .bool true from (hI.at (k := 22) (j := 22) hsz rfl (by omega) (hall ⟨22, .guard⟩ (by simp) rfl)).eq (by decide))).trans rfl) ?_
        have e25 : a'.tmps[135]?.getD undef = .pointer (some ⟨g2, j * 2, none⟩) := (hI.at (k := 25) (j := 25) hsz rfl (by omega) (hall ⟨25, .data⟩ (by simp) rfl)).eq (by decide)
        simp [Oper.wp, go_sem, e25]
        exact hI.put (i := 26) (j := 26) rfl (by omega) (by decide) (fun _ _ h => h) (VV.of (by decide) rfl) hI.cw
    · cases b3 with
      | false =>
        refine wpOp_left rfl ((wanted_at (c := false) rfl rfl rfl (show a'.tmps[132]?.getD undef = .bool false from (hI.at (k := 22) (j := 22) hsz rfl (by omega) (hall ⟨22, .guard⟩ (by simp) rfl)).eq (by decide))).trans rfl) ?_
        exact hI.put (i := 27) (j := 27) rfl (by omega) (by decide) (fun _ _ h => h) (VV.of (by decide) rfl) hI.cw
      | true =>
        refine wpOp_let rfl ((wanted_at (c := true) rfl rfl rfl (show a'.tmps[132]?.getD undef = .bool true from (hI.at (k := 22) (j := 22) hsz rfl (by omega) (hall ⟨22, .guard⟩ (by simp) rfl)).eq (by decide))).trans rfl) ?_
        have e26 : a'.tmps[136]?.getD undef = .pointer (some ⟨g2, j * 2 + 1, none⟩) := (hI.at (k := 26) (j := 26) hsz rfl (by omega) (hall ⟨26, .data⟩ (by simp) rfl)).eq (by decide)
        simp [Oper.wp, go_sem, e26, z1]
        exact hI.put (i := 27) (j := 27) rfl (by omega) (by decide) (fun _ _ h => h) (VV.of (by decide) rfl) hI.cw
    · cases b3 with
      | false =>
        refine wpOp_left rfl ((wanted_at (c := false) rfl rfl rfl (show a'.tmps[132]?.getD undef = .bool false from (hI.at (k := 22) (j := 22) hsz rfl (by omega) (hall ⟨22, .guard⟩ (by simp) rfl)).eq (by decide))).trans rfl) ?_
        exact hI.put (i := 28) (j := 28) rfl (by omega) (by decide) (fun _ _ h => h) (VV.of (by decide) rfl) hI.cw
      | true =>
        refine wpOp_let rfl ((wanted_at (c := true) rfl rfl rfl (show a'.tmps[132]?.getD undef = .bool true from (hI.at (k := 22) (j := 22) hsz rfl (by omega) (hall ⟨22, .guard⟩ (by simp) rfl)).eq (by decide))).trans rfl) ?_
        simp [Oper.wp, go_sem, o14]
        exact hI.put (i := 28) (j := 28) rfl (by omega) (by decide) (fun _ _ h => h) (VV.of (by decide) rfl) hI.cw
    · cases b3 with
      | false =>
        refine wpOp_left rfl ((wanted_at (c := false) rfl rfl rfl (show a'.tmps[132]?.getD undef = .bool false from (hI.at (k := 22) (j := 22) hsz rfl (by omega) (hall ⟨22, .guard⟩ (by simp) rfl)).eq (by decide))).trans rfl) ?_
        exact hI.put (i := 29) (j := 29) rfl (by omega) (by decide) (fun _ _ h => h) (VV.of (by decide) rfl) hI.cw
      | true =>
        refine wpOp_let rfl ((wanted_at (c := true) rfl rfl rfl (show a'.tmps[132]?.getD undef = .bool true from (hI.at (k := 22) (j := 22) hsz rfl (by omega) (hall ⟨22, .guard⟩ (by simp) rfl)).eq (by decide))).trans rfl) ?_
        have e27 : a'.tmps[137]?.getD undef = .slice ah hl ch := (hI.at (k := 27) (j := 27) hsz rfl (by omega) (hall ⟨27, .data⟩ (by simp) rfl)).eq (by decide)
        have e28 : a'.tmps[138]?.getD undef = .int .i64 hh := (hI.at (k := 28) (j := 28) hsz rfl (by omega) (hall ⟨28, .data⟩ (by simp) rfl)).eq (by decide)
        simp [Oper.wp, go_sem, e27, e28]
        refine (hasNode_any ah _ ch (Pl.wH es n j) hh W (HHI.below hI.cw)).mono ?_
        rintro e W' ⟨rfl, hb'⟩
        rw [HB4]
        exact hI.put (i := 29) (j := 29) rfl (by omega) (by decide) (VV.grow hb') (VV.of (by decide) rfl) (hI.cw.trans (hb'.mono hI.cw.size))
    · refine wpOp_let rfl ((wanted_at (c := false) rfl rfl rfl (show a'.tmps[111]?.getD undef = .bool false from (hI.at (k := 1) (j := 1) hsz rfl (by omega) (hall ⟨1, .guard⟩ (by simp) rfl)).eq (by decide))).trans rfl) ?_
      cases b3 with
      | false =>
        have e22 : a'.tmps[132]?.getD undef = .bool false := (hI.at (k := 22) (j := 22) hsz rfl (by omega) (hall ⟨22, .data⟩ (by simp) rfl)).eq (by decide)
        simp [Oper.wp, go_sem, e22]
        exact hI.put (i := 30) (j := 30) rfl (by omega) (by decide) (fun _ _ h => h) (VV.of (by decide) rfl) hI.cw
      | true =>
        have e22 : a'.tmps[132]?.getD undef = .bool true := (hI.at (k := 22) (j := 22) hsz rfl (by omega) (hall ⟨22, .data⟩ (by simp) rfl)).eq (by decide)
        have e29 : a'.tmps[139]?.getD undef = .bool b4 := (hI.at (k := 29) (j := 29) hsz rfl (by omega) (hall ⟨29, .data⟩ (by simp) rfl)).eq (by decide)
        simp [Oper.wp, go_sem, e22, e29]
        exact hI.put (i := 30) (j := 30) rfl (by omega) (by decide) (fun _ _ h => h) (VV.of (by decide) rfl) hI.cw
    · refine wpOp_of rfl rfl ?_
      have e1 : a'.tmps[111]?.getD undef = .bool false := (hI.at (k := 1) (j := 1) hsz rfl (by omega) (hall ⟨1, .data⟩ (by simp) rfl)).eq (by decide)
      have e30 : a'.tmps[140]?.getD undef = .bool (b3 && b4) := (hI.at (k := 30) (j := 30) hsz rfl (by omega) (hall ⟨30, .data⟩ (by simp) rfl)).eq (by decide)
      simp [Oper.wp, go_sem, e1, e30]
      exact hI.put (i := 31) (j := 31) rfl (by omega) (by decide) (fun _ _ h => h) (VV.of (by decide) rfl) hI.cw
    · refine wpOp_of rfl rfl ?_
      have e31 : a'.tmps[141]?.getD undef = .bool (b3 && b4) := (hI.at (k := 31) (j := 31) hsz rfl (by omega) (hall ⟨31, .data⟩ (by simp) rfl)).eq (by decide)
      simp [Oper.wp, go_sem, e31]
      exact hI.last rfl (by omega) (by omega)
  · rintro listed a' W hr hI
    have hal := all_listed (by decide +kernel) hI.ls hr
    obtain ⟨z, xs, hxl, rfl, _, hz⟩ := hI.fr
    rw [if_pos (hal 32 (by decide))] at hz
    subst hz
    exact hQ xs W hxl trivial hI.cw
  · exact RInv2.start hsz (Below.refl _ _).drew
end Go.Proofs.YtpaobnhcbeklfaaGreatDoor
