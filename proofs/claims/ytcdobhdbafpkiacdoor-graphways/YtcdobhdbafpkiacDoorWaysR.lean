/-
  Contract: a search that is run to its end.
-/
import Derived.Test.YtcdobhdbafpkiacDoorWaysB
import Derived.Test.YtcdobhdbafpkiacDoorWaysL
namespace Go.Proofs.YtcdobhdbafpkiacDoor
open Go.RowKit
set_option maxRecDepth 20000

/-- no node costs more -/
def Pl.CB (s : Pl.DS) (N : Int) : Prop := ∀ v, -1 ≤ s.cost v ∧ s.cost v ≤ N
theorem Pl.CB.step {s : Pl.DS} {N c : Int} (h : Pl.CB s N) (f n j : Nat) (h0 : -1 ≤ c) (h1 : c ≤ N) : Pl.CB (Pl.dStep f n j c s) N := by
  have e : (Pl.dStep f n j c s).cost = (Pl.dS1 j c s).cost := by unfold Pl.dStep; split <;> rfl
  intro v
  rw [e]
  unfold Pl.dS1
  split
  · simp only [Pl.upd]
    split
    · exact ⟨h0, h1⟩
    · exact h v
  · exact h v
theorem Pl.dRow_cost {L : Nat → Nat → Int} {f n : Nat} {s : Pl.DS} (h : s.cost n ≠ -1) (i : Nat) : (Pl.dRow L f n s i).cost n = s.cost n := by
  induction i with
  | zero => rfl
  | succ i ih =>
    unfold Pl.dRow
    split
    · by_cases hn : n = i
      · subst hn
        rw [Pl.dStep_idle (by rw [ih]; exact h) (by omega)]
        exact ih
      · rw [Pl.dStep_cost_ne hn]; exact ih
    · exact ih
theorem Pl.CB.row {L : Nat → Nat → Int} {f n : Nat} {s : Pl.DS} {N : Int} (hL : ∀ a b, L a b ≤ 1000) (h : Pl.CB s N) (hn : s.cost n ≠ -1) (i : Nat) : Pl.CB (Pl.dRow L f n s i) (N + 1000) := by
  induction i with
  | zero => intro v; have := h v; exact ⟨this.1, by show s.cost v ≤ _; omega⟩
  | succ i ih =>
    unfold Pl.dRow
    split
    · refine ih.step f n i ?_ ?_
      · rw [Pl.dRow_cost hn]; have := h n; omega
      · rw [Pl.dRow_cost hn]; have := h n; have := hL n i; omega
    · exact ih
theorem Pl.CB.iter {L : Nat → Nat → Int} {D : Nat → Bool} {f : Nat} (hL : ∀ a b, L a b ≤ 1000) (k : Nat) : Pl.CB (Pl.dIter L D f k) (1000 * k) := by
  induction k with
  | zero => intro v; show -1 ≤ (if v = f then (0 : Int) else -1) ∧ (if v = f then (0 : Int) else -1) ≤ _; split <;> omega
  | succ k ih =>
    unfold Pl.dIter
    rcases Pl.near_spec (Pl.dIter L D f k) 12 with ⟨h1, _⟩ | ⟨n, h1, h2, h3, h4, h5⟩
    · rw [if_pos h1]; intro v; have := ih v; omega
    · rw [h1, if_neg (by omega), Int.toNat_natCast]
      unfold Pl.dProc
      split
      · intro v; have := ih v; exact ⟨this.1, by show (Pl.dIter L D f k).cost v ≤ _; omega⟩
      · have := Pl.CB.row (f := f) (s := Pl.dDone (Pl.dIter L D f k) n) (n := n) (N := 1000 * k) hL ih h3 12
        intro v; have := this v; omega

def doneAt (w : World) (B i : Nat) : Bool := match w.cell? ⟨B, 157 + i, none⟩ with | some (.bool b) => b | _ => false
theorem SAt.doneAt {w B f s} (h : SAt w B f s) (i : Nat) (hi : i < 12) : Go.Proofs.YtcdobhdbafpkiacDoor.doneAt w B i = s.done i := by unfold Go.Proofs.YtcdobhdbafpkiacDoor.doneAt; rw [h.done i hi]
theorem Pl.cnt_congr {d e : Nat → Bool} (n : Nat) (h : ∀ i, i < n → d i = e i) : Pl.cnt d n = Pl.cnt e n := by
  induction n with
  | zero => rfl
  | succ n ih => unfold Pl.cnt; rw [ih fun i hi => h i (by omega), h n (by omega)]
theorem GAt.fill {w B T M0} (h : GAt w B T M0) (M : Nat → Nat → Int) : GAt (w.setCells B 0 (cells144 M)) B T M := by
  refine (CellsAt.sets _ 0 _ _ h).ext fun o ho => ?_
  rw [cells144_len, if_pos (by omega)]
  simp [cells144, ho]
theorem Pl.say_le {ps : List (Int × Int)} (h : Pl.sidesOk ps) (x : Nat) : 0 ≤ Pl.say ps x ∧ Pl.say ps x ≤ 1000 := by
  have key : ∀ k, k ≤ ps.length → 0 ≤ Pl.sayN ps k x ∧ Pl.sayN ps k x ≤ 1000 := by
    intro k
    induction k with
    | zero => intro _; show (0 : Int) ≤ 0 ∧ (0 : Int) ≤ 1000; omega
    | succ k ih =>
      intro hk
      unfold Pl.sayN Pl.upd
      split
      · have := h.at k (by omega); omega
      · exact ih (by omega)
  exact key _ (Nat.le_refl _)

set_option maxHeartbeats 2000000 in
theorem run_any (B BT f : Nat) (D : Nat → Bool) (ps : Nat → List (Int × Int)) (w : World) (h : SAt w B f (Pl.dInit f)) (hT : ToldAt w BT D ps) (hne : BT ≠ B) (hf : f < 12) (hok : ∀ i, i < 12 → Pl.sidesOk (ps i)) (hL : ∀ a b, Pl.lnk ps a b ≤ 1000) :
    Calls Tryd.prog 18 #[.pointer (some ⟨B, 0, none⟩), .pointer (some ⟨BT, 0, none⟩)] w fun e w' => e = .returned (.tuple #[]) ∧ SAt w' B f (Pl.dIter (Pl.lnk ps) D f 12) ∧ But B w w' := by
  have HS := hid h
  have HT := hid hT
  have HOK := hid hok
  have HL := hid hL
  have hB := CellsAt.lt h
  have hBT := hT.lt
  clear h hT hok hL
  go_enter Tryd.func18, Tryd.ntmps18
  go_wp2_with fail
  refine (linkCosts_any BT D ps w HT.out HOK.out).mono ?_
  rintro e w1 ⟨rfl, hb1⟩
  have HB1 := hid hb1
  have hz1 := hb1.size
  clear hb1
  obtain ⟨M, HM⟩ : ∃ M, Hid (Pl.lnk ps = M) := ⟨_, rfl⟩
  rw [HM.out] at HL ⊢
  have HG0 := hid (GAt.new w1)
  have HTH := hid (CellsAt.there HG0.out 0 144 (by omega))
  rw [← cells144_len M] at HTH
  obtain ⟨w2, HX⟩ : ∃ x, Hid (x = (w1.alloc (.cells Tryd.zeroCells79 79)).setCells w1.heap.size 0 (cells144 M)) := ⟨_, rfl⟩
  have HG : Hid (GAt w2 w1.heap.size 79 M) := hid (by rw [HX.out]; exact HG0.out.fill M)
  have HB2 : Hid (Below w.heap.size w w2) := hid (by
    rw [HX.out]
    exact (HB1.out.alloc hz1 _).trans ((But.setCells _ 0 _ (But.refl w1.heap.size _)).below hz1 (by simp; omega)))
  have HS2 := hid (CellsAt.below HS.out HB2.out)
  have hz2 : w.heap.size ≤ w2.heap.size := HB2.out.size
  have hl2 : w1.heap.size < w2.heap.size := CellsAt.lt HG.out
  go_wp2_with (refine wpList_store_as rfl 79 (.tmp 4) (.tmp 9) rfl w1.heap.size 0 (cells144 M) rfl rfl HTH.out (by rw [cells144_len]; exact infoCosts) (cells144_one _) HX.out ?_)
  refine (nearest_any B f (Pl.dInit f) w2 HS2.out).mono ?_
  rintro e w' ⟨rfl, hw'⟩
  rw [hw']
  clear hw' w'
  go_wp2_with fail
  go_loopw [5] (fun n wr => ∃ (k : Nat) (v : Int), k ≤ 12 ∧ n = .int .i64 v ∧ Hid (v = Pl.near (Pl.dIter M D f k) 12) ∧ Hid (SAt wr B f (Pl.dIter M D f k)) ∧ Hid (But B w2 wr)) (fun _ wr => 12 - Pl.cnt (doneAt wr B) 12)
  case atStart => exact ⟨0, _, by omega, rfl, rfl, HS2.out, But.refl _ _⟩
  case round =>
    obtain ⟨k, v, hk, rfl, HV, HSk, HUk⟩ := hrel
    rcases Pl.near_spec (Pl.dIter M D f k) 12 with ⟨h1, _⟩ | ⟨m, h1, h2, h3, h4, _⟩
    · obtain rfl : v = -1 := by rw [HV.out]; exact h1
      go_wp2_with fail
      (try simp only [Exit.inBlock, Exit.then])
      first | refine bodyPost_end (v := .tuple #[]) (results_none rfl _ _ _) rfl ?_ | refine bodyPost_ret (v := .tuple #[]) (results_none rfl _ _ _) rfl ?_
      refine ⟨rfl, ?_, (But.of HB2.out).trans HUk.out⟩
      rw [HM.out, ← Pl.dIter_stop h1 hk]
      exact HSk.out
    · obtain rfl : v = m := by rw [HV.out]; exact h1
      have hk12 : k < 12 := Pl.dIter_lt (L := M) (D := D) (f := f) (by rw [h1]; omega)
      have HN : Hid (Pl.dIter M D f (k + 1) = Pl.dProc M D f (Pl.dIter M D f k) m) := hid (by
        conv => lhs; unfold Pl.dIter
        rw [h1, if_neg (by omega), Int.toNat_natCast])
      have HCB := hid (Pl.CB.iter (L := M) (D := D) (f := f) HL.out k)
      clear HV
      obtain ⟨s, HSS⟩ : ∃ s, Hid (Pl.dIter M D f k = s) := ⟨_, rfl⟩
      rw [HSS.out] at HSk HN HCB h3 h4
      have h1 := hid h1
      have HCM : Hid (Pl.cnt s.done 12 < Pl.cnt (Pl.dIter M D f (k + 1)).done 12) := hid (by
        rw [HN.out, Pl.dProc_done]; exact Pl.cnt_upd h2 h4)
      have h3 := hid h3
      have h4 := hid h4
      have hBr := CellsAt.lt HSk.out
      have hd := HSk.out.done m h2
      have hdz := CellsAt.soft HSk.out (157 + m)
      have HD1 := hid (HSk.out.setDone m h2 true)
      have hfr := HD1.out.from
      have htd : wr.cell? ⟨BT, m * 2, none⟩ = some (.bool (D m)) := (World.cell?_of_block (w := w2) (HUk.out.block BT (by omega) hne)).trans ((HB2.out.cell (p := ⟨BT, m * 2, none⟩) hBT).trans (HT.out.drain m h2))
      have hBTr : BT < wr.heap.size := by have := HUk.out.size; omega
      have htd2 : (wr.setCell ⟨B, 157 + m, none⟩ (.bool true)).cell? ⟨BT, m * 2, none⟩ = some (.bool (D m)) := (World.cell?_of_block (w := wr) (Below.heap_setCell _ _ _ _ hne)).trans htd
      have HRW : Hid ((wr.setCell ⟨B, 157 + m, none⟩ (.bool true)).rangeAt w1.heap.size (m * 12) (ints12 (M m))) := hid (GAt.row (T := 79) (CellsAt.but HG.out (HUk.out.setCell (157 + m) (.bool true)) (by omega)) m h2)
      obtain ⟨d, HD⟩ : ∃ d, Hid (D m = d) := ⟨_, rfl⟩
      rw [HD.out] at htd htd2
      by_cases hdr : d = true ∧ m ≠ f
      · obtain ⟨rfl, hmf⟩ := hdr
        have hmf' : ¬ ((m : Int) = (f : Int)) := by omega
        have HP : Hid (Pl.dProc M D f s m = Pl.dDone s m) := hid (by unfold Pl.dProc; rw [HD.out, if_pos ⟨rfl, hmf⟩])
        go_wp2_with fail
        refine (nearest_any B f _ _ HD1.out).mono ?_
        rintro e w' ⟨rfl, hw'⟩
        rw [hw']
        clear hw' w'
        go_wp2_with fail
        go_roundw
        case rel => exact ⟨k + 1, _, by omega, rfl, hid (by rw [HN.out, HP.out]; rfl), hid (by rw [HN.out, HP.out]; exact HD1.out), HUk.out.setCell _ _⟩
        case measure =>
          have e1 : Pl.cnt (doneAt wr B) 12 = Pl.cnt s.done 12 := Pl.cnt_congr 12 fun i hi => HSk.out.doneAt i hi
          have e2 : Pl.cnt (doneAt (wr.setCell ⟨B, 157 + m, none⟩ (.bool true)) B) 12 = Pl.cnt (Pl.upd s.done m true) 12 := Pl.cnt_congr 12 fun i hi => HD1.out.doneAt i hi
          have e3 := HCM.out
          rw [HN.out, Pl.dProc_done] at e3
          have e4 := Pl.cnt_le (Pl.upd s.done m true) 12
          rw [e1, e2]
          omega
      · have HP : Hid (Pl.dProc M D f s m = Pl.dRow M f m (Pl.dDone s m) 12) := hid (by unfold Pl.dProc; rw [HD.out, if_neg hdr])
        have HCR := hid (fun j => Pl.CB.row (L := M) (f := f) (s := Pl.dDone s m) (n := m) (N := 1000 * k) HL.out HCB.out h3.out j)
        rename World => w4
        have hcase : d = false ∨ (d = true ∧ ((m : Int) != (f : Int)) = false ∧ ((m : Int) == (f : Int)) = true) := by
          cases d
          · exact .inl rfl
          · have : m = f := Classical.byContradiction fun g => hdr ⟨rfl, g⟩
            exact .inr ⟨rfl, by rw [this]; simp, by rw [this]; simp⟩
        rcases hcase with rfl | ⟨rfl, hmf1, hmf2⟩
        all_goals
          go_wp2_with (refine wpList_load_mid rfl 73 (.tmp 36) rfl w1.heap.size (m * 12) rfl (ints12 (M m)) _ HRW.out Tryd.underlying73 rfl infoInts ?_)
          go_loopw [38] (fun i wr => ∃ j : Nat, j ≤ 12 ∧ i = .int .i64 j ∧ Hid (SAt wr B f (Pl.dRow M f m (Pl.dDone s m) j)) ∧ Hid (But B w2 wr)) (fun i _ => 12 - (intOf i).toNat)
          case atStart => exact ⟨0, by omega, rfl, HD1.out, HUk.out.setCell _ _⟩
          case round =>
            obtain ⟨j, hj, rfl, HSj, HUj⟩ := hrel
            by_cases hlt : j < 12
            · have hg := fun w => run_index_ints (M m) j hlt w
              have hcm := HSj.out.cost m h2
              have hBj := CellsAt.lt HSj.out
              obtain ⟨x, HXC⟩ : ∃ x, Hid ((Pl.dRow M f m (Pl.dDone s m) j).cost m = x) := ⟨_, rfl⟩
              rw [HXC.out] at hcm
              obtain ⟨y, HY⟩ : ∃ y, Hid (M m j = y) := ⟨_, rfl⟩
              rw [HY.out] at hg
              have hx1 : -1 ≤ x := by rw [← HXC.out]; exact (HCR.out j m).1
              have hx2 : x ≤ 20000 := by have := (HCR.out j m).2; rw [HXC.out] at this; omega
              have hy2 : y ≤ 1000 := by rw [← HY.out]; exact HL.out m j
              by_cases hy : 0 < y
              · have HRS : Hid (Pl.dRow M f m (Pl.dDone s m) (j + 1) = Pl.dStep f m j (x + y) (Pl.dRow M f m (Pl.dDone s m) j)) := hid (by
                  conv => lhs; unfold Pl.dRow
                  rw [HY.out, if_pos hy, HXC.out])
                go_wp2_with fail
                refine (step_any B f m j (x + y) _ _ HSj.out h2 hlt).mono ?_
                rintro e w5 ⟨rfl, hs5, hu5⟩
                have HS5 := hid hs5
                have HU5 := hid hu5
                clear hs5 hu5
                go_wp2_with fail
                go_roundw
                case rel => exact ⟨j + 1, by omega, by go_num, hid (by rw [HRS.out]; exact HS5.out), HUj.out.trans HU5.out⟩
                case measure => simp [intOf]; omega
              · have HRS : Hid (Pl.dRow M f m (Pl.dDone s m) (j + 1) = Pl.dRow M f m (Pl.dDone s m) j) := hid (by
                  conv => lhs; unfold Pl.dRow
                  rw [HY.out, if_neg hy])
                go_wp2_with fail
                go_roundw
                case rel => exact ⟨j + 1, by omega, by go_num, hid (by rw [HRS.out]; exact HSj.out), HUj⟩
                case measure => simp [intOf]; omega
            · obtain rfl : j = 12 := by omega
              go_wp2_with fail
              refine (nearest_any B f _ _ HSj.out).mono ?_
              rintro e w' ⟨rfl, hw'⟩
              rw [hw']
              clear hw' w'
              go_wp2_with fail
              go_roundw
              case rel => exact ⟨k + 1, _, by omega, rfl, hid (by rw [HN.out, HP.out]), hid (by rw [HN.out, HP.out]; exact HSj.out), HUj⟩
              case measure =>
                have e1 : Pl.cnt (doneAt w4 B) 12 = Pl.cnt s.done 12 := Pl.cnt_congr 12 fun i hi => HSk.out.doneAt i hi
                have e2 : Pl.cnt (doneAt wr B) 12 = Pl.cnt (Pl.upd s.done m true) 12 := Pl.cnt_congr 12 fun i hi => by rw [HSj.out.doneAt i hi, Pl.dRow_done]; rfl
                have e3 := HCM.out
                rw [HN.out, Pl.dProc_done] at e3
                have e4 := Pl.cnt_le (Pl.upd s.done m true) 12
                rw [e1, e2]
                omega
end Go.Proofs.YtcdobhdbafpkiacDoor
