/-
  Contracts and facts that the proof rests on, put together out of several texts.
-/
import Derived.Test.YtpaobnhcbeklfaaGreatDoorAll3
import Derived.Test.YtpaobnhcbeklfaaGreatDoorAll1
/-
  Contract: a search that is run to its end.
-/
namespace Go.Proofs.YtpaobnhcbeklfaaGreatDoor
open Go.RowKit
set_option maxRecDepth 20000

/-- no node costs more -/
def Pl.CB (s : Pl.DS) (N : Int) : Prop := ∀ v, -1 ≤ s.cost v ∧ s.cost v ≤ N
theorem Pl.CB.step {s : Pl.DS} {N c : Int} (h : Pl.CB s N) (f n j : Nat) (h0 : -1 ≤ c) (h1 : c ≤ N) : Pl.CB (Pl.dStep f n j c s) N := by
  have e : (Pl.dStep f n j c s).cost = (Pl.dS1 j c s).cost := by unfold Pl.dStep; split <;> rfl
  intro v
  rw [e]
  unfold Pl.dS1
  split
  · simp only [Pl.upd]
    split
    · exact ⟨h0, h1⟩
    · exact h v
  · exact h v
theorem Pl.dRow_cost {L : Nat → Nat → Int} {f n : Nat} {s : Pl.DS} (h : s.cost n ≠ -1) (i : Nat) : (Pl.dRow L f n s i).cost n = s.cost n := by
  induction i with
  | zero => rfl
  | succ i ih =>
    unfold Pl.dRow
    split
    · by_cases hn : n = i
      · subst hn
        rw [Pl.dStep_idle (by rw [ih]; exact h) (by omega)]
        exact ih
      · rw [Pl.dStep_cost_ne hn]; exact ih
    · exact ih
theorem Pl.CB.row {L : Nat → Nat → Int} {f n : Nat} {s : Pl.DS} {N : Int} (hL : ∀ a b, L a b ≤ 1000) (h : Pl.CB s N) (hn : s.cost n ≠ -1) (i : Nat) : Pl.CB (Pl.dRow L f n s i) (N + 1000) := by
  induction i with
  | zero => intro v; have := h v; exact ⟨this.1, by show s.cost v ≤ _; omega⟩
  | succ i ih =>
    unfold Pl.dRow
    split
    · refine ih.step f n i ?_ ?_
      · rw [Pl.dRow_cost hn]; have := h n; omega
      · rw [Pl.dRow_cost hn]; have := h n; have := hL n i; omega
    · exact ih
theorem Pl.CB.iter {L : Nat → Nat → Int} {D : Nat → Bool} {f : Nat} (hL : ∀ a b, L a b ≤ 1000) (k : Nat) : Pl.CB (Pl.dIter L D f k) (1000 * k) := by
  induction k with
  | zero => intro v; show -1 ≤ (if v = f then (0 : Int) else -1) ∧ (if v = f then (0 : Int) else -1) ≤ _; split <;> omega
  | succ k ih =>
    unfold Pl.dIter
    rcases Pl.near_spec (Pl.dIter L D f k) 12 with ⟨h1, _⟩ | ⟨n, h1, h2, h3, h4, h5⟩
    · rw [if_pos h1]; intro v; have := ih v; omega
    · rw [h1, if_neg (by omega), Int.toNat_natCast]
      unfold Pl.dProc
      split
      · intro v; have := ih v; exact ⟨this.1, by show (Pl.dIter L D f k).cost v ≤ _; omega⟩
      · have := Pl.CB.row (f := f) (s := Pl.dDone (Pl.dIter L D f k) n) (n := n) (N := 1000 * k) hL ih h3 12
        intro v; have := this v; omega

def doneAt (w : World) (B i : Nat) : Bool := match w.cell? ⟨B, 157 + i, none⟩ with | some (.bool b) => b | _ => false
theorem SAt.doneAt {w B f s} (h : SAt w B f s) (i : Nat) (hi : i < 12) : Go.Proofs.YtpaobnhcbeklfaaGreatDoor.doneAt w B i = s.done i := by unfold Go.Proofs.YtpaobnhcbeklfaaGreatDoor.doneAt; rw [h.done i hi]
theorem Pl.cnt_congr {d e : Nat → Bool} (n : Nat) (h : ∀ i, i < n → d i = e i) : Pl.cnt d n = Pl.cnt e n := by
  induction n with
  | zero => rfl
  | succ n ih => unfold Pl.cnt; rw [ih fun i hi => h i (by omega), h n (by omega)]
theorem GAt.fill {w B T M0} (h : GAt w B T M0) (M : Nat → Nat → Int) : GAt (w.setCells B 0 (cells144 M)) B T M := by
  refine (CellsAt.sets _ 0 _ _ h).ext fun o ho => ?_
  rw [cells144_len, if_pos (by omega)]
  simp [cells144, ho]
theorem Pl.say_le {ps : List (Int × Int)} (h : Pl.sidesOk ps) (x : Nat) : 0 ≤ Pl.say ps x ∧ Pl.say ps x ≤ 1000 := by
  have key : ∀ k, k ≤ ps.length → 0 ≤ Pl.sayN ps k x ∧ Pl.sayN ps k x ≤ 1000 := by
    intro k
    induction k with
    | zero => intro _; show (0 : Int) ≤ 0 ∧ (0 : Int) ≤ 1000; omega
    | succ k ih =>
      intro hk
      unfold Pl.sayN Pl.upd
      split
      · have := h.at k (by omega); omega
      · exact ih (by omega)
  exact key _ (Nat.le_refl _)

set_option maxHeartbeats 2000000 in
theorem run_any (B BT f : Nat) (D : Nat → Bool) (ps : Nat → List (Int × Int)) (w : World) (h : SAt w B f (Pl.dInit f)) (hT : ToldAt w BT D ps) (hne : BT ≠ B) (hf : f < 12) (hok : ∀ i, i < 12 → Pl.sidesOk (ps i)) (hL : ∀ a b, Pl.lnk ps a b ≤ 1000) :
    Calls Tryz.prog 20 #[.pointer (some ⟨B, 0, none⟩), .pointer (some ⟨BT, 0, none⟩)] w fun e w' => e = .returned (.tuple #[]) ∧ SAt w' B f (Pl.dIter (Pl.lnk ps) D f 12) ∧ But B w w' := by
  have HS := hid h
  have HT := hid hT
  have HOK := hid hok
  have HL := hid hL
  have hB := CellsAt.lt h
  have hBT := hT.lt
  clear h hT hok hL
  go_enter Tryz.func20, Tryz.ntmps20
  go_wp2_with fail
  refine (linkCosts_any BT D ps w HT.out HOK.out).mono ?_
  rintro e w1 ⟨rfl, hb1⟩
  have HB1 := hid hb1
  have hz1 := hb1.size
  clear hb1
  obtain ⟨M, HM⟩ : ∃ M, Hid (Pl.lnk ps = M) := ⟨_, rfl⟩
  rw [HM.out] at HL ⊢
  have HG0 := hid (GAt.new w1)
  have HTH := hid (CellsAt.there HG0.out 0 144 (by omega))
  rw [← cells144_len M] at HTH
  obtain ⟨w2, HX⟩ : ∃ x, Hid (x = (w1.alloc (.cells Tryz.zeroCells84 84)).setCells w1.heap.size 0 (cells144 M)) := ⟨_, rfl⟩
  have HG : Hid (GAt w2 w1.heap.size 84 M) := hid (by rw [HX.out]; exact HG0.out.fill M)
  have HB2 : Hid (Below w.heap.size w w2) := hid (by
    rw [HX.out]
    exact (HB1.out.alloc hz1 _).trans ((But.setCells _ 0 _ (But.refl w1.heap.size _)).below hz1 (by simp; omega)))
  have HS2 := hid (CellsAt.below HS.out HB2.out)
  have hz2 : w.heap.size ≤ w2.heap.size := HB2.out.size
  have hl2 : w1.heap.size < w2.heap.size := CellsAt.lt HG.out
  go_wp2_with (refine wpList_store_as rfl 84 (.tmp 4) (.tmp 9) rfl w1.heap.size 0 (cells144 M) rfl rfl HTH.out (by rw [cells144_len]; exact infoCosts) (cells144_one _) HX.out ?_)
  refine (nearest_any B f (Pl.dInit f) w2 HS2.out).mono ?_
  rintro e w' ⟨rfl, hw'⟩
  rw [hw']
  clear hw' w'
  go_wp2_with fail
  go_loopw [5] (fun n wr => ∃ (k : Nat) (v : Int), k ≤ 12 ∧ n = .int .i64 v ∧ Hid (v = Pl.near (Pl.dIter M D f k) 12) ∧ Hid (SAt wr B f (Pl.dIter M D f k)) ∧ Hid (But B w2 wr)) (fun _ wr => 12 - Pl.cnt (doneAt wr B) 12)
  case atStart => exact ⟨0, _, by omega, rfl, rfl, HS2.out, But.refl _ _⟩
  case round =>
    obtain ⟨k, v, hk, rfl, HV, HSk, HUk⟩ := hrel
    rcases Pl.near_spec (Pl.dIter M D f k) 12 with ⟨h1, _⟩ | ⟨m, h1, h2, h3, h4, _⟩
    · obtain rfl : v = -1 := by rw [HV.out]; exact h1
      go_wp2_with fail
      (try simp only [Exit.inBlock, Exit.then])
      first | refine bodyPost_end (v := .tuple #[]) (results_none rfl _ _ _) rfl ?_ | refine bodyPost_ret (v := .tuple #[]) (results_none rfl _ _ _) rfl ?_
      refine ⟨rfl, ?_, (But.of HB2.out).trans HUk.out⟩
      rw [HM.out, ← Pl.dIter_stop h1 hk]
      exact HSk.out
    · obtain rfl : v = m := by rw [HV.out]; exact h1
      have hk12 : k < 12 := Pl.dIter_lt (L := M) (D := D) (f := f) (by rw [h1]; omega)
      have HN : Hid (Pl.dIter M D f (k + 1) = Pl.dProc M D f (Pl.dIter M D f k) m) := hid (by
        conv => lhs; unfold Pl.dIter
        rw [h1, if_neg (by omega), Int.toNat_natCast])
      have HCB := hid (Pl.CB.iter (L := M) (D := D) (f := f) HL.out k)
      clear HV
      obtain ⟨s, HSS⟩ : ∃ s, Hid (Pl.dIter M D f k = s) := ⟨_, rfl⟩
      rw [HSS.out] at HSk HN HCB h3 h4
      have h1 := hid h1
      have HCM : Hid (Pl.cnt s.done 12 < Pl.cnt (Pl.dIter M D f (k + 1)).done 12) := hid (by
        rw [HN.out, Pl.dProc_done]; exact Pl.cnt_upd h2 h4)
      have h3 := hid h3
      have h4 := hid h4
      have hBr := CellsAt.lt HSk.out
      have hd := HSk.out.done m h2
      have hdz := CellsAt.soft HSk.out (157 + m)
      have HD1 := hid (HSk.out.setDone m h2 true)
      have hfr := HD1.out.from
      have htd : wr.cell? ⟨BT, m * 2, none⟩ = some (.bool (D m)) := (World.cell?_of_block (w := w2) (HUk.out.block BT (by omega) hne)).trans ((HB2.out.cell (p := ⟨BT, m * 2, none⟩) hBT).trans (HT.out.drain m h2))
      have hBTr : BT < wr.heap.size := by have := HUk.out.size; omega
      have htd2 : (wr.setCell ⟨B, 157 + m, none⟩ (.bool true)).cell? ⟨BT, m * 2, none⟩ = some (.bool (D m)) := (World.cell?_of_block (w := wr) (Below.heap_setCell _ _ _ _ hne)).trans htd
      have HRW : Hid ((wr.setCell ⟨B, 157 + m, none⟩ (.bool true)).rangeAt w1.heap.size (m * 12) (ints12 (M m))) := hid (GAt.row (T := 84) (CellsAt.but HG.out (HUk.out.setCell (157 + m) (.bool true)) (by omega)) m h2)
      obtain ⟨d, HD⟩ : ∃ d, Hid (D m = d) := ⟨_, rfl⟩
      rw [HD.out] at htd htd2
      by_cases hdr : d = true ∧ m ≠ f
      · obtain ⟨rfl, hmf⟩ := hdr
        have hmf' : ¬ ((m : Int) = (f : Int)) := by omega
        have HP : Hid (Pl.dProc M D f s m = Pl.dDone s m) := hid (by unfold Pl.dProc; rw [HD.out, if_pos ⟨rfl, hmf⟩])
        go_wp2_with fail
        refine (nearest_any B f _ _ HD1.out).mono ?_
        rintro e w' ⟨rfl, hw'⟩
        rw [hw']
        clear hw' w'
        go_wp2_with fail
        go_roundw
        case rel => exact ⟨k + 1, _, by omega, rfl, hid (by rw [HN.out, HP.out]; rfl), hid (by rw [HN.out, HP.out]; exact HD1.out), HUk.out.setCell _ _⟩
        case measure =>
          have e1 : Pl.cnt (doneAt wr B) 12 = Pl.cnt s.done 12 := Pl.cnt_congr 12 fun i hi => HSk.out.doneAt i hi
          have e2 : Pl.cnt (doneAt (wr.setCell ⟨B, 157 + m, none⟩ (.bool true)) B) 12 = Pl.cnt (Pl.upd s.done m true) 12 := Pl.cnt_congr 12 fun i hi => HD1.out.doneAt i hi
          have e3 := HCM.out
          rw [HN.out, Pl.dProc_done] at e3
          have e4 := Pl.cnt_le (Pl.upd s.done m true) 12
          rw [e1, e2]
          omega
      · have HP : Hid (Pl.dProc M D f s m = Pl.dRow M f m (Pl.dDone s m) 12) := hid (by unfold Pl.dProc; rw [HD.out, if_neg hdr])
        have HCR := hid (fun j => Pl.CB.row (L := M) (f := f) (s := Pl.dDone s m) (n := m) (N := 1000 * k) HL.out HCB.out h3.out j)
        rename World => w4
        have hcase : d = false ∨ (d = true ∧ ((m : Int) != (f : Int)) = false ∧ ((m : Int) == (f : Int)) = true) := by
          cases d
          · exact .inl rfl
          · have : m = f := Classical.byContradiction fun g => hdr ⟨rfl, g⟩
            exact .inr ⟨rfl, by rw [this]; simp, by rw [this]; simp⟩
        rcases hcase with rfl | ⟨rfl, hmf1, hmf2⟩
        all_goals
          go_wp2_with (refine wpList_load_mid rfl 78 (.tmp 36) rfl w1.heap.size (m * 12) rfl (ints12 (M m)) _ HRW.out Tryz.underlying78 rfl infoInts ?_)
          go_loopw [38] (fun i wr => ∃ j : Nat, j ≤ 12 ∧ i = .int .i64 j ∧ Hid (SAt wr B f (Pl.dRow M f m (Pl.dDone s m) j)) ∧ Hid (But B w2 wr)) (fun i _ => 12 - (intOf i).toNat)
          case atStart => exact ⟨0, by omega, rfl, HD1.out, HUk.out.setCell _ _⟩
          case round =>
            obtain ⟨j, hj, rfl, HSj, HUj⟩ := hrel
            by_cases hlt : j < 12
            · have hg := fun w => run_index_ints (M m) j hlt w
              have hcm := HSj.out.cost m h2
              have hBj := CellsAt.lt HSj.out
              obtain ⟨x, HXC⟩ : ∃ x, Hid ((Pl.dRow M f m (Pl.dDone s m) j).cost m = x) := ⟨_, rfl⟩
              rw [HXC.out] at hcm
              obtain ⟨y, HY⟩ : ∃ y, Hid (M m j = y) := ⟨_, rfl⟩
              rw [HY.out] at hg
              have hx1 : -1 ≤ x := by rw [← HXC.out]; exact (HCR.out j m).1
              have hx2 : x ≤ 20000 := by have := (HCR.out j m).2; rw [HXC.out] at this; omega
              have hy2 : y ≤ 1000 := by rw [← HY.out]; exact HL.out m j
              by_cases hy : 0 < y
              · have HRS : Hid (Pl.dRow M f m (Pl.dDone s m) (j + 1) = Pl.dStep f m j (x + y) (Pl.dRow M f m (Pl.dDone s m) j)) := hid (by
                  conv => lhs; unfold Pl.dRow
                  rw [HY.out, if_pos hy, HXC.out])
                go_wp2_with fail
                refine (step_any B f m j (x + y) _ _ HSj.out h2 hlt).mono ?_
                rintro e w5 ⟨rfl, hs5, hu5⟩
                have HS5 := hid hs5
                have HU5 := hid hu5
                clear hs5 hu5
                go_wp2_with fail
                go_roundw
                case rel => exact ⟨j + 1, by omega, by go_num, hid (by rw [HRS.out]; exact HS5.out), HUj.out.trans HU5.out⟩
                case measure => simp [intOf]; omega
              · have HRS : Hid (Pl.dRow M f m (Pl.dDone s m) (j + 1) = Pl.dRow M f m (Pl.dDone s m) j) := hid (by
                  conv => lhs; unfold Pl.dRow
                  rw [HY.out, if_neg hy])
                go_wp2_with fail
                go_roundw
                case rel => exact ⟨j + 1, by omega, by go_num, hid (by rw [HRS.out]; exact HSj.out), HUj⟩
                case measure => simp [intOf]; omega
            · obtain rfl : j = 12 := by omega
              go_wp2_with fail
              refine (nearest_any B f _ _ HSj.out).mono ?_
              rintro e w' ⟨rfl, hw'⟩
              rw [hw']
              clear hw' w'
              go_wp2_with fail
              go_roundw
              case rel => exact ⟨k + 1, _, by omega, rfl, hid (by rw [HN.out, HP.out]), hid (by rw [HN.out, HP.out]; exact HSj.out), HUj⟩
              case measure =>
                have e1 : Pl.cnt (doneAt w4 B) 12 = Pl.cnt s.done 12 := Pl.cnt_congr 12 fun i hi => HSk.out.doneAt i hi
                have e2 : Pl.cnt (doneAt wr B) 12 = Pl.cnt (Pl.upd s.done m true) 12 := Pl.cnt_congr 12 fun i hi => by rw [HSj.out.doneAt i hi, Pl.dRow_done]; rfl
                have e3 := HCM.out
                rw [HN.out, Pl.dProc_done] at e3
                have e4 := Pl.cnt_le (Pl.upd s.done m true) 12
                rw [e1, e2]
                omega
end Go.Proofs.YtpaobnhcbeklfaaGreatDoor
/-
  Contract: what a search has found, as a list of ways.
-/
namespace Go.Proofs.YtpaobnhcbeklfaaGreatDoor
open Go.RowKit
set_option maxRecDepth 20000

def cellsI (xs : List Int) : List Value := xs.map fun x => .int .i64 x
/-- a slice value over a row of numbers of the call's own -/
def OwnI (w : World) (base : Nat) (v : Value) (xs : List Int) : Prop := w.ownsRow base 3 1 v xs.length (cellsI xs)
theorem OwnI.nil (w : World) (base : Nat) : OwnI w base (.slice none 0 0) [] := World.ownsRow_nil _ _ _ _
theorem OwnI.below {w w' : World} {base : Nat} {v : Value} {xs : List Int} (h : OwnI w base v xs) (k : Below w.heap.size w w') : OwnI w' base v xs := ownsRow_under h k
theorem OwnI.mono {w : World} {base base' : Nat} {v : Value} {xs : List Int} (h : OwnI w base v xs) (k : base' ≤ base) : OwnI w base' v xs := by
  obtain ⟨h0, h1⟩ := h
  refine ⟨h0, ?_⟩
  rcases h1 with h1 | ⟨g, cap, cur, rfl, hb, hr⟩
  · exact .inl h1
  · exact .inr ⟨g, cap, cur, rfl, by omega, hr⟩
theorem OwnI.slice {w : World} {base : Nat} {v : Value} {xs : List Int} (h : OwnI w base v xs) : ∃ a cap, v = .slice a xs.length cap := by
  obtain ⟨_, ⟨h, h1⟩ | ⟨g, cap, cur, rfl, _⟩⟩ := h
  · rw [h1]; exact ⟨_, _, h⟩
  · exact ⟨_, _, rfl⟩
theorem infoInt : (Tryz.prog.info? 3).map (fun i => (i.zero, i.size, i.bytes)) = some (some (.int .i64 0), 1, 8) := by kernel_rfl
theorem append_intT {tS : TypeId} (hS : Tryz.prog.underlying tS = some (.slice 3))
    {w : World} {ops : Array Oper} {rest : List Oper} {o : Oper} {a : Act} {Q : Exit → Act → World → Prop} (hgd : o.guard = none) (s x : Operand)
    (ho : o.op = .call { callee := .builtin .append, args := #[s, x], argTypes := #[tS, tS] })
    (base : Nat) (v : Value) (xs : List Int) (p : Int) (hs : a.eval s = v) (hown : OwnI w base v xs) (hbase : base ≤ w.heap.size) (hx : a.eval x = .slice (some ⟨w.heap.size, 0, none⟩) 1 1) (hb : xs.length ≤ 1000000)
    (h : ∀ v' w', OwnI w' base v' (xs ++ [p]) → Below base w w' → wpList Tryz.prog ops Q rest (a.put o.dst v') w') :
    wpList Tryz.prog ops Q (o :: rest) a (w.alloc (.cells #[.int .i64 p] 3)) := by
  obtain ⟨i0, hi0, hz0, hz1, hz2⟩ := partsOf infoInt
  refine wpList_append_own (w := _) hgd s x tS ho base 3 i0 _ 1 8 hS hi0 hz0 hz1 hz2 rfl (by decide) _ xs.length (cellsI xs) hs (World.ownsRow.alloc hown _) ⟨w.heap.size, 0, none⟩ 1 1 [.int .i64 p] hx rfl ?_ ?_ (by unfold maxLen; omega) (by omega) (by simp; omega) ?_
  · intro j u hj
    rw [add_none]
    match j, hj with
    | 0, hj => simp at hj; subst hj; simp
  · intro u hu; simp at hu; subst hu; rfl
  · intro v' w' hown' hg _
    have hlt := World.ownsRow.lt hown
    refine h v' w' ?_ (((Below.refl _ _).alloc hbase _).grown hg (by simp; omega) (fun k hk => (hlt k hk).1))
    unfold OwnI
    simpa [cellsI] using hown'

/-- ways as they lie in memory: a cost, the value of the hops, and what they are -/
def cellsW : List (Int × Value × List Int) → List Value
  | [] => []
  | t :: r => .int .i64 t.1 :: t.2.1 :: cellsW r
theorem cellsW_append : ∀ a b : List (Int × Value × List Int), cellsW (a ++ b) = cellsW a ++ cellsW b
  | [], _ => rfl
  | t :: r, b => by simp [cellsW, cellsW_append r b]
def OwnW (w : World) (base : Nat) (v : Value) (ts : List (Int × Value × List Int)) : Prop :=
  w.ownsRow base 34 2 v ts.length (cellsW ts) ∧ ∀ t ∈ ts, OwnI w 0 t.2.1 t.2.2
theorem OwnW.nil (w : World) (base : Nat) : OwnW w base (.slice none 0 0) [] := ⟨World.ownsRow_nil _ _ _ _, by simp⟩
theorem OwnW.below {w w' : World} {base : Nat} {v : Value} {ts : List (Int × Value × List Int)} (h : OwnW w base v ts) (k : Below w.heap.size w w') : OwnW w' base v ts :=
  ⟨ownsRow_under h.1 k, fun t ht => (h.2 t ht).below k⟩
theorem OwnW.slice {w : World} {base : Nat} {v : Value} {ts : List (Int × Value × List Int)} (h : OwnW w base v ts) : ∃ a cap, v = .slice a ts.length cap := by
  obtain ⟨⟨_, ⟨h, h1⟩ | ⟨g, cap, cur, rfl, _⟩⟩, _⟩ := h
  · rw [h1]; exact ⟨_, _, h⟩
  · exact ⟨_, _, rfl⟩
theorem infoWay : (Tryz.prog.info? 34).map (fun i => (i.zero, i.size, i.bytes)) = some (some (.agg #[.int .i64 0, .slice none 0 0]), 2, 32) := by kernel_rfl
theorem append_wayT
    {w : World} {ops : Array Oper} {rest : List Oper} {o : Oper} {a : Act} {Q : Exit → Act → World → Prop} (hgd : o.guard = none) (s x : Operand)
    (ho : o.op = .call { callee := .builtin .append, args := #[s, x], argTypes := #[29, 29] })
    (base : Nat) (v : Value) (ts : List (Int × Value × List Int)) (c : Int) (hv : Value) (xs : List Int) (hs : a.eval s = v) (hown : OwnW w base v ts) (hh : OwnI w 0 hv xs) (hbase : base ≤ w.heap.size) (hx : a.eval x = .slice (some ⟨w.heap.size, 0, none⟩) 1 1) (hb : ts.length ≤ 1000000)
    (h : ∀ v' w', OwnW w' base v' (ts ++ [(c, hv, xs)]) → Below base w w' → wpList Tryz.prog ops Q rest (a.put o.dst v') w') :
    wpList Tryz.prog ops Q (o :: rest) a (w.alloc (.cells #[.int .i64 c, hv] 34)) := by
  obtain ⟨i0, hi0, hz0, hz1, hz2⟩ := partsOf infoWay
  obtain ⟨ah, caph, rfl⟩ := hh.slice
  refine wpList_append_own (w := _) hgd s x 29 ho base 34 i0 _ 2 32 Tryz.underlying29 hi0 hz0 hz1 hz2 rfl (by decide) _ ts.length (cellsW ts) hs (World.ownsRow.alloc hown.1 _) ⟨w.heap.size, 0, none⟩ 1 1 [.int .i64 c, .slice ah xs.length caph] hx rfl ?_ ?_ (by unfold maxLen; omega) (by omega) (by simp; omega) ?_
  · intro j u hj
    rw [add_none]
    match j, hj with
    | 0, hj => simp at hj; subst hj; simp
    | 1, hj => simp at hj; subst hj; simp
  · intro u hu; simp at hu; rcases hu with rfl | rfl <;> rfl
  · intro v' w' hown' hg _
    have hlt := World.ownsRow.lt hown.1
    refine h v' w' ⟨?_, ?_⟩ (((Below.refl _ _).alloc hbase _).grown hg (by simp; omega) (fun k hk => (hlt k hk).1))
    · rw [cellsW_append]
      simpa [cellsW] using hown'
    · have key : ∀ hv' xs', OwnI w 0 hv' xs' → OwnI w' 0 hv' xs' := by
        intro hv' xs' ⟨q0, q1⟩
        refine ⟨q0, ?_⟩
        rcases q1 with q1 | ⟨g, cap, cur, rfl, qb, qh, qr⟩
        · exact .inl q1
        · refine .inr ⟨g, cap, cur, rfl, qb, ?_, qr⟩
          have hgl := blockLt qh
          rw [hg.block g (by simp; omega) ?_, Below.heap_alloc _ _ _ hgl]
          · exact qh
          · intro e
            rcases hown.1.2 with ⟨rfl, _⟩ | ⟨g2, cap2, cur2, rfl, _, qh2, _⟩
            · simp [Value.ownBlock] at e
            · simp only [Value.ownBlock, Option.some.injEq] at e
              rw [e, qh2] at qh
              simp at qh
      intro t ht
      simp only [List.mem_append, List.mem_singleton] at ht
      rcases ht with ht | rfl
      · exact key _ _ (hown.2 t ht)
      · exact key _ _ hh

def Pl.hopsL (h : Nat → Bool) : Nat → List Int
  | 0 => []
  | k + 1 => if h k = true then Pl.hopsL h k ++ [(k : Int)] else Pl.hopsL h k
theorem Pl.hopsL_len (h : Nat → Bool) (k : Nat) : (Pl.hopsL h k).length ≤ k := by
  induction k with
  | zero => exact Nat.le_refl _
  | succ k ih =>
    unfold Pl.hopsL
    split
    · rw [List.length_append]; show _ + 1 ≤ _; omega
    · omega
theorem Pl.hopsL_on {h : Nat → Bool} {k : Nat} (e : h k = true) : Pl.hopsL h (k + 1) = Pl.hopsL h k ++ [(k : Int)] := by
  show (if h k = true then _ else _) = _
  rw [if_pos e]
theorem Pl.hopsL_off {h : Nat → Bool} {k : Nat} (e : h k = false) : Pl.hopsL h (k + 1) = Pl.hopsL h k := by
  show (if h k = true then _ else _) = _
  rw [if_neg (by rw [e]; decide)]
def Pl.wayL (s : Pl.DS) : Nat → List (Int × List Int)
  | 0 => []
  | k + 1 => Pl.wayL s k ++ [(s.cost k, Pl.hopsL (s.hops k) 12)]
def Pl.flat (ts : List (Int × Value × List Int)) : List (Int × List Int) := ts.map fun t => (t.1, t.2.2)

set_option maxHeartbeats 2000000 in
theorem ways_any (B f : Nat) (s : Pl.DS) (w : World) (h : SAt w B f s) :
    Calls Tryz.prog 21 #[.pointer (some ⟨B, 0, none⟩)] w fun e w' => ∃ v ts, e = .returned v ∧ OwnW w' w.heap.size v ts ∧ Pl.flat ts = Pl.wayL s 12 ∧ Below w.heap.size w w' := by
  have HS := hid h
  have hB := CellsAt.lt h
  clear h
  go_enter Tryz.func21, Tryz.ntmps21
  go_wp2_with fail
  go_loopw [3, 8] (fun vl i wr => ∃ (k : Nat) (v : Value) (ts : List (Int × Value × List Int)), v = vl ∧ k ≤ 12 ∧ i = .int .i64 k ∧ Hid (OwnW wr w.heap.size v ts) ∧ Hid (Pl.flat ts = Pl.wayL s k) ∧ Hid (ts.length = k) ∧ Hid (Below w.heap.size w wr)) (fun _ i _ => 12 - (intOf i).toNat)
  case atStart => exact ⟨0, .slice none 0 0, [], rfl, by omega, rfl, OwnW.nil _ _, rfl, rfl, Below.refl _ _⟩
  case round =>
    obtain ⟨k, v, ts, hvl, hk, rfl, HO, HF, HN, HB⟩ := hrel
    subst hvl
    by_cases hlt : k < 12
    · have HSr := hid (CellsAt.below HS.out HB.out)
      have hc := SAt.cost HSr.out k hlt
      have hBr := CellsAt.lt HSr.out
      obtain ⟨c, HC⟩ : ∃ c, Hid (s.cost k = c) := ⟨_, rfl⟩
      rw [HC.out] at hc
      obtain ⟨H, HH⟩ : ∃ x, Hid (s.hops k = x) := ⟨_, rfl⟩
      have HRH : Hid ((wr.alloc (.cells #[.int .i64 c, .slice none 0 0] 34)).rangeAt B (13 + k * 12) (bools12 H)) := hid (by
        rw [← HH.out]; exact World.rangeAt_alloc (SAt.hopsOf HSr.out k hlt) _)
      rename World => w4
      go_wp2_with (refine wpList_load_mid rfl 79 (.tmp 22) rfl B (13 + k * 12) rfl (bools12 H) _ HRH.out Tryz.underlying79 rfl infoBools ?_)
      go_loopw [24] (fun i wr => ∃ (j : Nat) (hv : Value), j ≤ 12 ∧ i = .int .i64 j ∧ Hid (wr.heap[w4.heap.size]? = some (.cells #[.int .i64 c, hv] 34)) ∧ Hid (OwnI wr (w4.heap.size + 1) hv (Pl.hopsL H j)) ∧ Hid (Below w4.heap.size w4 wr)) (fun i _ => 12 - (intOf i).toNat)
      case atStart => exact ⟨0, .slice none 0 0, by omega, rfl, heapNew _ _, OwnI.nil _ _, (Below.refl _ _).alloc (Nat.le_refl _) _⟩
      case round =>
        obtain ⟨j, hv, hj, rfl, HA, HI, HB4⟩ := hrel
        obtain ⟨a3, cap3, rfl⟩ := HI.out.slice
        obtain ⟨z0, z1, f0, f1, hAr⟩ := adjAt_cells HA.out
        by_cases hjl : j < 12
        · have hg := fun w => run_index_bools H j hjl w
          obtain ⟨b, HBK⟩ : ∃ b, Hid (H j = b) := ⟨_, rfl⟩
          rw [HBK.out] at hg
          have hlen := Pl.hopsL_len H j
          obtain ⟨n3, HN3⟩ : ∃ n, Hid ((Pl.hopsL H j).length = n) := ⟨_, rfl⟩
          rw [HN3.out] at HA HI z1 hlen
          cases b
          case true =>
            have HNX := hid (Pl.hopsL_on HBK.out)
            go_wp2_with (at_builtin; refine append_intT Tryz.underlying32 rfl (.tmp 30) (.tmp 32) rfl (w4.heap.size + 1) (.slice a3 n3 cap3) (Pl.hopsL H j) j rfl HI.out (by omega) rfl (by have := HN3.out; omega) ?_; intro v5 w5 ho5 hb5; obtain ⟨a5, cap5, rfl⟩ := ho5.slice; obtain ⟨n5, HN5⟩ : ∃ n, Hid ((Pl.hopsL H j ++ [(j : Int)]).length = n) := ⟨_, rfl⟩; rw [HN5.out] at ho5; have HO5 := hid ho5; have HB5 := hid hb5; have h5 := (hb5.block w4.heap.size (Nat.lt_succ_self _)).trans HA.out; obtain ⟨y0, y1, g0, g1, hA5⟩ := adjAt_cells h5; have H5 := hid h5; rw [HN5.out]; clear ho5 hb5 h5)
            go_roundw
            case rel =>
              refine ⟨j + 1, .slice a5 n5 cap5, by omega, by go_num, adjAt_set H5.out _, hid ?_, (HB4.out.trans (HB5.out.mono (Nat.le_succ _))).setCell (Nat.le_refl _) _⟩
              rw [HNX.out]
              exact ownsRow_setCell_below HO5.out (Nat.lt_succ_self _) _
            case measure => simp [intOf]; omega
          case false =>
            have HNX := hid (Pl.hopsL_off HBK.out)
            go_wp2_with fail
            go_roundw
            case rel => exact ⟨j + 1, .slice a3 n3 cap3, by omega, by go_num, HA, hid (by rw [HNX.out]; exact HI.out), HB4⟩
            case measure => simp [intOf]; omega
        · obtain rfl : j = 12 := by omega
          have HOr := hid (HO.out.below HB4.out)
          have HI0 := hid (HI.out.mono (Nat.zero_le _))
          obtain ⟨n3, HN3⟩ : ∃ n, Hid ((Pl.hopsL H 12).length = n) := ⟨_, rfl⟩
          rw [HN3.out] at HA HI HI0 z1
          have hz4 := HB.out.size
          have hzr := HB4.out.size
          go_wp2_with (at_builtin; refine append_wayT rfl (.tmp 36) (.tmp 38) rfl w.heap.size v ts c (.slice a3 n3 cap3) (Pl.hopsL H 12) rfl HOr.out HI0.out (by omega) rfl (by have := HN.out; omega) ?_; intro v5 w5 ho5 hb5; have HO5 := hid ho5; have HB5 := hid hb5; clear ho5 hb5)
          go_roundw
          case rel =>
            refine ⟨k + 1, _, ts ++ [(c, .slice a3 n3 cap3, Pl.hopsL H 12)], rfl, by omega, by go_num, HO5, hid ?_, hid (by simp [HN.out]), (HB.out.trans (HB4.out.mono hz4)).trans HB5.out⟩
            show (ts ++ _).map _ = Pl.wayL s k ++ _
            rw [List.map_append, ← HF.out, ← HC.out, ← HH.out]
            rfl
          case measure => simp [intOf]; omega
    · obtain rfl : k = 12 := by omega
      go_wp2_with fail
      go_ret
      exact ⟨_, ts, rfl, HO.out, HF.out, HB.out⟩
end Go.Proofs.YtpaobnhcbeklfaaGreatDoor
/-
  Plain: a table that is made route by route; what stands at each prefix of it; no program in sight.
-/
namespace Go.Proofs.YtpaobnhcbeklfaaGreatDoor
open Go.RowKit
set_option maxRecDepth 20000

theorem Pl.mem_hopsL {h : Nat → Bool} {k : Nat} {x : Int} : x ∈ Pl.hopsL h k ↔ ∃ j, j < k ∧ x = (j : Int) ∧ h j = true := by
  induction k with
  | zero => simp [Pl.hopsL]
  | succ k ih =>
    cases e : h k
    · rw [Pl.hopsL_off e, ih]
      constructor
      · rintro ⟨j, h1, h2, h3⟩; exact ⟨j, by omega, h2, h3⟩
      · rintro ⟨j, h1, h2, h3⟩
        refine ⟨j, ?_, h2, h3⟩
        rcases Nat.lt_or_ge j k with g | g
        · exact g
        · obtain rfl : j = k := by omega
          rw [e] at h3; cases h3
    · rw [Pl.hopsL_on e, List.mem_append, List.mem_singleton, ih]
      constructor
      · rintro (⟨j, h1, h2, h3⟩ | rfl)
        · exact ⟨j, by omega, h2, h3⟩
        · exact ⟨k, by omega, rfl, e⟩
      · rintro ⟨j, h1, h2, h3⟩
        rcases Nat.lt_or_ge j k with g | g
        · exact .inl ⟨j, g, h2, h3⟩
        · obtain rfl : j = k := by omega
          exact .inr h2
theorem Pl.hopsL_up (h : Nat → Bool) (k : Nat) : (Pl.hopsL h k).Pairwise (· < ·) := by
  induction k with
  | zero => exact List.Pairwise.nil
  | succ k ih =>
    cases e : h k
    · rw [Pl.hopsL_off e]; exact ih
    · rw [Pl.hopsL_on e, List.pairwise_append]
      refine ⟨ih, by simp, fun x hx y hy => ?_⟩
      obtain ⟨j, h1, h2, _⟩ := Pl.mem_hopsL.1 hx
      simp at hy
      omega
theorem Pl.hopsB_of {l : List Int} (h1 : ∀ x ∈ l, 0 ≤ x ∧ x ≤ 11) (h2 : l.Pairwise (· < ·)) : Pl.hopsB l = true := by
  refine Pl.hopsB_true fun k hk => ?_
  have g := h1 _ (List.getElem_mem hk)
  rw [← Pl.nm_eq l k hk] at g
  cases k with
  | zero => rw [Pl.hopB_zero]; simpa using g
  | succ m =>
    rw [Pl.hopB_succ]
    have := List.pairwise_iff_getElem.1 h2 m (m + 1) (by omega) hk (by omega)
    rw [← Pl.nm_eq l m (by omega), ← Pl.nm_eq l (m + 1) hk] at this
    simp only [Bool.and_eq_true, decide_eq_true_eq]
    exact ⟨g, this⟩
theorem Pl.hopsB_range {l : List Int} (h : Pl.hopsB l = true) : ∀ x ∈ l, 0 ≤ x ∧ x ≤ 11 := by
  intro x hx
  obtain ⟨i, hi, rfl⟩ := List.getElem_of_mem hx
  have := Pl.hopsB_at h i hi
  unfold Pl.hopB at this
  simp only [Bool.and_eq_true, decide_eq_true_eq] at this
  rw [← Pl.nm_eq l i hi]
  exact this.1
theorem Pl.hopsL_B (h : Nat → Bool) {k : Nat} (hk : k ≤ 12) : Pl.hopsB (Pl.hopsL h k) = true :=
  Pl.hopsB_of (fun x hx => by obtain ⟨j, h1, h2, _⟩ := Pl.mem_hopsL.1 hx; omega) (Pl.hopsL_up h k)
/-- rising lists with the same members are the same -/
theorem Pl.up_ext : ∀ {a b : List Int}, a.Pairwise (· < ·) → b.Pairwise (· < ·) → (∀ x, x ∈ a ↔ x ∈ b) → a = b
  | [], [], _, _, _ => rfl
  | [], y :: b, _, _, h => absurd ((h y).2 (by simp)) (by simp)
  | x :: a, [], _, _, h => absurd ((h x).1 (by simp)) (by simp)
  | x :: a, y :: b, ha, hb, h => by
    rw [List.pairwise_cons] at ha hb
    have e : x = y := by
      have h1 := (h x).1 (by simp)
      have h2 := (h y).2 (by simp)
      rcases List.mem_cons.1 h1 with h1 | h1
      · exact h1
      · rcases List.mem_cons.1 h2 with h2 | h2
        · exact h2.symm
        · have := hb.1 x h1; have := ha.1 y h2; omega
    subst e
    rw [Pl.up_ext ha.2 hb.2 fun z => ?_]
    constructor
    · intro hz
      rcases List.mem_cons.1 ((h z).1 (by simp [hz])) with g | g
      · have := ha.1 z hz; omega
      · exact g
    · intro hz
      rcases List.mem_cons.1 ((h z).2 (by simp [hz])) with g | g
      · have := hb.1 z hz; omega
      · exact g

/-- hops of both -/
def Pl.unite (a b : List Int) : List Int := Pl.hopsL (fun k => decide ((k : Int) ∈ a) || decide ((k : Int) ∈ b)) 12
theorem Pl.mem_unite {a b : List Int} {x : Int} (ha : ∀ x ∈ a, 0 ≤ x ∧ x ≤ 11) (hb : ∀ x ∈ b, 0 ≤ x ∧ x ≤ 11) : x ∈ Pl.unite a b ↔ x ∈ a ∨ x ∈ b := by
  unfold Pl.unite
  rw [Pl.mem_hopsL]
  constructor
  · rintro ⟨j, _, rfl, h⟩; simpa using h
  · intro h
    have hx : 0 ≤ x ∧ x ≤ 11 := h.elim (ha x) (hb x)
    refine ⟨x.toNat, by omega, by omega, ?_⟩
    rw [show ((x.toNat : Nat) : Int) = x by omega]
    simpa using h
/-- the best of two routes -/
def Pl.bestR (a b : Pl.Rt) : Pl.Rt := if b.cost < a.cost then b else if b.cost = a.cost then ⟨a.p, a.here, a.cost, Pl.unite a.hops b.hops⟩ else a
def Pl.offX (rs : List Pl.Rt) (r : Pl.Rt) : Pl.Rt := if Pl.thereP (rs.map Pl.Rt.p) r.p then Pl.bestR (Pl.rt rs (Pl.posP (rs.map Pl.Rt.p) r.p)) r else r
/-- a route is offered -/
def Pl.offR (rs : List Pl.Rt) (r : Pl.Rt) : List Pl.Rt := Pl.insR rs (Pl.offX rs r)
/-- the route at a prefix -/
def Pl.getR : List Pl.Rt → Int × Int → Option Pl.Rt
  | [], _ => none
  | e :: r, q => if e.p = q then some e else Pl.getR r q
theorem Pl.getR_none {rs : List Pl.Rt} {q : Int × Int} (h : ∀ r ∈ rs, ¬ r.p = q) : Pl.getR rs q = none := by
  induction rs with
  | nil => rfl
  | cons e r ih => unfold Pl.getR; rw [if_neg (h e (by simp))]; exact ih fun x hx => h x (by simp [hx])
theorem Pl.getR_some {rs : List Pl.Rt} {q : Int × Int} {x : Pl.Rt} (h : Pl.getR rs q = some x) : x ∈ rs ∧ x.p = q := by
  induction rs with
  | nil => cases h
  | cons e r ih =>
    unfold Pl.getR at h
    split at h
    · rename_i g; cases h; exact ⟨by simp, g⟩
    · obtain ⟨h1, h2⟩ := ih h; exact ⟨by simp [h1], h2⟩
theorem Pl.getR_mem {rs : List Pl.Rt} (hs : Pl.SrtR rs) {x : Pl.Rt} (h : x ∈ rs) : Pl.getR rs x.p = some x := by
  induction rs with
  | nil => simp at h
  | cons e r ih =>
    unfold Pl.SrtR at hs ih
    rw [List.pairwise_cons] at hs
    unfold Pl.getR
    rcases List.mem_cons.1 h with rfl | h
    · rw [if_pos rfl]
    · rw [if_neg (Pl.pltB_ne (hs.1 x h))]; exact ih hs.2 h
theorem Pl.getR_there {rs : List Pl.Rt} (hs : Pl.SrtR rs) (q : Int × Int) : Pl.getR rs q = if Pl.thereP (rs.map Pl.Rt.p) q then some (Pl.rt rs (Pl.posP (rs.map Pl.Rt.p) q)) else none := by
  induction rs with
  | nil => simp [Pl.getR, Pl.thereP]
  | cons e r ih =>
    unfold Pl.SrtR at hs ih
    rw [List.pairwise_cons] at hs
    unfold Pl.getR
    cases h : Pl.pltB e.p q
    · rw [List.map_cons, Pl.thereP_cons_ge h]
      by_cases g : e.p = q
      · simp [g, Pl.posP, Pl.pltB_irrefl, Pl.rt]
      · rw [if_neg g, if_neg (by simpa using g)]
        refine Pl.getR_none fun x hx e' => ?_
        have := hs.1 x hx
        rw [e', h] at this; cases this
    · rw [if_neg (Pl.pltB_ne h), List.map_cons, Pl.thereP_cons_lt h, ih hs.2]
      simp [Pl.posP, h, Pl.rt_cons_succ]
theorem Pl.getR_ins {rs : List Pl.Rt} (hs : Pl.SrtR rs) (x : Pl.Rt) (q : Int × Int) : Pl.getR (Pl.insR rs x) q = if x.p = q then some x else Pl.getR rs q := by
  induction rs with
  | nil => simp [Pl.insR, Pl.getR]
  | cons e r ih =>
    unfold Pl.SrtR at hs ih
    rw [List.pairwise_cons] at hs
    unfold Pl.insR
    split
    · rename_i h
      unfold Pl.getR
      rw [ih hs.2]
      by_cases g : e.p = q
      · rw [if_pos g, if_pos g, if_neg (by intro e'; exact Pl.pltB_ne h (g.trans e'.symm))]
      · rw [if_neg g, if_neg g]
    · split
      · rename_i h1 h2
        unfold Pl.getR
        rw [h2]
        by_cases g : x.p = q
        · rw [if_pos g, if_pos g]
        · rw [if_neg g, if_neg g, if_neg g]
      · rfl
/-- tables in order with the same route at each prefix are the same -/
theorem Pl.srtR_ext : ∀ {a b : List Pl.Rt}, Pl.SrtR a → Pl.SrtR b → (∀ q, Pl.getR a q = Pl.getR b q) → a = b
  | [], [], _, _, _ => rfl
  | [], y :: b, _, _, h => by have := h y.p; simp [Pl.getR] at this
  | x :: a, [], _, _, h => by have := h x.p; simp [Pl.getR] at this
  | x :: a, y :: b, ha, hb, h => by
    have hx := h x.p
    have hy := h y.p
    have hx1 : Pl.getR (x :: a) x.p = some x := by simp [Pl.getR]
    have hy1 : Pl.getR (y :: b) y.p = some y := by simp [Pl.getR]
    have hxb := Pl.getR_some (hx.symm.trans hx1)
    have hya := Pl.getR_some (hy.trans hy1)
    unfold Pl.SrtR at ha hb
    rw [List.pairwise_cons] at ha hb
    have e : x = y := by
      rcases List.mem_cons.1 hxb.1 with g | g
      · exact g
      · rcases List.mem_cons.1 hya.1 with g2 | g2
        · exact g2.symm
        · have h1 := hb.1 x g
          have h2 := ha.1 y g2
          rw [Pl.pltB_asymm h1] at h2; cases h2
    subst e
    rw [Pl.srtR_ext ha.2 hb.2 fun q => ?_]
    by_cases g : x.p = q
    · subst g
      rw [Pl.getR_none fun r hr e => ?_, Pl.getR_none fun r hr e => ?_]
      · have := hb.1 r hr; rw [e, Pl.pltB_irrefl] at this; cases this
      · have := ha.1 r hr; rw [e, Pl.pltB_irrefl] at this; cases this
    · have := h q
      unfold Pl.getR at this
      rwa [if_neg g, if_neg g] at this

theorem Pl.bestR_p {a b : Pl.Rt} (h : a.p = b.p) : (Pl.bestR a b).p = b.p := by
  unfold Pl.bestR
  split
  · rfl
  · split
    · exact h
    · exact h
theorem Pl.offX_p (rs : List Pl.Rt) (r : Pl.Rt) : (Pl.offX rs r).p = r.p := by
  unfold Pl.offX
  split
  · rename_i h
    refine Pl.bestR_p ?_
    have h1 := Pl.thereP_eq h
    have h2 := Pl.thereP_lt h
    rw [Pl.pr_map rs _ (by simpa using h2)] at h1
    exact h1
  · rfl
/-- what comes of one more route at a prefix -/
def Pl.more (o : Option Pl.Rt) (r : Pl.Rt) : Pl.Rt := match o with | none => r | some a => Pl.bestR a r
theorem Pl.offX_more {rs : List Pl.Rt} (hs : Pl.SrtR rs) (r : Pl.Rt) : Pl.offX rs r = Pl.more (Pl.getR rs r.p) r := by
  unfold Pl.offX Pl.more
  rw [Pl.getR_there hs]
  split
  · rfl
  · rfl
theorem Pl.offR_srt {rs : List Pl.Rt} (hs : Pl.SrtR rs) (r : Pl.Rt) : Pl.SrtR (Pl.offR rs r) := Pl.insR_srt hs
theorem Pl.getR_off {rs : List Pl.Rt} (hs : Pl.SrtR rs) (r : Pl.Rt) (q : Int × Int) : Pl.getR (Pl.offR rs r) q = if r.p = q then some (Pl.more (Pl.getR rs q) r) else Pl.getR rs q := by
  unfold Pl.offR
  rw [Pl.getR_ins hs, Pl.offX_p]
  split
  · rename_i h; rw [Pl.offX_more hs, h]
  · rfl
theorem Pl.offR_len (rs : List Pl.Rt) (r : Pl.Rt) : (Pl.offR rs r).length ≤ rs.length + 1 := by
  unfold Pl.offR
  rw [Pl.insR_len]; split <;> omega

/-- the route to a node's prefix -/
def Pl.mkR (C : Nat → Int) (H : Nat → List Int) (node n : Nat) (p : Int × Int) : Pl.Rt := ⟨p, decide ((n : Int) = (node : Int)), C n, H n⟩
/-- the prefixes of a node are offered, one by one -/
def Pl.offs (C : Nat → Int) (H : Nat → List Int) (node n : Nat) (rs : List Pl.Rt) (ps : List (Int × Int)) : List Pl.Rt := ps.foldl (fun rs p => Pl.offR rs (Pl.mkR C H node n p)) rs
/-- the table of so many nodes -/
def Pl.tabK (C : Nat → Int) (H : Nat → List Int) (P : Nat → List (Int × Int)) (node : Nat) : Nat → List Pl.Rt
  | 0 => []
  | k + 1 => if C k < 0 then Pl.tabK C H P node k else Pl.offs C H node k (Pl.tabK C H P node k) (P k)
def Pl.getT (C : Nat → Int) (H : Nat → List Int) (P : Nat → List (Int × Int)) (node : Nat) (q : Int × Int) : Nat → Option Pl.Rt
  | 0 => none
  | k + 1 => if C k < 0 ∨ ¬ q ∈ P k then Pl.getT C H P node q k else some (Pl.more (Pl.getT C H P node q k) (Pl.mkR C H node k q))
theorem Pl.offs_srt (C H node n) : ∀ (ps : List (Int × Int)) (rs : List Pl.Rt), Pl.SrtR rs → Pl.SrtR (Pl.offs C H node n rs ps)
  | [], _, h => h
  | _ :: ps, _, h => Pl.offs_srt C H node n ps _ (Pl.offR_srt h _)
theorem Pl.offs_len (C H node n) : ∀ (ps : List (Int × Int)) (rs : List Pl.Rt), (Pl.offs C H node n rs ps).length ≤ rs.length + ps.length
  | [], _ => by simp [Pl.offs]
  | p :: ps, rs => by
    have h1 := Pl.offs_len C H node n ps (Pl.offR rs (Pl.mkR C H node n p))
    have h2 := Pl.offR_len rs (Pl.mkR C H node n p)
    show (Pl.offs C H node n (Pl.offR rs (Pl.mkR C H node n p)) ps).length ≤ _
    simp only [List.length_cons]; omega
theorem Pl.offs_get (C H node n) (q : Int × Int) : ∀ (ps : List (Int × Int)) (rs : List Pl.Rt), Pl.SrtR rs → ps.Nodup → Pl.getR (Pl.offs C H node n rs ps) q = if q ∈ ps then some (Pl.more (Pl.getR rs q) (Pl.mkR C H node n q)) else Pl.getR rs q
  | [], rs, _, _ => by simp [Pl.offs]
  | p :: ps, rs, h, hn => by
    rw [List.nodup_cons] at hn
    show Pl.getR (Pl.offs C H node n (Pl.offR rs (Pl.mkR C H node n p)) ps) q = _
    rw [Pl.offs_get C H node n q ps _ (Pl.offR_srt h _) hn.2, Pl.getR_off h]
    show (if q ∈ ps then some (Pl.more (if p = q then _ else _) _) else if p = q then _ else _) = _
    by_cases g : p = q
    · subst g
      rw [if_neg hn.1, if_pos rfl, if_pos (by simp)]
    · simp only [if_neg g]
      by_cases g2 : q ∈ ps
      · rw [if_pos g2, if_pos (by simp [g2])]
      · rw [if_neg g2, if_neg (by simp [g2, Ne.symm g])]
theorem Pl.tabK_srt (C H P node) : ∀ k, Pl.SrtR (Pl.tabK C H P node k)
  | 0 => List.Pairwise.nil
  | k + 1 => by
    unfold Pl.tabK
    split
    · exact Pl.tabK_srt C H P node k
    · exact Pl.offs_srt _ _ _ _ _ _ (Pl.tabK_srt C H P node k)
theorem Pl.tabK_len {C H P node} (hP : ∀ i, (P i).length ≤ 6) : ∀ k, (Pl.tabK C H P node k).length ≤ k * 6
  | 0 => by simp [Pl.tabK]
  | k + 1 => by
    have h1 := Pl.tabK_len (C := C) (H := H) (node := node) hP k
    unfold Pl.tabK
    split
    · omega
    · have := Pl.offs_len C H node k (P k) (Pl.tabK C H P node k)
      have := hP k
      omega
theorem Pl.tabK_get {C H P node} (hP : ∀ i, (P i).Nodup) (q : Int × Int) : ∀ k, Pl.getR (Pl.tabK C H P node k) q = Pl.getT C H P node q k
  | 0 => rfl
  | k + 1 => by
    have h1 := Pl.tabK_get (C := C) (H := H) (node := node) hP q k
    unfold Pl.tabK Pl.getT
    by_cases g : C k < 0
    · rw [if_pos g, if_pos (.inl g)]; exact h1
    · rw [if_neg g, Pl.offs_get C H node k q _ _ (Pl.tabK_srt C H P node k) (hP k), h1]
      by_cases g2 : q ∈ P k
      · rw [if_pos g2, if_neg (by simp [g2]; omega)]
      · rw [if_neg g2, if_pos (.inr g2)]

/-- a route as ways make one -/
def Pl.okR (r : Pl.Rt) : Prop := Pl.routeB r = true ∧ r.here = decide (r.cost = 0)
theorem Pl.routeB_iff (r : Pl.Rt) : Pl.routeB r = true ↔ Pl.pfx1 r.p = 0 ∧ (0 ≤ r.cost ∧ r.cost ≤ 1048576) ∧ (if r.here then r.cost = 0 ∧ r.hops = [] else r.hops ≠ []) ∧ Pl.hopsB r.hops = true := by
  unfold Pl.routeB
  cases r.here <;> simp [and_assoc]
theorem Pl.bestR_ok {a b : Pl.Rt} (ha : Pl.okR a) (hb : Pl.okR b) : Pl.okR (Pl.bestR a b) := by
  unfold Pl.bestR
  split
  · exact hb
  · split
    · rename_i h1 h2
      obtain ⟨ha1, ha2⟩ := ha
      obtain ⟨hb1, hb2⟩ := hb
      rw [Pl.routeB_iff] at ha1 hb1
      obtain ⟨a1, a2, a3, a4⟩ := ha1
      obtain ⟨b1, b2, b3, b4⟩ := hb1
      refine ⟨(Pl.routeB_iff _).2 ⟨a1, a2, ?_, Pl.hopsL_B _ (Nat.le_refl _)⟩, ha2⟩
      show if a.here then a.cost = 0 ∧ Pl.unite a.hops b.hops = [] else Pl.unite a.hops b.hops ≠ []
      cases hh : a.here
      · rw [hh] at a3
        simp only [Bool.false_eq_true, if_false] at a3 ⊢
        intro e
        obtain ⟨x, xs, hx⟩ : ∃ x xs, a.hops = x :: xs := by
          cases hq : a.hops with
          | nil => exact absurd hq a3
          | cons x xs => exact ⟨x, xs, rfl⟩
        have : x ∈ Pl.unite a.hops b.hops := (Pl.mem_unite (Pl.hopsB_range a4) (Pl.hopsB_range b4)).2 (.inl (by rw [hx]; simp))
        rw [e] at this; simp at this
      · rw [hh] at a3
        simp only [if_true] at a3 ⊢
        have hbh : b.here = true := by rw [hb2, h2, ← ha2, hh]
        rw [hbh] at b3
        simp only [if_true] at b3
        refine ⟨a3.1, ?_⟩
        rw [a3.2, b3.2]; decide
    · exact ha
theorem Pl.more_ok {o : Option Pl.Rt} {r : Pl.Rt} (ho : ∀ a, o = some a → Pl.okR a) (hr : Pl.okR r) : Pl.okR (Pl.more o r) := by
  cases o with
  | none => exact hr
  | some a => exact Pl.bestR_ok (ho a rfl) hr
/-- ways, and what nodes tell: each route to a told prefix is one that may be -/
def Pl.WP (C : Nat → Int) (H : Nat → List Int) (P : Nat → List (Int × Int)) (node : Nat) : Prop := ∀ n, n < 12 → 0 ≤ C n → ∀ p ∈ P n, Pl.okR (Pl.mkR C H node n p)
theorem Pl.getT_ok {C H P node} (h : Pl.WP C H P node) (q : Int × Int) : ∀ k, k ≤ 12 → ∀ a, Pl.getT C H P node q k = some a → Pl.okR a ∧ a.p = q
  | 0, _, a, e => by cases e
  | k + 1, hk, a, e => by
    have ih := Pl.getT_ok h q k (by omega)
    unfold Pl.getT at e
    split at e
    · exact ih a e
    · rename_i g
      cases e
      have g1 : 0 ≤ C k := by omega
      have g2 : q ∈ P k := Decidable.byContradiction fun h => g (.inr h)
      refine ⟨Pl.more_ok (fun a ha => (ih a ha).1) (h k (by omega) g1 q g2), ?_⟩
      cases ho : Pl.getT C H P node q k with
      | none => rfl
      | some b => exact Pl.bestR_p ((ih b ho).2)
theorem Pl.tabK_good {C H P node} (h : Pl.WP C H P node) (hn : ∀ i, (P i).Nodup) (hl : ∀ i, (P i).length ≤ 6) (k : Nat) (hk : k ≤ 12) : Pl.GoodT (Pl.tabK C H P node k) ∧ ∀ r ∈ Pl.tabK C H P node k, Pl.okR r := by
  have hok : ∀ r ∈ Pl.tabK C H P node k, Pl.okR r := by
    intro r hr
    have h1 := Pl.getR_mem (Pl.tabK_srt C H P node k) hr
    rw [Pl.tabK_get hn] at h1
    exact (Pl.getT_ok h r.p k hk r h1).1
  exact ⟨⟨by have := Pl.tabK_len (C := C) (H := H) (node := node) hl k; omega, fun r hr => (hok r hr).1, Pl.tabK_srt C H P node k⟩, hok⟩
end Go.Proofs.YtpaobnhcbeklfaaGreatDoor
