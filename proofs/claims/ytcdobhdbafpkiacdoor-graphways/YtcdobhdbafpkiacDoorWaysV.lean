/-
  Contract: what graph.Ways answers at every list of entries and every number.
-/
import Derived.Test.YtcdobhdbafpkiacDoorWaysW
import Derived.Test.YtcdobhdbafpkiacDoorTold
import Derived.Test.YtcdobhdbafpkiacDoorCheck
namespace Go.Proofs.YtcdobhdbafpkiacDoor
open Go.RowKit
set_option maxRecDepth 20000

/-- sides, each with a node and a cost, the nodes rising -/
def Pl.sidesUp (ps : List (Int × Int)) : Prop := ∀ j, j < ps.length → (0 ≤ (Pl.pr ps j).1 ∧ (Pl.pr ps j).1 ≤ 11 ∧ 1 ≤ (Pl.pr ps j).2 ∧ (Pl.pr ps j).2 ≤ 1000) ∧ (0 < j → (Pl.pr ps (j - 1)).1 < (Pl.pr ps j).1)
theorem Pl.adjN_up (ps : List (Int × Int)) : ∀ (n i : Nat), i + n = ps.length → Pl.adjN ps n i = 0 → ∀ j, i ≤ j → j < ps.length → Pl.sideB (Pl.pr ps j).1 (Pl.pr ps j).2 = true ∧ (0 < j → (Pl.pr ps (j - 1)).1 < (Pl.pr ps j).1)
  | 0, i, h, _, j, h1, h2 => by omega
  | n + 1, i, h, h0, j, h1, h2 => by
    rw [Pl.adjN] at h0
    by_cases g1 : Pl.sideB (Pl.pr ps i).1 (Pl.pr ps i).2 = true
    · rw [if_pos g1] at h0
      by_cases g2 : 0 < i ∧ (Pl.pr ps i).1 ≤ (Pl.pr ps (i - 1)).1
      · rw [if_pos g2] at h0; cases h0
      · rw [if_neg g2] at h0
        rcases Nat.eq_or_lt_of_le h1 with e | h1
        · subst e
          exact ⟨g1, fun hp => by omega⟩
        · exact Pl.adjN_up ps n (i + 1) (by omega) h0 j h1 h2
    · rw [if_neg g1] at h0; cases h0
theorem Pl.adjF_up {ps : List (Int × Int)} (h : Pl.adjF ps = 0) : Pl.sidesUp ps := by
  intro j hj
  obtain ⟨h1, h2⟩ := Pl.adjN_up ps ps.length 0 (by omega) h j (by omega) hj
  unfold Pl.sideB at h1
  simp at h1
  exact ⟨by omega, h2⟩
theorem Pl.adjS_up (l : List UInt8) : Pl.sidesUp (Pl.adjS l) := by
  unfold Pl.adjS
  by_cases h : Pl.adjC l = 0
  · rw [if_pos h]
    unfold Pl.adjC at h
    cases hs : Pl.sidesL l with
    | none => rw [hs] at h; cases h
    | some ps => rw [hs] at h; exact Pl.adjF_up h
  · rw [if_neg h]
    intro j hj; simp at hj
theorem Pl.sidesUp.ok {ps : List (Int × Int)} (h : Pl.sidesUp ps) : Pl.sidesOk ps := by
  intro p hp
  obtain ⟨i, hi, rfl⟩ := List.getElem_of_mem hp
  have := (h i hi).1
  rw [Pl.pr_eq ps i hi] at this
  exact this
theorem Pl.sidesOk.pairs {ps : List (Int × Int)} (h : Pl.sidesOk ps) : ∀ p ∈ ps, Pl.pairOk p := fun p hp => by
  have := h p hp
  exact Pl.pairOk_of ⟨by omega, by omega, by omega, by omega⟩

theorem IsPairs.but {w w' : World} {A : Nat} {a : Option Addr} {len cap : Nat} {ps : List (Int × Int)} (h : IsPairs w a len cap ps) (hx : ∀ x, a = some x → x.block ≠ A) (k : But A w w') : IsPairs w' a len cap ps := by
  obtain ⟨h1, h2, h3, h4, h5⟩ := h
  refine ⟨h1, h2, h3, h4, ?_⟩
  rcases h5 with h5 | ⟨b, off, rfl, hb, hr⟩
  · exact .inl h5
  · refine .inr ⟨b, off, rfl, Nat.lt_of_lt_of_le hb k.size, fun i hi => ?_⟩
    obtain ⟨c0, c1⟩ := hr i hi
    have e : w'.heap[b]? = w.heap[b]? := k.block b hb (hx _ rfl)
    exact ⟨(World.cell?_of_block (w := w) e).trans c0, (World.cell?_of_block (w := w) e).trans c1⟩
theorem ToldAt.set {w A D ps} (h : ToldAt w A D ps) (k : Nat) (d : Bool) (a : Option Addr) (len cap : Nat) (q : List (Int × Int)) (hx : ∀ x, a = some x → x.block ≠ A) (hp : IsPairs w a len cap q) :
    ToldAt ((w.setCell ⟨A, k * 2, none⟩ (.bool d)).setCell ⟨A, k * 2 + 1, none⟩ (.slice a len cap)) A (Pl.upd D k d) (Pl.upd ps k q) := by
  obtain ⟨V, h1, h2⟩ := h
  have hb : But A w ((w.setCell ⟨A, k * 2, none⟩ (.bool d)).setCell ⟨A, k * 2 + 1, none⟩ (.slice a len cap)) := ((But.refl A w).setCell _ _).setCell _ _
  refine ⟨Pl.upd V k (.slice a len cap), ?_, fun i hi => ?_⟩
  · refine ((h1.set _ _).set _ _).ext fun o ho => ?_
    unfold Pl.upd toldCell
    by_cases g1 : o = k * 2 + 1
    · subst g1; rw [if_pos rfl, if_neg (by omega)]; simp only; rw [if_pos (by omega)]
    · rw [if_neg g1]
      by_cases g2 : o = k * 2
      · subst g2; rw [if_pos rfl, if_pos (by omega)]; simp only; rw [if_pos (by omega)]
      · rw [if_neg g2]
        by_cases g3 : o % 2 = 0
        · rw [if_pos g3, if_pos g3]; simp only; rw [if_neg (by omega)]
        · rw [if_neg g3, if_neg g3]; simp only; rw [if_neg (by omega)]
  · by_cases hik : i = k
    · subst hik
      refine ⟨a, len, cap, Pl.upd_same _ _ _, hx, ?_⟩
      rw [Pl.upd_same]
      exact hp.but hx hb
    · obtain ⟨a', len', cap', e, hx', hp'⟩ := h2 i hi
      refine ⟨a', len', cap', by rw [Pl.upd_ne _ _ hik]; exact e, hx', ?_⟩
      rw [Pl.upd_ne _ _ hik]
      exact hp'.but hx' hb
theorem ToldAt.ext {w A D ps D' ps'} (h : ToldAt w A D ps) (h1 : ∀ i, i < 12 → D i = D' i) (h2 : ∀ i, i < 12 → ps i = ps' i) : ToldAt w A D' ps' := by
  obtain ⟨V, g1, g2⟩ := h
  refine ⟨V, g1.ext fun o ho => ?_, fun i hi => ?_⟩
  · unfold toldCell; split
    · rw [h1 _ (by omega)]
    · rfl
  · rw [← h2 i hi]; exact g2 i hi
theorem ToldAt.new (w : World) (cs : Array Value) (e : cs = Array.ofFn (n := 24) fun i => toldCell (fun _ => false) (fun _ => .slice none 0 0) i.1) : ToldAt (w.alloc (.cells cs 47)) w.heap.size (fun _ => false) (fun _ => []) := by
  refine ⟨fun _ => .slice none 0 0, CellsAt.new w _ _ _ _ (by rw [e]; simp) fun i hi => ?_, fun i hi => ⟨none, 0, 0, rfl, by simp, rfl, Nat.le_refl _, by simp, by simp, .inl rfl⟩⟩
  simp only [e, Array.getElem_ofFn]

/-- what a store tells of each node's links -/
def Pl.tD (es : List Pl.Ent) (i : Nat) : Bool := Pl.adjD (Pl.toldV es i).data.toList
def Pl.tS (es : List Pl.Ent) (i : Nat) : List (Int × Int) := Pl.adjS (Pl.toldV es i).data.toList
def Pl.wayC (es : List Pl.Ent) (f : Int) : Int := if Pl.fault es ≠ 0 then Pl.fault es else if 0 ≤ f ∧ f ≤ 11 then 0 else 2
def Pl.wayA (es : List Pl.Ent) (f : Int) : List (Int × List Int) := if Pl.wayC es f = 0 then Pl.wayL (Pl.dIter (Pl.lnk (Pl.tS es)) (Pl.tD es) f.toNat 12) 12 else []

theorem ret_two {v u : Value} {a b : Int} (h : v = u) (e : a = b) : Ending.returned (.tuple #[v, .int .i64 a]) = .returned (.tuple #[u, .int .i64 b]) := by rw [h, e]
theorem World.ownsRow_mono {w : World} {base base' : Nat} {e : TypeId} {sz : Nat} {v : Value} {n : Nat} {xs : List Value} (h : w.ownsRow base e sz v n xs) (k : base' ≤ base) : w.ownsRow base' e sz v n xs := by
  obtain ⟨h0, h1⟩ := h
  refine ⟨h0, ?_⟩
  rcases h1 with h1 | ⟨g, cap, cur, rfl, hb, hr⟩
  · exact .inl h1
  · exact .inr ⟨g, cap, cur, rfl, by omega, hr⟩

set_option maxHeartbeats 2000000 in
theorem Ways_any (a : Option Addr) (len cap : Nat) (es : List Pl.Ent) (f : Int) (w : World) (h : IsEnts w a len cap es) (hT : Tab w) :
    Calls Tryd.prog 7 #[.slice a len cap, .int .i64 f] w fun e w' => ∃ v ts, e = .returned (.tuple #[v, .int .i64 (Pl.wayC es f)]) ∧ OwnW w' w.heap.size v ts ∧ Pl.flat ts = Pl.wayA es f ∧ Below w.heap.size w w' := by
  have HE := hid h
  have HTab := hid hT
  clear h hT
  obtain ⟨cd, HCD⟩ : ∃ x, Hid (Pl.fault es = x) := ⟨_, rfl⟩
  go_enter Tryd.func7, Tryd.ntmps7
  go_wp2_with fail
  refine (Check_any a len cap es w HE.out).mono ?_
  rw [HCD.out]
  rintro e w1 ⟨rfl, hb1⟩
  have HB1 := hid hb1
  clear hb1
  by_cases hcd : cd = 0
  · subst hcd
    by_cases hfr : 0 ≤ f ∧ f ≤ 11
    · obtain ⟨n, rfl⟩ : ∃ n : Nat, f = n := ⟨f.toNat, by omega⟩
      have hn : n < 12 := by omega
      have hdec : decide (0 ≤ (n : Int) ∧ (n : Int) ≤ 11) = true := by simp; omega
      have HWC : Hid (Pl.wayC es n = 0) := hid (by unfold Pl.wayC; rw [HCD.out, if_neg (by simp), if_pos (by omega)])
      go_wp2_with (go_at_call 15; refine (isNode_any _ _).mono ?_; rw [hdec]; rintro e w' ⟨rfl, hw'⟩; rw [hw']; clear hw' w')
      go_loopw [18] (fun i wr => ∃ k : Nat, k ≤ 12 ∧ i = .int .i64 k ∧ Hid (ToldAt wr w1.heap.size (fun i => decide (i < k) && Pl.tD es i) (fun i => if i < k then Pl.tS es i else [])) ∧ Hid (Below w1.heap.size w1 wr)) (fun i _ => 12 - (intOf i).toNat)
      case atStart => exact ⟨0, by omega, rfl, (ToldAt.new w1 _ (by kernel_rfl)).ext (fun i _ => by simp) (fun i _ => by simp), (Below.refl _ _).alloc (Nat.le_refl _) _⟩
      case round =>
        obtain ⟨k, hk, rfl, HT, HB⟩ := hrel
        have HBW := hid (HB1.out.trans (HB.out.mono HB1.out.size))
        have hAr := HT.out.lt
        by_cases hlt : k < 12
        · go_wp2_with fail
          refine (toldAdj_any a len cap es k wr (HE.out.below HBW.out) (by omega) (by omega) (HTab.out.below HBW.out)).mono ?_
          rintro e w2 ⟨vl, rfl, ho2, hb2⟩
          obtain ⟨a2, cap2, rfl, hp2, _, hx2⟩ := OwnP.shape ho2 (Pl.adjS_up _).ok.pairs
          have HP2 := hid hp2
          have HX2 := hid hx2
          have HB2 := hid hb2
          have HT2 := hid (HT.out.below hb2)
          clear ho2 hp2 hx2 hb2
          obtain ⟨V2, g1, _⟩ := HT2.out
          have c0 := g1.cell (k * 2) (by omega)
          have c1 := g1.cell (k * 2 + 1) (by omega)
          have f0 := g1.soft (k * 2)
          have f1 := g1.soft (k * 2 + 1)
          have hA2 := g1.lt
          clear g1
          go_wp2_with fail
          go_roundw
          case rel =>
            refine ⟨k + 1, by omega, by go_num, (HT2.out.set k _ a2 _ cap2 _ (fun x hx => ?_) HP2.out).ext (fun i hi => ?_) (fun i hi => ?_), hid (((HB.out.trans (HB2.out.mono (by omega))).setCell (Nat.le_refl _) _).setCell (Nat.le_refl _) _)⟩
            · have := HX2.out x hx; omega
            · by_cases hik : i = k
              · subst hik; rw [Pl.upd_same]; simp [Pl.tD]
              · rw [Pl.upd_ne _ _ hik, show decide (i < k + 1) = decide (i < k) from decide_eq_decide.2 (by omega)]
            · by_cases hik : i = k
              · subst hik; rw [Pl.upd_same, if_pos (by omega)]; rfl
              · rw [Pl.upd_ne _ _ hik]
                by_cases h1 : i < k
                · rw [if_pos h1, if_pos (by omega)]
                · rw [if_neg h1, if_neg (by omega)]
          case measure => simp [intOf]; omega
        · obtain rfl : k = 12 := by omega
          have HTA := hid (HT.out.ext (D' := Pl.tD es) (ps' := Pl.tS es) (fun i hi => by simp [hi]) (fun i hi => by rw [if_pos hi]))
          have HOK : Hid (∀ i, i < 12 → Pl.sidesOk (Pl.tS es i)) := hid fun i _ => (Pl.adjS_up _).ok
          have HL : Hid (∀ a b, Pl.lnk (Pl.tS es) a b ≤ 1000) := hid fun x y => by
            unfold Pl.lnk
            split
            · exact (Pl.say_le (Pl.adjS_up _).ok y).2
            · omega
          go_wp2_with fail
          refine (newSearch_any n hn wr).mono ?_
          rintro e w2 ⟨rfl, hs2, hb2⟩
          have HS2 := hid hs2
          have HB2 := hid hb2
          have HT2 := hid (HTA.out.below hb2)
          clear hs2 hb2
          go_wp2_with fail
          refine (run_any wr.heap.size w1.heap.size n (Pl.tD es) (Pl.tS es) w2 HS2.out HT2.out (by omega) hn HOK.out HL.out).mono ?_
          rintro e w3 ⟨rfl, hs3, hu3⟩
          have HS3 := hid hs3
          have HU3 := hid hu3
          clear hs3 hu3
          go_wp2_with fail
          refine (ways_any wr.heap.size n _ w3 HS3.out).mono ?_
          rintro e w4 ⟨v, ts, rfl, ho4, hf4, hb4⟩
          have HO4 := hid ho4
          have HF4 := hid hf4
          have HB4 := hid hb4
          clear ho4 hf4 hb4
          go_wp2_with fail
          have hz := HBW.out.size
          have HBF : Hid (Below w.heap.size w w3) := hid ((HBW.out.trans (HB2.out.mono hz)).trans (HU3.out.below hz (Nat.le_trans hz HB2.out.size)))
          refine bodyPost_ret (results_tmp2 rfl _ _ _) rfl ⟨v, ts, ret_two rfl HWC.out.symm, ?_, ?_, HBF.out.trans (HB4.out.mono HBF.out.size)⟩
          · exact ⟨World.ownsRow_mono HO4.out.1 HBF.out.size, HO4.out.2⟩
          · rw [HF4.out]; unfold Pl.wayA; rw [HWC.out, if_pos rfl, Int.toNat_natCast]
    · have hdec : decide (0 ≤ f ∧ f ≤ 11) = false := by simp; omega
      have HWC : Hid (Pl.wayC es f = 2) := hid (by unfold Pl.wayC; rw [HCD.out, if_neg (by simp), if_neg hfr])
      go_wp2_with (go_at_call 15; refine (isNode_any _ _).mono ?_; rw [hdec]; rintro e w' ⟨rfl, hw'⟩; rw [hw']; clear hw' w')
      refine bodyPost_ret (results_tmp2 rfl _ _ _) rfl ⟨_, [], ret_two rfl HWC.out.symm, OwnW.nil _ _, ?_, HB1.out⟩
      unfold Pl.wayA; rw [HWC.out, if_neg (by decide)]; rfl
  · have HWC : Hid (Pl.wayC es f = cd) := hid (by unfold Pl.wayC; rw [HCD.out, if_pos hcd])
    go_wp2_with fail
    refine bodyPost_ret (results_tmp2 rfl _ _ _) rfl ⟨_, [], ret_two rfl HWC.out.symm, OwnW.nil _ _, ?_, HB1.out⟩
    unfold Pl.wayA; rw [HWC.out, if_neg hcd]; rfl
end Go.Proofs.YtcdobhdbafpkiacDoor
