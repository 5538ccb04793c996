/-
  Contracts and facts that the proof rests on, put together out of several texts.
-/
import Derived.Test.YtcdobhdbafpkiadDoorAll9
import Derived.Test.YtcdobhdbafpkiadDoorAll1
import Derived.Test.YtcdobhdbafpkiadDoorAll5
import Derived.WalkKit
import Derived.Test.YtcdobhdbafpkiadDoorAll6
import Derived.Test.YtcdobhdbafpkiadDoorAll2
import Derived.Laws.AppendOwnNone
import Derived.OwnWalk
import Derived.Test.YtcdobhdbafpkiadDoorAll8
import Derived.Test.YtcdobhdbafpkiadDoorProg
import Derived.ProofKit
import Derived.OpenShut
import Derived.ShutString
import Derived.ChangeOld
import Derived.Lib.SmallJoins
import Derived.Deep.Slices
import Derived.SizedLaws
import Derived.Test.YtcdobhdbafpkiadDoorAll3
/-
  Contract: what graph.Ways answers at every list of entries and every number.
-/
namespace Go.Proofs.YtcdobhdbafpkiadDoor
open Go.RowKit
set_option maxRecDepth 20000

/-- sides, each with a node and a cost, the nodes rising -/
def Pl.sidesUp (ps : List (Int × Int)) : Prop := ∀ j, j < ps.length → (0 ≤ (Pl.pr ps j).1 ∧ (Pl.pr ps j).1 ≤ 11 ∧ 1 ≤ (Pl.pr ps j).2 ∧ (Pl.pr ps j).2 ≤ 1000) ∧ (0 < j → (Pl.pr ps (j - 1)).1 < (Pl.pr ps j).1)
theorem Pl.adjN_up (ps : List (Int × Int)) : ∀ (n i : Nat), i + n = ps.length → Pl.adjN ps n i = 0 → ∀ j, i ≤ j → j < ps.length → Pl.sideB (Pl.pr ps j).1 (Pl.pr ps j).2 = true ∧ (0 < j → (Pl.pr ps (j - 1)).1 < (Pl.pr ps j).1)
  | 0, i, h, _, j, h1, h2 => by omega
  | n + 1, i, h, h0, j, h1, h2 => by
    rw [Pl.adjN] at h0
    by_cases g1 : Pl.sideB (Pl.pr ps i).1 (Pl.pr ps i).2 = true
    · rw [if_pos g1] at h0
      by_cases g2 : 0 < i ∧ (Pl.pr ps i).1 ≤ (Pl.pr ps (i - 1)).1
      · rw [if_pos g2] at h0; cases h0
      · rw [if_neg g2] at h0
        rcases Nat.eq_or_lt_of_le h1 with e | h1
        · subst e
          exact ⟨g1, fun hp => by omega⟩
        · exact Pl.adjN_up ps n (i + 1) (by omega) h0 j h1 h2
    · rw [if_neg g1] at h0; cases h0
theorem Pl.adjF_up {ps : List (Int × Int)} (h : Pl.adjF ps = 0) : Pl.sidesUp ps := by
  intro j hj
  obtain ⟨h1, h2⟩ := Pl.adjN_up ps ps.length 0 (by omega) h j (by omega) hj
  unfold Pl.sideB at h1
  simp at h1
  exact ⟨by omega, h2⟩
theorem Pl.adjS_up (l : List UInt8) : Pl.sidesUp (Pl.adjS l) := by
  unfold Pl.adjS
  by_cases h : Pl.adjC l = 0
  · rw [if_pos h]
    unfold Pl.adjC at h
    cases hs : Pl.sidesL l with
    | none => rw [hs] at h; cases h
    | some ps => rw [hs] at h; exact Pl.adjF_up h
  · rw [if_neg h]
    intro j hj; simp at hj
theorem Pl.sidesUp.ok {ps : List (Int × Int)} (h : Pl.sidesUp ps) : Pl.sidesOk ps := by
  intro p hp
  obtain ⟨i, hi, rfl⟩ := List.getElem_of_mem hp
  have := (h i hi).1
  rw [Pl.pr_eq ps i hi] at this
  exact this
theorem Pl.sidesOk.pairs {ps : List (Int × Int)} (h : Pl.sidesOk ps) : ∀ p ∈ ps, Pl.pairOk p := fun p hp => by
  have := h p hp
  exact Pl.pairOk_of ⟨by omega, by omega, by omega, by omega⟩

theorem IsPairs.but {w w' : World} {A : Nat} {a : Option Addr} {len cap : Nat} {ps : List (Int × Int)} (h : IsPairs w a len cap ps) (hx : ∀ x, a = some x → x.block ≠ A) (k : But A w w') : IsPairs w' a len cap ps := by
  obtain ⟨h1, h2, h3, h4, h5⟩ := h
  refine ⟨h1, h2, h3, h4, ?_⟩
  rcases h5 with h5 | ⟨b, off, rfl, hb, hr⟩
  · exact .inl h5
  · refine .inr ⟨b, off, rfl, Nat.lt_of_lt_of_le hb k.size, fun i hi => ?_⟩
    obtain ⟨c0, c1⟩ := hr i hi
    have e : w'.heap[b]? = w.heap[b]? := k.block b hb (hx _ rfl)
    exact ⟨(World.cell?_of_block (w := w) e).trans c0, (World.cell?_of_block (w := w) e).trans c1⟩
theorem ToldAt.set {w A D ps} (h : ToldAt w A D ps) (k : Nat) (d : Bool) (a : Option Addr) (len cap : Nat) (q : List (Int × Int)) (hx : ∀ x, a = some x → x.block ≠ A) (hp : IsPairs w a len cap q) :
    ToldAt ((w.setCell ⟨A, k * 2, none⟩ (.bool d)).setCell ⟨A, k * 2 + 1, none⟩ (.slice a len cap)) A (Pl.upd D k d) (Pl.upd ps k q) := by
  obtain ⟨V, h1, h2⟩ := h
  have hb : But A w ((w.setCell ⟨A, k * 2, none⟩ (.bool d)).setCell ⟨A, k * 2 + 1, none⟩ (.slice a len cap)) := ((But.refl A w).setCell _ _).setCell _ _
  refine ⟨Pl.upd V k (.slice a len cap), ?_, fun i hi => ?_⟩
  · refine ((h1.set _ _).set _ _).ext fun o ho => ?_
    unfold Pl.upd toldCell
    by_cases g1 : o = k * 2 + 1
    · subst g1; rw [if_pos rfl, if_neg (by omega)]; simp only; rw [if_pos (by omega)]
    · rw [if_neg g1]
      by_cases g2 : o = k * 2
      · subst g2; rw [if_pos rfl, if_pos (by omega)]; simp only; rw [if_pos (by omega)]
      · rw [if_neg g2]
        by_cases g3 : o % 2 = 0
        · rw [if_pos g3, if_pos g3]; simp only; rw [if_neg (by omega)]
        · rw [if_neg g3, if_neg g3]; simp only; rw [if_neg (by omega)]
  · by_cases hik : i = k
    · subst hik
      refine ⟨a, len, cap, Pl.upd_same _ _ _, hx, ?_⟩
      rw [Pl.upd_same]
      exact hp.but hx hb
    · obtain ⟨a', len', cap', e, hx', hp'⟩ := h2 i hi
      refine ⟨a', len', cap', by rw [Pl.upd_ne _ _ hik]; exact e, hx', ?_⟩
      rw [Pl.upd_ne _ _ hik]
      exact hp'.but hx' hb
theorem ToldAt.ext {w A D ps D' ps'} (h : ToldAt w A D ps) (h1 : ∀ i, i < 12 → D i = D' i) (h2 : ∀ i, i < 12 → ps i = ps' i) : ToldAt w A D' ps' := by
  obtain ⟨V, g1, g2⟩ := h
  refine ⟨V, g1.ext fun o ho => ?_, fun i hi => ?_⟩
  · unfold toldCell; split
    · rw [h1 _ (by omega)]
    · rfl
  · rw [← h2 i hi]; exact g2 i hi
theorem ToldAt.new (w : World) (cs : Array Value) (e : cs = Array.ofFn (n := 24) fun i => toldCell (fun _ => false) (fun _ => .slice none 0 0) i.1) : ToldAt (w.alloc (.cells cs 84)) w.heap.size (fun _ => false) (fun _ => []) := by
  refine ⟨fun _ => .slice none 0 0, CellsAt.new w _ _ _ _ (by rw [e]; simp) fun i hi => ?_, fun i hi => ⟨none, 0, 0, rfl, by simp, rfl, Nat.le_refl _, by simp, by simp, .inl rfl⟩⟩
  simp only [e, Array.getElem_ofFn]

/-- what a store tells of each node's links -/
def Pl.tD (es : List Pl.Ent) (i : Nat) : Bool := Pl.adjD (Pl.toldV es i).data.toList
def Pl.tS (es : List Pl.Ent) (i : Nat) : List (Int × Int) := Pl.adjS (Pl.toldV es i).data.toList
def Pl.wayC (es : List Pl.Ent) (f : Int) : Int := if Pl.fault es ≠ 0 then Pl.fault es else if 0 ≤ f ∧ f ≤ 11 then 0 else 2
def Pl.wayA (es : List Pl.Ent) (f : Int) : List (Int × List Int) := if Pl.wayC es f = 0 then Pl.wayL (Pl.dIter (Pl.lnk (Pl.tS es)) (Pl.tD es) f.toNat 12) 12 else []

theorem ret_two {v u : Value} {a b : Int} (h : v = u) (e : a = b) : Ending.returned (.tuple #[v, .int .i64 a]) = .returned (.tuple #[u, .int .i64 b]) := by rw [h, e]
theorem World.ownsRow_mono {w : World} {base base' : Nat} {e : TypeId} {sz : Nat} {v : Value} {n : Nat} {xs : List Value} (h : w.ownsRow base e sz v n xs) (k : base' ≤ base) : w.ownsRow base' e sz v n xs := by
  obtain ⟨h0, h1⟩ := h
  refine ⟨h0, ?_⟩
  rcases h1 with h1 | ⟨g, cap, cur, rfl, hb, hr⟩
  · exact .inl h1
  · exact .inr ⟨g, cap, cur, rfl, by omega, hr⟩

set_option maxHeartbeats 2000000 in
theorem Ways_any (a : Option Addr) (len cap : Nat) (es : List Pl.Ent) (f : Int) (w : World) (h : IsEnts w a len cap es) (hT : Tab w) :
    Calls Tryd.prog 14 #[.slice a len cap, .int .i64 f] w fun e w' => ∃ v ts, e = .returned (.tuple #[v, .int .i64 (Pl.wayC es f)]) ∧ OwnW w' w.heap.size v ts ∧ Pl.flat ts = Pl.wayA es f ∧ Below w.heap.size w w' := by
  have HE := hid h
  have HTab := hid hT
  clear h hT
  obtain ⟨cd, HCD⟩ : ∃ x, Hid (Pl.fault es = x) := ⟨_, rfl⟩
  go_enter Tryd.func14, Tryd.ntmps14
  go_wp2_with fail
  refine (Check_any a len cap es w HE.out).mono ?_
  rw [HCD.out]
  rintro e w1 ⟨rfl, hb1⟩
  have HB1 := hid hb1
  clear hb1
  by_cases hcd : cd = 0
  · subst hcd
    by_cases hfr : 0 ≤ f ∧ f ≤ 11
    · obtain ⟨n, rfl⟩ : ∃ n : Nat, f = n := ⟨f.toNat, by omega⟩
      have hn : n < 12 := by omega
      have hdec : decide (0 ≤ (n : Int) ∧ (n : Int) ≤ 11) = true := by simp; omega
      have HWC : Hid (Pl.wayC es n = 0) := hid (by unfold Pl.wayC; rw [HCD.out, if_neg (by simp), if_pos (by omega)])
      go_wp2_with (go_at_call 27; refine (isNode_any _ _).mono ?_; rw [hdec]; rintro e w' ⟨rfl, hw'⟩; rw [hw']; clear hw' w')
      go_loopw [18] (fun i wr => ∃ k : Nat, k ≤ 12 ∧ i = .int .i64 k ∧ Hid (ToldAt wr w1.heap.size (fun i => decide (i < k) && Pl.tD es i) (fun i => if i < k then Pl.tS es i else [])) ∧ Hid (Below w1.heap.size w1 wr)) (fun i _ => 12 - (intOf i).toNat)
      case atStart => exact ⟨0, by omega, rfl, (ToldAt.new w1 _ (by kernel_rfl)).ext (fun i _ => by simp) (fun i _ => by simp), (Below.refl _ _).alloc (Nat.le_refl _) _⟩
      case round =>
        obtain ⟨k, hk, rfl, HT, HB⟩ := hrel
        have HBW := hid (HB1.out.trans (HB.out.mono HB1.out.size))
        have hAr := HT.out.lt
        by_cases hlt : k < 12
        · go_wp2_with fail
          refine (toldAdj_any a len cap es k wr (HE.out.below HBW.out) (by omega) (by omega) (HTab.out.below HBW.out)).mono ?_
          rintro e w2 ⟨vl, rfl, ho2, hb2⟩
          obtain ⟨a2, cap2, rfl, hp2, _, hx2⟩ := OwnP.shape ho2 (Pl.adjS_up _).ok.pairs
          have HP2 := hid hp2
          have HX2 := hid hx2
          have HB2 := hid hb2
          have HT2 := hid (HT.out.below hb2)
          clear ho2 hp2 hx2 hb2
          obtain ⟨V2, g1, _⟩ := HT2.out
          have c0 := g1.cell (k * 2) (by omega)
          have c1 := g1.cell (k * 2 + 1) (by omega)
          have f0 := g1.soft (k * 2)
          have f1 := g1.soft (k * 2 + 1)
          have hA2 := g1.lt
          clear g1
          go_wp2_with fail
          go_roundw
          case rel =>
            refine ⟨k + 1, by omega, by go_num, (HT2.out.set k _ a2 _ cap2 _ (fun x hx => ?_) HP2.out).ext (fun i hi => ?_) (fun i hi => ?_), hid (((HB.out.trans (HB2.out.mono (by omega))).setCell (Nat.le_refl _) _).setCell (Nat.le_refl _) _)⟩
            · have := HX2.out x hx; omega
            · by_cases hik : i = k
              · subst hik; rw [Pl.upd_same]; simp [Pl.tD]
              · rw [Pl.upd_ne _ _ hik, show decide (i < k + 1) = decide (i < k) from decide_eq_decide.2 (by omega)]
            · by_cases hik : i = k
              · subst hik; rw [Pl.upd_same, if_pos (by omega)]; rfl
              · rw [Pl.upd_ne _ _ hik]
                by_cases h1 : i < k
                · rw [if_pos h1, if_pos (by omega)]
                · rw [if_neg h1, if_neg (by omega)]
          case measure => simp [intOf]; omega
        · obtain rfl : k = 12 := by omega
          have HTA := hid (HT.out.ext (D' := Pl.tD es) (ps' := Pl.tS es) (fun i hi => by simp [hi]) (fun i hi => by rw [if_pos hi]))
          have HOK : Hid (∀ i, i < 12 → Pl.sidesOk (Pl.tS es i)) := hid fun i _ => (Pl.adjS_up _).ok
          have HL : Hid (∀ a b, Pl.lnk (Pl.tS es) a b ≤ 1000) := hid fun x y => by
            unfold Pl.lnk
            split
            · exact (Pl.say_le (Pl.adjS_up _).ok y).2
            · omega
          go_wp2_with fail
          refine (newSearch_any n hn wr).mono ?_
          rintro e w2 ⟨rfl, hs2, hb2⟩
          have HS2 := hid hs2
          have HB2 := hid hb2
          have HT2 := hid (HTA.out.below hb2)
          clear hs2 hb2
          go_wp2_with fail
          refine (run_any wr.heap.size w1.heap.size n (Pl.tD es) (Pl.tS es) w2 HS2.out HT2.out (by omega) hn HOK.out HL.out).mono ?_
          rintro e w3 ⟨rfl, hs3, hu3⟩
          have HS3 := hid hs3
          have HU3 := hid hu3
          clear hs3 hu3
          go_wp2_with fail
          refine (ways_any wr.heap.size n _ w3 HS3.out).mono ?_
          rintro e w4 ⟨v, ts, rfl, ho4, hf4, hb4⟩
          have HO4 := hid ho4
          have HF4 := hid hf4
          have HB4 := hid hb4
          clear ho4 hf4 hb4
          go_wp2_with fail
          have hz := HBW.out.size
          have HBF : Hid (Below w.heap.size w w3) := hid ((HBW.out.trans (HB2.out.mono hz)).trans (HU3.out.below hz (Nat.le_trans hz HB2.out.size)))
          refine bodyPost_ret (results_tmp2 rfl _ _ _) rfl ⟨v, ts, ret_two rfl HWC.out.symm, ?_, ?_, HBF.out.trans (HB4.out.mono HBF.out.size)⟩
          · exact ⟨World.ownsRow_mono HO4.out.1 HBF.out.size, HO4.out.2⟩
          · rw [HF4.out]; unfold Pl.wayA; rw [HWC.out, if_pos rfl, Int.toNat_natCast]
    · have hdec : decide (0 ≤ f ∧ f ≤ 11) = false := by simp; omega
      have HWC : Hid (Pl.wayC es f = 2) := hid (by unfold Pl.wayC; rw [HCD.out, if_neg (by simp), if_neg hfr])
      go_wp2_with (go_at_call 27; refine (isNode_any _ _).mono ?_; rw [hdec]; rintro e w' ⟨rfl, hw'⟩; rw [hw']; clear hw' w')
      refine bodyPost_ret (results_tmp2 rfl _ _ _) rfl ⟨_, [], ret_two rfl HWC.out.symm, OwnW.nil _ _, ?_, HB1.out⟩
      unfold Pl.wayA; rw [HWC.out, if_neg (by decide)]; rfl
  · have HWC : Hid (Pl.wayC es f = cd) := hid (by unfold Pl.wayC; rw [HCD.out, if_pos hcd])
    go_wp2_with fail
    refine bodyPost_ret (results_tmp2 rfl _ _ _) rfl ⟨_, [], ret_two rfl HWC.out.symm, OwnW.nil _ _, ?_, HB1.out⟩
    unfold Pl.wayA; rw [HWC.out, if_neg hcd]; rfl
end Go.Proofs.YtcdobhdbafpkiadDoor
/-
  Contracts: two lists of the same numbers (sameInts), of the same ways (sameWays), are told the same.
-/
namespace Go.Proofs.YtcdobhdbafpkiadDoor
open Go.RowKit
set_option maxRecDepth 20000

theorem OwnI.cells {w : World} {base : Nat} {v : Value} {xs : List Int} (h : OwnI w base v xs) :
    ∃ a cap, v = .slice a xs.length cap ∧ xs.length ≤ cap ∧ cap ≤ maxLen ∧ (xs = [] ∨ ∃ g, a = some ⟨g, 0, none⟩ ∧ g < w.heap.size ∧ ∀ i, i < xs.length → w.cell? ⟨g, i, none⟩ = some (.int .i64 (xs.getD i 0))) := by
  obtain ⟨_, ⟨h, h1⟩ | ⟨g, cap, cur, rfl, hb, hh, hn, hm, hs, hx⟩⟩ := h
  · have e : xs = [] := List.length_eq_zero_iff.1 h1
    subst e
    exact ⟨none, 0, h, Nat.le_refl _, by simp, .inl rfl⟩
  · refine ⟨_, cap, rfl, hn, hm, .inr ⟨g, rfl, blockLt hh, fun i hi => ?_⟩⟩
    have hj : (cellsI xs)[i]? = some (.int .i64 (xs.getD i 0)) := by
      simp [cellsI, List.getD_eq_getElem?_getD, List.getElem?_eq_getElem hi]
    rw [← hx] at hj
    have hj' : cur[i]? = some (.int .i64 (xs.getD i 0)) := by
      rw [List.getElem?_take] at hj
      split at hj
      · rw [← Array.getElem?_toList]; exact hj
      · cases hj
    simp [World.cell?, hh, hj']
theorem cellsW_get : ∀ (ts : List (Int × Value × List Int)) (i : Nat) (hi : i < ts.length), (cellsW ts)[i * 2]? = some (.int .i64 ts[i].1) ∧ (cellsW ts)[i * 2 + 1]? = some ts[i].2.1
  | [], i, h => by simp at h
  | p :: r, 0, _ => by simp [cellsW]
  | p :: r, i + 1, h => by
    have := cellsW_get r i (by simpa using h)
    rw [show (i + 1) * 2 = i * 2 + 2 by omega]
    simpa [cellsW] using this
theorem OwnW.cells {w : World} {base : Nat} {v : Value} {ts : List (Int × Value × List Int)} (h : OwnW w base v ts) :
    ∃ a cap, v = .slice a ts.length cap ∧ ts.length ≤ cap ∧ cap ≤ maxLen ∧ (ts = [] ∨ ∃ g, a = some ⟨g, 0, none⟩ ∧ g < w.heap.size ∧ ∀ i (hi : i < ts.length), w.cell? ⟨g, i * 2, none⟩ = some (.int .i64 ts[i].1) ∧ w.cell? ⟨g, i * 2 + 1, none⟩ = some ts[i].2.1) := by
  obtain ⟨⟨_, ⟨h, h1⟩ | ⟨g, cap, cur, rfl, hb, hh, hn, hm, hs, hx⟩⟩, _⟩ := h
  · have e : ts = [] := List.length_eq_zero_iff.1 h1
    subst e
    exact ⟨none, 0, h, Nat.le_refl _, by simp, .inl rfl⟩
  · refine ⟨_, cap, rfl, hn, hm, .inr ⟨g, rfl, blockLt hh, fun i hi => ?_⟩⟩
    have hcell : ∀ j u, (cellsW ts)[j]? = some u → w.cell? ⟨g, j, none⟩ = some u := by
      intro j u hj
      rw [← hx] at hj
      have hj' : cur[j]? = some u := by
        rw [List.getElem?_take] at hj
        split at hj
        · rw [← Array.getElem?_toList]; exact hj
        · cases hj
      simp [World.cell?, hh, hj']
    obtain ⟨h0, h1⟩ := cellsW_get ts i hi
    exact ⟨hcell _ _ h0, hcell _ _ h1⟩

end Go.Proofs.YtcdobhdbafpkiadDoor
/-
  Plain: a way is a step to a hop, and a way from there.
-/
namespace Go.Proofs.YtcdobhdbafpkiadDoor
open Go.RowKit
set_option maxRecDepth 20000

/-- a way from a node's neighbor is a way from the node, or there is a cheaper one -/
theorem Pl.way_join {L : Nat → Nat → Int} {D : Nat → Bool} {a k j v : Nat} {c : Int} (hk : k < 12) (hka : k ≠ a) (hd : D k = false) (hl : 0 < L a k) (h : Pl.Way L D k j v c) :
    v = a ∨ ∃ k' c', Pl.Way L D a k' v c' ∧ ((k' = k ∧ c' = L a k + c) ∨ c' < L a k + c) := by
  induction h with
  | base h1 h2 h3 =>
    by_cases e : j = a
    · exact .inl e
    · exact .inr ⟨k, _, (Pl.Way.base hk hka hl).step hd h1 e h3, .inl ⟨rfl, rfl⟩⟩
  | @step u b c h1 h2 h3 h4 h5 ih =>
    by_cases e : b = a
    · exact .inl e
    · right
      rcases ih with rfl | ⟨k', c', hw, hc⟩
      · have hp := h1.pos
        exact ⟨b, _, .base h3 e h5, .inr (by omega)⟩
      · refine ⟨k', _, hw.step h2 h3 e h5, ?_⟩
        rcases hc with ⟨e1, e2⟩ | e2
        · exact .inl ⟨e1, by omega⟩
        · exact .inr (by omega)
/-- and the other way round -/
theorem Pl.way_part {L : Nat → Nat → Int} {D : Nat → Bool} {a k v : Nat} {c : Int} (h : Pl.Way L D a k v c) :
    (v = k ∧ L a k ≤ c) ∨ (v ≠ k ∧ D k = false ∧ ∃ j c', Pl.Way L D k j v c' ∧ L a k + c' ≤ c) := by
  induction h with
  | base h1 h2 h3 => exact .inl ⟨rfl, Int.le_refl _⟩
  | @step u b c h1 h2 h3 h4 h5 ih =>
    by_cases e : b = k
    · left
      refine ⟨e, ?_⟩
      rcases ih with ⟨_, h⟩ | ⟨_, _, j, c', hw, hc⟩
      · omega
      · have := hw.pos; omega
    · right
      rcases ih with ⟨rfl, h⟩ | ⟨_, hd, j, c', hw, hc⟩
      · exact ⟨e, h2, b, _, .base h3 e h5, by omega⟩
      · exact ⟨e, hd, j, _, hw.step h2 h3 e h5, by omega⟩

theorem Pl.way_first {L : Nat → Nat → Int} {D : Nat → Bool} {a k v : Nat} {c : Int} (h : Pl.Way L D a k v c) : 0 < L a k := by
  induction h with
  | base _ _ h => exact h
  | step _ _ _ _ _ ih => exact ih
/-- what it costs to go over a neighbor; -1: no way leads over it -/
def Pl.over (L : Nat → Nat → Int) (D : Nat → Bool) (C : Nat → Nat → Int) (a to k : Nat) : Int :=
  if L a k = 0 then -1 else if k = to then L a k else if C k to < 0 ∨ D k = true then -1 else C k to + L a k
def Pl.ovB (o : Nat → Int) : Nat → Int
  | 0 => -1
  | k + 1 => if o k < 0 then Pl.ovB o k else if Pl.ovB o k < 0 ∨ o k < Pl.ovB o k then o k else Pl.ovB o k
def Pl.ovH (o : Nat → Int) : Nat → List Int
  | 0 => []
  | k + 1 => if o k < 0 then Pl.ovH o k else if Pl.ovB o k < 0 ∨ o k < Pl.ovB o k then [(k : Int)] else if o k = Pl.ovB o k then Pl.ovH o k ++ [(k : Int)] else Pl.ovH o k
theorem Pl.hopsL_none {h : Nat → Bool} (k : Nat) (e : ∀ i, i < k → h i = false) : Pl.hopsL h k = [] := by
  induction k with
  | zero => rfl
  | succ k ih => rw [Pl.hopsL_off (e k (by omega))]; exact ih fun i hi => e i (by omega)
theorem Pl.hopsL_ext {h g : Nat → Bool} (k : Nat) (e : ∀ i, i < k → h i = g i) : Pl.hopsL h k = Pl.hopsL g k := by
  induction k with
  | zero => rfl
  | succ k ih =>
    unfold Pl.hopsL
    rw [e k (by omega), ih fun i hi => e i (by omega)]
theorem Pl.ov_inv (o : Nat → Int) (k : Nat) :
    (Pl.ovB o k = -1 ∧ Pl.ovH o k = [] ∧ ∀ j, j < k → o j < 0) ∨
    (0 ≤ Pl.ovB o k ∧ (∃ j, j < k ∧ o j = Pl.ovB o k) ∧ (∀ j, j < k → 0 ≤ o j → Pl.ovB o k ≤ o j) ∧ Pl.ovH o k = Pl.hopsL (fun j => decide (o j = Pl.ovB o k)) k) := by
  induction k with
  | zero => exact .inl ⟨rfl, rfl, by omega⟩
  | succ k ih =>
    by_cases h0 : o k < 0
    · have eB : Pl.ovB o (k + 1) = Pl.ovB o k := by show (if o k < 0 then _ else _) = _; rw [if_pos h0]
      have eH : Pl.ovH o (k + 1) = Pl.ovH o k := by show (if o k < 0 then _ else _) = _; rw [if_pos h0]
      rw [eB, eH]
      rcases ih with ⟨h1, h2, h3⟩ | ⟨h1, ⟨j, h2, h2'⟩, h3, h4⟩
      · refine .inl ⟨h1, h2, fun j hj => ?_⟩
        by_cases e : j = k
        · subst e; exact h0
        · exact h3 j (by omega)
      · refine .inr ⟨h1, ⟨j, by omega, h2'⟩, fun i hi g => ?_, ?_⟩
        · by_cases e : i = k
          · subst e; omega
          · exact h3 i (by omega) g
        · rw [Pl.hopsL_off (by simp; omega)]; exact h4
    · by_cases h5 : Pl.ovB o k < 0 ∨ o k < Pl.ovB o k
      · have eB : Pl.ovB o (k + 1) = o k := by show (if o k < 0 then _ else _) = _; rw [if_neg h0, if_pos h5]
        have eH : Pl.ovH o (k + 1) = [(k : Int)] := by show (if o k < 0 then _ else _) = _; rw [if_neg h0, if_pos h5]
        rw [eB, eH]
        refine .inr ⟨by omega, ⟨k, by omega, rfl⟩, fun i hi g => ?_, ?_⟩
        · by_cases e : i = k
          · subst e; omega
          · rcases ih with ⟨h1, h2, h3⟩ | ⟨h1, _, h3, h4⟩
            · have := h3 i (by omega); omega
            · have := h3 i (by omega) g; omega
        · rw [Pl.hopsL_on (by simp), Pl.hopsL_none k (fun i hi => ?_)]
          · rfl
          · simp only [decide_eq_false_iff_not]
            intro e
            rcases ih with ⟨h1, h2, h3⟩ | ⟨h1, _, h3, h4⟩
            · have := h3 i hi; omega
            · have := h3 i hi (by omega); omega
      · have eB : Pl.ovB o (k + 1) = Pl.ovB o k := by show (if o k < 0 then _ else _) = _; rw [if_neg h0, if_neg h5]
        rw [eB]
        rcases ih with ⟨h1, h2, h3⟩ | ⟨h1, ⟨j, h2, h2'⟩, h3, h4⟩
        · omega
        · refine .inr ⟨h1, ⟨j, by omega, h2'⟩, fun i hi g => ?_, ?_⟩
          · by_cases e : i = k
            · subst e; omega
            · exact h3 i (by omega) g
          · by_cases e : o k = Pl.ovB o k
            · have eH : Pl.ovH o (k + 1) = Pl.ovH o k ++ [(k : Int)] := by show (if o k < 0 then _ else _) = _; rw [if_neg h0, if_neg h5, if_pos e]
              rw [eH, h4, Pl.hopsL_on (by simpa using e)]
            · have eH : Pl.ovH o (k + 1) = Pl.ovH o k := by show (if o k < 0 then _ else _) = _; rw [if_neg h0, if_neg h5, if_neg e]
              rw [eH, h4, Pl.hopsL_off (by simpa using e)]

/-- A WAY IS A STEP TO A HOP, AND A WAY FROM THERE -/
theorem Pl.step_same {L M : Nat → Nat → Int} {D : Nat → Bool} (hM : ∀ a b, a ≠ b → M a b = L a b) (hL : ∀ a, L a a = 0) (h0 : ∀ a b, 0 ≤ L a b) {a to : Nat} (ha : a < 12) (ht : to < 12) (hta : to ≠ a) :
    Pl.ovB (Pl.over L D (fun k => (Pl.dIter M D k 12).cost) a to) 12 = (Pl.dIter M D a 12).cost to ∧
    Pl.ovH (Pl.over L D (fun k => (Pl.dIter M D k 12).cost) a to) 12 = Pl.hopsL ((Pl.dIter M D a 12).hops to) 12 := by
  have hmin := Pl.found_min (D := D) hM hL ha hta
  have hh := fun k => Pl.found_hops (D := D) hM hL ha to k
  -- what is over k is no less, and as much only if k is a hop
  have one : ∀ k, k < 12 → 0 ≤ Pl.over L D (fun k => (Pl.dIter M D k 12).cost) a to k →
      0 ≤ (Pl.dIter M D a 12).cost to ∧ (Pl.dIter M D a 12).cost to ≤ Pl.over L D (fun k => (Pl.dIter M D k 12).cost) a to k ∧
      (Pl.over L D (fun k => (Pl.dIter M D k 12).cost) a to k = (Pl.dIter M D a 12).cost to → (Pl.dIter M D a 12).hops to k = true) := by
    intro k hk hv
    have key : ∀ c, (∃ k' c', Pl.Way L D a k' to c' ∧ ((k' = k ∧ c' = c) ∨ c' < c)) →
        0 ≤ (Pl.dIter M D a 12).cost to ∧ (Pl.dIter M D a 12).cost to ≤ c ∧ (c = (Pl.dIter M D a 12).cost to → (Pl.dIter M D a 12).hops to k = true) := by
      rintro c ⟨k', c', hw, hc⟩
      rcases hmin with ⟨_, hx⟩ | ⟨m0, _, m2⟩
      · exact absurd ⟨k', hw⟩ (hx c')
      · have hm := m2 c' ⟨k', hw⟩
        refine ⟨m0, ?_, fun e => ?_⟩
        · rcases hc with ⟨_, e⟩ | e <;> omega
        · rcases hc with ⟨e1, e2⟩ | e2
          · subst e1; subst e2; rw [hh]; rw [e] at hw; exact hw
          · omega
    unfold Pl.over at hv ⊢
    by_cases hl : L a k = 0
    · rw [if_pos hl] at hv; omega
    · have hl' : 0 < L a k := by have := h0 a k; omega
      have hka : k ≠ a := fun e => by rw [e, hL] at hl; exact hl rfl
      rw [if_neg hl] at hv ⊢
      by_cases hkt : k = to
      · rw [if_pos hkt] at hv ⊢
        subst hkt
        exact key _ ⟨k, _, .base hk hka hl', .inl ⟨rfl, rfl⟩⟩
      · rw [if_neg hkt] at hv ⊢
        by_cases hx : (Pl.dIter M D k 12).cost to < 0 ∨ D k = true
        · rw [if_pos hx] at hv; omega
        · rw [if_neg hx] at hv ⊢
          have hd : D k = false := Pl.bfalse fun g => hx (.inr g)
          rcases Pl.found_min (D := D) hM hL hk (v := to) (fun e => hkt e.symm) with ⟨h, _⟩ | ⟨_, ⟨j, hw⟩, _⟩
          · omega
          · rcases Pl.way_join hk hka hd hl' hw with e | ⟨k', c', hw', hc⟩
            · exact absurd e hta
            · rw [Int.add_comm]
              exact key _ ⟨k', c', hw', hc⟩
  have two : ∀ k, (Pl.dIter M D a 12).hops to k = true → k < 12 ∧ 0 ≤ Pl.over L D (fun k => (Pl.dIter M D k 12).cost) a to k ∧ Pl.over L D (fun k => (Pl.dIter M D k 12).cost) a to k = (Pl.dIter M D a 12).cost to := by
    intro k hk
    have hw := (hh k).1 hk
    have hkl := hw.klt
    have hp := hw.pos
    have hl' : 0 < L a k := Pl.way_first hw
    have lo : 0 ≤ Pl.over L D (fun k => (Pl.dIter M D k 12).cost) a to k ∧ Pl.over L D (fun k => (Pl.dIter M D k 12).cost) a to k ≤ (Pl.dIter M D a 12).cost to := by
      unfold Pl.over
      rw [if_neg (by omega)]
      rcases Pl.way_part hw with ⟨e, h⟩ | ⟨e, hd, j, c', hw', hc⟩
      · rw [if_pos e.symm]; omega
      · rw [if_neg (Ne.symm e)]
        rcases Pl.found_min (D := D) hM hL hkl.1 (v := to) e with ⟨_, hx⟩ | ⟨m0, _, m2⟩
        · exact absurd ⟨j, hw'⟩ (hx c')
        · have := m2 c' ⟨j, hw'⟩
          have hng : ¬ ((Pl.dIter M D k 12).cost to < 0 ∨ D k = true) := by
            rintro (g | g)
            · omega
            · rw [hd] at g; cases g
          simp only [if_neg hng]
          have := h0 a k
          omega
    have := one k hkl.1 lo.1
    exact ⟨hkl.1, lo.1, by omega⟩
  rcases Pl.ov_inv (Pl.over L D (fun k => (Pl.dIter M D k 12).cost) a to) 12 with ⟨h1, h2, h3⟩ | ⟨h1, ⟨j, h2, h2'⟩, h3, h4⟩
  · have hc : (Pl.dIter M D a 12).cost to = -1 := by
      rcases hmin with ⟨h, _⟩ | ⟨m0, ⟨k, hw⟩, _⟩
      · exact h
      · obtain ⟨g1, g2, _⟩ := two k ((hh k).2 hw)
        have := h3 k g1; omega
    refine ⟨by rw [h1, hc], ?_⟩
    rw [h2, Pl.hopsL_none 12 fun i hi => ?_]
    cases e : (Pl.dIter M D a 12).hops to i with
    | false => rfl
    | true => obtain ⟨g1, g2, _⟩ := two i e; have := h3 i g1; omega
  · have ho := one j h2 (by omega)
    have hc : Pl.ovB (Pl.over L D (fun k => (Pl.dIter M D k 12).cost) a to) 12 = (Pl.dIter M D a 12).cost to := by
      rcases hmin with ⟨h, _⟩ | ⟨m0, ⟨k, hw⟩, _⟩
      · omega
      · obtain ⟨g1, g2, g3⟩ := two k ((hh k).2 hw)
        have := h3 k g1 g2; omega
    refine ⟨hc, ?_⟩
    rw [h4, hc]
    refine Pl.hopsL_ext 12 fun i hi => ?_
    cases e : (Pl.dIter M D a 12).hops to i with
    | false =>
      simp only [decide_eq_false_iff_not]
      intro g
      have := (one i hi (by omega)).2.2 g
      rw [e] at this; cases this
    | true => exact decide_eq_true (two i e).2.2
end Go.Proofs.YtcdobhdbafpkiadDoor
/-
  Plain definitions: routes, tables, what is wrong with one, the place of a prefix; no program in sight.
-/
namespace Go.Proofs.YtcdobhdbafpkiadDoor.Pl

/-- a route: its prefix, is it here, its cost, its hops -/
structure Rt where
  p : Int × Int
  here : Bool
  cost : Int
  hops : List Int
def Rt.none : Rt := ⟨(0, 0), false, 0, []⟩
/-- the route at a place -/
def rt (rs : List Rt) (i : Nat) : Rt := rs.getD i Rt.none
theorem rt_eq (rs : List Rt) (i : Nat) (h : i < rs.length) : rt rs i = rs[i] := by simp [rt, List.getD, h]
theorem rt_mem (rs : List Rt) (i : Nat) (h : i < rs.length) : rt rs i ∈ rs := by rw [rt_eq rs i h]; exact List.getElem_mem h
theorem rt_cons_succ (e : Rt) (es : List Rt) (i : Nat) : rt (e :: es) (i + 1) = rt es i := by simp [rt]
theorem rt_cons_zero (e : Rt) (es : List Rt) : rt (e :: es) 0 = e := by simp [rt]
theorem drop_rt (rs : List Rt) (i : Nat) (h : i < rs.length) : rs.drop i = rt rs i :: rs.drop (i + 1) := by
  rw [rt_eq rs i h]; exact List.drop_eq_getElem_cons h

/-- the number at a place -/
def nm (l : List Int) (i : Nat) : Int := l.getD i 0
theorem nm_eq (l : List Int) (i : Nat) (h : i < l.length) : nm l i = l[i] := by simp [nm, List.getD, h]

/-- may the hop at a place be? -/
def hopB (l : List Int) (i : Nat) : Bool := decide (0 ≤ nm l i ∧ nm l i ≤ 11) && (decide (i = 0) || decide (nm l (i - 1) < nm l i))
def hopsB (l : List Int) : Bool := (List.range l.length).all (hopB l)
theorem hopsB_false {l : List Int} {k : Nat} (hk : k < l.length) (h : hopB l k = false) : hopsB l = false := by
  unfold hopsB
  rw [List.all_eq_false]
  exact ⟨k, List.mem_range.2 hk, by simp [h]⟩
theorem hopsB_true {l : List Int} (h : ∀ k, k < l.length → hopB l k = true) : hopsB l = true := by
  unfold hopsB
  rw [List.all_eq_true]
  intro k hk
  exact h k (List.mem_range.1 hk)
theorem hopsB_at {l : List Int} (h : hopsB l = true) (k : Nat) (hk : k < l.length) : hopB l k = true := by
  unfold hopsB at h
  rw [List.all_eq_true] at h
  exact h k (List.mem_range.2 hk)
theorem hopB_zero (l : List Int) : hopB l 0 = decide (0 ≤ nm l 0 ∧ nm l 0 ≤ 11) := by simp [hopB]
theorem hopB_succ (l : List Int) (m : Nat) : hopB l (m + 1) = (decide (0 ≤ nm l (m + 1) ∧ nm l (m + 1) ≤ 11) && decide (nm l m < nm l (m + 1))) := by simp [hopB]

/-- may a route be? -/
def routeB (r : Rt) : Bool := decide (pfx1 r.p = 0) && decide (0 ≤ r.cost ∧ r.cost ≤ 1048576) && (if r.here then decide (r.cost = 0) && decide (r.hops = []) else decide (r.hops ≠ [])) && hopsB r.hops

/-- does a prefix stand ahead of another one? -/
def pltB (p q : Int × Int) : Bool := decide (p.1 < q.1 ∨ p.1 = q.1 ∧ p.2 < q.2)
theorem pltB_iff {p q : Int × Int} : pltB p q = true ↔ (p.1 < q.1 ∨ p.1 = q.1 ∧ p.2 < q.2) := by simp [pltB]
theorem pltB_not {p q : Int × Int} : pltB p q = false ↔ (q.1 < p.1 ∨ q.1 = p.1 ∧ q.2 ≤ p.2) := by
  rw [Bool.eq_false_iff, Ne, pltB_iff]; omega
theorem pltB_irrefl (p : Int × Int) : pltB p p = false := by rw [pltB_not]; omega
theorem pltB_asymm {p q : Int × Int} (h : pltB p q = true) : pltB q p = false := by rw [pltB_iff] at h; rw [pltB_not]; omega
theorem pltB_trans {p q r : Int × Int} (h : pltB p q = true) (k : pltB q r = true) : pltB p r = true := by rw [pltB_iff] at h k ⊢; omega
theorem pltB_total {p q : Int × Int} (h : pltB p q = false) (k : pltB q p = false) : p = q := by
  rw [pltB_not] at h k
  obtain ⟨a, b⟩ := p; obtain ⟨c, d⟩ := q
  simp only [Prod.mk.injEq] at *
  omega
theorem pltB_ne {p q : Int × Int} (h : pltB p q = true) : ¬ p = q := fun e => by rw [e, pltB_irrefl] at h; cases h
theorem pfxC_ge (p q : Int × Int) : decide (0 ≤ pfxC p q) = !pltB p q := by
  unfold pfxC cmpI pltB
  rw [Bool.eq_iff_iff]
  simp only [decide_eq_true_eq, Bool.not_eq_true', decide_eq_false_iff_not]
  split <;> (try split) <;> (try split) <;> (try split) <;> omega
theorem pair_eq_iff (p q : Int × Int) : p = q ↔ p.1 = q.1 ∧ p.2 = q.2 := by
  obtain ⟨a, b⟩ := p; obtain ⟨c, d⟩ := q; simp

/-- does the prefix at a place not stand behind that of the route ahead? -/
def lowR (rs : List Rt) (i : Nat) : Bool := decide (0 < i) && !pltB (rt rs (i - 1)).p (rt rs i).p
theorem lowR_zero (rs : List Rt) : lowR rs 0 = false := by simp [lowR]
theorem lowR_succ (rs : List Rt) (m : Nat) : lowR rs (m + 1) = !pltB (rt rs m).p (rt rs (m + 1)).p := by simp [lowR]
/-- what is wrong with a table from a place on: so many are still to be looked at -/
def tabN (rs : List Rt) : Nat → Nat → Int
  | 0, _ => 0
  | n + 1, i => if routeB (rt rs i) then (if lowR rs i then 7 else tabN rs n (i + 1)) else 4
def tabF (rs : List Rt) : Int := if rs.length ≤ 200 then tabN rs rs.length 0 else 1
theorem tabF_size {rs : List Rt} (h : 200 < rs.length) : tabF rs = 1 := by unfold tabF; rw [if_neg (by omega)]
theorem tabF_from {rs : List Rt} (h : rs.length ≤ 200) : tabF rs = tabN rs rs.length 0 := by unfold tabF; rw [if_pos h]
theorem tabN_form {rs : List Rt} {n i : Nat} (h : routeB (rt rs i) = false) : tabN rs (n + 1) i = 4 := by simp [tabN, h]
theorem tabN_low {rs : List Rt} {n i : Nat} (h : routeB (rt rs i) = true) (k : lowR rs i = true) : tabN rs (n + 1) i = 7 := by simp [tabN, h, k]
theorem tabN_on {rs : List Rt} {n i : Nat} (h : routeB (rt rs i) = true) (k : lowR rs i = false) : tabN rs (n + 1) i = tabN rs n (i + 1) := by simp [tabN, h, k]

/-- prefixes in their order -/
def AscP (ps : List (Int × Int)) : Prop := ∀ i j, i < j → j < ps.length → pltB (pr ps i) (pr ps j) = true
theorem pr_map (rs : List Rt) (i : Nat) (h : i < rs.length) : pr (rs.map Rt.p) i = (rt rs i).p := by
  rw [pr_eq _ _ (by simpa using h), rt_eq rs i h]; simp
theorem tabN_zero (rs : List Rt) : ∀ n i, tabN rs n i = 0 → ∀ j, i ≤ j → j < i + n → routeB (rt rs j) = true ∧ lowR rs j = false
  | 0, _, _, j, h1, h2 => by omega
  | n + 1, i, h, j, h1, h2 => by
    simp only [tabN] at h
    cases hm : routeB (rt rs i)
    · simp [hm] at h
    · cases hl : lowR rs i
      · simp only [hm, hl] at h
        rcases Nat.lt_or_ge i j with k | k
        · exact tabN_zero rs n (i + 1) (by simpa using h) j (by omega) (by omega)
        · obtain rfl : j = i := by omega
          exact ⟨hm, hl⟩
      · simp [hm, hl] at h
theorem good_of_tabF {rs : List Rt} (h : tabF rs = 0) : rs.length ≤ 200 ∧ (∀ i, i < rs.length → routeB (rt rs i) = true) ∧ AscP (rs.map Rt.p) := by
  unfold tabF at h
  split at h
  · rename_i hl
    have hz := tabN_zero rs rs.length 0 h
    refine ⟨hl, fun i hi => (hz i (by omega) (by omega)).1, ?_⟩
    intro i j hij hj
    simp only [List.length_map] at hj
    rw [pr_map rs i (by omega), pr_map rs j hj]
    induction j with
    | zero => omega
    | succ m ih =>
      have hlow := (hz (m + 1) (by omega) (by omega)).2
      have hstep : pltB (rt rs m).p (rt rs (m + 1)).p = true := by
        rw [lowR_succ] at hlow
        simpa using hlow
      rcases Nat.lt_or_ge i m with k | k
      · exact pltB_trans (ih k (by omega)) hstep
      · obtain rfl : i = m := by omega
        exact hstep
  · cases h
theorem tabN_of_good (rs : List Rt) (h : ∀ j, j < rs.length → routeB (rt rs j) = true ∧ lowR rs j = false) : ∀ n i, i + n ≤ rs.length → tabN rs n i = 0
  | 0, _, _ => rfl
  | n + 1, i, hi => by
    obtain ⟨h1, h2⟩ := h i (by omega)
    rw [tabN_on h1 h2]
    exact tabN_of_good rs h n (i + 1) (by omega)
theorem tabF_of_good {rs : List Rt} (hl : rs.length ≤ 200) (hm : ∀ i, i < rs.length → routeB (rt rs i) = true) (ha : AscP (rs.map Rt.p)) : tabF rs = 0 := by
  rw [tabF_from hl]
  refine tabN_of_good rs (fun j hj => ⟨hm j hj, ?_⟩) _ _ (by omega)
  rcases Nat.eq_zero_or_pos j with rfl | k
  · exact lowR_zero _
  · obtain ⟨m, rfl⟩ : ∃ m, j = m + 1 := ⟨j - 1, by omega⟩
    rw [lowR_succ]
    have := ha m (m + 1) (by omega) (by simpa using hj)
    rw [pr_map rs m (by omega), pr_map rs (m + 1) hj] at this
    rw [this]; rfl

/-- the place of a prefix, or that at which it would come -/
def posP : List (Int × Int) → Int × Int → Nat
  | [], _ => 0
  | e :: r, p => if pltB e p then posP r p + 1 else 0
theorem pr_cons_succ (e : Int × Int) (es : List (Int × Int)) (i : Nat) : pr (e :: es) (i + 1) = pr es i := by simp [pr]
theorem pr_cons_zero (e : Int × Int) (es : List (Int × Int)) : pr (e :: es) 0 = e := by simp [pr]
theorem posP_le : ∀ (ps : List (Int × Int)) (p : Int × Int), posP ps p ≤ ps.length
  | [], _ => Nat.le_refl _
  | e :: r, p => by
    simp only [posP, List.length_cons]
    have := posP_le r p
    split <;> omega
theorem posP_lt : ∀ (ps : List (Int × Int)) (p : Int × Int) (i : Nat), i < posP ps p → pltB (pr ps i) p = true
  | [], _, i, h => by simp [posP] at h
  | e :: r, p, i, h => by
    simp only [posP] at h
    split at h
    · rename_i he
      cases i with
      | zero => simpa [pr] using he
      | succ i => rw [pr_cons_succ]; exact posP_lt r p i (by omega)
    · omega
theorem posP_at : ∀ (ps : List (Int × Int)) (p : Int × Int), posP ps p < ps.length → pltB (pr ps (posP ps p)) p = false
  | [], _, h => by simp at h
  | e :: r, p, h => by
    cases he : pltB e p
    · simp [posP, he, pr]
    · simp only [posP, he, if_true] at h ⊢
      rw [pr_cons_succ]
      exact posP_at r p (by simpa using h)
theorem posP_of {ps : List (Int × Int)} {p : Int × Int} {i : Nat} (hi : i ≤ ps.length) (h1 : ∀ t, t < i → pltB (pr ps t) p = true) (h2 : i < ps.length → pltB (pr ps i) p = false) : posP ps p = i := by
  rcases Nat.lt_trichotomy (posP ps p) i with k | k | k
  · have a := h1 _ k
    rw [posP_at ps p (by omega)] at a; cases a
  · exact k
  · have a := posP_lt ps p i k
    have b := posP_le ps p
    rw [h2 (by omega)] at a; cases a
/-- is the prefix there? -/
def thereP (ps : List (Int × Int)) (p : Int × Int) : Bool := decide (posP ps p < ps.length) && decide (pr ps (posP ps p) = p)
theorem thereP_lt {ps : List (Int × Int)} {p : Int × Int} (h : thereP ps p = true) : posP ps p < ps.length := by
  unfold thereP at h
  simp only [Bool.and_eq_true, decide_eq_true_eq] at h
  exact h.1
theorem thereP_eq {ps : List (Int × Int)} {p : Int × Int} (h : thereP ps p = true) : pr ps (posP ps p) = p := by
  unfold thereP at h
  simp only [Bool.and_eq_true, decide_eq_true_eq] at h
  exact h.2
theorem ascP_lt {ps : List (Int × Int)} (h : AscP ps) {p : Int × Int} {t m : Nat} (hm : m < ps.length) (ht : t ≤ m) (k : pltB (pr ps m) p = true) : pltB (pr ps t) p = true := by
  rcases Nat.lt_or_ge t m with q | q
  · exact pltB_trans (h t m q hm) k
  · obtain rfl : t = m := by omega
    exact k
theorem ascP_ge {ps : List (Int × Int)} (h : AscP ps) {p : Int × Int} {t m : Nat} (ht : t < ps.length) (hm : m ≤ t) (k : pltB (pr ps m) p = false) : pltB (pr ps t) p = false := by
  cases q : pltB (pr ps t) p
  · rfl
  · rw [ascP_lt h ht hm q] at k; cases k
/-- in order, a prefix is there just where it is one of them -/
theorem thereP_mem {ps : List (Int × Int)} (h : AscP ps) {p : Int × Int} {i : Nat} (hi : i < ps.length) (e : pr ps i = p) : posP ps p = i ∧ thereP ps p = true := by
  have hp : posP ps p = i := by
    refine posP_of (by omega) (fun u hu => ?_) (fun _ => by rw [e]; exact pltB_irrefl _)
    have := h u i hu hi
    rwa [e] at this
  refine ⟨hp, ?_⟩
  unfold thereP
  rw [hp, e]
  simp [hi]
theorem thereP_iff {ps : List (Int × Int)} (h : AscP ps) (p : Int × Int) : thereP ps p = true ↔ p ∈ ps := by
  constructor
  · intro ht
    rw [← thereP_eq ht]
    exact pr_mem ps _ (thereP_lt ht)
  · intro hm
    obtain ⟨i, hi, e⟩ := List.getElem_of_mem hm
    exact (thereP_mem h hi (by rw [pr_eq ps i hi]; exact e)).2
end Go.Proofs.YtcdobhdbafpkiadDoor.Pl
/-
  Plain definitions and facts: what is found in a table, what parts two tables, a table that is patched; no program in sight.
-/
namespace Go.Proofs.YtcdobhdbafpkiadDoor.Pl

/-- the prefix of so many bits to which an address belongs -/
def pfxAt (addr : Int) (bits : Nat) : Int × Int := (addr - addr % span bits, bits)
/-- the place of what is found, of so many bits and fewer -/
def lookN (ps : List (Int × Int)) (addr : Int) : Nat → Option Nat
  | 0 => none
  | n + 1 => if thereP ps (pfxAt addr n) then some (posP ps (pfxAt addr n)) else lookN ps addr n
theorem lookN_lt {ps : List (Int × Int)} {addr : Int} : ∀ {n i : Nat}, lookN ps addr n = some i → i < ps.length
  | 0, i, h => by simp [lookN] at h
  | n + 1, i, h => by
    unfold lookN at h
    split at h
    · rename_i ht
      cases h
      exact thereP_lt ht
    · exact lookN_lt h
/-- what is wrong with looking up -/
def lookC (rs : List Rt) (addr : Int) : Int :=
  if tabF rs = 0 then (if 0 ≤ addr ∧ addr ≤ 255 then (match lookN (rs.map Rt.p) addr 9 with | some _ => 0 | none => 6) else 2) else tabF rs
def lookR (rs : List Rt) (addr : Int) : Rt :=
  if tabF rs = 0 then (if 0 ≤ addr ∧ addr ≤ 255 then (match lookN (rs.map Rt.p) addr 9 with | some i => rt rs i | none => Rt.none) else Rt.none) else Rt.none

/-- are two routes of a prefix the same? -/
def sameR (a b : Rt) : Bool := decide (a.here = b.here) && decide (a.cost = b.cost) && decide (a.hops = b.hops)
/-- is a route there, and the same? -/
def keptB (a : List Rt) (r : Rt) : Bool := thereP (a.map Rt.p) r.p && sameR (rt a (posP (a.map Rt.p) r.p)) r
/-- what is to be set, what is to go -/
def setL (a b : List Rt) : List Rt := b.filter fun r => !keptB a r
def goneL (a b : List Rt) : List (Int × Int) := (a.filter fun r => !thereP (b.map Rt.p) r.p).map Rt.p

/-- without the route of a prefix -/
def delR (rs : List Rt) (p : Int × Int) : List Rt := if thereP (rs.map Rt.p) p then rs.take (posP (rs.map Rt.p) p) ++ rs.drop (posP (rs.map Rt.p) p + 1) else rs
def delsR (rs : List Rt) (ps : List (Int × Int)) : List Rt := ps.foldl delR rs
/-- a route comes to its place, instead of that with its prefix -/
def insR : List Rt → Rt → List Rt
  | [], x => [x]
  | e :: r, x => if pltB e.p x.p then e :: insR r x else if e.p = x.p then x :: r else x :: e :: r
def inssR (rs : List Rt) (set : List Rt) : List Rt := set.foldl insR rs
/-- what is laid at a place -/
def layR (rs : List Rt) (i : Nat) (instead : Bool) (x : Rt) : List Rt := rs.take i ++ x :: rs.drop (if instead then i + 1 else i)

/-- in order, as pairs -/
def SrtR (rs : List Rt) : Prop := rs.Pairwise fun a b => pltB a.p b.p = true
theorem ascP_srt (rs : List Rt) : AscP (rs.map Rt.p) ↔ SrtR rs := by
  unfold AscP SrtR
  rw [List.pairwise_iff_getElem]
  constructor
  · intro h i j hi hj hij
    have := h i j hij (by simpa using hj)
    rwa [pr_map rs i hi, pr_map rs j hj, rt_eq rs i hi, rt_eq rs j hj] at this
  · intro h i j hij hj
    simp only [List.length_map] at hj
    have := h i j (by omega) hj hij
    rwa [pr_map rs i (by omega), pr_map rs j hj, rt_eq rs i (by omega), rt_eq rs j hj]
/-- a table that may be -/
def GoodT (rs : List Rt) : Prop := rs.length ≤ 200 ∧ (∀ r ∈ rs, routeB r = true) ∧ SrtR rs
theorem goodT_iff (rs : List Rt) : tabF rs = 0 ↔ GoodT rs := by
  constructor
  · intro h
    obtain ⟨h1, h2, h3⟩ := good_of_tabF h
    refine ⟨h1, fun r hr => ?_, (ascP_srt rs).1 h3⟩
    obtain ⟨i, hi, rfl⟩ := List.getElem_of_mem hr
    rw [← rt_eq rs i hi]; exact h2 i hi
  · rintro ⟨h1, h2, h3⟩
    exact tabF_of_good h1 (fun i hi => h2 _ (rt_mem rs i hi)) ((ascP_srt rs).2 h3)

theorem thereP_cons_lt {e : Int × Int} {r : List (Int × Int)} {p : Int × Int} (h : pltB e p = true) : thereP (e :: r) p = thereP r p := by
  unfold thereP
  simp only [posP, h, if_true, pr_cons_succ, List.length_cons]
  simp
theorem thereP_cons_ge {e : Int × Int} {r : List (Int × Int)} {p : Int × Int} (h : pltB e p = false) : thereP (e :: r) p = decide (e = p) := by
  unfold thereP
  simp [posP, h, pr]
theorem lay_insR : ∀ (rs : List Rt) (x : Rt), layR rs (posP (rs.map Rt.p) x.p) (thereP (rs.map Rt.p) x.p) x = insR rs x
  | [], x => by simp [layR, insR, posP, thereP]
  | e :: r, x => by
    cases h : pltB e.p x.p
    · rw [List.map_cons, thereP_cons_ge h]
      simp only [posP, h, insR, layR]
      by_cases k : e.p = x.p
      · simp [k]
      · simp [k]
    · rw [List.map_cons, thereP_cons_lt h]
      have ih := lay_insR r x
      unfold layR at ih ⊢
      simp only [posP, h, if_true, insR, List.take_succ_cons, List.cons_append]
      rw [← ih]
      cases thereP (r.map Rt.p) x.p <;> simp
theorem mem_insR {rs : List Rt} {x e : Rt} (h : e ∈ insR rs x) : e = x ∨ e ∈ rs := by
  induction rs with
  | nil => simp [insR] at h; exact .inl h
  | cons a r ih =>
    unfold insR at h
    split at h
    · rcases List.mem_cons.1 h with rfl | h
      · exact .inr (by simp)
      · rcases ih h with h | h
        · exact .inl h
        · exact .inr (by simp [h])
    · split at h
      · rcases List.mem_cons.1 h with rfl | h
        · exact .inl rfl
        · exact .inr (by simp [h])
      · rcases List.mem_cons.1 h with rfl | h
        · exact .inl rfl
        · exact .inr h
theorem insR_srt {rs : List Rt} {x : Rt} (h : SrtR rs) : SrtR (insR rs x) := by
  induction rs with
  | nil => simp [SrtR, insR]
  | cons a r ih =>
    unfold SrtR at h ih ⊢
    rw [List.pairwise_cons] at h
    obtain ⟨h1, h2⟩ := h
    unfold insR
    split
    · rename_i hl
      refine List.pairwise_cons.2 ⟨fun e he => ?_, ih h2⟩
      rcases mem_insR he with rfl | he
      · exact hl
      · exact h1 e he
    · rename_i hl
      split
      · rename_i he
        refine List.pairwise_cons.2 ⟨fun e hm => ?_, h2⟩
        rw [← he]; exact h1 e hm
      · rename_i he
        have hlt : pltB x.p a.p = true := by
          cases k : pltB x.p a.p
          · exact absurd (pltB_total (by simpa using hl) k) he
          · rfl
        refine List.pairwise_cons.2 ⟨fun e hm => ?_, List.pairwise_cons.2 ⟨h1, h2⟩⟩
        rcases List.mem_cons.1 hm with rfl | hm
        · exact hlt
        · exact pltB_trans hlt (h1 e hm)
theorem insR_len : ∀ (rs : List Rt) (x : Rt), (insR rs x).length = if thereP (rs.map Rt.p) x.p then rs.length else rs.length + 1
  | [], x => by simp [insR, thereP]
  | e :: r, x => by
    have ih := insR_len r x
    cases h : pltB e.p x.p
    · rw [List.map_cons, thereP_cons_ge h]
      simp only [insR, h]
      by_cases k : e.p = x.p <;> simp [k]
    · rw [List.map_cons, thereP_cons_lt h]
      simp only [insR, h, if_true, List.length_cons, ih]
      cases thereP (r.map Rt.p) x.p <;> simp
theorem insR_len_ge (rs : List Rt) (x : Rt) : rs.length ≤ (insR rs x).length := by
  rw [insR_len]; split <;> omega
theorem inssR_len_ge : ∀ (set rs : List Rt), rs.length ≤ (inssR rs set).length
  | [], _ => Nat.le_refl _
  | x :: r, rs => Nat.le_trans (insR_len_ge rs x) (inssR_len_ge r (insR rs x))
theorem inssR_len_le : ∀ (set rs : List Rt), (inssR rs set).length ≤ rs.length + set.length
  | [], rs => by simp [inssR]
  | x :: r, rs => by
    have h1 := inssR_len_le r (insR rs x)
    have h2 : (insR rs x).length ≤ rs.length + 1 := by rw [insR_len]; split <;> omega
    show (inssR (insR rs x) r).length ≤ _
    simp only [List.length_cons]
    omega
theorem inssR_srt : ∀ (set rs : List Rt), SrtR rs → SrtR (inssR rs set)
  | [], _, h => h
  | _ :: r, _, h => inssR_srt r _ (insR_srt h)

/-- the document's way to lay a route -/
def wR : List Rt → Bool → Rt → List Rt
  | [], done, x => if done then [] else [x]
  | e :: r, done, x => (if !done && !pltB e.p x.p then [x] else []) ++ ((if e.p = x.p then [] else [e]) ++ wR r (done || !pltB e.p x.p) x)
theorem wR_done : ∀ (rs : List Rt) (x : Rt), (∀ e ∈ rs, ¬ e.p = x.p) → wR rs true x = rs
  | [], _, _ => rfl
  | e :: r, x, h => by
    have h0 := h e (by simp)
    simp [wR, h0, wR_done r x (fun e he => h e (by simp [he]))]
theorem wR_insR : ∀ (rs : List Rt) (x : Rt), SrtR rs → wR rs false x = insR rs x
  | [], x, _ => rfl
  | e :: r, x, h => by
    unfold SrtR at h
    rw [List.pairwise_cons] at h
    obtain ⟨h1, h2⟩ := h
    cases hl : pltB e.p x.p
    · have hrest : ∀ a ∈ r, ¬ a.p = x.p := by
        intro a ha he
        have := h1 a ha
        rw [he, hl] at this; cases this
      simp only [wR, insR, hl, Bool.not_false, Bool.and_self, if_true, Bool.or_true]
      rw [wR_done r x hrest]
      by_cases k : e.p = x.p <;> simp [k]
    · have k : ¬ e.p = x.p := pltB_ne hl
      simp [wR, insR, hl, k, wR_insR r x h2]

theorem delR_filter : ∀ (rs : List Rt) (p : Int × Int), SrtR rs → delR rs p = rs.filter fun r => decide (¬ r.p = p)
  | [], p, _ => by simp [delR, thereP]
  | e :: r, p, h => by
    unfold SrtR at h
    rw [List.pairwise_cons] at h
    obtain ⟨h1, h2⟩ := h
    have ih := delR_filter r p h2
    cases hl : pltB e.p p
    · have hrest : ∀ a ∈ r, ¬ a.p = p := by
        intro a ha he
        have := h1 a ha
        rw [he, hl] at this; cases this
      have hall : (r.filter fun r => decide (¬ r.p = p)) = r := List.filter_eq_self.2 fun a ha => by simpa using hrest a ha
      unfold delR
      rw [List.map_cons, thereP_cons_ge hl]
      simp only [posP, hl]
      by_cases k : e.p = p
      · simp only [k, decide_true, if_true]
        rw [List.filter_cons_of_neg (by simp [k]), hall]
        simp
      · simp only [k, decide_false]
        rw [List.filter_cons_of_pos (by simp [k]), hall]
        simp
    · have k : ¬ e.p = p := pltB_ne hl
      rw [List.filter_cons_of_pos (by simp [k]), ← ih]
      unfold delR
      rw [List.map_cons, thereP_cons_lt hl]
      simp only [posP, hl, if_true, List.take_succ_cons, List.drop_succ_cons]
      split <;> simp
theorem filter_srt {rs : List Rt} (f : Rt → Bool) (h : SrtR rs) : SrtR (rs.filter f) := List.Pairwise.filter _ h
theorem delsR_filter : ∀ (ps : List (Int × Int)) (rs : List Rt), SrtR rs → delsR rs ps = rs.filter fun r => decide (¬ r.p ∈ ps)
  | [], rs, _ => by
    simp only [delsR, List.foldl_nil, List.not_mem_nil, not_false_eq_true, decide_true]
    exact (List.filter_eq_self.2 fun _ _ => rfl).symm
  | p :: ps, rs, h => by
    show delsR (delR rs p) ps = _
    rw [delR_filter rs p h, delsR_filter ps _ (filter_srt _ h), List.filter_filter]
    congr 1
    funext r
    rw [Bool.eq_iff_iff]
    simp
    exact And.comm
theorem delsR_srt {rs : List Rt} {ps : List (Int × Int)} (h : SrtR rs) : SrtR (delsR rs ps) := by rw [delsR_filter ps rs h]; exact filter_srt _ h
theorem delsR_len {rs : List Rt} {ps : List (Int × Int)} (h : SrtR rs) : (delsR rs ps).length ≤ rs.length := by rw [delsR_filter ps rs h]; exact List.length_filter_le _ _

/-- what comes of a patch, and what is wrong with it -/
def patR (a set : List Rt) (gone : List (Int × Int)) : List Rt := inssR (delsR a gone) set
def patC (a set : List Rt) (gone : List (Int × Int)) : Int := if tabF a = 0 then tabF (patR a set gone) else tabF a
def patL (a set : List Rt) (gone : List (Int × Int)) : List Rt := if tabF a = 0 then (if tabF (patR a set gone) = 0 then patR a set gone else []) else []
end Go.Proofs.YtcdobhdbafpkiadDoor.Pl
/-
  Plain: a table that is made route by route; what stands at each prefix of it; no program in sight.
-/
namespace Go.Proofs.YtcdobhdbafpkiadDoor
open Go.RowKit
set_option maxRecDepth 20000

theorem Pl.mem_hopsL {h : Nat → Bool} {k : Nat} {x : Int} : x ∈ Pl.hopsL h k ↔ ∃ j, j < k ∧ x = (j : Int) ∧ h j = true := by
  induction k with
  | zero => simp [Pl.hopsL]
  | succ k ih =>
    cases e : h k
    · rw [Pl.hopsL_off e, ih]
      constructor
      · rintro ⟨j, h1, h2, h3⟩; exact ⟨j, by omega, h2, h3⟩
      · rintro ⟨j, h1, h2, h3⟩
        refine ⟨j, ?_, h2, h3⟩
        rcases Nat.lt_or_ge j k with g | g
        · exact g
        · obtain rfl : j = k := by omega
          rw [e] at h3; cases h3
    · rw [Pl.hopsL_on e, List.mem_append, List.mem_singleton, ih]
      constructor
      · rintro (⟨j, h1, h2, h3⟩ | rfl)
        · exact ⟨j, by omega, h2, h3⟩
        · exact ⟨k, by omega, rfl, e⟩
      · rintro ⟨j, h1, h2, h3⟩
        rcases Nat.lt_or_ge j k with g | g
        · exact .inl ⟨j, g, h2, h3⟩
        · obtain rfl : j = k := by omega
          exact .inr h2
theorem Pl.hopsL_up (h : Nat → Bool) (k : Nat) : (Pl.hopsL h k).Pairwise (· < ·) := by
  induction k with
  | zero => exact List.Pairwise.nil
  | succ k ih =>
    cases e : h k
    · rw [Pl.hopsL_off e]; exact ih
    · rw [Pl.hopsL_on e, List.pairwise_append]
      refine ⟨ih, by simp, fun x hx y hy => ?_⟩
      obtain ⟨j, h1, h2, _⟩ := Pl.mem_hopsL.1 hx
      simp at hy
      omega
theorem Pl.hopsB_of {l : List Int} (h1 : ∀ x ∈ l, 0 ≤ x ∧ x ≤ 11) (h2 : l.Pairwise (· < ·)) : Pl.hopsB l = true := by
  refine Pl.hopsB_true fun k hk => ?_
  have g := h1 _ (List.getElem_mem hk)
  rw [← Pl.nm_eq l k hk] at g
  cases k with
  | zero => rw [Pl.hopB_zero]; simpa using g
  | succ m =>
    rw [Pl.hopB_succ]
    have := List.pairwise_iff_getElem.1 h2 m (m + 1) (by omega) hk (by omega)
    rw [← Pl.nm_eq l m (by omega), ← Pl.nm_eq l (m + 1) hk] at this
    simp only [Bool.and_eq_true, decide_eq_true_eq]
    exact ⟨g, this⟩
theorem Pl.hopsB_range {l : List Int} (h : Pl.hopsB l = true) : ∀ x ∈ l, 0 ≤ x ∧ x ≤ 11 := by
  intro x hx
  obtain ⟨i, hi, rfl⟩ := List.getElem_of_mem hx
  have := Pl.hopsB_at h i hi
  unfold Pl.hopB at this
  simp only [Bool.and_eq_true, decide_eq_true_eq] at this
  rw [← Pl.nm_eq l i hi]
  exact this.1
theorem Pl.hopsL_B (h : Nat → Bool) {k : Nat} (hk : k ≤ 12) : Pl.hopsB (Pl.hopsL h k) = true :=
  Pl.hopsB_of (fun x hx => by obtain ⟨j, h1, h2, _⟩ := Pl.mem_hopsL.1 hx; omega) (Pl.hopsL_up h k)
/-- rising lists with the same members are the same -/
theorem Pl.up_ext : ∀ {a b : List Int}, a.Pairwise (· < ·) → b.Pairwise (· < ·) → (∀ x, x ∈ a ↔ x ∈ b) → a = b
  | [], [], _, _, _ => rfl
  | [], y :: b, _, _, h => absurd ((h y).2 (by simp)) (by simp)
  | x :: a, [], _, _, h => absurd ((h x).1 (by simp)) (by simp)
  | x :: a, y :: b, ha, hb, h => by
    rw [List.pairwise_cons] at ha hb
    have e : x = y := by
      have h1 := (h x).1 (by simp)
      have h2 := (h y).2 (by simp)
      rcases List.mem_cons.1 h1 with h1 | h1
      · exact h1
      · rcases List.mem_cons.1 h2 with h2 | h2
        · exact h2.symm
        · have := hb.1 x h1; have := ha.1 y h2; omega
    subst e
    rw [Pl.up_ext ha.2 hb.2 fun z => ?_]
    constructor
    · intro hz
      rcases List.mem_cons.1 ((h z).1 (by simp [hz])) with g | g
      · have := ha.1 z hz; omega
      · exact g
    · intro hz
      rcases List.mem_cons.1 ((h z).2 (by simp [hz])) with g | g
      · have := hb.1 z hz; omega
      · exact g

/-- hops of both -/
def Pl.unite (a b : List Int) : List Int := Pl.hopsL (fun k => decide ((k : Int) ∈ a) || decide ((k : Int) ∈ b)) 12
theorem Pl.mem_unite {a b : List Int} {x : Int} (ha : ∀ x ∈ a, 0 ≤ x ∧ x ≤ 11) (hb : ∀ x ∈ b, 0 ≤ x ∧ x ≤ 11) : x ∈ Pl.unite a b ↔ x ∈ a ∨ x ∈ b := by
  unfold Pl.unite
  rw [Pl.mem_hopsL]
  constructor
  · rintro ⟨j, _, rfl, h⟩; simpa using h
  · intro h
    have hx : 0 ≤ x ∧ x ≤ 11 := h.elim (ha x) (hb x)
    refine ⟨x.toNat, by omega, by omega, ?_⟩
    rw [show ((x.toNat : Nat) : Int) = x by omega]
    simpa using h
/-- the best of two routes -/
def Pl.bestR (a b : Pl.Rt) : Pl.Rt := if b.cost < a.cost then b else if b.cost = a.cost then ⟨a.p, a.here, a.cost, Pl.unite a.hops b.hops⟩ else a
def Pl.offX (rs : List Pl.Rt) (r : Pl.Rt) : Pl.Rt := if Pl.thereP (rs.map Pl.Rt.p) r.p then Pl.bestR (Pl.rt rs (Pl.posP (rs.map Pl.Rt.p) r.p)) r else r
/-- a route is offered -/
def Pl.offR (rs : List Pl.Rt) (r : Pl.Rt) : List Pl.Rt := Pl.insR rs (Pl.offX rs r)
/-- the route at a prefix -/
def Pl.getR : List Pl.Rt → Int × Int → Option Pl.Rt
  | [], _ => none
  | e :: r, q => if e.p = q then some e else Pl.getR r q
theorem Pl.getR_none {rs : List Pl.Rt} {q : Int × Int} (h : ∀ r ∈ rs, ¬ r.p = q) : Pl.getR rs q = none := by
  induction rs with
  | nil => rfl
  | cons e r ih => unfold Pl.getR; rw [if_neg (h e (by simp))]; exact ih fun x hx => h x (by simp [hx])
theorem Pl.getR_some {rs : List Pl.Rt} {q : Int × Int} {x : Pl.Rt} (h : Pl.getR rs q = some x) : x ∈ rs ∧ x.p = q := by
  induction rs with
  | nil => cases h
  | cons e r ih =>
    unfold Pl.getR at h
    split at h
    · rename_i g; cases h; exact ⟨by simp, g⟩
    · obtain ⟨h1, h2⟩ := ih h; exact ⟨by simp [h1], h2⟩
theorem Pl.getR_mem {rs : List Pl.Rt} (hs : Pl.SrtR rs) {x : Pl.Rt} (h : x ∈ rs) : Pl.getR rs x.p = some x := by
  induction rs with
  | nil => simp at h
  | cons e r ih =>
    unfold Pl.SrtR at hs ih
    rw [List.pairwise_cons] at hs
    unfold Pl.getR
    rcases List.mem_cons.1 h with rfl | h
    · rw [if_pos rfl]
    · rw [if_neg (Pl.pltB_ne (hs.1 x h))]; exact ih hs.2 h
theorem Pl.getR_there {rs : List Pl.Rt} (hs : Pl.SrtR rs) (q : Int × Int) : Pl.getR rs q = if Pl.thereP (rs.map Pl.Rt.p) q then some (Pl.rt rs (Pl.posP (rs.map Pl.Rt.p) q)) else none := by
  induction rs with
  | nil => simp [Pl.getR, Pl.thereP]
  | cons e r ih =>
    unfold Pl.SrtR at hs ih
    rw [List.pairwise_cons] at hs
    unfold Pl.getR
    cases h : Pl.pltB e.p q
    · rw [List.map_cons, Pl.thereP_cons_ge h]
      by_cases g : e.p = q
      · simp [g, Pl.posP, Pl.pltB_irrefl, Pl.rt]
      · rw [if_neg g, if_neg (by simpa using g)]
        refine Pl.getR_none fun x hx e' => ?_
        have := hs.1 x hx
        rw [e', h] at this; cases this
    · rw [if_neg (Pl.pltB_ne h), List.map_cons, Pl.thereP_cons_lt h, ih hs.2]
      simp [Pl.posP, h, Pl.rt_cons_succ]
theorem Pl.getR_ins {rs : List Pl.Rt} (hs : Pl.SrtR rs) (x : Pl.Rt) (q : Int × Int) : Pl.getR (Pl.insR rs x) q = if x.p = q then some x else Pl.getR rs q := by
  induction rs with
  | nil => simp [Pl.insR, Pl.getR]
  | cons e r ih =>
    unfold Pl.SrtR at hs ih
    rw [List.pairwise_cons] at hs
    unfold Pl.insR
    split
    · rename_i h
      unfold Pl.getR
      rw [ih hs.2]
      by_cases g : e.p = q
      · rw [if_pos g, if_pos g, if_neg (by intro e'; exact Pl.pltB_ne h (g.trans e'.symm))]
      · rw [if_neg g, if_neg g]
    · split
      · rename_i h1 h2
        unfold Pl.getR
        rw [h2]
        by_cases g : x.p = q
        · rw [if_pos g, if_pos g]
        · rw [if_neg g, if_neg g, if_neg g]
      · rfl
/-- tables in order with the same route at each prefix are the same -/
theorem Pl.srtR_ext : ∀ {a b : List Pl.Rt}, Pl.SrtR a → Pl.SrtR b → (∀ q, Pl.getR a q = Pl.getR b q) → a = b
  | [], [], _, _, _ => rfl
  | [], y :: b, _, _, h => by have := h y.p; simp [Pl.getR] at this
  | x :: a, [], _, _, h => by have := h x.p; simp [Pl.getR] at this
  | x :: a, y :: b, ha, hb, h => by
    have hx := h x.p
    have hy := h y.p
    have hx1 : Pl.getR (x :: a) x.p = some x := by simp [Pl.getR]
    have hy1 : Pl.getR (y :: b) y.p = some y := by simp [Pl.getR]
    have hxb := Pl.getR_some (hx.symm.trans hx1)
    have hya := Pl.getR_some (hy.trans hy1)
    unfold Pl.SrtR at ha hb
    rw [List.pairwise_cons] at ha hb
    have e : x = y := by
      rcases List.mem_cons.1 hxb.1 with g | g
      · exact g
      · rcases List.mem_cons.1 hya.1 with g2 | g2
        · exact g2.symm
        · have h1 := hb.1 x g
          have h2 := ha.1 y g2
          rw [Pl.pltB_asymm h1] at h2; cases h2
    subst e
    rw [Pl.srtR_ext ha.2 hb.2 fun q => ?_]
    by_cases g : x.p = q
    · subst g
      rw [Pl.getR_none fun r hr e => ?_, Pl.getR_none fun r hr e => ?_]
      · have := hb.1 r hr; rw [e, Pl.pltB_irrefl] at this; cases this
      · have := ha.1 r hr; rw [e, Pl.pltB_irrefl] at this; cases this
    · have := h q
      unfold Pl.getR at this
      rwa [if_neg g, if_neg g] at this

theorem Pl.bestR_p {a b : Pl.Rt} (h : a.p = b.p) : (Pl.bestR a b).p = b.p := by
  unfold Pl.bestR
  split
  · rfl
  · split
    · exact h
    · exact h
theorem Pl.offX_p (rs : List Pl.Rt) (r : Pl.Rt) : (Pl.offX rs r).p = r.p := by
  unfold Pl.offX
  split
  · rename_i h
    refine Pl.bestR_p ?_
    have h1 := Pl.thereP_eq h
    have h2 := Pl.thereP_lt h
    rw [Pl.pr_map rs _ (by simpa using h2)] at h1
    exact h1
  · rfl
/-- what comes of one more route at a prefix -/
def Pl.more (o : Option Pl.Rt) (r : Pl.Rt) : Pl.Rt := match o with | none => r | some a => Pl.bestR a r
theorem Pl.offX_more {rs : List Pl.Rt} (hs : Pl.SrtR rs) (r : Pl.Rt) : Pl.offX rs r = Pl.more (Pl.getR rs r.p) r := by
  unfold Pl.offX Pl.more
  rw [Pl.getR_there hs]
  split
  · rfl
  · rfl
theorem Pl.offR_srt {rs : List Pl.Rt} (hs : Pl.SrtR rs) (r : Pl.Rt) : Pl.SrtR (Pl.offR rs r) := Pl.insR_srt hs
theorem Pl.getR_off {rs : List Pl.Rt} (hs : Pl.SrtR rs) (r : Pl.Rt) (q : Int × Int) : Pl.getR (Pl.offR rs r) q = if r.p = q then some (Pl.more (Pl.getR rs q) r) else Pl.getR rs q := by
  unfold Pl.offR
  rw [Pl.getR_ins hs, Pl.offX_p]
  split
  · rename_i h; rw [Pl.offX_more hs, h]
  · rfl
theorem Pl.offR_len (rs : List Pl.Rt) (r : Pl.Rt) : (Pl.offR rs r).length ≤ rs.length + 1 := by
  unfold Pl.offR
  rw [Pl.insR_len]; split <;> omega

/-- the route to a node's prefix -/
def Pl.mkR (C : Nat → Int) (H : Nat → List Int) (node n : Nat) (p : Int × Int) : Pl.Rt := ⟨p, decide ((n : Int) = (node : Int)), C n, H n⟩
/-- the prefixes of a node are offered, one by one -/
def Pl.offs (C : Nat → Int) (H : Nat → List Int) (node n : Nat) (rs : List Pl.Rt) (ps : List (Int × Int)) : List Pl.Rt := ps.foldl (fun rs p => Pl.offR rs (Pl.mkR C H node n p)) rs
/-- the table of so many nodes -/
def Pl.tabK (C : Nat → Int) (H : Nat → List Int) (P : Nat → List (Int × Int)) (node : Nat) : Nat → List Pl.Rt
  | 0 => []
  | k + 1 => if C k < 0 then Pl.tabK C H P node k else Pl.offs C H node k (Pl.tabK C H P node k) (P k)
def Pl.getT (C : Nat → Int) (H : Nat → List Int) (P : Nat → List (Int × Int)) (node : Nat) (q : Int × Int) : Nat → Option Pl.Rt
  | 0 => none
  | k + 1 => if C k < 0 ∨ ¬ q ∈ P k then Pl.getT C H P node q k else some (Pl.more (Pl.getT C H P node q k) (Pl.mkR C H node k q))
theorem Pl.offs_srt (C H node n) : ∀ (ps : List (Int × Int)) (rs : List Pl.Rt), Pl.SrtR rs → Pl.SrtR (Pl.offs C H node n rs ps)
  | [], _, h => h
  | _ :: ps, _, h => Pl.offs_srt C H node n ps _ (Pl.offR_srt h _)
theorem Pl.offs_len (C H node n) : ∀ (ps : List (Int × Int)) (rs : List Pl.Rt), (Pl.offs C H node n rs ps).length ≤ rs.length + ps.length
  | [], _ => by simp [Pl.offs]
  | p :: ps, rs => by
    have h1 := Pl.offs_len C H node n ps (Pl.offR rs (Pl.mkR C H node n p))
    have h2 := Pl.offR_len rs (Pl.mkR C H node n p)
    show (Pl.offs C H node n (Pl.offR rs (Pl.mkR C H node n p)) ps).length ≤ _
    simp only [List.length_cons]; omega
theorem Pl.offs_get (C H node n) (q : Int × Int) : ∀ (ps : List (Int × Int)) (rs : List Pl.Rt), Pl.SrtR rs → ps.Nodup → Pl.getR (Pl.offs C H node n rs ps) q = if q ∈ ps then some (Pl.more (Pl.getR rs q) (Pl.mkR C H node n q)) else Pl.getR rs q
  | [], rs, _, _ => by simp [Pl.offs]
  | p :: ps, rs, h, hn => by
    rw [List.nodup_cons] at hn
    show Pl.getR (Pl.offs C H node n (Pl.offR rs (Pl.mkR C H node n p)) ps) q = _
    rw [Pl.offs_get C H node n q ps _ (Pl.offR_srt h _) hn.2, Pl.getR_off h]
    show (if q ∈ ps then some (Pl.more (if p = q then _ else _) _) else if p = q then _ else _) = _
    by_cases g : p = q
    · subst g
      rw [if_neg hn.1, if_pos rfl, if_pos (by simp)]
    · simp only [if_neg g]
      by_cases g2 : q ∈ ps
      · rw [if_pos g2, if_pos (by simp [g2])]
      · rw [if_neg g2, if_neg (by simp [g2, Ne.symm g])]
theorem Pl.tabK_srt (C H P node) : ∀ k, Pl.SrtR (Pl.tabK C H P node k)
  | 0 => List.Pairwise.nil
  | k + 1 => by
    unfold Pl.tabK
    split
    · exact Pl.tabK_srt C H P node k
    · exact Pl.offs_srt _ _ _ _ _ _ (Pl.tabK_srt C H P node k)
theorem Pl.tabK_len {C H P node} (hP : ∀ i, (P i).length ≤ 6) : ∀ k, (Pl.tabK C H P node k).length ≤ k * 6
  | 0 => by simp [Pl.tabK]
  | k + 1 => by
    have h1 := Pl.tabK_len (C := C) (H := H) (node := node) hP k
    unfold Pl.tabK
    split
    · omega
    · have := Pl.offs_len C H node k (P k) (Pl.tabK C H P node k)
      have := hP k
      omega
theorem Pl.tabK_get {C H P node} (hP : ∀ i, (P i).Nodup) (q : Int × Int) : ∀ k, Pl.getR (Pl.tabK C H P node k) q = Pl.getT C H P node q k
  | 0 => rfl
  | k + 1 => by
    have h1 := Pl.tabK_get (C := C) (H := H) (node := node) hP q k
    unfold Pl.tabK Pl.getT
    by_cases g : C k < 0
    · rw [if_pos g, if_pos (.inl g)]; exact h1
    · rw [if_neg g, Pl.offs_get C H node k q _ _ (Pl.tabK_srt C H P node k) (hP k), h1]
      by_cases g2 : q ∈ P k
      · rw [if_pos g2, if_neg (by simp [g2]; omega)]
      · rw [if_neg g2, if_pos (.inr g2)]

/-- a route as ways make one -/
def Pl.okR (r : Pl.Rt) : Prop := Pl.routeB r = true ∧ r.here = decide (r.cost = 0)
theorem Pl.routeB_iff (r : Pl.Rt) : Pl.routeB r = true ↔ Pl.pfx1 r.p = 0 ∧ (0 ≤ r.cost ∧ r.cost ≤ 1048576) ∧ (if r.here then r.cost = 0 ∧ r.hops = [] else r.hops ≠ []) ∧ Pl.hopsB r.hops = true := by
  unfold Pl.routeB
  cases r.here <;> simp [and_assoc]
theorem Pl.bestR_ok {a b : Pl.Rt} (ha : Pl.okR a) (hb : Pl.okR b) : Pl.okR (Pl.bestR a b) := by
  unfold Pl.bestR
  split
  · exact hb
  · split
    · rename_i h1 h2
      obtain ⟨ha1, ha2⟩ := ha
      obtain ⟨hb1, hb2⟩ := hb
      rw [Pl.routeB_iff] at ha1 hb1
      obtain ⟨a1, a2, a3, a4⟩ := ha1
      obtain ⟨b1, b2, b3, b4⟩ := hb1
      refine ⟨(Pl.routeB_iff _).2 ⟨a1, a2, ?_, Pl.hopsL_B _ (Nat.le_refl _)⟩, ha2⟩
      show if a.here then a.cost = 0 ∧ Pl.unite a.hops b.hops = [] else Pl.unite a.hops b.hops ≠ []
      cases hh : a.here
      · rw [hh] at a3
        simp only [Bool.false_eq_true, if_false] at a3 ⊢
        intro e
        obtain ⟨x, xs, hx⟩ : ∃ x xs, a.hops = x :: xs := by
          cases hq : a.hops with
          | nil => exact absurd hq a3
          | cons x xs => exact ⟨x, xs, rfl⟩
        have : x ∈ Pl.unite a.hops b.hops := (Pl.mem_unite (Pl.hopsB_range a4) (Pl.hopsB_range b4)).2 (.inl (by rw [hx]; simp))
        rw [e] at this; simp at this
      · rw [hh] at a3
        simp only [if_true] at a3 ⊢
        have hbh : b.here = true := by rw [hb2, h2, ← ha2, hh]
        rw [hbh] at b3
        simp only [if_true] at b3
        refine ⟨a3.1, ?_⟩
        rw [a3.2, b3.2]; decide
    · exact ha
theorem Pl.more_ok {o : Option Pl.Rt} {r : Pl.Rt} (ho : ∀ a, o = some a → Pl.okR a) (hr : Pl.okR r) : Pl.okR (Pl.more o r) := by
  cases o with
  | none => exact hr
  | some a => exact Pl.bestR_ok (ho a rfl) hr
/-- ways, and what nodes tell: each route to a told prefix is one that may be -/
def Pl.WP (C : Nat → Int) (H : Nat → List Int) (P : Nat → List (Int × Int)) (node : Nat) : Prop := ∀ n, n < 12 → 0 ≤ C n → ∀ p ∈ P n, Pl.okR (Pl.mkR C H node n p)
theorem Pl.getT_ok {C H P node} (h : Pl.WP C H P node) (q : Int × Int) : ∀ k, k ≤ 12 → ∀ a, Pl.getT C H P node q k = some a → Pl.okR a ∧ a.p = q
  | 0, _, a, e => by cases e
  | k + 1, hk, a, e => by
    have ih := Pl.getT_ok h q k (by omega)
    unfold Pl.getT at e
    split at e
    · exact ih a e
    · rename_i g
      cases e
      have g1 : 0 ≤ C k := by omega
      have g2 : q ∈ P k := Decidable.byContradiction fun h => g (.inr h)
      refine ⟨Pl.more_ok (fun a ha => (ih a ha).1) (h k (by omega) g1 q g2), ?_⟩
      cases ho : Pl.getT C H P node q k with
      | none => rfl
      | some b => exact Pl.bestR_p ((ih b ho).2)
theorem Pl.tabK_good {C H P node} (h : Pl.WP C H P node) (hn : ∀ i, (P i).Nodup) (hl : ∀ i, (P i).length ≤ 6) (k : Nat) (hk : k ≤ 12) : Pl.GoodT (Pl.tabK C H P node k) ∧ ∀ r ∈ Pl.tabK C H P node k, Pl.okR r := by
  have hok : ∀ r ∈ Pl.tabK C H P node k, Pl.okR r := by
    intro r hr
    have h1 := Pl.getR_mem (Pl.tabK_srt C H P node k) hr
    rw [Pl.tabK_get hn] at h1
    exact (Pl.getT_ok h r.p k hk r h1).1
  exact ⟨⟨by have := Pl.tabK_len (C := C) (H := H) (node := node) hl k; omega, fun r hr => (hok r hr).1, Pl.tabK_srt C H P node k⟩, hok⟩
end Go.Proofs.YtcdobhdbafpkiadDoor
/-
  Contracts: where a node tells of its prefixes (PrefixesKey), and what it tells (ToldPrefixes).
-/
namespace Go.Proofs.YtcdobhdbafpkiadDoor
open Go.RowKit
set_option maxRecDepth 20000

/-- the prefixes that a node tells -/
def Pl.tP (es : List Pl.Ent) (n : Nat) : List (Int × Int) := Pl.rpS (Pl.gotE es (Pl.pfxKey n)).val.data.toList
theorem Pl.tP_none {es : List Pl.Ent} {n : Nat} (h : Pl.gotC es (Pl.pfxKey n) ≠ 0) : Pl.tP es n = [] := by
  have e : Pl.gotE es (Pl.pfxKey n) = Pl.Ent.none := by
    unfold Pl.gotC at h
    unfold Pl.gotE
    by_cases hf : Pl.fault es = 0
    · rw [if_pos hf] at h ⊢
      by_cases ht : Pl.there es (Pl.pfxKey n)
      · rw [if_pos ht] at h; exact absurd rfl h
      · rw [if_neg ht]
    · rw [if_neg hf]
  unfold Pl.tP
  rw [e]
  decide

end Go.Proofs.YtcdobhdbafpkiadDoor
/-
  Plain: the table of a node, of a store: it may be, and what stands at each prefix of it; no program in sight.
-/
namespace Go.Proofs.YtcdobhdbafpkiadDoor
open Go.RowKit
set_option maxRecDepth 20000

theorem Pl.pfxN_good (ps : List (Int × Int)) : ∀ n i, i + n = ps.length → Pl.pfxN ps n i = 0 → ∀ j, i ≤ j → j < ps.length → Pl.pfx1 (Pl.pr ps j) = 0 ∧ (0 < j → Pl.pfxLow (Pl.pr ps (j - 1)) (Pl.pr ps j) = false)
  | 0, i, h, _, j, h1, h2 => by omega
  | n + 1, i, h, h0, j, h1, h2 => by
    by_cases g : Pl.pfx1 (Pl.pr ps i) = 0
    · cases i with
      | zero =>
        rw [Pl.pfxN_first g] at h0
        rcases Nat.eq_or_lt_of_le h1 with e | h1
        · subst e; exact ⟨g, fun h => by omega⟩
        · exact Pl.pfxN_good ps n 1 (by omega) h0 j h1 h2
      | succ m =>
        cases k : Pl.pfxLow (Pl.pr ps m) (Pl.pr ps (m + 1))
        · rw [Pl.pfxN_on g k] at h0
          rcases Nat.eq_or_lt_of_le h1 with e | h1
          · subst e; exact ⟨g, fun _ => k⟩
          · exact Pl.pfxN_good ps n (m + 1 + 1) (by omega) h0 j h1 h2
        · rw [Pl.pfxN_low g k] at h0; cases h0
    · rw [Pl.pfxN_bad g] at h0; exact absurd h0 g
theorem Pl.pfxF_good {ps : List (Int × Int)} (h : Pl.pfxF ps = 0) : ps.length ≤ 6 ∧ (∀ p ∈ ps, Pl.pfx1 p = 0) ∧ ps.Pairwise (fun p q => Pl.pltB p q = true) := by
  by_cases hl : ps.length ≤ 6
  · rw [Pl.pfxF_from hl] at h
    have g := Pl.pfxN_good ps ps.length 0 (by omega) h
    have h1 : ∀ p ∈ ps, Pl.pfx1 p = 0 := fun p hp => by
      obtain ⟨i, hi, rfl⟩ := List.getElem_of_mem hp
      rw [← Pl.pr_eq ps i hi]; exact (g i (by omega) hi).1
    refine ⟨hl, h1, List.pairwise_iff_getElem.2 fun i j hi hj hij => ?_⟩
    rw [← Pl.pr_eq ps i hi, ← Pl.pr_eq ps j hj]
    induction j with
    | zero => omega
    | succ m ih =>
      have hs : Pl.pltB (Pl.pr ps m) (Pl.pr ps (m + 1)) = true := by
        have g1 := (g (m + 1) (by omega) hj).2 (by omega)
        have a1 := Pl.pfx1_zero (g m (by omega) (by omega)).1
        have a2 := Pl.pfx1_zero (g (m + 1) (by omega) hj).1
        unfold Pl.pfxLow at g1
        rw [Pl.pltB_iff]
        simp at g1
        omega
      rcases Nat.lt_or_ge i m with q | q
      · exact Pl.pltB_trans (ih (by omega) q) hs
      · obtain rfl : i = m := by omega
        exact hs
  · rw [Pl.pfxF_size (by omega)] at h; cases h
theorem Pl.rpS_good (l : List UInt8) : (Pl.rpS l).length ≤ 6 ∧ (∀ p ∈ Pl.rpS l, Pl.pfx1 p = 0) ∧ (Pl.rpS l).Pairwise (fun p q => Pl.pltB p q = true) := by
  unfold Pl.rpS
  split
  · rename_i h
    unfold Pl.rpC at h
    cases hq : Pl.pairsL 47 l with
    | none => simp
    | some ps => rw [hq] at h; exact Pl.pfxF_good h
  · simp
theorem Pl.rpS_nodup (l : List UInt8) : (Pl.rpS l).Nodup := (Pl.rpS_good l).2.2.imp fun h => Pl.pltB_ne h
/-- links, none from a node to itself -/
def Pl.lnkX (ps : Nat → List (Int × Int)) (a b : Nat) : Int := if a = b then 0 else Pl.lnk ps a b
theorem Pl.lnk_le (es : List Pl.Ent) (a b : Nat) : 0 ≤ Pl.lnk (Pl.tS es) a b ∧ Pl.lnk (Pl.tS es) a b ≤ 1000 := by
  unfold Pl.lnk
  split
  · exact Pl.say_le (Pl.adjS_up _).ok b
  · omega
/-- what it costs to go to each node, and over which hops -/
def Pl.wC (es : List Pl.Ent) (f n : Nat) : Int := (Pl.dIter (Pl.lnk (Pl.tS es)) (Pl.tD es) f 12).cost n
def Pl.wH (es : List Pl.Ent) (f n : Nat) : List Int := Pl.hopsL ((Pl.dIter (Pl.lnk (Pl.tS es)) (Pl.tD es) f 12).hops n) 12
/-- what ways are -/
theorem Pl.wC_self (es : List Pl.Ent) {f : Nat} (hf : f < 12) : Pl.wC es f f = 0 :=
  Pl.from_cost (L := Pl.lnkX (Pl.tS es)) (fun a b h => by unfold Pl.lnkX; rw [if_neg h]) (fun a => by unfold Pl.lnkX; rw [if_pos rfl]) hf
theorem Pl.wC_min (es : List Pl.Ent) {f n : Nat} (hf : f < 12) (hn : n ≠ f) : Pl.IsMin (fun c => ∃ k, Pl.Way (Pl.lnkX (Pl.tS es)) (Pl.tD es) f k n c) (Pl.wC es f n) :=
  Pl.found_min (fun a b h => by unfold Pl.lnkX; rw [if_neg h]) (fun a => by unfold Pl.lnkX; rw [if_pos rfl]) hf hn
theorem Pl.mem_wH (es : List Pl.Ent) {f : Nat} (n : Nat) (hf : f < 12) (x : Int) : x ∈ Pl.wH es f n ↔ ∃ k : Nat, x = (k : Int) ∧ Pl.Way (Pl.lnkX (Pl.tS es)) (Pl.tD es) f k n (Pl.wC es f n) := by
  unfold Pl.wH
  rw [Pl.mem_hopsL]
  have key := fun k => Pl.found_hops (L := Pl.lnkX (Pl.tS es)) (M := Pl.lnk (Pl.tS es)) (D := Pl.tD es) (f := f) (fun a b h => by unfold Pl.lnkX; rw [if_neg h]) (fun a => by unfold Pl.lnkX; rw [if_pos rfl]) hf n k
  constructor
  · rintro ⟨j, _, h2, h3⟩; exact ⟨j, h2, (key j).1 h3⟩
  · rintro ⟨j, h2, h3⟩; exact ⟨j, h3.klt.1, h2, (key j).2 h3⟩
theorem Pl.wC_bound (es : List Pl.Ent) (f n : Nat) : -1 ≤ Pl.wC es f n ∧ Pl.wC es f n ≤ 12000 := by
  have := Pl.CB.iter (L := Pl.lnk (Pl.tS es)) (D := Pl.tD es) (f := f) (fun a b => (Pl.lnk_le es a b).2) 12 n
  unfold Pl.wC; omega
theorem Pl.wH_self (es : List Pl.Ent) {f : Nat} (hf : f < 12) : Pl.wH es f f = [] := by
  cases h : Pl.wH es f f with
  | nil => rfl
  | cons x xs =>
    have hx : x ∈ Pl.wH es f f := by rw [h]; simp
    obtain ⟨k, _, hw⟩ := (Pl.mem_wH es f hf x).1 hx
    exact absurd rfl hw.ne
theorem Pl.wC_pos (es : List Pl.Ent) {f n : Nat} (hf : f < 12) (hn : n ≠ f) (h : 0 ≤ Pl.wC es f n) : 0 < Pl.wC es f n ∧ Pl.wH es f n ≠ [] := by
  rcases Pl.wC_min es hf hn with ⟨e, _⟩ | ⟨_, ⟨k, hk⟩, _⟩
  · omega
  · refine ⟨hk.pos, fun e => ?_⟩
    have := (Pl.mem_wH es n hf (k : Int)).2 ⟨k, rfl, hk⟩
    rw [e] at this; simp at this
/-- the table of a node, of a store that may be -/
def Pl.tabL (es : List Pl.Ent) (f : Nat) : List Pl.Rt := Pl.tabK (Pl.wC es f) (Pl.wH es f) (Pl.tP es) f 12
theorem Pl.tab_WP (es : List Pl.Ent) {f : Nat} (hf : f < 12) : Pl.WP (Pl.wC es f) (Pl.wH es f) (Pl.tP es) f := by
  intro n hn hc p hp
  have hp1 := (Pl.rpS_good _).2.1 p hp
  have hb := Pl.wC_bound es f n
  by_cases e : n = f
  · subst e
    have h1 := Pl.wC_self es hf
    have h2 := Pl.wH_self es hf
    refine ⟨(Pl.routeB_iff _).2 ⟨hp1, ?_, ?_, ?_⟩, ?_⟩
    · show 0 ≤ Pl.wC es n n ∧ _; simp [Pl.mkR, h1]
    · simp [Pl.mkR, h1, h2]
    · show Pl.hopsB (Pl.wH es n n) = true; rw [h2]; rfl
    · simp [Pl.mkR, h1]
  · obtain ⟨h1, h2⟩ := Pl.wC_pos es hf e hc
    have hne : decide ((n : Int) = (f : Int)) = false := by simp; omega
    refine ⟨(Pl.routeB_iff _).2 ⟨hp1, ?_, ?_, ?_⟩, ?_⟩
    · show 0 ≤ Pl.wC es f n ∧ Pl.wC es f n ≤ 1048576; omega
    · simp only [Pl.mkR, hne]; simpa using h2
    · exact Pl.hopsL_B _ (Nat.le_refl _)
    · simp only [Pl.mkR, hne]
      symm; simp; omega
theorem Pl.tabL_good (es : List Pl.Ent) {f : Nat} (hf : f < 12) : Pl.GoodT (Pl.tabL es f) ∧ ∀ r ∈ Pl.tabL es f, Pl.okR r :=
  Pl.tabK_good (Pl.tab_WP es hf) (fun _ => Pl.rpS_nodup _) (fun _ => (Pl.rpS_good _).1) 12 (Nat.le_refl _)
theorem Pl.tabL_fault (es : List Pl.Ent) {f : Nat} (hf : f < 12) : Pl.tabF (Pl.tabL es f) = 0 := (Pl.goodT_iff _).2 (Pl.tabL_good es hf).1
theorem Pl.tabL_get (es : List Pl.Ent) (f : Nat) (q : Int × Int) : Pl.getR (Pl.tabL es f) q = Pl.getT (Pl.wC es f) (Pl.wH es f) (Pl.tP es) f q 12 :=
  Pl.tabK_get (fun _ => Pl.rpS_nodup _) q 12
end Go.Proofs.YtcdobhdbafpkiadDoor
/-
  Slices of numbers and of routes in memory.
-/
namespace Go.Proofs.YtcdobhdbafpkiadDoor
open Go.RowKit
set_option maxRecDepth 20000

/-- the cells of numbers, one behind the other -/
def IntsAt (w : World) (b off : Nat) (zs : List Int) : Prop := ∀ i, i < zs.length → w.cell? ⟨b, off + i, none⟩ = some (.int .i64 (Pl.nm zs i))
/-- a slice of numbers -/
def IsInts (w : World) (a : Option Addr) (len cap : Nat) (zs : List Int) : Prop :=
  zs.length = len ∧ len ≤ cap ∧ cap ≤ maxLen ∧ (a = none → cap = 0) ∧ (zs = [] ∨ ∃ b off, a = some ⟨b, off, none⟩ ∧ b < w.heap.size ∧ IntsAt w b off zs)
theorem IntsAt.below {w w' : World} {b off : Nat} {zs : List Int} (h : IntsAt w b off zs) (hb : b < w.heap.size) (k : Below w.heap.size w w') : IntsAt w' b off zs :=
  fun i hi => (k.cell (p := ⟨b, _, none⟩) hb).trans (h i hi)
theorem IsInts.below {w w' : World} {a : Option Addr} {len cap : Nat} {zs : List Int} (h : IsInts w a len cap zs) (k : Below w.heap.size w w') : IsInts w' a len cap zs := by
  obtain ⟨h1, h2, h3, h4, h5⟩ := h
  refine ⟨h1, h2, h3, h4, ?_⟩
  rcases h5 with h5 | ⟨b, off, rfl, hb, hr⟩
  · exact .inl h5
  · exact .inr ⟨b, off, rfl, Nat.lt_of_lt_of_le hb k.size, hr.below hb k⟩
theorem IsInts.nil (w : World) : IsInts w none 0 0 [] := ⟨rfl, Nat.le_refl _, by simp, fun _ => rfl, .inl rfl⟩

/-- a route as it lies in memory: its hops are a slice -/
structure Pl.RH where
  p : Int × Int
  here : Bool
  cost : Int
  ha : Option Addr
  hl : Nat
  hc : Nat
def Pl.RH.none : Pl.RH := ⟨(0, 0), false, 0, Option.none, 0, 0⟩
def Pl.rh (hs : List Pl.RH) (i : Nat) : Pl.RH := hs.getD i Pl.RH.none
theorem Pl.rh_eq (hs : List Pl.RH) (i : Nat) (h : i < hs.length) : Pl.rh hs i = hs[i] := by simp [Pl.rh, List.getD, h]
theorem Pl.rh_mem (hs : List Pl.RH) (i : Nat) (h : i < hs.length) : Pl.rh hs i ∈ hs := by rw [Pl.rh_eq hs i h]; exact List.getElem_mem h
theorem Pl.rh_cons_succ (e : Pl.RH) (es : List Pl.RH) (i : Nat) : Pl.rh (e :: es) (i + 1) = Pl.rh es i := by simp [Pl.rh]
theorem Pl.rh_cons_zero (e : Pl.RH) (es : List Pl.RH) : Pl.rh (e :: es) 0 = e := by simp [Pl.rh]

/-- the cells of routes, one behind the other -/
def RowsAt (w : World) (b off : Nat) (hs : List Pl.RH) : Prop := ∀ i, i < hs.length →
  w.cell? ⟨b, off + i * 5, none⟩ = some (.int .i64 (Pl.rh hs i).p.1) ∧ w.cell? ⟨b, off + i * 5 + 1, none⟩ = some (.int .i64 (Pl.rh hs i).p.2) ∧
  w.cell? ⟨b, off + i * 5 + 2, none⟩ = some (.bool (Pl.rh hs i).here) ∧ w.cell? ⟨b, off + i * 5 + 3, none⟩ = some (.int .i64 (Pl.rh hs i).cost) ∧
  w.cell? ⟨b, off + i * 5 + 4, none⟩ = some (.slice (Pl.rh hs i).ha (Pl.rh hs i).hl (Pl.rh hs i).hc)
/-- a slice of routes -/
def IsRows (w : World) (a : Option Addr) (len cap : Nat) (hs : List Pl.RH) : Prop :=
  hs.length = len ∧ len ≤ cap ∧ cap ≤ maxLen ∧ (a = none → cap = 0) ∧ (hs = [] ∨ ∃ b off, a = some ⟨b, off, none⟩ ∧ b < w.heap.size ∧ RowsAt w b off hs)
theorem RowsAt.below {w w' : World} {b off : Nat} {hs : List Pl.RH} (h : RowsAt w b off hs) (hb : b < w.heap.size) (k : Below w.heap.size w w') : RowsAt w' b off hs := by
  intro i hi
  obtain ⟨c0, c1, c2, c3, c4⟩ := h i hi
  exact ⟨(k.cell (p := ⟨b, _, none⟩) hb).trans c0, (k.cell (p := ⟨b, _, none⟩) hb).trans c1, (k.cell (p := ⟨b, _, none⟩) hb).trans c2, (k.cell (p := ⟨b, _, none⟩) hb).trans c3, (k.cell (p := ⟨b, _, none⟩) hb).trans c4⟩
theorem IsRows.below {w w' : World} {a : Option Addr} {len cap : Nat} {hs : List Pl.RH} (h : IsRows w a len cap hs) (k : Below w.heap.size w w') : IsRows w' a len cap hs := by
  obtain ⟨h1, h2, h3, h4, h5⟩ := h
  refine ⟨h1, h2, h3, h4, ?_⟩
  rcases h5 with h5 | ⟨b, off, rfl, hb, hr⟩
  · exact .inl h5
  · exact .inr ⟨b, off, rfl, Nat.lt_of_lt_of_le hb k.size, hr.below hb k⟩
/-- what a route in memory is -/
def Reads (w : World) (h : Pl.RH) (r : Pl.Rt) : Prop := h.p = r.p ∧ h.here = r.here ∧ h.cost = r.cost ∧ IsInts w h.ha h.hl h.hc r.hops ∧ Pl.pairOk r.p
theorem Reads.below {w w' : World} {h : Pl.RH} {r : Pl.Rt} (hh : Reads w h r) (k : Below w.heap.size w w') : Reads w' h r := ⟨hh.1, hh.2.1, hh.2.2.1, hh.2.2.2.1.below k, hh.2.2.2.2⟩
def ReadsAll (w : World) (hs : List Pl.RH) (rs : List Pl.Rt) : Prop := hs.length = rs.length ∧ ∀ i, i < hs.length → Reads w (Pl.rh hs i) (Pl.rt rs i)
theorem ReadsAll.below {w w' : World} {hs : List Pl.RH} {rs : List Pl.Rt} (h : ReadsAll w hs rs) (k : Below w.heap.size w w') : ReadsAll w' hs rs := ⟨h.1, fun i hi => (h.2 i hi).below k⟩
theorem ReadsAll.map_p {w : World} {hs : List Pl.RH} {rs : List Pl.Rt} (h : ReadsAll w hs rs) : hs.map Pl.RH.p = rs.map Pl.Rt.p := by
  refine List.ext_getElem (by simpa using h.1) fun i h1 h2 => ?_
  simp only [List.length_map] at h1 h2
  have := (h.2 i h1).1
  rw [Pl.rh_eq hs i h1, Pl.rt_eq rs i h2] at this
  simpa using this
theorem ReadsAll.nil (w : World) : ReadsAll w [] [] := ⟨rfl, fun i h => by simp at h⟩
theorem IsRows.at {w : World} {a : Option Addr} {len cap : Nat} {hs : List Pl.RH} (h : IsRows w a len cap hs) {k : Nat} (hk : k < len) : ∃ b off, a = some ⟨b, off, none⟩ ∧ b < w.heap.size ∧ RowsAt w b off hs := by
  rcases h.2.2.2.2 with e | h'
  · have := h.1; rw [e] at this; simp at this; omega
  · exact h'
theorem IsInts.at {w : World} {a : Option Addr} {len cap : Nat} {zs : List Int} (h : IsInts w a len cap zs) {k : Nat} (hk : k < len) : ∃ b off, a = some ⟨b, off, none⟩ ∧ b < w.heap.size ∧ IntsAt w b off zs := by
  rcases h.2.2.2.2 with e | h'
  · have := h.1; rw [e] at this; simp at this; omega
  · exact h'
end Go.Proofs.YtcdobhdbafpkiadDoor
/-
  Contracts: a copy of a list of numbers; fresh: the same route with hops of its own.
-/
namespace Go.Proofs.YtcdobhdbafpkiadDoor
open Go.RowKit
set_option maxRecDepth 20000

theorem IsInts.but {B : Nat} {w w' : World} {a : Option Addr} {len cap : Nat} {zs : List Int} (h : IsInts w a len cap zs) (k : But B w w') (hne : ∀ x, a = some x → x.block ≠ B) : IsInts w' a len cap zs := by
  obtain ⟨h1, h2, h3, h4, h5⟩ := h
  refine ⟨h1, h2, h3, h4, ?_⟩
  rcases h5 with h5 | ⟨b, off, rfl, hb, hr⟩
  · exact .inl h5
  · exact .inr ⟨b, off, rfl, Nat.lt_of_lt_of_le hb k.size, fun i hi => (k.cell (p := ⟨b, off + i, none⟩) hb (hne ⟨b, off, none⟩ rfl)).trans (hr i hi)⟩
theorem Reads.but {B : Nat} {w w' : World} {h : Pl.RH} {r : Pl.Rt} (hh : Reads w h r) (k : But B w w') (hne : ∀ x, h.ha = some x → x.block ≠ B) : Reads w' h r := ⟨hh.1, hh.2.1, hh.2.2.1, hh.2.2.2.1.but k hne, hh.2.2.2.2⟩

def cellsZ (xs : List Int) : List Value := xs.map fun x => .int .i64 x
/-- a slice value over a row of numbers of the call's own -/
def OwnZ (w : World) (base : Nat) (v : Value) (xs : List Int) : Prop := w.ownsRow base 3 1 v xs.length (cellsZ xs)
theorem infoZ : (Tryd.prog.info? 3).map (fun i => (i.zero, i.size, i.bytes)) = some (some (.int .i64 0), 1, 8) := by kernel_rfl
theorem OwnZ.nil (w : World) (base : Nat) : OwnZ w base (.slice none 0 0) [] := World.ownsRow_nil _ _ _ _
theorem cellsZ_one (xs : List Int) : ∀ u ∈ cellsZ xs, u.oneCell' = true := by
  intro u hu
  simp [cellsZ] at hu
  obtain ⟨x, _, rfl⟩ := hu
  rfl
theorem cellsZ_get {xs : List Int} {j : Nat} {u : Value} (h : (cellsZ xs)[j]? = some u) : j < xs.length ∧ u = .int .i64 (Pl.nm xs j) := by
  unfold cellsZ at h
  rw [List.getElem?_map] at h
  cases hx : xs[j]? with
  | none => rw [hx] at h; simp at h
  | some x =>
    rw [hx] at h
    simp at h
    obtain ⟨hj, e⟩ := List.getElem?_eq_some_iff.1 hx
    exact ⟨hj, by rw [Pl.nm_eq xs j hj, e, h]⟩
theorem OwnZ.ints {w : World} {base : Nat} {v : Value} {xs : List Int} (h : OwnZ w base v xs) :
    ∃ a cap, v = .slice a xs.length cap ∧ IsInts w a xs.length cap xs ∧ (∀ x, a = some x → base ≤ x.block) := by
  obtain ⟨_, ⟨h, h1⟩ | ⟨g, cap, cur, rfl, hb, hh, hn, hm, hs, hx⟩⟩ := h
  · have e : xs = [] := List.length_eq_zero_iff.1 h1
    subst e
    exact ⟨none, 0, h, IsInts.nil w, by simp⟩
  · refine ⟨_, cap, rfl, ⟨rfl, hn, hm, by simp, .inr ⟨g, 0, rfl, lt_of_block hh, fun i hi => ?_⟩⟩, by rintro x ⟨⟩; exact hb⟩
    have hj : (cellsZ xs)[i]? = some (.int .i64 (Pl.nm xs i)) := by
      simp [cellsZ, Pl.nm, List.getD_eq_getElem?_getD, List.getElem?_eq_getElem hi]
    rw [← hx] at hj
    have hj' : cur[i]? = some (.int .i64 (Pl.nm xs i)) := by
      rw [List.getElem?_take] at hj
      split at hj
      · rw [← Array.getElem?_toList]; exact hj
      · cases hj
    simp [World.cell?, hh, hj']

theorem OwnZ.but {B : Nat} {w w' : World} {base : Nat} {v : Value} {xs : List Int} (h : OwnZ w base v xs) (k : But B w w') (hne : B < base ∨ v.ownBlock ≠ some B) : OwnZ w' base v xs := by
  obtain ⟨h0, h1⟩ := h
  refine ⟨h0, ?_⟩
  rcases h1 with h1 | ⟨g, cap, cur, rfl, hb, hh, hr⟩
  · exact .inl h1
  · refine .inr ⟨g, cap, cur, rfl, hb, (k.block g (lt_of_block hh) ?_).trans hh, hr⟩
    rcases hne with h | h
    · omega
    · intro e; apply h; simp [Value.ownBlock, e]
theorem OwnZ.mono {w : World} {base base' : Nat} {v : Value} {xs : List Int} (h : OwnZ w base v xs) (k : base' ≤ base) : OwnZ w base' v xs := by
  obtain ⟨h0, h1⟩ := h
  refine ⟨h0, ?_⟩
  rcases h1 with h1 | ⟨g, cap, cur, rfl, hb, hr⟩
  · exact .inl h1
  · exact .inr ⟨g, cap, cur, rfl, by omega, hr⟩
theorem OwnZ.below {w w' : World} {base : Nat} {v : Value} {xs : List Int} (h : OwnZ w base v xs) (k : Below w.heap.size w w') : OwnZ w' base v xs := by
  obtain ⟨h0, h1⟩ := h
  refine ⟨h0, ?_⟩
  rcases h1 with h1 | ⟨g, cap, cur, rfl, hb, hh, hr⟩
  · exact .inl h1
  · exact .inr ⟨g, cap, cur, rfl, hb, (k.block g (lt_of_block hh)).trans hh, hr⟩
/-- what a route in memory is, its hops a row of their own from block 'base' on -/
def ReadsZ (w : World) (base : Nat) (h : Pl.RH) (r : Pl.Rt) : Prop := h.p = r.p ∧ h.here = r.here ∧ h.cost = r.cost ∧ OwnZ w base (.slice h.ha h.hl h.hc) r.hops ∧ Pl.pairOk r.p
theorem ReadsZ.reads {w : World} {base : Nat} {h : Pl.RH} {r : Pl.Rt} (hz : ReadsZ w base h r) : Reads w h r ∧ (∀ x, h.ha = some x → base ≤ x.block) := by
  obtain ⟨h1, h2, h3, h4, h5⟩ := hz
  obtain ⟨a, cap, e, hi, hb⟩ := h4.ints
  simp only [Value.slice.injEq] at e
  obtain ⟨e1, e2, e3⟩ := e
  refine ⟨⟨h1, h2, h3, ?_, h5⟩, fun x hx => hb x (by rw [← e1]; exact hx)⟩
  rw [e1, e2, e3]
  exact hi
theorem ReadsZ.below {w w' : World} {base : Nat} {h : Pl.RH} {r : Pl.Rt} (hz : ReadsZ w base h r) (k : Below w.heap.size w w') : ReadsZ w' base h r := ⟨hz.1, hz.2.1, hz.2.2.1, hz.2.2.2.1.below k, hz.2.2.2.2⟩
theorem ReadsZ.mono {w : World} {base base' : Nat} {h : Pl.RH} {r : Pl.Rt} (hz : ReadsZ w base h r) (k : base' ≤ base) : ReadsZ w base' h r := ⟨hz.1, hz.2.1, hz.2.2.1, hz.2.2.2.1.mono k, hz.2.2.2.2⟩

theorem append_copyI {w : World} {ops : Array Oper} {rest : List Oper} {o : Oper} {a : Act} {Q : Exit → Act → World → Prop} (hgd : o.guard = none) (s x : Operand)
    (ho : o.op = .call { callee := .builtin .append, args := #[s, x], argTypes := #[50, 50] })
    (ao : Option Addr) (len cap : Nat) (zs : List Int) (hs : a.eval s = .slice none 0 0) (hx : a.eval x = .slice ao len cap) (hE : IsInts w ao len cap zs) (hb : len * 8 ≤ 140737488351232)
    (h : ∀ v' w', OwnZ w' w.heap.size v' zs → Below w.heap.size w w' → wpList Tryd.prog ops Q rest (a.put o.dst v') w') : wpList Tryd.prog ops Q (o :: rest) a w := by
  obtain ⟨i0, hi0, hz0, hz1, hz2⟩ := info_parts infoZ
  obtain ⟨hl, hc, hm, hnil, hrow⟩ := hE
  rcases ao with _ | ad
  · obtain rfl := hnil rfl
    obtain rfl : len = 0 := by omega
    obtain rfl : zs = [] := List.length_eq_zero_iff.1 hl
    exact wpList_append_own_none hgd s x 50 ho w.heap.size 3 i0 1 Tryd.underlying50 hi0 _ 0 [] hs (World.ownsRow_nil _ _ _ _) hx (h _ _ (OwnZ.nil _ _) (Below.refl _ _))
  · refine wpList_append_own (w := w) hgd s x 50 ho w.heap.size 3 i0 _ 1 8 Tryd.underlying50 hi0 hz0 hz1 hz2 rfl (by decide) _ 0 [] hs (World.ownsRow_nil _ _ _ _) ad len cap (cellsZ zs) hx (by simp [cellsZ, hl]) ?_ (cellsZ_one _) (by unfold maxLen; omega) (by omega) (Nat.le_refl _) ?_
    · intro j u hj
      obtain ⟨hj1, rfl⟩ := cellsZ_get hj
      rcases hrow with rfl | ⟨b, off, hba, _, hr⟩
      · simp at hj1
      · cases hba
        rw [add_none]
        exact hr j hj1
    · intro v' w' hown hg _
      rw [List.nil_append] at hown
      refine h v' w' ?_ ((Below.refl _ _).grown hg (Nat.le_refl _) (by intro k hk; cases hk))
      unfold OwnZ
      rw [hl]
      simpa using hown

theorem heapNewZ (w : World) (o : Obj) : (w.alloc o).heap[w.heap.size]? = some o := by
  show (w.heap.push o)[w.heap.size]? = _
  simp
theorem freshBox {w w3 : World} {c0 c1 c2 c3 c4 d0 d1 d2 d3 d4 : Value} {T : TypeId} (hb : Below ((w.alloc (.cells #[c0, c1, c2, c3, c4] T)).alloc (.cells #[d0, d1, d2, d3, d4] T)).heap.size ((w.alloc (.cells #[c0, c1, c2, c3, c4] T)).alloc (.cells #[d0, d1, d2, d3, d4] T)) w3) :
    (w3.cell? ⟨w.heap.size, 0, none⟩ = some c0 ∧ w3.cell? ⟨w.heap.size, 1, none⟩ = some c1 ∧ w3.cell? ⟨w.heap.size, 2, none⟩ = some c2 ∧ w3.cell? ⟨w.heap.size, 3, none⟩ = some c3 ∧ w3.cell? ⟨w.heap.size, 4, none⟩ = some c4) ∧
    (w3.cell? ⟨w.heap.size + 1, 0, none⟩ = some d0 ∧ w3.cell? ⟨w.heap.size + 1, 1, none⟩ = some d1 ∧ w3.cell? ⟨w.heap.size + 1, 2, none⟩ = some d2 ∧ w3.cell? ⟨w.heap.size + 1, 3, none⟩ = some d3 ∧ w3.cell? ⟨w.heap.size + 1, 4, none⟩ = some d4) ∧
    (∀ o, w3.frozen? ⟨w.heap.size, o, none⟩ = false) ∧ (∀ o, w3.frozen? ⟨w.heap.size + 1, o, none⟩ = false) := by
  have hs : ((w.alloc (.cells #[c0, c1, c2, c3, c4] T)).alloc (.cells #[d0, d1, d2, d3, d4] T)).heap.size = w.heap.size + 2 := by simp
  have hc : ∀ (b o : Nat) (v : Value), b < w.heap.size + 2 → ((w.alloc (.cells #[c0, c1, c2, c3, c4] T)).alloc (.cells #[d0, d1, d2, d3, d4] T)).cell? ⟨b, o, none⟩ = some v → w3.cell? ⟨b, o, none⟩ = some v := fun b o v hlt hv => (hb.cell (p := ⟨b, o, none⟩) (by rw [hs]; exact hlt)).trans hv
  refine ⟨⟨hc _ _ _ (by omega) (by simp), hc _ _ _ (by omega) (by simp), hc _ _ _ (by omega) (by simp), hc _ _ _ (by omega) (by simp), hc _ _ _ (by omega) (by simp)⟩, ⟨hc _ _ _ (by omega) ?_, hc _ _ _ (by omega) ?_, hc _ _ _ (by omega) ?_, hc _ _ _ (by omega) ?_, hc _ _ _ (by omega) ?_⟩, ?_, ?_⟩
  iterate 5
    have e := World.size_alloc w (.cells #[c0, c1, c2, c3, c4] T)
    rw [← e]; simp
  · intro o
    rw [hb.frozen (p := ⟨w.heap.size, o, none⟩) (by rw [hs]; show w.heap.size < _; omega)]
    have e : ((w.alloc (.cells #[c0, c1, c2, c3, c4] T)).alloc (.cells #[d0, d1, d2, d3, d4] T)).heap[w.heap.size]? = some (.cells #[c0, c1, c2, c3, c4] T) := by
      rw [Below.heap_alloc _ _ _ (by simp)]; exact heapNewZ w _
    simp only [World.frozen?, e]
    simp
  · intro o
    rw [hb.frozen (p := ⟨w.heap.size + 1, o, none⟩) (by rw [hs]; show w.heap.size + 1 < _; omega)]
    have e : ((w.alloc (.cells #[c0, c1, c2, c3, c4] T)).alloc (.cells #[d0, d1, d2, d3, d4] T)).heap[w.heap.size + 1]? = some (.cells #[d0, d1, d2, d3, d4] T) := by
      have h := heapNewZ (w.alloc (.cells #[c0, c1, c2, c3, c4] T)) (.cells #[d0, d1, d2, d3, d4] T)
      rwa [World.size_alloc] at h
    simp only [World.frozen?, e]
    simp

end Go.Proofs.YtcdobhdbafpkiadDoor
/-
  Ways in memory, node by node: what each costs, and its hops as a slice of numbers.
-/
namespace Go.Proofs.YtcdobhdbafpkiadDoor
open Go.RowKit
set_option maxRecDepth 20000

theorem Pl.wayL_len (s : Pl.DS) : ∀ k, (Pl.wayL s k).length = k
  | 0 => rfl
  | k + 1 => by simp [Pl.wayL, Pl.wayL_len s k]
theorem Pl.wayL_at (s : Pl.DS) : ∀ k i, i < k → (Pl.wayL s k)[i]? = some (s.cost i, Pl.hopsL (s.hops i) 12)
  | 0, i, h => by omega
  | k + 1, i, h => by
    unfold Pl.wayL
    rcases Nat.lt_or_ge i k with g | g
    · rw [List.getElem?_append_left (by rw [Pl.wayL_len]; exact g)]; exact Pl.wayL_at s k i g
    · obtain rfl : i = k := by omega
      rw [List.getElem?_append_right (by rw [Pl.wayL_len]; exact Nat.le_refl _), Pl.wayL_len]
      simp
/-- the ways from a node in their block -/
def WAt (w : World) (es : List Pl.Ent) (f g : Nat) : Prop := g < w.heap.size ∧ ∀ i, i < 12 → w.cell? ⟨g, i * 2, none⟩ = some (.int .i64 (Pl.wC es f i)) ∧
  ∃ ah ch, w.cell? ⟨g, i * 2 + 1, none⟩ = some (.slice ah (Pl.wH es f i).length ch) ∧ IsInts w ah (Pl.wH es f i).length ch (Pl.wH es f i)
theorem WAt.below {w w' : World} {es f g} (h : WAt w es f g) (k : Below w.heap.size w w') : WAt w' es f g := by
  refine ⟨Nat.lt_of_lt_of_le h.1 k.size, fun i hi => ?_⟩
  obtain ⟨h1, ah, ch, h2, h3⟩ := h.2 i hi
  exact ⟨(k.cell (p := ⟨g, _, none⟩) h.1).trans h1, ah, ch, (k.cell (p := ⟨g, _, none⟩) h.1).trans h2, h3.below k⟩
theorem OwnW.at12 {w : World} {base : Nat} {v : Value} {ts : List (Int × Value × List Int)} {es : List Pl.Ent} {f : Nat} (h : OwnW w base v ts) (e : Pl.flat ts = Pl.wayA es (f : Int)) (hc : Pl.wayC es (f : Int) = 0) :
    ∃ g cap, v = .slice (some ⟨g, 0, none⟩) 12 cap ∧ 12 ≤ cap ∧ cap ≤ maxLen ∧ WAt w es f g := by
  have e2 : Pl.wayA es (f : Int) = Pl.wayL (Pl.dIter (Pl.lnk (Pl.tS es)) (Pl.tD es) f 12) 12 := by
    unfold Pl.wayA; rw [if_pos hc, Int.toNat_natCast]
  rw [e2] at e
  have hl : ts.length = 12 := by
    have := congrArg List.length e
    rw [Pl.wayL_len] at this
    simpa [Pl.flat] using this
  obtain ⟨a, cap, rfl, hc1, hm, hr⟩ := h.cells
  rcases hr with rfl | ⟨g, rfl, hg, hr⟩
  · simp at hl
  · rw [hl] at hc1 ⊢
    refine ⟨g, cap, rfl, hc1, hm, hg, fun i hi => ?_⟩
    have hi' : i < ts.length := by omega
    obtain ⟨r1, r2⟩ := hr i hi'
    have q : (Pl.flat ts)[i]? = some (Pl.wC es f i, Pl.wH es f i) := by rw [e]; exact Pl.wayL_at _ 12 i hi
    simp only [Pl.flat, List.getElem?_map, List.getElem?_eq_getElem hi', Option.map_some, Option.some.injEq, Prod.mk.injEq] at q
    have ho : OwnZ w 0 ts[i].2.1 ts[i].2.2 := h.2 _ (List.getElem_mem hi')
    obtain ⟨ah, ch, ev, hi2, _⟩ := ho.ints
    refine ⟨by rw [r1, q.1], ah, ch, ?_, ?_⟩
    · rw [r2, ev, q.2]
    · rw [q.2] at hi2; exact hi2
theorem Pl.wayC_ok {es : List Pl.Ent} {f : Nat} (hf : Pl.fault es = 0) (h : f < 12) : Pl.wayC es (f : Int) = 0 := by
  unfold Pl.wayC; rw [if_neg (by simp [hf]), if_pos (by omega)]
theorem Pl.ovH_len (o : Nat → Int) : ∀ k, (Pl.ovH o k).length ≤ k
  | 0 => Nat.le_refl _
  | k + 1 => by
    have := Pl.ovH_len o k
    unfold Pl.ovH
    split
    · omega
    · split
      · simp
      · split
        · simp; omega
        · omega
theorem Pl.ov_skip (o : Nat → Int) (k : Nat) (h : o k < 0) : Pl.ovB o (k + 1) = Pl.ovB o k ∧ Pl.ovH o (k + 1) = Pl.ovH o k := by
  constructor
  · show (if _ then _ else _) = _; rw [if_pos h]
  · show (if _ then _ else _) = _; rw [if_pos h]
theorem Pl.ov_new (o : Nat → Int) (k : Nat) (h : 0 ≤ o k) (g : Pl.ovB o k < 0 ∨ o k < Pl.ovB o k) : Pl.ovB o (k + 1) = o k ∧ Pl.ovH o (k + 1) = [(k : Int)] := by
  constructor
  · show (if _ then _ else _) = _; rw [if_neg (by omega), if_pos g]
  · show (if _ then _ else _) = _; rw [if_neg (by omega), if_pos g]
theorem Pl.ov_same (o : Nat → Int) (k : Nat) (h : 0 ≤ o k) (g : ¬ (Pl.ovB o k < 0 ∨ o k < Pl.ovB o k)) (e : o k = Pl.ovB o k) : Pl.ovB o (k + 1) = Pl.ovB o k ∧ Pl.ovH o (k + 1) = Pl.ovH o k ++ [(k : Int)] := by
  constructor
  · show (if _ then _ else _) = _; rw [if_neg (by omega), if_neg g]
  · show (if _ then _ else _) = _; rw [if_neg (by omega), if_neg g, if_pos e]
theorem Pl.ov_more (o : Nat → Int) (k : Nat) (h : 0 ≤ o k) (g : ¬ (Pl.ovB o k < 0 ∨ o k < Pl.ovB o k)) (e : ¬ o k = Pl.ovB o k) : Pl.ovB o (k + 1) = Pl.ovB o k ∧ Pl.ovH o (k + 1) = Pl.ovH o k := by
  constructor
  · show (if _ then _ else _) = _; rw [if_neg (by omega), if_neg g]
  · show (if _ then _ else _) = _; rw [if_neg (by omega), if_neg g, if_neg e]
end Go.Proofs.YtcdobhdbafpkiadDoor
/-
  Plain: where all links cost as much, a way back costs as much; no program in sight.
-/
namespace Go.Proofs.YtcdobhdbafpkiadDoor
open Go.RowKit
set_option maxRecDepth 20000

/-- a way there is a way back, or there is a cheaper one -/
theorem Pl.way_back {L : Nat → Nat → Int} {D : Nat → Bool} (hS : ∀ a b, L a b = L b a) (hL : ∀ a, L a a = 0) {f k v : Nat} {c : Int} (hf : f < 12) (h : Pl.Way L D f k v c) : ∃ k' c', Pl.Way L D v k' f c' ∧ c' ≤ c := by
  induction h with
  | base h1 h2 h3 =>
    refine ⟨f, _, Pl.Way.base hf (Ne.symm h2) (by rw [hS]; exact h3), ?_⟩
    rw [hS]; exact Int.le_refl _
  | @step a b c h1 h2 h3 h4 h5 ih =>
    obtain ⟨k', c', hw, hc⟩ := ih
    have hab : a ≠ b := by rintro rfl; rw [hL] at h5; omega
    rcases Pl.way_join (a := b) h1.lt hab h2 (by rw [hS]; exact h5) hw with e | ⟨k2, c2, hw2, hc2⟩
    · exact absurd e.symm h4
    · refine ⟨k2, c2, hw2, ?_⟩
      rw [hS b a] at hc2
      rcases hc2 with ⟨_, h⟩ | h <;> omega
theorem Pl.wC_back (es : List Pl.Ent) (hS : ∀ a b, Pl.lnkX (Pl.tS es) a b = Pl.lnkX (Pl.tS es) b a) {f v : Nat} (hf : f < 12) (hv : v < 12) : Pl.wC es f v = Pl.wC es v f := by
  by_cases e : v = f
  · subst e; rfl
  · have hL : ∀ a, Pl.lnkX (Pl.tS es) a a = 0 := fun a => by unfold Pl.lnkX; rw [if_pos rfl]
    have key : ∀ a b, a < 12 → b < 12 → b ≠ a → 0 ≤ Pl.wC es a b → 0 ≤ Pl.wC es b a ∧ Pl.wC es b a ≤ Pl.wC es a b := by
      intro a b ha hb hab h0
      rcases Pl.wC_min es ha hab with ⟨h, _⟩ | ⟨_, ⟨k, hk⟩, _⟩
      · omega
      · obtain ⟨k', c', hw, hc⟩ := Pl.way_back hS hL ha hk
        rcases Pl.wC_min es hb (Ne.symm hab) with ⟨_, h⟩ | ⟨g0, _, g2⟩
        · exact absurd ⟨k', hw⟩ (h c')
        · have := g2 c' ⟨k', hw⟩
          exact ⟨g0, by omega⟩
    have b1 := Pl.wC_bound es f v
    have b2 := Pl.wC_bound es v f
    by_cases h1 : 0 ≤ Pl.wC es f v
    · have := key f v hf hv e h1
      have := key v f hv hf (Ne.symm e) this.1
      omega
    · by_cases h2 : 0 ≤ Pl.wC es v f
      · have := key v f hv hf (Ne.symm e) h2; omega
      · omega

/-- sides that all cost as much -/
def Pl.one (c : Int) (ps : List (Int × Int)) : List (Int × Int) := ps.map fun p => (p.1, c)
theorem Pl.one_len (c : Int) (ps : List (Int × Int)) : (Pl.one c ps).length = ps.length := by simp [Pl.one]
theorem Pl.pr_one (c : Int) (ps : List (Int × Int)) (j : Nat) (h : j < ps.length) : Pl.pr (Pl.one c ps) j = ((Pl.pr ps j).1, c) := by
  rw [Pl.pr_eq _ _ (by rw [Pl.one_len]; exact h), Pl.pr_eq ps j h]; simp [Pl.one]
theorem Pl.adjN_one {c : Int} (hc : 1 ≤ c ∧ c ≤ 50) (ps : List (Int × Int)) : ∀ n i, i + n = ps.length → Pl.adjN ps n i = 0 → Pl.adjN (Pl.one c ps) n i = 0
  | 0, _, _, _ => rfl
  | n + 1, i, h, h0 => by
    rw [Pl.adjN] at h0 ⊢
    by_cases g1 : Pl.sideB (Pl.pr ps i).1 (Pl.pr ps i).2 = true
    · rw [if_pos g1] at h0
      have g1' : Pl.sideB (Pl.pr (Pl.one c ps) i).1 (Pl.pr (Pl.one c ps) i).2 = true := by
        rw [Pl.pr_one c ps i (by omega)]
        unfold Pl.sideB at g1 ⊢
        simp at g1 ⊢
        omega
      rw [if_pos g1']
      by_cases g2 : 0 < i ∧ (Pl.pr ps i).1 ≤ (Pl.pr ps (i - 1)).1
      · rw [if_pos g2] at h0; cases h0
      · rw [if_neg g2] at h0
        rw [if_neg (by rw [Pl.pr_one c ps i (by omega)]; rintro ⟨a, b⟩; rw [Pl.pr_one c ps (i - 1) (by omega)] at b; exact g2 ⟨a, b⟩)]
        exact Pl.adjN_one hc ps n (i + 1) (by omega) h0
    · rw [if_neg g1] at h0; cases h0
theorem Pl.adjF_one {c : Int} (hc : 1 ≤ c ∧ c ≤ 50) {ps : List (Int × Int)} (h : Pl.adjF ps = 0) : Pl.adjF (Pl.one c ps) = 0 := by
  unfold Pl.adjF at h ⊢
  rw [Pl.one_len]
  exact Pl.adjN_one hc ps ps.length 0 (by omega) h
theorem Pl.sayN_one {c : Int} (hc : 1 ≤ c) {ps : List (Int × Int)} (h : Pl.sidesOk ps) (b : Nat) : ∀ k, k ≤ ps.length → Pl.sayN (Pl.one c ps) k b = if Pl.sayN ps k b = 0 then 0 else c
  | 0, _ => by simp [Pl.sayN]
  | k + 1, hk => by
    have ih := Pl.sayN_one hc h b k (by omega)
    unfold Pl.sayN
    rw [Pl.pr_one c ps k (by omega)]
    have hp := h.at k (by omega)
    by_cases e : b = (Pl.pr ps k).1.toNat
    · rw [e, Pl.upd_same, Pl.upd_same, if_neg (by omega)]
    · rw [Pl.upd_ne _ _ e, Pl.upd_ne _ _ e]; exact ih
theorem Pl.say_one {c : Int} (hc : 1 ≤ c) {ps : List (Int × Int)} (h : Pl.sidesOk ps) (b : Nat) : Pl.say (Pl.one c ps) b = if Pl.say ps b = 0 then 0 else c := by
  unfold Pl.say
  rw [Pl.one_len]
  exact Pl.sayN_one hc h b _ (Nat.le_refl _)
theorem Pl.lnk_one {c : Int} (hc : 1 ≤ c) {ps qs : Nat → List (Int × Int)} (h : ∀ i, Pl.sidesOk (ps i)) (hq : ∀ i, qs i = Pl.one c (ps i)) (a b : Nat) : Pl.lnkX qs a b = Pl.lnkX qs b a := by
  have key : ∀ a b, Pl.lnk qs a b = if Pl.say (ps a) b = 0 ∨ Pl.say (ps b) a = 0 then 0 else c := by
    intro a b
    unfold Pl.lnk
    rw [hq a, hq b, Pl.say_one hc (h b), Pl.say_one hc (h a)]
    by_cases g1 : Pl.say (ps b) a = 0
    · rw [if_pos g1, if_neg (by omega), if_pos (.inr g1)]
    · rw [if_neg g1, if_pos (by omega)]
      by_cases g2 : Pl.say (ps a) b = 0
      · rw [if_pos g2, if_pos (.inl g2)]
      · rw [if_neg g2, if_neg (by omega)]
  unfold Pl.lnkX
  by_cases e : a = b
  · subst e; rfl
  · rw [if_neg e, if_neg (Ne.symm e), key, key]
    by_cases g : Pl.say (ps a) b = 0 ∨ Pl.say (ps b) a = 0
    · rw [if_pos g, if_pos g.symm]
    · rw [if_neg g, if_neg (fun h => g h.symm)]

/-- an entry that tells links, told anew -/
def Pl.oneE (c : Int) (e : Pl.Ent) : Pl.Ent := if e.key.data.toList.head? = some 97 ∧ Pl.adjC e.val.data.toList = 0 then ⟨e.key, e.ver, e.org, Pl.adjText (Pl.adjD e.val.data.toList) (Pl.one c (Pl.adjS e.val.data.toList))⟩ else e
theorem Pl.oneE_key (c : Int) (e : Pl.Ent) : (Pl.oneE c e).key = e.key := by unfold Pl.oneE; split <;> rfl
theorem Pl.adjS_ok {l : List UInt8} (h : Pl.adjC l = 0) : Pl.adjF (Pl.adjS l) = 0 := by
  unfold Pl.adjS
  rw [if_pos h]
  unfold Pl.adjC at h
  cases hs : Pl.sidesL l with
  | none => rw [hs] at h; cases h
  | some ps => rw [hs] at h; exact h
theorem Pl.dec2 {n : Int} (h0 : 0 ≤ n) (h1 : n < 100) : (Pl.dec n).data.toList.length ≤ 2 := by
  obtain ⟨m, rfl⟩ : ∃ m : Nat, n = m := ⟨n.toNat, by omega⟩
  have hm : m < 100 := by omega
  rw [Pl.dec_list]
  have : (List.range 100).all (fun m => decide ((Lib.decDigits m).length ≤ 2)) = true := by decide +kernel
  exact of_decide_eq_true (List.all_eq_true.1 this m (List.mem_range.2 hm))
theorem Pl.text_short {c : Int} (hc : 1 ≤ c ∧ c ≤ 50) {ps : List (Int × Int)} (h : Pl.adjF ps = 0) (d : Bool) : (Pl.adjText d (Pl.one c ps)).size ≤ 120 := by
  have h1 := Pl.adjF_one hc h
  obtain ⟨hl, _⟩ := Pl.adjF_ok h
  have hup := Pl.adjF_up h
  have hs : (Pl.showT ⟨#[61]⟩ (Pl.one c ps)).size ≤ (Pl.one c ps).length * 6 := by
    have e : (Pl.showT ⟨#[61]⟩ (Pl.one c ps)).size = (Pl.showT ⟨#[61]⟩ (Pl.one c ps)).data.toList.length := by simp
    rw [e, Pl.showT_list]
    refine Nat.le_trans (Pl.join_le 5 _ _ ?_) (by simp)
    intro x hx
    simp only [List.mem_map] at hx
    obtain ⟨y, ⟨p, hp, rfl⟩, rfl⟩ := hx
    unfold Pl.one at hp
    obtain ⟨q, hq, rfl⟩ := List.mem_map.1 hp
    obtain ⟨i, hi, rfl⟩ := List.getElem_of_mem hq
    have hb := (hup i hi).1
    rw [Pl.pr_eq ps i hi] at hb
    have e1 := Pl.dec2 (n := ps[i].1) (by omega) (by omega)
    have e2 := Pl.dec2 (n := c) (by omega) (by omega)
    unfold Pl.sideT
    simp only [ByteArray.data_append, Array.toList_append, List.length_append]
    show _ + 1 + _ ≤ 5
    omega
  rw [Pl.one_len] at hs
  unfold Pl.adjText
  rw [if_pos h1]
  split
  · rw [ByteArray.size_append]
    have : (⟨#[33]⟩ : ByteArray).size = 1 := rfl
    omega
  · omega
theorem Pl.oneE_may {c : Int} (hc : 1 ≤ c ∧ c ≤ 50) {e : Pl.Ent} (h : e.may = true) : (Pl.oneE c e).may = true := by
  unfold Pl.oneE
  split
  · rename_i g
    unfold Pl.Ent.may Pl.entB at h ⊢
    simp only [Bool.and_eq_true, decide_eq_true_eq] at h ⊢
    exact ⟨h.1, Pl.text_short hc (Pl.adjS_ok g.2) _⟩
  · exact h
theorem Pl.one_good {c : Int} (hc : 1 ≤ c ∧ c ≤ 50) {es : List Pl.Ent} (h : Pl.Good es) : Pl.Good (es.map (Pl.oneE c)) := by
  obtain ⟨h1, h2, h3⟩ := h
  refine ⟨by simpa using h1, fun e he => ?_, ?_⟩
  · obtain ⟨x, hx, rfl⟩ := List.mem_map.1 he
    exact Pl.oneE_may hc (h2 x hx)
  · unfold Pl.Srt at h3 ⊢
    rw [List.pairwise_map]
    exact h3.imp fun g => by rw [Pl.oneE_key, Pl.oneE_key]; exact g
theorem Pl.look_one (c : Int) (k : ByteArray) : ∀ es : List Pl.Ent, Pl.look (es.map (Pl.oneE c)) k = (Pl.look es k).map (Pl.oneE c)
  | [] => rfl
  | e :: r => by
    rw [List.map_cons]
    unfold Pl.look
    rw [Pl.oneE_key]
    split
    · rfl
    · exact Pl.look_one c k r
theorem Pl.gotE_look {es : List Pl.Ent} (h : Pl.Good es) (k : ByteArray) : Pl.gotE es k = (Pl.look es k).getD Pl.Ent.none := by
  unfold Pl.gotE
  rw [if_pos ((Pl.good_iff es).2 h)]
  rcases Pl.there_look k h.2.2 with ⟨t1, t2⟩ | ⟨t1, t2⟩
  · rw [t1, t2]; rfl
  · rw [t1, t2]; rfl
theorem Pl.told_one {c : Int} (hc : 1 ≤ c ∧ c ≤ 50) {es : List Pl.Ent} (h : Pl.Good es) (n : Nat) : Pl.tS (es.map (Pl.oneE c)) n = Pl.one c (Pl.tS es n) := by
  unfold Pl.tS Pl.toldV
  rw [Pl.gotE_look (Pl.one_good hc h), Pl.gotE_look h, Pl.look_one]
  cases hl : Pl.look es (Pl.adjKey (n : Int)) with
  | none =>
    show Pl.adjS (⟨#[]⟩ : ByteArray).data.toList = Pl.one c (Pl.adjS (⟨#[]⟩ : ByteArray).data.toList)
    rw [show Pl.adjS (⟨#[]⟩ : ByteArray).data.toList = [] by decide]; rfl
  | some e =>
    obtain ⟨hk, _⟩ := Pl.look_key hl
    show Pl.adjS (Pl.oneE c e).val.data.toList = Pl.one c (Pl.adjS e.val.data.toList)
    unfold Pl.oneE
    by_cases g : Pl.adjC e.val.data.toList = 0
    · rw [if_pos ⟨by rw [hk]; unfold Pl.adjKey; simp [ByteArray.data_append], g⟩]
      exact (Pl.adj_back (Pl.adjF_one hc (Pl.adjS_ok g))).2.2
    · rw [if_neg (fun h => g h.2)]
      unfold Pl.adjS
      rw [if_neg g]; rfl
/-- what the law WaysBoth asks -/
theorem Pl.both_same {c : Int} (hc : 1 ≤ c ∧ c ≤ 50) {es : List Pl.Ent} (h : Pl.Good es) {p q : Nat} (hp : p < 12) (hq : q < 12) : Pl.wC (es.map (Pl.oneE c)) p q = Pl.wC (es.map (Pl.oneE c)) q p :=
  Pl.wC_back _ (fun a b => Pl.lnk_one hc.1 (ps := Pl.tS es) (fun _ => (Pl.adjS_up _).ok) (fun i => Pl.told_one hc h i) a b) hp hq
end Go.Proofs.YtcdobhdbafpkiadDoor
/-
  Rows of one's own, one cell of which is laid anew: an entry's value, a side's cost.
-/
namespace Go.Proofs.YtcdobhdbafpkiadDoor
open Go.RowKit
set_option maxRecDepth 20000

theorem cellsL_setV : ∀ (es : List Pl.Ent) (i : Nat) (h : i < es.length) (t : ByteArray), cellsL (es.set i ⟨es[i].key, es[i].ver, es[i].org, t⟩) = (cellsL es).set (i * 4 + 3) (.string t)
  | [], i, h, _ => by simp at h
  | e :: r, 0, _, t => by simp [cellsL, cellsE]
  | e :: r, i + 1, h, t => by
    have ih := cellsL_setV r i (by simpa using h) t
    rw [show (i + 1) * 4 + 3 = (i * 4 + 3) + 4 by omega]
    simp only [List.set_cons_succ, List.getElem_cons_succ, cellsL, cellsE, List.cons_append, List.nil_append]
    rw [ih]
theorem cellsP_setC : ∀ (ps : List (Int × Int)) (i : Nat) (h : i < ps.length) (c : Int), cellsP (ps.set i (ps[i].1, c)) = (cellsP ps).set (i * 2 + 1) (.int .i64 c)
  | [], i, h, _ => by simp at h
  | p :: r, 0, _, c => by simp [cellsP]
  | p :: r, i + 1, h, c => by
    have ih := cellsP_setC r i (by simpa using h) c
    rw [show (i + 1) * 2 + 1 = (i * 2 + 1) + 2 by omega]
    simp only [List.set_cons_succ, List.getElem_cons_succ, cellsP]
    rw [ih]
theorem set_take {L M : List Value} {o n : Nat} {v : Value} (h : L.take n = M) : (L.set o v).take n = M.set o v := by
  rw [← h, List.take_set]
theorem heap_set {w : World} {g o : Nat} {cur : Array Value} {T : TypeId} {v : Value} (h : w.heap[g]? = some (.cells cur T (0, 0))) : (w.setCell ⟨g, o, none⟩ v).heap[g]? = some (.cells (cur.setIfInBounds o v) T (0, 0)) := by
  simp [World.setCell, Array.getElem?_modify, h]
/-- the row, opened -/
theorem Own.open1 {w : World} {base : Nat} {v : Value} {es : List Pl.Ent} (h : Own w base v es) (hne : 0 < es.length) :
    ∃ g cap cur, v = .slice (some ⟨g, 0, none⟩) es.length cap ∧ base ≤ g ∧ w.heap[g]? = some (.cells cur 64 (0, 0)) ∧ es.length ≤ cap ∧ cap ≤ maxLen ∧ cur.size = cap * 4 ∧ cur.toList.take (es.length * 4) = cellsL es := by
  obtain ⟨_, ⟨h, h1⟩ | ⟨g, cap, cur, rfl, hb, hh, hn, hm, hs, hx⟩⟩ := h
  · omega
  · exact ⟨g, cap, cur, rfl, hb, hh, hn, hm, hs, hx⟩
theorem Own.setV {w : World} {base g cap : Nat} {es : List Pl.Ent} (h : Own w base (.slice (some ⟨g, 0, none⟩) es.length cap) es) (i : Nat) (hi : i < es.length) (t : ByteArray) : Own (w.setCell ⟨g, i * 4 + 3, none⟩ (.string t)) base (.slice (some ⟨g, 0, none⟩) es.length cap) (es.set i ⟨es[i].key, es[i].ver, es[i].org, t⟩) := by
  obtain ⟨g', cap', cur, e, hb, hg, hn, hm, hs, hx⟩ := h.open1 (by omega)
  simp only [Value.slice.injEq, Option.some.injEq, Addr.mk.injEq] at e
  obtain ⟨⟨rfl, _, _⟩, _, rfl⟩ := e
  have hl : (es.set i ⟨es[i].key, es[i].ver, es[i].org, t⟩).length = es.length := List.length_set
  refine ⟨by rw [cellsL_len], .inr ⟨g, cap, cur.setIfInBounds (i * 4 + 3) (.string t), by rw [hl], hb, heap_set hg, by rw [hl]; exact hn, hm, by simpa using hs, ?_⟩⟩
  rw [hl, cellsL_setV es i hi t, Array.toList_setIfInBounds]
  exact set_take hx
theorem OwnP.open1 {T : TypeId} {w : World} {base : Nat} {v : Value} {ps : List (Int × Int)} (h : OwnP T w base v ps) (hne : 0 < ps.length) :
    ∃ g cap cur, v = .slice (some ⟨g, 0, none⟩) ps.length cap ∧ base ≤ g ∧ w.heap[g]? = some (.cells cur T (0, 0)) ∧ ps.length ≤ cap ∧ cap ≤ maxLen ∧ cur.size = cap * 2 ∧ cur.toList.take (ps.length * 2) = cellsP ps := by
  obtain ⟨_, ⟨h, h1⟩ | ⟨g, cap, cur, rfl, hb, hh, hn, hm, hs, hx⟩⟩ := h
  · omega
  · exact ⟨g, cap, cur, rfl, hb, hh, hn, hm, hs, hx⟩
theorem OwnP.setC {T : TypeId} {w : World} {base g cap : Nat} {ps : List (Int × Int)} (h : OwnP T w base (.slice (some ⟨g, 0, none⟩) ps.length cap) ps) (i : Nat) (hi : i < ps.length) (c : Int) : OwnP T (w.setCell ⟨g, i * 2 + 1, none⟩ (.int .i64 c)) base (.slice (some ⟨g, 0, none⟩) ps.length cap) (ps.set i (ps[i].1, c)) := by
  obtain ⟨g', cap', cur, e, hb, hg, hn, hm, hs, hx⟩ := h.open1 (by omega)
  simp only [Value.slice.injEq, Option.some.injEq, Addr.mk.injEq] at e
  obtain ⟨⟨rfl, _, _⟩, _, rfl⟩ := e
  have hl : (ps.set i (ps[i].1, c)).length = ps.length := List.length_set
  refine ⟨by rw [cellsP_len], .inr ⟨g, cap, cur.setIfInBounds (i * 2 + 1) (.int .i64 c), by rw [hl], hb, heap_set hg, by rw [hl]; exact hn, hm, by simpa using hs, ?_⟩⟩
  rw [hl, cellsP_setC ps i hi c, Array.toList_setIfInBounds]
  exact set_take hx
theorem Own.setV' {w : World} {base g cap n : Nat} {es : List Pl.Ent} (h : Own w base (.slice (some ⟨g, 0, none⟩) n cap) es) (hn : es.length = n) (i : Nat) (hi : i < es.length) {e : Pl.Ent} (he : es[i] = e) (t : ByteArray) : Own (w.setCell ⟨g, i * 4 + 3, none⟩ (.string t)) base (.slice (some ⟨g, 0, none⟩) n cap) (es.set i ⟨e.key, e.ver, e.org, t⟩) := by
  subst hn
  subst he
  exact h.setV i hi t
theorem OwnP.setC' {T : TypeId} {w : World} {base g cap n : Nat} {ps : List (Int × Int)} (h : OwnP T w base (.slice (some ⟨g, 0, none⟩) n cap) ps) (hn : ps.length = n) (i : Nat) (hi : i < ps.length) (c : Int) : OwnP T (w.setCell ⟨g, i * 2 + 1, none⟩ (.int .i64 c)) base (.slice (some ⟨g, 0, none⟩) n cap) (ps.set i (ps[i].1, c)) := by
  subst hn
  exact h.setC i hi c
/-- the world while a side's cost is laid anew -/
def BothW (wq : World) (G o : Nat) (c : Int) (listed : Array Bool) (W : World) : Prop := (listed.getD 8 false = false ∧ ∃ n, W = wq.drewN n) ∨ (listed.getD 8 false = true ∧ ∃ n, W = (wq.drewN n).setCell ⟨G, o, none⟩ (.int .i64 c))
theorem BothW.quiet {wq G o c listed W} {i : Nat} (h : BothW wq G o c listed W) (hi : i ≠ 8) : BothW wq G o c (listed.setIfInBounds i true) W := by
  unfold BothW at h ⊢
  rw [getD_set_ne false hi]
  exact h
/-- what a row of entries bears that another block is laid anew -/
theorem Own.other {w w' : World} {base g G cap : Nat} {n : Nat} {es : List Pl.Ent} (h : Own w base (.slice (some ⟨g, 0, none⟩) n cap) es) (k : But G w w') (hne : g ≠ G) : Own w' base (.slice (some ⟨g, 0, none⟩) n cap) es := by
  obtain ⟨h0, h1⟩ := h
  refine ⟨h0, ?_⟩
  rcases h1 with h1 | ⟨g', cap', cur, e, hb, hh, hr⟩
  · exact .inl h1
  · simp only [Value.slice.injEq, Option.some.injEq, Addr.mk.injEq] at e
    obtain ⟨⟨rfl, _, _⟩, rfl, rfl⟩ := e
    exact .inr ⟨g, cap, cur, rfl, hb, (k.block g (blockLt hh) hne).trans hh, hr⟩

/-- the first k entries told anew -/
def Pl.oneK (c : Int) (es : List Pl.Ent) (k : Nat) : List Pl.Ent := (es.take k).map (Pl.oneE c) ++ es.drop k
theorem Pl.oneK_len (c : Int) (es : List Pl.Ent) (k : Nat) : (Pl.oneK c es k).length = es.length := by simp [Pl.oneK]; omega
theorem Pl.oneK_at (c : Int) (es : List Pl.Ent) (k : Nat) (h : k < es.length) : (Pl.oneK c es k)[k]'(by rw [Pl.oneK_len]; exact h) = es[k] := by
  unfold Pl.oneK
  rw [List.getElem_append_right (by simp; omega)]
  simp [show min k es.length = k by omega]
theorem Pl.oneK_next (c : Int) (es : List Pl.Ent) (k : Nat) (h : k < es.length) : Pl.oneK c es (k + 1) = (Pl.oneK c es k).set k (Pl.oneE c es[k]) := by
  unfold Pl.oneK
  have hl : ((es.take k).map (Pl.oneE c)).length = k := by simp; omega
  rw [List.set_append_right _ _ (by omega), hl, Nat.sub_self, List.drop_eq_getElem_cons h, List.set_cons_zero, List.take_succ_eq_append_getElem h, List.map_append]
  simp
theorem Pl.oneK_skip (c : Int) (es : List Pl.Ent) (k : Nat) (h : k < es.length) (e : Pl.oneE c es[k] = es[k]) : Pl.oneK c es (k + 1) = Pl.oneK c es k := by
  rw [Pl.oneK_next c es k h, e]
  conv => lhs; rw [← Pl.oneK_at c es k h]
  exact List.set_getElem_self _
theorem Pl.oneK_all (c : Int) (es : List Pl.Ent) : Pl.oneK c es es.length = es.map (Pl.oneE c) := by simp [Pl.oneK]
/-- the first j sides cost c -/
def Pl.oneS (c : Int) (ps : List (Int × Int)) (j : Nat) : List (Int × Int) := Pl.one c (ps.take j) ++ ps.drop j
theorem Pl.oneS_len (c : Int) (ps : List (Int × Int)) (j : Nat) : (Pl.oneS c ps j).length = ps.length := by simp [Pl.oneS, Pl.one]; omega
theorem Pl.oneS_next (c : Int) (ps : List (Int × Int)) (j : Nat) (h : j < ps.length) : Pl.oneS c ps (j + 1) = (Pl.oneS c ps j).set j (((Pl.oneS c ps j)[j]'(by rw [Pl.oneS_len]; exact h)).1, c) := by
  have e : (Pl.oneS c ps j)[j]'(by rw [Pl.oneS_len]; exact h) = ps[j] := by
    unfold Pl.oneS
    rw [List.getElem_append_right (by simp [Pl.one]; omega)]
    simp [Pl.one, show min j ps.length = j by omega]
  rw [e]
  unfold Pl.oneS
  have hl : (Pl.one c (ps.take j)).length = j := by simp [Pl.one]; omega
  rw [List.set_append_right _ _ (by omega), hl, Nat.sub_self, List.drop_eq_getElem_cons h, List.set_cons_zero, List.take_succ_eq_append_getElem h]
  unfold Pl.one
  rw [List.map_append, List.append_assoc]
  rfl
theorem Pl.oneS_all (c : Int) (ps : List (Int × Int)) : Pl.oneS c ps ps.length = Pl.one c ps := by simp [Pl.oneS]
theorem list8 (xs : List Value) (h : xs.length = 8) : ∃ x0 x1 x2 x3 x4 x5 x6 x7, xs = [x0, x1, x2, x3, x4, x5, x6, x7] := by
  match xs, h with
  | [x0, x1, x2, x3, x4, x5, x6, x7], _ => exact ⟨x0, x1, x2, x3, x4, x5, x6, x7, rfl⟩
end Go.Proofs.YtcdobhdbafpkiadDoor
/-
  Small facts that the opening of parameters needs.
-/
namespace Go.Proofs.YtcdobhdbafpkiadDoor
open Go.ChangeShapes Go.WideShapes Go.ChangeAt Go.RowKit
set_option maxRecDepth 20000

theorem cell_lt {W : World} {x : Addr} {v : Value} (h : W.cell? x = some v) : x.block < W.heap.size := by
  rcases Nat.lt_or_ge x.block W.heap.size with h' | h'
  · exact h'
  · simp [World.cell?, Array.getElem?_eq_none h'] at h

theorem own : ownKnob Tryd.prog.godebug = none := by kernel_rfl
theorem laidOut : laidOutB Tryd.prog = true := by kernel_rfl
end Go.Proofs.YtcdobhdbafpkiadDoor
/-
  What a parameter holds when it is read as data: an entry, a slice of entries.
-/
namespace Go.Proofs.YtcdobhdbafpkiadDoor
open Go.ChangeShapes Go.WideShapes Go.ChangeAt Go.RowKit
set_option maxRecDepth 20000

theorem cellsEntry : Tryd.prog.cellsOf 64 = 4 := by kernel_rfl

theorem entry_of_trod {H : Type} {enc : TypeId × Value → H} {w : World} {base : Nat} {spare : Nat → Bool} {held : Bool} {n : Nat} {cs : List Value} {x : DataW H × List MemPlace}
    (h : DataW.trod enc Tryd.prog w base spare held n 64 cs = some x) : ∃ e : Pl.Ent, cs = [.string e.key, .int .i64 e.ver, .int .i64 e.org, .string e.val] ∧ e.ok := by
  obtain ⟨y0, y1, y2, y3, m, _, hl, h0, h1, h2, h3⟩ := Go.Joins.trod_struct4 Tryd.underlying64 h
  rw [cellsEntry] at hl
  match cs, hl with
  | [c0, c1, c2, c3], _ =>
    have e9 : Tryd.prog.cellsOf 9 = 1 := by kernel_rfl
    have e3 : Tryd.prog.cellsOf 3 = 1 := by kernel_rfl
    simp only [e9, e3] at h0 h1 h2 h3
    obtain ⟨s0, a0, _, b0⟩ := DataW.trod_string Tryd.underlying9 h0
    obtain ⟨s1, a1, _, b1⟩ := DataW.trod_int Tryd.underlying3 h1
    obtain ⟨s2, a2, _, b2⟩ := DataW.trod_int Tryd.underlying3 h2
    obtain ⟨s3, a3, _, b3⟩ := DataW.trod_string Tryd.underlying9 h3
    simp at a0 a1 a2 a3
    subst a0 a1 a2 a3
    exact ⟨⟨s0, s1, s2, s3⟩, rfl, b0, b1, b2, b3⟩

theorem open_ent {H : Type} {enc : TypeId × Value → H} {w : World} {r : Reach} {b0 base : Nat} {spare : Nat → Bool} {held : Bool} {v : Value} {d : DataW H} {p : List MemPlace}
    (hv : Value.okWide Tryd.prog w r b0 64 v) (h : DataW.Trod enc Tryd.prog w base spare held 64 v d p) :
    ∃ e : Pl.Ent, v = .agg #[.string e.key, .int .i64 e.ver, .int .i64 e.org, .string e.val] ∧ e.ok := by
  obtain ⟨fuel, hf⟩ := h
  obtain ⟨cs, rfl, hsz⟩ := okWide_struct Tryd.underlying64 hv
  obtain ⟨e, he, hok⟩ := entry_of_trod hf
  refine ⟨e, ?_, hok⟩
  simp [Value.cells] at he
  rw [← he]

theorem open_ents {H : Type} {enc : TypeId × Value → H} {w : World} {r : Reach} {b0 : Nat} {held : Bool} {v : Value} {d : DataW H} {p : List MemPlace}
    (hv : Value.okWide Tryd.prog w r b0 45 v) (h : DataW.Trod enc Tryd.prog w 0 (fun _ => true) held 45 v d p) :
    ∃ a len cap es, v = .slice a len cap ∧ IsEnts w a len cap es := by
  obtain ⟨a, len, cap, rfl⟩ := okWide_slice Tryd.underlying45 hv
  obtain ⟨fuel, hf⟩ := h
  rcases Go.Deep.open_slice Tryd.underlying45 hf with ⟨hcs, _⟩ | ⟨x, l, c, m, n, D, Q, hcs, _, hl, hm, hmm, _, hx⟩
  · simp [Value.cells] at hcs
    obtain ⟨rfl, rfl, rfl⟩ := hcs
    exact ⟨_, _, _, [], rfl, rfl, Nat.le_refl _, by simp, by simp, .inl rfl⟩
  · simp [Value.cells] at hcs
    obtain ⟨rfl, rfl, rfl⟩ := hcs
    simp only [if_true] at hmm
    subst hmm
    rw [cellsEntry] at hx
    have hx' : ∀ i, i < len → ∃ e : Pl.Ent, w.cells? 0 (x.add (i * 4)) 4 = some [.string e.key, .int .i64 e.ver, .int .i64 e.org, .string e.val] ∧ e.ok := by
      intro i hi
      obtain ⟨cs', h1, h2⟩ := hx i (by omega)
      obtain ⟨e, rfl, hok⟩ := entry_of_trod h2
      exact ⟨e, h1, hok⟩
    obtain ⟨F, hF⟩ := @Go.Deep.choose_lt Pl.Ent ⟨Pl.Ent.none⟩ len _ hx'
    have hlen : ((List.range len).map F).length = len := by simp
    have hent : ∀ i, i < len → Pl.ent ((List.range len).map F) i = F i := by
      intro i hi
      rw [Pl.ent_eq _ _ (by simpa using hi)]; simp
    refine ⟨_, _, _, (List.range len).map F, rfl, hlen, hl, hm, ?_, ?_⟩
    · intro e he
      simp only [List.mem_map, List.mem_range] at he
      obtain ⟨i, hi, rfl⟩ := he
      exact (hF i hi).2
    · rcases Nat.eq_zero_or_pos len with h0 | hpos
      · subst h0; exact .inl rfl
      · right
        obtain ⟨b, off, spot⟩ := x
        have hc0 := (World.cells?_some (hF 0 hpos).1).2.2 0 (by omega)
        simp only [List.getElem?_cons_zero] at hc0
        have hsp : spot = none := by simpa [Addr.add] using World.cell?_spot hc0
        subst hsp
        refine ⟨b, off, rfl, ?_, ?_⟩
        · have := cell_lt hc0; simpa [Addr.add] using this
        · intro i hi
          rw [hlen] at hi
          rw [hent i hi]
          have hc := (World.cells?_some (hF i hi).1).2.2
          have c0 := hc 0 (by omega)
          have c1 := hc 1 (by omega)
          have c2 := hc 2 (by omega)
          have c3 := hc 3 (by omega)
          simp only [add_none, List.getElem?_cons_zero, List.getElem?_cons_succ, Nat.add_zero] at c0 c1 c2 c3
          exact ⟨c0, c1, c2, c3⟩

theorem open_ents_sized {H : Type} {enc : TypeId × Value → H} {w : World} {r : Reach} {b0 : Nat} {held : Bool} {v : Value} {d : DataW H} {p : List MemPlace}
    (hv : Value.okWide Tryd.prog w r b0 45 v) (h : DataW.Trod enc Tryd.prog w 0 (fun _ => true) held 45 v d p) :
    ∃ a len cap es, v = .slice a len cap ∧ IsEnts w a len cap es ∧ (a = none → cap = 0) ∧ ((d = .nil ∧ len = 0) ∨ ∃ el sp, d = .slice el sp ∧ el.length = len) := by
  obtain ⟨a, len, cap, es, rfl, hE⟩ := open_ents hv h
  refine ⟨a, len, cap, es, rfl, hE, ?_⟩
  obtain ⟨fuel, hf⟩ := h
  rcases Go.Deep.open_slice Tryd.underlying45 hf with ⟨hcs, hx⟩ | ⟨x, l, c, m, n, D, Q, hcs, _, hl, hm, hmm, hx, _⟩
  · simp [Value.cells] at hcs
    obtain ⟨rfl, rfl, rfl⟩ := hcs
    simp only [Prod.mk.injEq] at hx
    exact ⟨fun _ => rfl, .inl ⟨hx.1, rfl⟩⟩
  · simp [Value.cells] at hcs
    obtain ⟨rfl, rfl, rfl⟩ := hcs
    simp only [Prod.mk.injEq] at hx
    exact ⟨by simp, .inr ⟨_, _, hx.1, by simp⟩⟩
end Go.Proofs.YtcdobhdbafpkiadDoor
/-
  What a parameter holds when it is read as data: a slice of raw things.
-/
namespace Go.Proofs.YtcdobhdbafpkiadDoor
open Go.ChangeShapes Go.WideShapes Go.ChangeAt Go.RowKit
set_option maxRecDepth 20000

theorem cellsRaw : Tryd.prog.cellsOf 29 = 4 := by kernel_rfl
theorem raw_of_trod {H : Type} {enc : TypeId × Value → H} {w : World} {base : Nat} {spare : Nat → Bool} {held : Bool} {n : Nat} {cs : List Value} {x : DataW H × List MemPlace}
    (h : DataW.trod enc Tryd.prog w base spare held n 29 cs = some x) : ∃ k0 k1 k2 k3 : Int, cs = [.int .i64 k0, .int .i64 k1, .int .i64 k2, .int .i64 k3] ∧
      (Lit.int .i64 k0).wf = true ∧ (Lit.int .i64 k1).wf = true ∧ (Lit.int .i64 k2).wf = true ∧ (Lit.int .i64 k3).wf = true := by
  obtain ⟨y0, y1, y2, y3, m, _, hl, h0, h1, h2, h3⟩ := Go.Joins.trod_struct4 Tryd.underlying29 h
  rw [cellsRaw] at hl
  match cs, hl with
  | [c0, c1, c2, c3], _ =>
    have e3 : Tryd.prog.cellsOf 3 = 1 := by kernel_rfl
    simp only [e3] at h0 h1 h2 h3
    obtain ⟨s0, a0, _, b0⟩ := DataW.trod_int Tryd.underlying3 h0
    obtain ⟨s1, a1, _, b1⟩ := DataW.trod_int Tryd.underlying3 h1
    obtain ⟨s2, a2, _, b2⟩ := DataW.trod_int Tryd.underlying3 h2
    obtain ⟨s3, a3, _, b3⟩ := DataW.trod_int Tryd.underlying3 h3
    simp at a0 a1 a2 a3
    subst a0 a1 a2 a3
    exact ⟨s0, s1, s2, s3, rfl, b0, b1, b2, b3⟩

theorem open_raw {H : Type} {enc : TypeId × Value → H} {w : World} {r : Reach} {b0 base : Nat} {spare : Nat → Bool} {held : Bool} {v : Value} {d : DataW H} {p : List MemPlace}
    (hv : Value.okWide Tryd.prog w r b0 29 v) (h : DataW.Trod enc Tryd.prog w base spare held 29 v d p) :
    ∃ k0 k1 k2 k3 : Int, v = .agg #[.int .i64 k0, .int .i64 k1, .int .i64 k2, .int .i64 k3] ∧
      ((Lit.int .i64 k0).wf = true ∧ (Lit.int .i64 k1).wf = true ∧ (Lit.int .i64 k2).wf = true ∧ (Lit.int .i64 k3).wf = true) := by
  obtain ⟨fuel, hf⟩ := h
  obtain ⟨cs, rfl, hsz⟩ := okWide_struct Tryd.underlying29 hv
  obtain ⟨k0, k1, k2, k3, he, hw⟩ := raw_of_trod hf
  refine ⟨k0, k1, k2, k3, ?_, hw⟩
  simp [Value.cells] at he
  rw [← he]

theorem open_raws {H : Type} {enc : TypeId × Value → H} {w : World} {r : Reach} {b0 : Nat} {held : Bool} {v : Value} {d : DataW H} {p : List MemPlace}
    (hv : Value.okWide Tryd.prog w r b0 22 v) (h : DataW.Trod enc Tryd.prog w 0 (fun _ => true) held 22 v d p) :
    ∃ a len cap, v = .slice a len cap ∧ IsRaws w a len cap := by
  obtain ⟨a, len, cap, rfl⟩ := okWide_slice Tryd.underlying22 hv
  obtain ⟨fuel, hf⟩ := h
  rcases Go.Deep.open_slice Tryd.underlying22 hf with ⟨hcs, _⟩ | ⟨x, l, c, m, n, D, Q, hcs, _, hl, hm, hmm, _, hx⟩
  · simp [Value.cells] at hcs
    obtain ⟨rfl, rfl, rfl⟩ := hcs
    exact ⟨_, _, _, rfl, Nat.le_refl _, by simp, .inl rfl⟩
  · simp [Value.cells] at hcs
    obtain ⟨rfl, rfl, rfl⟩ := hcs
    simp only [if_true] at hmm
    subst hmm
    rw [cellsRaw] at hx
    refine ⟨_, _, _, rfl, hl, hm, ?_⟩
    rcases Nat.eq_zero_or_pos len with h0 | hpos
    · exact .inl h0
    · right
      obtain ⟨b, off, spot⟩ := x
      obtain ⟨cs0, g1, g2⟩ := hx 0 (by omega)
      obtain ⟨k0, k1, k2, k3, rfl, _⟩ := raw_of_trod g2
      have hc0 := (World.cells?_some g1).2.2 0 (by omega)
      simp only [List.getElem?_cons_zero] at hc0
      have hsp : spot = none := by simpa [Addr.add] using World.cell?_spot hc0
      subst hsp
      refine ⟨b, off, rfl, ?_, ?_⟩
      · have := cell_lt hc0; simpa [Addr.add] using this
      · intro i hi
        obtain ⟨cs1, f1, f2⟩ := hx i (by omega)
        obtain ⟨k0, k1, k2, k3, rfl, hw⟩ := raw_of_trod f2
        have hc := (World.cells?_some f1).2.2
        have c0 := hc 0 (by omega)
        have c1 := hc 1 (by omega)
        have c2 := hc 2 (by omega)
        have c3 := hc 3 (by omega)
        simp only [add_none, List.getElem?_cons_zero, List.getElem?_cons_succ, Nat.add_zero] at c0 c1 c2 c3
        exact ⟨k0, k1, k2, k3, ⟨c0, c1, c2, c3⟩, hw⟩
end Go.Proofs.YtcdobhdbafpkiadDoor
