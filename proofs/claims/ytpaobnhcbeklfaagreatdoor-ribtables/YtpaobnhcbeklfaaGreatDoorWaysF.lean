/-
  Contract, the document's side: how much the cheapest way costs, its first step fixed or not (reach).
-/
import Derived.Test.YtpaobnhcbeklfaaGreatDoorAll10
namespace Go.Proofs.YtpaobnhcbeklfaaGreatDoor
open Go.RowKit
set_option maxRecDepth 20000

def Pl.gridN (L : Nat → Nat → Int) (k j : Nat) : Nat → Nat → Int := fun x y => if x < k ∨ (x = k ∧ y < j) then L x y else 0
def boolN (D : Nat → Bool) (k : Nat) (o : Nat) : Value := .bool (decide (o < k) && D o)
theorem boolN_set {w : World} {B : Nat} {T : TypeId} {D : Nat → Bool} {k : Nat} (h : CellsAt w B T 12 (boolN D k)) : CellsAt (w.setCell ⟨B, k, none⟩ (.bool (D k))) B T 12 (boolN D (k + 1)) := by
  refine (h.set k _).ext fun o ho => ?_
  unfold Pl.upd boolN
  by_cases e : o = k
  · subst e; rw [if_pos rfl]; simp
  · rw [if_neg e, show decide (o < k + 1) = decide (o < k) from decide_eq_decide.2 (by omega)]
theorem gridN_set {w : World} {B : Nat} {T : TypeId} {L : Nat → Nat → Int} {k j : Nat} (h : GAt w B T (Pl.gridN L k j)) (hj : j < 12) : GAt (w.setCell ⟨B, k * 12 + j, none⟩ (.int .i64 (L k j))) B T (Pl.gridN L k (j + 1)) := by
  refine (h.set k j hj (L k j)).ext fun x y hx hy => ?_
  unfold Pl.upd Pl.gridN
  by_cases h1 : x = k
  · subst h1
    rw [if_pos rfl]
    by_cases h2 : y = j
    · subst h2; rw [if_pos rfl, if_pos (Or.inr ⟨rfl, by omega⟩)]
    · rw [if_neg h2]
      by_cases h3 : y < j
      · rw [if_pos (.inr ⟨rfl, h3⟩), if_pos (.inr ⟨rfl, by omega⟩)]
      · rw [if_neg (by omega), if_neg (by omega)]
  · rw [if_neg h1]
    by_cases h3 : x < k
    · rw [if_pos (.inl h3), if_pos (.inl h3)]
    · rw [if_neg (by omega), if_neg (by omega)]
theorem gridN_next {w : World} {B : Nat} {T : TypeId} {L : Nat → Nat → Int} {k : Nat} (h : GAt w B T (Pl.gridN L k 12)) : GAt w B T (Pl.gridN L (k + 1) 0) := by
  refine h.ext fun x y hx hy => ?_
  unfold Pl.gridN
  by_cases h1 : x < k ∨ x = k ∧ y < 12
  · rw [if_pos h1, if_pos (by omega)]
  · rw [if_neg h1, if_neg (by omega)]

theorem zeroGrid2 : Tryz.zeroCells83 = Array.ofFn (n := 144) fun i => grid (fun _ _ => 0) i.1 := by kernel_rfl
theorem GAt.new2 (w : World) : GAt (w.alloc (.cells Tryz.zeroCells83 83)) w.heap.size 83 (fun _ _ => 0) := by
  refine CellsAt.new w _ _ _ _ (by rw [zeroGrid2]; simp) fun i hi => ?_
  simp only [zeroGrid2, Array.getElem_ofFn]
theorem boolN_new (w : World) (D : Nat → Bool) (cs : Array Value) (e : cs = Array.ofFn (n := 12) fun _ => .bool false) : CellsAt (w.alloc (.cells cs 79)) w.heap.size 79 12 (boolN D 0) := by
  refine CellsAt.new w _ _ _ _ (by rw [e]; simp) fun i hi => ?_
  simp [e, boolN]

theorem run_field_adj (d v : Value) (w : World) : (Instr.field 50 (.agg #[d, v]) 0).run Tryz.prog w = .ok d w := by
  simp [Instr.field, part, isAgg, asAgg, underlying, go_sem, Tryz.underlying50, Tryz.underlying4]
def mint (c : Nat → Int) (o : Nat) : Value := .int .i64 (c o)
theorem mint_set {w : World} {S : Nat} {T : TypeId} {c : Nat → Int} (h : CellsAt w S T 12 (mint c)) (k : Nat) (v : Int) : CellsAt (w.setCell ⟨S, k, none⟩ (.int .i64 v)) S T 12 (mint (Pl.upd c k v)) := by
  refine (h.set k _).ext fun o ho => ?_
  unfold Pl.upd mint
  by_cases e : o = k
  · simp [e]
  · simp [e]
/-- no number of these is greater -/
def Pl.BB (b : Nat → Int) (N : Int) : Prop := ∀ v, -1 ≤ b v ∧ b v ≤ N
theorem Pl.BB.relax {L : Nat → Nat → Int} {D : Nat → Bool} {f i j : Nat} {b : Nat → Int} {N : Int} (hL : ∀ a b, 0 ≤ L a b ∧ L a b ≤ 1000) (h : Pl.BB b N) : Pl.BB (Pl.bRelax L D f i j b) (N + 1000) := by
  intro v
  have h1 := h v
  have h2 := h i
  have h3 := hL i j
  unfold Pl.bRelax
  split
  · omega
  · split
    · unfold Pl.upd
      split
      · omega
      · omega
    · omega
theorem Pl.BB.row {L : Nat → Nat → Int} {D : Nat → Bool} {f i : Nat} {b : Nat → Int} {N : Int} (hL : ∀ a b, 0 ≤ L a b ∧ L a b ≤ 1000) (h : Pl.BB b N) (j : Nat) : Pl.BB (Pl.bRow L D f i b j) (N + 1000 * j) := by
  induction j with
  | zero => intro v; have := h v; show -1 ≤ b v ∧ b v ≤ _; omega
  | succ j ih => intro v; have := Pl.BB.relax (D := D) (f := f) (i := i) (j := j) hL ih v; show -1 ≤ Pl.bRelax L D f i j _ v ∧ Pl.bRelax L D f i j _ v ≤ _; omega
theorem Pl.BB.round {L : Nat → Nat → Int} {D : Nat → Bool} {f : Nat} {b : Nat → Int} {N : Int} (hL : ∀ a b, 0 ≤ L a b ∧ L a b ≤ 1000) (h : Pl.BB b N) (i : Nat) : Pl.BB (Pl.bRound L D f b i) (N + 12000 * i) := by
  induction i with
  | zero => intro v; have := h v; show -1 ≤ b v ∧ b v ≤ _; omega
  | succ i ih => intro v; have := Pl.BB.row (D := D) (f := f) (i := i) hL ih 12 v; show -1 ≤ Pl.bRow L D f i _ 12 v ∧ Pl.bRow L D f i _ 12 v ≤ _; omega
theorem Pl.BB.best {L : Nat → Nat → Int} {D : Nat → Bool} {f : Nat} (first : Int) (hL : ∀ a b, 0 ≤ L a b ∧ L a b ≤ 1000) (r : Nat) : Pl.BB (Pl.bBest L D f first r) (1000 + 144000 * r) := by
  induction r with
  | zero =>
    intro v
    show -1 ≤ Pl.bInit L f first v ∧ Pl.bInit L f first v ≤ _
    unfold Pl.bInit
    have := hL f v
    split <;> omega
  | succ r ih => intro v; have := Pl.BB.round (D := D) (f := f) hL ih 12 v; show -1 ≤ Pl.bRound L D f _ 12 v ∧ Pl.bRound L D f _ 12 v ≤ _; omega
theorem Pl.lnkD_le {ps : Nat → List (Int × Int)} (h : ∀ i, Pl.sidesOk (ps i)) (a b : Nat) : 0 ≤ Pl.lnkD ps a b ∧ Pl.lnkD ps a b ≤ 1000 := by
  unfold Pl.lnkD Pl.lnk
  have := Pl.say_le (h a) b
  split
  · omega
  · split <;> omega
theorem run_make12 (w : World) : (Instr.makeSlice 32 (.int .i64 12) (.int .i64 12)).run Tryz.prog w = .ok (.slice (some ⟨w.heap.size, 0, none⟩) 12 12) (w.alloc (.cells (madeCells #[.int .i64 0] 12) 3)) := by
  obtain ⟨i0, hi0, hz0, hz1, hz2⟩ := partsOf infoInt
  have := run_make (P := Tryz.prog) w 32 3 i0 (.int .i64 0) Tryz.underlying32 hi0 hz0 .i64 .i64 12 12 (by omega) (by omega) (by rw [hz2]; decide) (by omega)
  rw [hz1] at this
  exact this
theorem made12 (w : World) : CellsAt (w.alloc (.cells (madeCells #[.int .i64 0] 12) 3)) w.heap.size 3 12 (mint fun _ => 0) := by
  refine CellsAt.new w _ _ _ _ (size_madeCells _ _) fun i hi => ?_
  simp [madeCells, mint, Nat.mod_one]

set_option maxHeartbeats 2000000 in
theorem reach_any (a : Option Addr) (len cap : Nat) (es : List Pl.Ent) (f t : Nat) (first : Int) (w : World) (h : IsEnts w a len cap es) (h0 : Pl.fault es = 0) (hf : f < 12) (ht : t < 12) (hfi : -1 ≤ first ∧ first ≤ 11) :
    Calls Tryz.prog 31 #[.slice a len cap, .int .i64 f, .int .i64 t, .int .i64 first] w fun e w' => e = .returned (.int .i64 (Pl.bBest (Pl.lnkD (Pl.tS es)) (Pl.tD es) f first 12 t)) ∧ Below w.heap.size w w' := by
  have HE := hid h
  have H0 := hid h0
  clear h h0
  have HLC := hid (fun x y (hx : x < 12) (hy : y < 12) w' (hb : Below w.heap.size w w') => LinkCost_any a len cap es x y w' (HE.out.below hb) H0.out hx hy)
  obtain ⟨L, HL⟩ : ∃ L, Hid (Pl.lnkD (Pl.tS es) = L) := ⟨_, rfl⟩
  have HAI := hid (fun x (hx : x < 12) w' (hb : Below w.heap.size w w') => adjIn_any a len cap es x w' (HE.out.below hb) H0.out (by omega))
  obtain ⟨D, HD⟩ : ∃ L, Hid (Pl.tD es = L) := ⟨_, rfl⟩
  have HLE : Hid (∀ x y, 0 ≤ L x y ∧ L x y ≤ 1000) := hid (by rw [← HL.out]; exact Pl.lnkD_le fun i => (Pl.adjS_up _).ok)
  rw [HL.out] at HLC ⊢
  rw [HD.out]
  go_enter Tryz.func31, Tryz.ntmps31
  go_wp2_with fail
  go_loopw [11] (fun i wr => ∃ k : Nat, k ≤ 12 ∧ i = .int .i64 k ∧ Hid (GAt wr w.heap.size 83 (Pl.gridN L k 0)) ∧ Hid (CellsAt wr (w.heap.size + 1) 79 12 (boolN D k)) ∧ Hid (Below w.heap.size w wr)) (fun i _ => 12 - (intOf i).toNat)
  case atStart =>
    refine ⟨0, by omega, rfl, hid ?_, hid ?_, ((Below.refl _ _).alloc (Nat.le_refl _) _).alloc (by simp) _⟩
    · exact (GAt.ext (GAt.new2 w) (fun x y _ _ => by unfold Pl.gridN; rw [if_neg (by omega)])).alloc _
    · have := boolN_new (w.alloc (.cells Tryz.zeroCells83 83)) D #[.bool false, .bool false, .bool false, .bool false, .bool false, .bool false, .bool false, .bool false, .bool false, .bool false, .bool false, .bool false] (by kernel_rfl)
      rw [show (w.alloc (.cells Tryz.zeroCells83 83)).heap.size = w.heap.size + 1 by simp] at this
      exact this
  case round =>
    obtain ⟨k, hk, rfl, HG, HC, HB⟩ := hrel
    by_cases hlt : k < 12
    · go_wp2_with fail
      refine (HAI.out k hlt wr HB.out).mono ?_
      rw [show Pl.adjD (Pl.toldV es k).data.toList = D k by rw [← HD.out]; rfl]
      rintro e w1 ⟨vl, rfl, ho1, hb1⟩
      obtain ⟨a1, n1, cap1, rfl⟩ := ho1.slice
      have HG1 := hid (CellsAt.below HG.out hb1)
      have HC1 := hid (CellsAt.below HC.out hb1)
      have HB1 := hid (HB.out.trans (hb1.mono HB.out.size))
      clear ho1 hb1
      have c1 := CellsAt.cell HC1.out k hlt
      have f1 := CellsAt.soft HC1.out k
      have l1 := CellsAt.lt HC1.out
      have l2 := CellsAt.lt HG1.out
      have hfd := fun w => run_field_adj (.bool (D k)) (.slice a1 n1 cap1) w
      go_wp2_with fail
      go_loopw [12] (fun i wr => ∃ j : Nat, j ≤ 12 ∧ i = .int .i64 j ∧ Hid (GAt wr w.heap.size 83 (Pl.gridN L k j)) ∧ Hid (CellsAt wr (w.heap.size + 1) 79 12 (boolN D (k + 1))) ∧ Hid (Below w.heap.size w wr)) (fun i _ => 12 - (intOf i).toNat)
      case atStart =>
        exact ⟨0, by omega, rfl, CellsAt.but HG1.out ((But.refl (w.heap.size + 1) _).setCell _ _) (by omega), boolN_set HC1.out, HB1.out.setCell (Nat.le_succ _) _⟩
      case round =>
        obtain ⟨j, hj, rfl, HG2, HC2, HB2⟩ := hrel
        by_cases hjl : j < 12
        · go_wp2_with fail
          go_region_with (go_at_call 54; refine (HLC.out k j hlt hjl _ HB2.out.drew).mono ?_; rintro e w5 ⟨rfl, hb5⟩; have HG5 := hid (CellsAt.below HG2.out.drew hb5); have HC5 := hid (CellsAt.below (w := wr.drew) HC2.out hb5); have HB5 := hid (HB2.out.drew.trans (hb5.mono HB2.out.drew.size)); have c5 := GAt.cell HG5.out k j hlt hjl; have f5 := CellsAt.soft HG5.out (k * 12 + j); have l5 := CellsAt.lt HG5.out; clear hb5)
          all_goals
            go_wp2_with fail
            go_roundw
            case rel => exact ⟨j + 1, by omega, by go_num, gridN_set HG5.out hjl, CellsAt.but HC5.out ((But.refl w.heap.size _).setCell _ _) (by omega), HB5.out.setCell (Nat.le_refl _) _⟩
            case measure => simp [intOf]; omega
        · obtain rfl : j = 12 := by omega
          go_wp2_with fail
          go_roundw
          case rel => exact ⟨k + 1, by omega, by go_num, gridN_next HG2.out, HC2, HB2⟩
          case measure => simp [intOf]; omega
    · have e12 : k = 12 := by omega
      rw [e12] at HG HC
      have hlt' : ¬ ((k : Int) < 12) := by omega
      clear e12 hk
      have hmk := run_make12 wr
      have HM := hid (made12 wr)
      have HG3 := hid (HG.out.alloc (.cells (madeCells #[.int .i64 0] 12) 3))
      have HC3 := hid (CellsAt.below HC.out ((Below.refl _ _).alloc (Nat.le_refl _) (.cells (madeCells #[.int .i64 0] 12) 3)))
      have HB3 := hid (HB.out.alloc HB.out.size (.cells (madeCells #[.int .i64 0] 12) 3))
      have hSz := HB.out.size
      have hS1 := CellsAt.lt HC.out
      go_wp2_with fail
      clear hmk
      obtain ⟨w3, HW3⟩ : ∃ x, Hid (x = wr.alloc (.cells (madeCells #[.int .i64 0] 12) 3)) := ⟨_, rfl⟩
      rw [← HW3.out] at HM HG3 HC3 HB3 ⊢
      obtain ⟨S, HSS⟩ : ∃ x, Hid (x = wr.heap.size) := ⟨_, rfl⟩
      rw [← HSS.out] at HM hSz hS1 ⊢
      go_loopw [14] (fun i wr => ∃ k : Nat, k ≤ 12 ∧ i = .int .i64 k ∧ Hid (CellsAt wr S 3 12 (mint fun o => if o < k then Pl.bInit L f first o else 0)) ∧ Hid (But S w3 wr)) (fun i _ => 12 - (intOf i).toNat)
      case atStart => exact ⟨0, by omega, rfl, CellsAt.ext HM.out (fun o _ => by simp [mint]), But.refl _ _⟩
      case round =>
        obtain ⟨k, hk, rfl, HM4, HU4⟩ := hrel
        have HG4 := hid (CellsAt.but HG3.out HU4.out (by omega))
        have HC4 := hid (CellsAt.but HC3.out HU4.out (by omega))
        by_cases hlt : k < 12
        · have c1 := CellsAt.cell HM4.out k hlt
          have f1 := CellsAt.soft HM4.out k
          have l1 := CellsAt.lt HM4.out
          have HM5 := hid (mint_set HM4.out k (-1))
          have HG5 := hid (CellsAt.but HG4.out ((But.refl S wr).setCell k (.int .i64 (-1))) (by omega))
          have c2 := GAt.cell HG5.out f k hf hlt
          have l2 := CellsAt.lt HG5.out
          have c3 := CellsAt.cell HM5.out k hlt
          have f3 := CellsAt.soft HM5.out k
          have l3 := CellsAt.lt HM5.out
          rw [show Pl.gridN L 12 0 f k = L f k by unfold Pl.gridN; rw [if_pos (.inl hf)]] at c2
          obtain ⟨x, HX⟩ : ∃ x, Hid (L f k = x) := ⟨_, rfl⟩
          rw [HX.out] at c2
          have HOK : Hid (∀ v, v = Pl.bInit L f first k → ∀ o, mint (Pl.upd (fun o => if o < k then Pl.bInit L f first o else 0) k v) o = mint (fun o => if o < k + 1 then Pl.bInit L f first o else 0) o) := hid (by
            intro v hv o
            unfold mint Pl.upd
            by_cases e : o = k
            · subst e; simp only [if_pos]; rw [if_pos (by omega), hv]
            · rw [if_neg e]
              by_cases e2 : o < k
              · simp only [if_pos e2]; rw [if_pos (by omega)]
              · simp only [if_neg e2]; rw [if_neg (by omega)])
          by_cases hst : k ≠ f ∧ 0 < x ∧ (first < 0 ∨ first = (k : Int))
          · have HBI : Hid (x = Pl.bInit L f first k) := hid (by unfold Pl.bInit; rw [HX.out, if_pos hst])
            have HM6 := hid (mint_set HM5.out k x)
            obtain ⟨h1, h2, h3⟩ := hst
            have h1' : ((k : Int) != (f : Int)) = true := by simp; omega
            rcases (by by_cases g : first < 0
                       · exact .inl g
                       · exact .inr ⟨g, by simp; omega⟩ : first < 0 ∨ (¬ first < 0 ∧ (first == (k : Int)) = true)) with h3' | ⟨h3', h4'⟩
            all_goals
              clear h3
              go_wp2_with fail
              go_roundw
              case rel =>
                refine ⟨k + 1, by omega, by go_num, HM6.out.ext (fun o ho => ?_), (HU4.out.setCell _ _).setCell _ _⟩
                rw [← HOK.out x HBI.out o]
                unfold mint Pl.upd
                by_cases e : o = k
                · simp [e]
                · simp [e]
              case measure => simp [intOf]; omega
          · have HBI : Hid ((-1 : Int) = Pl.bInit L f first k) := hid (by unfold Pl.bInit; rw [HX.out, if_neg hst])
            rcases (by
              by_cases g1 : k = f
              · exact .inl (by rw [g1]; simp)
              · have g1' : ((k : Int) != (f : Int)) = true := by simp; omega
                by_cases g2 : 0 < x
                · by_cases g3 : first < 0
                  · exact absurd ⟨g1, g2, .inl g3⟩ hst
                  · refine .inr (.inr ⟨g1', g2, g3, ?_⟩)
                    simp
                    intro g4
                    exact hst ⟨g1, g2, .inr g4⟩
                · exact .inr (.inl ⟨g1', g2⟩) : ((k : Int) != (f : Int)) = false ∨ (((k : Int) != (f : Int)) = true ∧ ¬ 0 < x) ∨ (((k : Int) != (f : Int)) = true ∧ 0 < x ∧ ¬ first < 0 ∧ (first == (k : Int)) = false)) with h1' | ⟨h1', h2'⟩ | ⟨h1', h2', h3', h4'⟩
            all_goals
              clear hst
              go_wp2_with fail
              go_roundw
              case rel => exact ⟨k + 1, by omega, by go_num, HM5.out.ext (fun o ho => HOK.out (-1) HBI.out o), HU4.out.setCell _ _⟩
              case measure => simp [intOf]; omega
        · have e12 : k = 12 := by omega
          rw [e12] at HM4
          have hlt' : ¬ ((k : Int) < 12) := by omega
          clear e12 hk
          have HM5 : Hid (CellsAt wr S 3 12 (mint (Pl.bBest L D f first 0))) := hid (HM4.out.ext fun o ho => by unfold mint; simp only [if_pos ho]; rfl)
          have HB5 : Hid (Below w.heap.size w wr) := hid (HB3.out.trans (HU4.out.below (by omega) HB3.out.size))
          rename World => w4
          go_wp2_with fail
          go_loopw [15] (fun i wr => ∃ r : Nat, r ≤ 12 ∧ i = .int .i64 r ∧ Hid (CellsAt wr S 3 12 (mint (Pl.bBest L D f first r))) ∧ Hid (But S w4 wr)) (fun i _ => 12 - (intOf i).toNat)
          case atStart => exact ⟨0, by omega, rfl, HM5, But.refl _ _⟩
          case round =>
            obtain ⟨r, hr, rfl, HM6, HU6⟩ := hrel
            by_cases hlr : r < 12
            · have HBB := hid (Pl.BB.best (D := D) (f := f) first HLE.out r)
              obtain ⟨b0, HB0⟩ : ∃ x, Hid (Pl.bBest L D f first r = x) := ⟨_, rfl⟩
              have HNR : Hid (Pl.bBest L D f first (r + 1) = Pl.bRound L D f b0 12) := hid (by rw [← HB0.out]; rfl)
              rw [HB0.out] at HM6 HBB
              have hlr' : decide ((r : Int) < 12) = true := decide_eq_true (by omega)
              go_wp2_with fail
              (try rw [hlr'])
              go_loopw [16] (fun i wr => ∃ i' : Nat, i' ≤ 12 ∧ i = .int .i64 i' ∧ Hid (CellsAt wr S 3 12 (mint (Pl.bRound L D f b0 i'))) ∧ Hid (But S w4 wr)) (fun i _ => 12 - (intOf i).toNat)
              case atStart => exact ⟨0, by omega, rfl, HM6, HU6⟩
              case round =>
                obtain ⟨i, hi, rfl, HM7, HU7⟩ := hrel
                by_cases hil : i < 12
                · have HBC := hid (Pl.BB.round (D := D) (f := f) HLE.out HBB.out i)
                  obtain ⟨b1, HB1⟩ : ∃ x, Hid (Pl.bRound L D f b0 i = x) := ⟨_, rfl⟩
                  have HNI : Hid (Pl.bRound L D f b0 (i + 1) = Pl.bRow L D f i b1 12) := hid (by rw [← HB1.out]; rfl)
                  rw [HB1.out] at HM7 HBC
                  have hil' : decide ((i : Int) < 12) = true := decide_eq_true (by omega)
                  go_wp2_with fail
                  (try rw [hil'])
                  go_loopw [17] (fun i' wr => ∃ j : Nat, j ≤ 12 ∧ i' = .int .i64 j ∧ Hid (CellsAt wr S 3 12 (mint (Pl.bRow L D f i b1 j))) ∧ Hid (But S w4 wr)) (fun i _ => 12 - (intOf i).toNat)
                  case atStart => exact ⟨0, by omega, rfl, HM7, HU7⟩
                  case round =>
                    obtain ⟨j, hj, rfl, HM8, HU8⟩ := hrel
                    by_cases hjl : j < 12
                    · have HBD := hid (Pl.BB.row (D := D) (f := f) (i := i) HLE.out HBC.out j)
                      obtain ⟨b2, HB2⟩ : ∃ x, Hid (Pl.bRow L D f i b1 j = x) := ⟨_, rfl⟩
                      have HNJ : Hid (Pl.bRow L D f i b1 (j + 1) = Pl.bRelax L D f i j b2) := hid (by rw [← HB2.out]; rfl)
                      rw [HB2.out] at HM8 HBD
                      have HG8 := hid (CellsAt.but HG4.out HU8.out (by omega))
                      have HC8 := hid (CellsAt.but HC4.out HU8.out (by omega))
                      have c1 := CellsAt.cell HM8.out i hil
                      have c2 := CellsAt.cell HM8.out j hjl
                      have f2 := CellsAt.soft HM8.out j
                      have c3 := GAt.cell HG8.out i j hil hjl
                      have c4 := CellsAt.cell HC8.out i hil
                      have l1 := CellsAt.lt HM8.out
                      have l2 := CellsAt.lt HG8.out
                      have l3 := CellsAt.lt HC8.out
                      rw [show Pl.gridN L 12 0 i j = L i j by unfold Pl.gridN; rw [if_pos (.inl hil)]] at c3
                      rw [show boolN D 12 i = .bool (D i) by unfold boolN; simp [hil]] at c4
                      obtain ⟨x, HX⟩ : ∃ x, Hid (b2 i = x) := ⟨_, rfl⟩
                      obtain ⟨y, HY⟩ : ∃ x, Hid (b2 j = x) := ⟨_, rfl⟩
                      obtain ⟨l, HLL⟩ : ∃ x, Hid (L i j = x) := ⟨_, rfl⟩
                      obtain ⟨d, HDD⟩ : ∃ x, Hid (D i = x) := ⟨_, rfl⟩
                      rw [show mint b2 i = .int .i64 x by unfold mint; rw [HX.out]] at c1
                      rw [show mint b2 j = .int .i64 y by unfold mint; rw [HY.out]] at c2
                      rw [HLL.out] at c3
                      rw [HDD.out] at c4
                      have hx1 : -1 ≤ x := by rw [← HX.out]; exact (HBD.out i).1
                      have hx2 : x ≤ 3000000 := by have := (HBD.out i).2; rw [HX.out] at this; omega
                      have hl1 : 0 ≤ l := by rw [← HLL.out]; exact (HLE.out i j).1
                      have hl2 : l ≤ 1000 := by rw [← HLL.out]; exact (HLE.out i j).2
                      have HRX : Hid (Pl.bRelax L D f i j b2 = if i = f ∨ j = f ∨ x < 0 ∨ d = true ∨ l = 0 then b2 else if y < 0 ∨ x + l < y then Pl.upd b2 j (x + l) else b2) := hid (by
                        unfold Pl.bRelax; rw [HX.out, HY.out, HLL.out, HDD.out])
                      by_cases hsk : i = f ∨ j = f ∨ x < 0 ∨ d = true ∨ l = 0
                      · have HRS : Hid (Pl.bRow L D f i b1 (j + 1) = b2) := hid (by rw [HNJ.out, HRX.out, if_pos hsk])
                        rcases (by
                          by_cases g1 : i = f
                          · exact .inl (by rw [g1]; simp)
                          · have g1' : ((i : Int) == (f : Int)) = false := by simp; omega
                            by_cases g2 : j = f
                            · exact .inr (.inl ⟨g1', by rw [g2]; simp⟩)
                            · have g2' : ((j : Int) == (f : Int)) = false := by simp; omega
                              by_cases g3 : x < 0
                              · exact .inr (.inr (.inl ⟨g1', g2', g3⟩))
                              · cases d with
                                | true => exact .inr (.inr (.inr (.inl ⟨g1', g2', g3, rfl⟩)))
                                | false =>
                                  refine .inr (.inr (.inr (.inr ⟨g1', g2', g3, rfl, ?_⟩)))
                                  rcases hsk with h | h | h | h | h
                                  · exact absurd h g1
                                  · exact absurd h g2
                                  · exact absurd h g3
                                  · cases h
                                  · simp [h] : ((i : Int) == (f : Int)) = true ∨ (((i : Int) == (f : Int)) = false ∧ ((j : Int) == (f : Int)) = true) ∨ (((i : Int) == (f : Int)) = false ∧ ((j : Int) == (f : Int)) = false ∧ x < 0) ∨ (((i : Int) == (f : Int)) = false ∧ ((j : Int) == (f : Int)) = false ∧ ¬ x < 0 ∧ d = true) ∨ (((i : Int) == (f : Int)) = false ∧ ((j : Int) == (f : Int)) = false ∧ ¬ x < 0 ∧ d = false ∧ (l == 0) = true)) with h1 | ⟨h1, h2⟩ | ⟨h1, h2, h3⟩ | ⟨h1, h2, h3, h4⟩ | ⟨h1, h2, h3, h4, h5⟩
                        all_goals
                          clear hsk
                          go_wp2_with fail
                          go_roundw
                          case rel => exact ⟨j + 1, by omega, by go_num, hid (by rw [HRS.out]; exact HM8.out), HU8⟩
                          case measure => simp [intOf]; omega
                      · have h1 : ((i : Int) == (f : Int)) = false := by simp; omega
                        have h2 : ((j : Int) == (f : Int)) = false := by simp; omega
                        have h3 : ¬ x < 0 := by omega
                        have h4 : d = false := by
                          cases d with
                          | false => rfl
                          | true => exact absurd (.inr (.inr (.inr (.inl rfl)))) hsk
                        have h5 : (l == 0) = false := by
                          have : ¬ l = 0 := fun e => hsk (.inr (.inr (.inr (.inr e))))
                          simp [this]
                        by_cases hst : y < 0 ∨ x + l < y
                        · have HRS : Hid (Pl.bRow L D f i b1 (j + 1) = Pl.upd b2 j (x + l)) := hid (by rw [HNJ.out, HRX.out, if_neg hsk, if_pos hst])
                          rcases (by
                            by_cases g : y < 0
                            · exact .inl g
                            · exact .inr ⟨g, by omega⟩ : y < 0 ∨ (¬ y < 0 ∧ x + l < y)) with h6 | ⟨h6, h7⟩
                          all_goals
                            clear hsk hst
                            go_wp2_with fail
                            go_region
                            go_wp2_with fail
                            go_roundw
                            case rel => exact ⟨j + 1, by omega, by go_num, hid (by rw [HRS.out]; exact mint_set HM8.out j (x + l)), hid (by first | exact (HU8.out.setCell _ _).drew | exact HU8.out.drew.setCell _ _)⟩
                            case measure => simp [intOf]; omega
                        · have HRS : Hid (Pl.bRow L D f i b1 (j + 1) = b2) := hid (by rw [HNJ.out, HRX.out, if_neg hsk, if_neg hst])
                          have h6 : ¬ y < 0 := by omega
                          have h7 : ¬ x + l < y := by omega
                          clear hsk hst
                          go_wp2_with fail
                          go_region
                          go_wp2_with fail
                          go_roundw
                          case rel => exact ⟨j + 1, by omega, by go_num, hid (by rw [HRS.out]; exact HM8.out), hid HU8.out.drew⟩
                          case measure => simp [intOf]; omega
                    · obtain rfl : j = 12 := by omega
                      go_wp2_with fail
                      go_roundw
                      case rel => exact ⟨i + 1, by omega, by go_num, hid (by rw [HNI.out]; exact HM8.out), HU8⟩
                      case measure => simp [intOf]; omega
                · obtain rfl : i = 12 := by omega
                  go_wp2_with fail
                  go_roundw
                  case rel => exact ⟨r + 1, by omega, by go_num, hid (by rw [HNR.out]; exact HM7.out), HU7⟩
                  case measure => simp [intOf]; omega
            · obtain rfl : r = 12 := by omega
              have c1 := CellsAt.cell HM6.out t ht
              have l1 := CellsAt.lt HM6.out
              obtain ⟨x, HX⟩ : ∃ x, Hid (Pl.bBest L D f first 12 t = x) := ⟨_, rfl⟩
              rw [show mint (Pl.bBest L D f first 12) t = .int .i64 x by unfold mint; rw [HX.out]] at c1
              go_wp2_with fail
              go_ret
              exact ⟨ret_int HX.out.symm, HB5.out.trans (HU6.out.below (by omega) HB5.out.size)⟩
end Go.Proofs.YtpaobnhcbeklfaaGreatDoor
