/-
  Contract: what a search has found, as a list of ways.
-/
import Derived.Test.YtcdobhdbafpkiacDoorWaysR
namespace Go.Proofs.YtcdobhdbafpkiacDoor
open Go.RowKit
set_option maxRecDepth 20000

def cellsI (xs : List Int) : List Value := xs.map fun x => .int .i64 x
/-- a slice value over a row of numbers of the call's own -/
def OwnI (w : World) (base : Nat) (v : Value) (xs : List Int) : Prop := w.ownsRow base 3 1 v xs.length (cellsI xs)
theorem OwnI.nil (w : World) (base : Nat) : OwnI w base (.slice none 0 0) [] := World.ownsRow_nil _ _ _ _
theorem OwnI.below {w w' : World} {base : Nat} {v : Value} {xs : List Int} (h : OwnI w base v xs) (k : Below w.heap.size w w') : OwnI w' base v xs := ownsRow_under h k
theorem OwnI.mono {w : World} {base base' : Nat} {v : Value} {xs : List Int} (h : OwnI w base v xs) (k : base' ≤ base) : OwnI w base' v xs := by
  obtain ⟨h0, h1⟩ := h
  refine ⟨h0, ?_⟩
  rcases h1 with h1 | ⟨g, cap, cur, rfl, hb, hr⟩
  · exact .inl h1
  · exact .inr ⟨g, cap, cur, rfl, by omega, hr⟩
theorem OwnI.slice {w : World} {base : Nat} {v : Value} {xs : List Int} (h : OwnI w base v xs) : ∃ a cap, v = .slice a xs.length cap := by
  obtain ⟨_, ⟨h, h1⟩ | ⟨g, cap, cur, rfl, _⟩⟩ := h
  · rw [h1]; exact ⟨_, _, h⟩
  · exact ⟨_, _, rfl⟩
theorem infoInt : (Tryd.prog.info? 3).map (fun i => (i.zero, i.size, i.bytes)) = some (some (.int .i64 0), 1, 8) := by kernel_rfl
theorem append_intT {tS : TypeId} (hS : Tryd.prog.underlying tS = some (.slice 3))
    {w : World} {ops : Array Oper} {rest : List Oper} {o : Oper} {a : Act} {Q : Exit → Act → World → Prop} (hgd : o.guard = none) (s x : Operand)
    (ho : o.op = .call { callee := .builtin .append, args := #[s, x], argTypes := #[tS, tS] })
    (base : Nat) (v : Value) (xs : List Int) (p : Int) (hs : a.eval s = v) (hown : OwnI w base v xs) (hbase : base ≤ w.heap.size) (hx : a.eval x = .slice (some ⟨w.heap.size, 0, none⟩) 1 1) (hb : xs.length ≤ 1000000)
    (h : ∀ v' w', OwnI w' base v' (xs ++ [p]) → Below base w w' → wpList Tryd.prog ops Q rest (a.put o.dst v') w') :
    wpList Tryd.prog ops Q (o :: rest) a (w.alloc (.cells #[.int .i64 p] 3)) := by
  obtain ⟨i0, hi0, hz0, hz1, hz2⟩ := partsOf infoInt
  refine wpList_append_own (w := _) hgd s x tS ho base 3 i0 _ 1 8 hS hi0 hz0 hz1 hz2 rfl (by decide) _ xs.length (cellsI xs) hs (World.ownsRow.alloc hown _) ⟨w.heap.size, 0, none⟩ 1 1 [.int .i64 p] hx rfl ?_ ?_ (by unfold maxLen; omega) (by omega) (by simp; omega) ?_
  · intro j u hj
    rw [add_none]
    match j, hj with
    | 0, hj => simp at hj; subst hj; simp
  · intro u hu; simp at hu; subst hu; rfl
  · intro v' w' hown' hg _
    have hlt := World.ownsRow.lt hown
    refine h v' w' ?_ (((Below.refl _ _).alloc hbase _).grown hg (by simp; omega) (fun k hk => (hlt k hk).1))
    unfold OwnI
    simpa [cellsI] using hown'

/-- ways as they lie in memory: a cost, the value of the hops, and what they are -/
def cellsW : List (Int × Value × List Int) → List Value
  | [] => []
  | t :: r => .int .i64 t.1 :: t.2.1 :: cellsW r
theorem cellsW_append : ∀ a b : List (Int × Value × List Int), cellsW (a ++ b) = cellsW a ++ cellsW b
  | [], _ => rfl
  | t :: r, b => by simp [cellsW, cellsW_append r b]
def OwnW (w : World) (base : Nat) (v : Value) (ts : List (Int × Value × List Int)) : Prop :=
  w.ownsRow base 57 2 v ts.length (cellsW ts) ∧ ∀ t ∈ ts, OwnI w 0 t.2.1 t.2.2
theorem OwnW.nil (w : World) (base : Nat) : OwnW w base (.slice none 0 0) [] := ⟨World.ownsRow_nil _ _ _ _, by simp⟩
theorem OwnW.below {w w' : World} {base : Nat} {v : Value} {ts : List (Int × Value × List Int)} (h : OwnW w base v ts) (k : Below w.heap.size w w') : OwnW w' base v ts :=
  ⟨ownsRow_under h.1 k, fun t ht => (h.2 t ht).below k⟩
theorem OwnW.slice {w : World} {base : Nat} {v : Value} {ts : List (Int × Value × List Int)} (h : OwnW w base v ts) : ∃ a cap, v = .slice a ts.length cap := by
  obtain ⟨⟨_, ⟨h, h1⟩ | ⟨g, cap, cur, rfl, _⟩⟩, _⟩ := h
  · rw [h1]; exact ⟨_, _, h⟩
  · exact ⟨_, _, rfl⟩
theorem infoWay : (Tryd.prog.info? 57).map (fun i => (i.zero, i.size, i.bytes)) = some (some (.agg #[.int .i64 0, .slice none 0 0]), 2, 32) := by kernel_rfl
theorem append_wayT
    {w : World} {ops : Array Oper} {rest : List Oper} {o : Oper} {a : Act} {Q : Exit → Act → World → Prop} (hgd : o.guard = none) (s x : Operand)
    (ho : o.op = .call { callee := .builtin .append, args := #[s, x], argTypes := #[28, 28] })
    (base : Nat) (v : Value) (ts : List (Int × Value × List Int)) (c : Int) (hv : Value) (xs : List Int) (hs : a.eval s = v) (hown : OwnW w base v ts) (hh : OwnI w 0 hv xs) (hbase : base ≤ w.heap.size) (hx : a.eval x = .slice (some ⟨w.heap.size, 0, none⟩) 1 1) (hb : ts.length ≤ 1000000)
    (h : ∀ v' w', OwnW w' base v' (ts ++ [(c, hv, xs)]) → Below base w w' → wpList Tryd.prog ops Q rest (a.put o.dst v') w') :
    wpList Tryd.prog ops Q (o :: rest) a (w.alloc (.cells #[.int .i64 c, hv] 57)) := by
  obtain ⟨i0, hi0, hz0, hz1, hz2⟩ := partsOf infoWay
  obtain ⟨ah, caph, rfl⟩ := hh.slice
  refine wpList_append_own (w := _) hgd s x 28 ho base 57 i0 _ 2 32 Tryd.underlying28 hi0 hz0 hz1 hz2 rfl (by decide) _ ts.length (cellsW ts) hs (World.ownsRow.alloc hown.1 _) ⟨w.heap.size, 0, none⟩ 1 1 [.int .i64 c, .slice ah xs.length caph] hx rfl ?_ ?_ (by unfold maxLen; omega) (by omega) (by simp; omega) ?_
  · intro j u hj
    rw [add_none]
    match j, hj with
    | 0, hj => simp at hj; subst hj; simp
    | 1, hj => simp at hj; subst hj; simp
  · intro u hu; simp at hu; rcases hu with rfl | rfl <;> rfl
  · intro v' w' hown' hg _
    have hlt := World.ownsRow.lt hown.1
    refine h v' w' ⟨?_, ?_⟩ (((Below.refl _ _).alloc hbase _).grown hg (by simp; omega) (fun k hk => (hlt k hk).1))
    · rw [cellsW_append]
      simpa [cellsW] using hown'
    · have key : ∀ hv' xs', OwnI w 0 hv' xs' → OwnI w' 0 hv' xs' := by
        intro hv' xs' ⟨q0, q1⟩
        refine ⟨q0, ?_⟩
        rcases q1 with q1 | ⟨g, cap, cur, rfl, qb, qh, qr⟩
        · exact .inl q1
        · refine .inr ⟨g, cap, cur, rfl, qb, ?_, qr⟩
          have hgl := blockLt qh
          rw [hg.block g (by simp; omega) ?_, Below.heap_alloc _ _ _ hgl]
          · exact qh
          · intro e
            rcases hown.1.2 with ⟨rfl, _⟩ | ⟨g2, cap2, cur2, rfl, _, qh2, _⟩
            · simp [Value.ownBlock] at e
            · simp only [Value.ownBlock, Option.some.injEq] at e
              rw [e, qh2] at qh
              simp at qh
      intro t ht
      simp only [List.mem_append, List.mem_singleton] at ht
      rcases ht with ht | rfl
      · exact key _ _ (hown.2 t ht)
      · exact key _ _ hh

def Pl.hopsL (h : Nat → Bool) : Nat → List Int
  | 0 => []
  | k + 1 => if h k = true then Pl.hopsL h k ++ [(k : Int)] else Pl.hopsL h k
theorem Pl.hopsL_len (h : Nat → Bool) (k : Nat) : (Pl.hopsL h k).length ≤ k := by
  induction k with
  | zero => exact Nat.le_refl _
  | succ k ih =>
    unfold Pl.hopsL
    split
    · rw [List.length_append]; show _ + 1 ≤ _; omega
    · omega
theorem Pl.hopsL_on {h : Nat → Bool} {k : Nat} (e : h k = true) : Pl.hopsL h (k + 1) = Pl.hopsL h k ++ [(k : Int)] := by
  show (if h k = true then _ else _) = _
  rw [if_pos e]
theorem Pl.hopsL_off {h : Nat → Bool} {k : Nat} (e : h k = false) : Pl.hopsL h (k + 1) = Pl.hopsL h k := by
  show (if h k = true then _ else _) = _
  rw [if_neg (by rw [e]; decide)]
def Pl.wayL (s : Pl.DS) : Nat → List (Int × List Int)
  | 0 => []
  | k + 1 => Pl.wayL s k ++ [(s.cost k, Pl.hopsL (s.hops k) 12)]
def Pl.flat (ts : List (Int × Value × List Int)) : List (Int × List Int) := ts.map fun t => (t.1, t.2.2)

set_option maxHeartbeats 2000000 in
theorem ways_any (B f : Nat) (s : Pl.DS) (w : World) (h : SAt w B f s) :
    Calls Tryd.prog 19 #[.pointer (some ⟨B, 0, none⟩)] w fun e w' => ∃ v ts, e = .returned v ∧ OwnW w' w.heap.size v ts ∧ Pl.flat ts = Pl.wayL s 12 ∧ Below w.heap.size w w' := by
  have HS := hid h
  have hB := CellsAt.lt h
  clear h
  go_enter Tryd.func19, Tryd.ntmps19
  go_wp2_with fail
  go_loopw [3, 8] (fun vl i wr => ∃ (k : Nat) (v : Value) (ts : List (Int × Value × List Int)), v = vl ∧ k ≤ 12 ∧ i = .int .i64 k ∧ Hid (OwnW wr w.heap.size v ts) ∧ Hid (Pl.flat ts = Pl.wayL s k) ∧ Hid (ts.length = k) ∧ Hid (Below w.heap.size w wr)) (fun _ i _ => 12 - (intOf i).toNat)
  case atStart => exact ⟨0, .slice none 0 0, [], rfl, by omega, rfl, OwnW.nil _ _, rfl, rfl, Below.refl _ _⟩
  case round =>
    obtain ⟨k, v, ts, hvl, hk, rfl, HO, HF, HN, HB⟩ := hrel
    subst hvl
    by_cases hlt : k < 12
    · have HSr := hid (CellsAt.below HS.out HB.out)
      have hc := SAt.cost HSr.out k hlt
      have hBr := CellsAt.lt HSr.out
      obtain ⟨c, HC⟩ : ∃ c, Hid (s.cost k = c) := ⟨_, rfl⟩
      rw [HC.out] at hc
      obtain ⟨H, HH⟩ : ∃ x, Hid (s.hops k = x) := ⟨_, rfl⟩
      have HRH : Hid ((wr.alloc (.cells #[.int .i64 c, .slice none 0 0] 57)).rangeAt B (13 + k * 12) (bools12 H)) := hid (by
        rw [← HH.out]; exact World.rangeAt_alloc (SAt.hopsOf HSr.out k hlt) _)
      rename World => w4
      go_wp2_with (refine wpList_load_mid rfl 74 (.tmp 22) rfl B (13 + k * 12) rfl (bools12 H) _ HRH.out Tryd.underlying74 rfl infoBools ?_)
      go_loopw [24] (fun i wr => ∃ (j : Nat) (hv : Value), j ≤ 12 ∧ i = .int .i64 j ∧ Hid (wr.heap[w4.heap.size]? = some (.cells #[.int .i64 c, hv] 57)) ∧ Hid (OwnI wr (w4.heap.size + 1) hv (Pl.hopsL H j)) ∧ Hid (Below w4.heap.size w4 wr)) (fun i _ => 12 - (intOf i).toNat)
      case atStart => exact ⟨0, .slice none 0 0, by omega, rfl, heapNew _ _, OwnI.nil _ _, (Below.refl _ _).alloc (Nat.le_refl _) _⟩
      case round =>
        obtain ⟨j, hv, hj, rfl, HA, HI, HB4⟩ := hrel
        obtain ⟨a3, cap3, rfl⟩ := HI.out.slice
        obtain ⟨z0, z1, f0, f1, hAr⟩ := adjAt_cells HA.out
        by_cases hjl : j < 12
        · have hg := fun w => run_index_bools H j hjl w
          obtain ⟨b, HBK⟩ : ∃ b, Hid (H j = b) := ⟨_, rfl⟩
          rw [HBK.out] at hg
          have hlen := Pl.hopsL_len H j
          obtain ⟨n3, HN3⟩ : ∃ n, Hid ((Pl.hopsL H j).length = n) := ⟨_, rfl⟩
          rw [HN3.out] at HA HI z1 hlen
          cases b
          case true =>
            have HNX := hid (Pl.hopsL_on HBK.out)
            go_wp2_with (at_builtin; refine append_intT Tryd.underlying55 rfl (.tmp 30) (.tmp 32) rfl (w4.heap.size + 1) (.slice a3 n3 cap3) (Pl.hopsL H j) j rfl HI.out (by omega) rfl (by have := HN3.out; omega) ?_; intro v5 w5 ho5 hb5; obtain ⟨a5, cap5, rfl⟩ := ho5.slice; obtain ⟨n5, HN5⟩ : ∃ n, Hid ((Pl.hopsL H j ++ [(j : Int)]).length = n) := ⟨_, rfl⟩; rw [HN5.out] at ho5; have HO5 := hid ho5; have HB5 := hid hb5; have h5 := (hb5.block w4.heap.size (Nat.lt_succ_self _)).trans HA.out; obtain ⟨y0, y1, g0, g1, hA5⟩ := adjAt_cells h5; have H5 := hid h5; rw [HN5.out]; clear ho5 hb5 h5)
            go_roundw
            case rel =>
              refine ⟨j + 1, .slice a5 n5 cap5, by omega, by go_num, adjAt_set H5.out _, hid ?_, (HB4.out.trans (HB5.out.mono (Nat.le_succ _))).setCell (Nat.le_refl _) _⟩
              rw [HNX.out]
              exact ownsRow_setCell_below HO5.out (Nat.lt_succ_self _) _
            case measure => simp [intOf]; omega
          case false =>
            have HNX := hid (Pl.hopsL_off HBK.out)
            go_wp2_with fail
            go_roundw
            case rel => exact ⟨j + 1, .slice a3 n3 cap3, by omega, by go_num, HA, hid (by rw [HNX.out]; exact HI.out), HB4⟩
            case measure => simp [intOf]; omega
        · obtain rfl : j = 12 := by omega
          have HOr := hid (HO.out.below HB4.out)
          have HI0 := hid (HI.out.mono (Nat.zero_le _))
          obtain ⟨n3, HN3⟩ : ∃ n, Hid ((Pl.hopsL H 12).length = n) := ⟨_, rfl⟩
          rw [HN3.out] at HA HI HI0 z1
          have hz4 := HB.out.size
          have hzr := HB4.out.size
          go_wp2_with (at_builtin; refine append_wayT rfl (.tmp 36) (.tmp 38) rfl w.heap.size v ts c (.slice a3 n3 cap3) (Pl.hopsL H 12) rfl HOr.out HI0.out (by omega) rfl (by have := HN.out; omega) ?_; intro v5 w5 ho5 hb5; have HO5 := hid ho5; have HB5 := hid hb5; clear ho5 hb5)
          go_roundw
          case rel =>
            refine ⟨k + 1, _, ts ++ [(c, .slice a3 n3 cap3, Pl.hopsL H 12)], rfl, by omega, by go_num, HO5, hid ?_, hid (by simp [HN.out]), (HB.out.trans (HB4.out.mono hz4)).trans HB5.out⟩
            show (ts ++ _).map _ = Pl.wayL s k ++ _
            rw [List.map_append, ← HF.out, ← HC.out, ← HH.out]
            rfl
          case measure => simp [intOf]; omega
    · obtain rfl : k = 12 := by omega
      go_wp2_with fail
      go_ret
      exact ⟨_, ts, rfl, HO.out, HF.out, HB.out⟩
end Go.Proofs.YtcdobhdbafpkiacDoor
