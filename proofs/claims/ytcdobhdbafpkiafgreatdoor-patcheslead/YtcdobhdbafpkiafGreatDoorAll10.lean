/-
  Contracts and facts that the proof rests on, put together out of several texts.
-/
import Derived.Test.YtcdobhdbafpkiafGreatDoorAll9
import Derived.Test.YtcdobhdbafpkiafGreatDoorAll2
import Derived.Deep.DeepAppendWide
import Derived.Laws.CopyRow
import Derived.Laws.Externs
import Derived.Lib.Overlaps
import Derived.Lib.AppendZerosOnto
import Derived.Deep.RegionLaw
/-
  Rows of routes that a call itself has made: what they hold, and how one more is appended.
-/
namespace Go.Proofs.YtcdobhdbafpkiafGreatDoor
open Go.RowKit
set_option maxRecDepth 20000

def cellsH (h : Pl.RH) : List Value := [.int .i64 h.p.1, .int .i64 h.p.2, .bool h.here, .int .i64 h.cost, .slice h.ha h.hl h.hc]
def cellsR : List Pl.RH → List Value
  | [] => []
  | h :: r => cellsH h ++ cellsR r
theorem cellsR_len : ∀ hs : List Pl.RH, (cellsR hs).length = hs.length * 5
  | [] => rfl
  | h :: r => by simp [cellsR, cellsH, cellsR_len r]; omega
theorem cellsR_append : ∀ (a b : List Pl.RH), cellsR (a ++ b) = cellsR a ++ cellsR b
  | [], _ => rfl
  | h :: r, b => by simp [cellsR, cellsR_append r b]
theorem cellsR_one : ∀ hs : List Pl.RH, ∀ u ∈ cellsR hs, u.oneCell' = true
  | [], u, h => by simp [cellsR] at h
  | e :: r, u, h => by
    simp only [cellsR, List.mem_append] at h
    rcases h with h | h
    · simp [cellsH] at h
      rcases h with rfl | rfl | rfl | rfl | rfl <;> rfl
    · exact cellsR_one r u h
theorem rowsAt_cons {w : World} {b off : Nat} {h : Pl.RH} {r : List Pl.RH} :
    RowsAt w b off (h :: r) ↔ (w.cell? ⟨b, off, none⟩ = some (.int .i64 h.p.1) ∧ w.cell? ⟨b, off + 1, none⟩ = some (.int .i64 h.p.2) ∧ w.cell? ⟨b, off + 2, none⟩ = some (.bool h.here) ∧ w.cell? ⟨b, off + 3, none⟩ = some (.int .i64 h.cost) ∧ w.cell? ⟨b, off + 4, none⟩ = some (.slice h.ha h.hl h.hc)) ∧ RowsAt w b (off + 5) r := by
  constructor
  · intro k
    refine ⟨?_, fun i hi => ?_⟩
    · have := k 0 (by simp)
      simpa [Pl.rh_cons_zero] using this
    · have := k (i + 1) (by simpa using hi)
      rw [Pl.rh_cons_succ, show off + (i + 1) * 5 = off + 5 + i * 5 by omega] at this
      exact this
  · rintro ⟨h0, h1⟩ i hi
    cases i with
    | zero => simpa [Pl.rh_cons_zero] using h0
    | succ i =>
      rw [Pl.rh_cons_succ, show off + (i + 1) * 5 = off + 5 + i * 5 by omega]
      exact h1 i (by simpa using hi)
theorem rowsAt_cells {w : World} {b : Nat} : ∀ (hs : List Pl.RH) (off : Nat), RowsAt w b off hs ↔ ∀ j u, (cellsR hs)[j]? = some u → w.cell? ⟨b, off + j, none⟩ = some u
  | [], off => by
    constructor
    · intro _ j u h; simp [cellsR] at h
    · intro _ i hi; simp at hi
  | e :: r, off => by
    rw [rowsAt_cons, rowsAt_cells r (off + 5)]
    constructor
    · rintro ⟨⟨h0, h1, h2, h3, h4⟩, h5⟩ j u hj
      match j, hj with
      | 0, hj => simp [cellsR, cellsH] at hj; subst hj; exact h0
      | 1, hj => simp [cellsR, cellsH] at hj; subst hj; exact h1
      | 2, hj => simp [cellsR, cellsH] at hj; subst hj; exact h2
      | 3, hj => simp [cellsR, cellsH] at hj; subst hj; exact h3
      | 4, hj => simp [cellsR, cellsH] at hj; subst hj; exact h4
      | j + 5, hj =>
        have := h5 j u (by simpa [cellsR, cellsH] using hj)
        rwa [show off + (j + 5) = off + 5 + j by omega]
    · intro h
      refine ⟨⟨?_, ?_, ?_, ?_, ?_⟩, fun j u hj => ?_⟩
      · exact h 0 _ (by simp [cellsR, cellsH])
      · exact h 1 _ (by simp [cellsR, cellsH])
      · exact h 2 _ (by simp [cellsR, cellsH])
      · exact h 3 _ (by simp [cellsR, cellsH])
      · exact h 4 _ (by simp [cellsR, cellsH])
      · have := h (j + 5) u (by simpa [cellsR, cellsH] using hj)
        rwa [show off + 5 + j = off + (j + 5) by omega]
theorem Pl.rh_take (hs : List Pl.RH) (n i : Nat) (h : i < n) (hi : i < hs.length) : Pl.rh (hs.take n) i = Pl.rh hs i := by
  rw [Pl.rh_eq _ _ (by simp; omega), Pl.rh_eq _ _ hi]; simp
theorem Pl.rh_drop (hs : List Pl.RH) (n i : Nat) (hi : n + i < hs.length) : Pl.rh (hs.drop n) i = Pl.rh hs (n + i) := by
  rw [Pl.rh_eq _ _ (by simp; omega), Pl.rh_eq _ _ hi]; simp
theorem RowsAt.take {w : World} {b off : Nat} {hs : List Pl.RH} (h : RowsAt w b off hs) (n : Nat) : RowsAt w b off (hs.take n) := by
  intro i hi
  simp only [List.length_take] at hi
  rw [Pl.rh_take hs n i (by omega) (by omega)]
  exact h i (by omega)
theorem RowsAt.drop {w : World} {b off : Nat} {hs : List Pl.RH} (h : RowsAt w b off hs) (n : Nat) : RowsAt w b (off + n * 5) (hs.drop n) := by
  intro i hi
  simp only [List.length_drop] at hi
  rw [Pl.rh_drop hs n i (by omega), show off + n * 5 + i * 5 = off + (n + i) * 5 by omega]
  exact h (n + i) (by omega)
theorem Pl.rh_app_lt (a b : List Pl.RH) (i : Nat) (h : i < a.length) : Pl.rh (a ++ b) i = Pl.rh a i := by
  rw [Pl.rh_eq a i h, Pl.rh_eq _ i (by simp; omega), List.getElem_append_left h]
theorem Pl.rh_app_at (a : List Pl.RH) (x : Pl.RH) : Pl.rh (a ++ [x]) a.length = x := by
  rw [Pl.rh_eq _ _ (by simp)]; simp
theorem Pl.rt_app_lt (a b : List Pl.Rt) (i : Nat) (h : i < a.length) : Pl.rt (a ++ b) i = Pl.rt a i := by
  rw [Pl.rt_eq a i h, Pl.rt_eq _ i (by simp; omega), List.getElem_append_left h]
theorem Pl.rt_app_at (a : List Pl.Rt) (x : Pl.Rt) : Pl.rt (a ++ [x]) a.length = x := by
  rw [Pl.rt_eq _ _ (by simp)]; simp

/-- a slice value over a row of routes of the call's own -/
def OwnR (w : World) (base : Nat) (v : Value) (hs : List Pl.RH) : Prop := w.ownsRow base 88 5 v hs.length (cellsR hs)
theorem infoRoute : (Tryz.prog.info? 88).map (fun i => (i.zero, i.size, i.bytes)) = some (some (.agg #[.int .i64 0, .int .i64 0, .bool false, .int .i64 0, .slice none 0 0]), 5, 56) := by kernel_rfl
theorem OwnR.nil (w : World) (base : Nat) : OwnR w base (.slice none 0 0) [] := World.ownsRow_nil _ _ _ _
theorem OwnR.below {w w' : World} {base : Nat} {v : Value} {hs : List Pl.RH} (h : OwnR w base v hs) (k : Below w.heap.size w w') : OwnR w' base v hs := ownsRow_under h k
theorem OwnR.mono {w : World} {base base' : Nat} {v : Value} {hs : List Pl.RH} (h : OwnR w base v hs) (k : base' ≤ base) : OwnR w base' v hs := by
  obtain ⟨h0, h1⟩ := h
  refine ⟨h0, ?_⟩
  rcases h1 with h1 | ⟨g, cap, cur, rfl, hb, hr⟩
  · exact .inl h1
  · exact .inr ⟨g, cap, cur, rfl, by omega, hr⟩
theorem OwnR.rows {w : World} {base : Nat} {v : Value} {hs : List Pl.RH} (h : OwnR w base v hs) :
    ∃ a cap, v = .slice a hs.length cap ∧ IsRows w a hs.length cap hs ∧ (∀ x, a = some x → base ≤ x.block) := by
  obtain ⟨_, ⟨h, h1⟩ | ⟨g, cap, cur, rfl, hb, hh, hn, hm, hs', hx⟩⟩ := h
  · have e : hs = [] := List.length_eq_zero_iff.1 h1
    subst e
    exact ⟨none, 0, h, ⟨rfl, Nat.le_refl _, by simp, fun _ => rfl, .inl rfl⟩, by simp⟩
  · refine ⟨_, cap, rfl, ⟨rfl, hn, hm, by simp, .inr ⟨g, 0, rfl, blockLt hh, ?_⟩⟩, by rintro x ⟨⟩; exact hb⟩
    rw [rowsAt_cells]
    intro j u hj
    rw [← hx] at hj
    have hj' : cur[j]? = some u := by
      rw [List.getElem?_take] at hj
      split at hj
      · rw [← Array.getElem?_toList]; exact hj
      · cases hj
    simp [World.cell?, hh, hj']
theorem ownR_of {w : World} {base n : Nat} {v : Value} {xs : List Value} {hs : List Pl.RH} (h : w.ownsRow base 88 5 v n xs) (e : xs = cellsR hs) : OwnR w base v hs := by
  subst e
  have hn : n = hs.length := by
    have := h.1
    rw [cellsR_len] at this
    omega
  subst hn
  exact h
/-- a row of numbers and a row of routes are two blocks -/
theorem apartZR {w : World} {b1 b2 : Nat} {u v : Value} {xs : List Int} {hs : List Pl.RH} (h1 : OwnZ w b1 u xs) (h2 : OwnR w b2 v hs) : u.ownBlock = none ∨ u.ownBlock ≠ v.ownBlock := by
  obtain ⟨_, ⟨rfl, _⟩ | ⟨g, cap, cur, rfl, _, hh, _⟩⟩ := h1
  · exact .inl rfl
  · right
    obtain ⟨_, ⟨rfl, _⟩ | ⟨g2, cap2, cur2, rfl, _, hh2, _⟩⟩ := h2
    · simp [Value.ownBlock]
    · simp only [Value.ownBlock, ne_eq, Option.some.injEq]
      intro e
      subst e
      rw [hh] at hh2
      simp at hh2

theorem append_rt {w : World} {ops : Array Oper} {rest : List Oper} {o : Oper} {a : Act} {Q : Exit → Act → World → Prop} (hgd : o.guard = none) (s x : Operand)
    (ho : o.op = .call { callee := .builtin .append, args := #[s, x], argTypes := #[24, 24] })
    (base : Nat) (v : Value) (hs : List Pl.RH) (e : Pl.RH) (hs' : a.eval s = v) (hown : OwnR w base v hs) (hbase : base ≤ w.heap.size) (hx : a.eval x = .slice (some ⟨w.heap.size, 0, none⟩) 1 1) (hb : hs.length ≤ 4000000000000)
    (h : ∀ v' w', OwnR w' base v' (hs ++ [e]) → (w.alloc (.cells #[.int .i64 e.p.1, .int .i64 e.p.2, .bool e.here, .int .i64 e.cost, .slice e.ha e.hl e.hc] 88)).grownBy w' v.ownBlock → Below base w w' → wpList Tryz.prog ops Q rest (a.put o.dst v') w') :
    wpList Tryz.prog ops Q (o :: rest) a (w.alloc (.cells #[.int .i64 e.p.1, .int .i64 e.p.2, .bool e.here, .int .i64 e.cost, .slice e.ha e.hl e.hc] 88)) := by
  obtain ⟨i0, hi0, hz0, hz1, hz2⟩ := partsOf infoRoute
  refine wpList_append_own_wide (w := _) hgd s x 24 ho base 88 i0 _ 5 56 Tryz.underlying24 hi0 hz0 hz1 hz2 rfl (by decide) _ hs.length (cellsR hs) hs' (World.ownsRow.alloc hown _) ⟨w.heap.size, 0, none⟩ 1 1 (cellsH e) hx rfl ?_ ?_ (by unfold maxLen; omega) (by omega) (by simp; omega) ?_
  · intro j u hj
    rw [add_none]
    match j, hj with
    | 0, hj => simp [cellsH] at hj; subst hj; simp
    | 1, hj => simp [cellsH] at hj; subst hj; simp
    | 2, hj => simp [cellsH] at hj; subst hj; simp
    | 3, hj => simp [cellsH] at hj; subst hj; simp
    | 4, hj => simp [cellsH] at hj; subst hj; simp
    | j + 5, hj => simp [cellsH] at hj
  · have := cellsR_one [e]
    simpa [cellsR] using this
  · intro v' w' hown' hg _
    have hlt := World.ownsRow.lt hown
    exact h v' w' (ownR_of hown' (by rw [cellsR_append]; simp [cellsR])) hg (((Below.refl _ _).alloc hbase _).grown hg (by simp; omega) (fun k hk => (hlt k hk).1))

/-- routes of the call's own: the row, and the hops of each one -/
def OwnTb (w : World) (base : Nat) (v : Value) (hs : List Pl.RH) (rs : List Pl.Rt) : Prop := OwnR w base v hs ∧ hs.length = rs.length ∧ ∀ i, i < hs.length → ReadsZ w base (Pl.rh hs i) (Pl.rt rs i)
theorem OwnTb.nil (w : World) (base : Nat) : OwnTb w base (.slice none 0 0) [] [] := ⟨OwnR.nil _ _, rfl, fun i h => by simp at h⟩
theorem OwnTb.below {w w' : World} {base : Nat} {v : Value} {hs : List Pl.RH} {rs : List Pl.Rt} (h : OwnTb w base v hs rs) (k : Below w.heap.size w w') : OwnTb w' base v hs rs := ⟨h.1.below k, h.2.1, fun i hi => (h.2.2 i hi).below k⟩
theorem OwnTb.mono {w : World} {base base' : Nat} {v : Value} {hs : List Pl.RH} {rs : List Pl.Rt} (h : OwnTb w base v hs rs) (k : base' ≤ base) : OwnTb w base' v hs rs := ⟨h.1.mono k, h.2.1, fun i hi => (h.2.2 i hi).mono k⟩
theorem OwnTb.reads {w : World} {base : Nat} {v : Value} {hs : List Pl.RH} {rs : List Pl.Rt} (h : OwnTb w base v hs rs) : ReadsAll w hs rs := ⟨h.2.1, fun i hi => (h.2.2 i hi).reads.1⟩
theorem OwnTb.snoc {w w' : World} {base : Nat} {v v' : Value} {hs : List Pl.RH} {rs : List Pl.Rt} {e : Pl.RH} {r : Pl.Rt} {o : Obj} (h : OwnTb w base v hs rs) (hr : ReadsZ w base e r) (h' : OwnR w' base v' (hs ++ [e])) (hg : (w.alloc o).grownBy w' v.ownBlock) : OwnTb w' base v' (hs ++ [e]) (rs ++ [r]) := by
  have key : ∀ x y, ReadsZ w base x y → ReadsZ w' base x y := by
    intro x y ⟨q1, q2, q3, q4, q5⟩
    exact ⟨q1, q2, q3, World.ownsRow.kept (World.ownsRow.alloc q4 o) hg (apartZR q4 h.1), q5⟩
  refine ⟨h', by simp [h.2.1], fun i hi => ?_⟩
  simp only [List.length_append, List.length_cons, List.length_nil] at hi
  rcases Nat.lt_or_ge i hs.length with q | q
  · rw [Pl.rh_app_lt _ _ _ q, Pl.rt_app_lt _ _ _ (by rw [← h.2.1]; exact q)]
    exact key _ _ (h.2.2 i q)
  · obtain rfl : i = hs.length := by omega
    rw [Pl.rh_app_at]
    have : Pl.rt (rs ++ [r]) hs.length = r := by rw [h.2.1]; exact Pl.rt_app_at rs r
    rw [this]
    exact key _ _ hr
theorem ReadsAll.snoc {w : World} {hs : List Pl.RH} {rs : List Pl.Rt} {e : Pl.RH} {r : Pl.Rt} (h : ReadsAll w hs rs) (hr : Reads w e r) : ReadsAll w (hs ++ [e]) (rs ++ [r]) := by
  refine ⟨by simp [h.1], fun i hi => ?_⟩
  simp only [List.length_append, List.length_cons, List.length_nil] at hi
  rcases Nat.lt_or_ge i hs.length with q | q
  · rw [Pl.rh_app_lt _ _ _ q, Pl.rt_app_lt _ _ _ (by rw [← h.1]; exact q)]
    exact h.2 i q
  · obtain rfl : i = hs.length := by omega
    rw [Pl.rh_app_at]
    have : Pl.rt (rs ++ [r]) hs.length = r := by rw [h.1]; exact Pl.rt_app_at rs r
    rw [this]
    exact hr
end Go.Proofs.YtcdobhdbafpkiafGreatDoor
/-
  Rows of routes: one laid over a part of another (copy), and slices.Insert of one route.
-/
namespace Go.Proofs.YtcdobhdbafpkiafGreatDoor
open Go.RowKit
set_option maxRecDepth 20000

/-- what a row holds where some cells are laid over it from a place on -/
def laid (L : List Value) (o : Nat) (cs : List Value) : List Value := L.take o ++ cs ++ L.drop (o + cs.length)
theorem laid_len (L : List Value) (o : Nat) (cs : List Value) (h : o + cs.length ≤ L.length) : (laid L o cs).length = L.length := by simp [laid]; omega

theorem run_copyR (w : World) (ty : TypeId) (g o dLen dCap : Nat) (ad : Addr) (sLen sCap : Nat) (L cs : List Value) (hg : w.heap[g]? = some (.cells L.toArray 88 (0, 0))) (hn : cs.length = Nat.min sLen dLen * 5)
    (hsrc : ∀ j v, cs[j]? = some v → w.cell? (ad.add j) = some v) (hfit : o + cs.length ≤ L.length) (h1 : ∀ v ∈ cs, v.oneCell' = true) :
    (Builtin.copy_ #[24, 24] ty #[.slice (some ⟨g, o, none⟩) dLen dCap, .slice (some ad) sLen sCap]).run Tryz.prog w = .ok (goInt (Nat.min sLen dLen)) (w.setRow g (laid L o cs).toArray) := by
  obtain ⟨i0, hi0, hz0, hz1, hz2⟩ := partsOf infoRoute
  have hl := run_loadCells_list (P := Tryz.prog) w ad cs hsrc
  have hst := run_storeCells_at Tryz.prog g o 88 cs 0 L.toArray w hg (by simpa using hfit) h1
  simp only [Nat.add_zero] at hst
  simp [Builtin.copy_, run_underlying Tryz.underlying24, Builtin.lenOf, Builtin.firstCells, sizeOf, typeInfo, hi0, hz1, ← hn, hl, hst, laid]
theorem But.row (w : World) (g : Nat) (cs : Array Value) : But g w (w.setRow g cs) := ⟨rfl, rfl, rfl, by simp [World.setRow], fun k _ hk => setRow_other w g k cs hk⟩

theorem wpList_copyR {w : World} {ops : Array Oper} {rest : List Oper} {o : Oper} {a : Act} {Q : Exit → Act → World → Prop} (hgd : o.guard = none) (d s : Operand)
    (ho : o.op = .call { callee := .builtin .copy, args := #[d, s], argTypes := #[24, 24] })
    (g off dLen dCap : Nat) (ad : Addr) (sLen sCap : Nat) (hd : a.eval d = .slice (some ⟨g, off, none⟩) dLen dCap) (hs : a.eval s = .slice (some ad) sLen sCap) (L cs : List Value) (hg : w.heap[g]? = some (.cells L.toArray 88 (0, 0))) (hn : cs.length = Nat.min sLen dLen * 5)
    (hsrc : ∀ j v, cs[j]? = some v → w.cell? (ad.add j) = some v) (hfit : off + cs.length ≤ L.length) (h1 : ∀ v ∈ cs, v.oneCell' = true)
    (h : ∀ w' v', w'.heap[g]? = some (.cells (laid L off cs).toArray 88 (0, 0)) → But g w w' → wpList Tryz.prog ops Q rest (a.put o.dst v') w') : wpList Tryz.prog ops Q (o :: rest) a w := by
  refine wpList_plain hgd fun K hK => ?_
  have hrun := run_copyR w o.type g off dLen dCap ad sLen sCap L cs hg hn hsrc hfit h1
  unfold Oper.wp
  simp [execOp, ho, resolve, invoke, builtin, hd, hs, hrun, Result.andThen]
  exact hK _ _ (h _ _ (setRow_heap w g _ _ _ _ hg) (But.row w g _))
theorem step_copyR {w : World} {ops : Array Oper} {o : Oper} {a : Act} {K : Act → World → Prop} {Q : Exit → Act → World → Prop} {E : Prop} (hgd : o.guard = none) (d s : Operand)
    (ho : o.op = .call { callee := .builtin .copy, args := #[d, s], argTypes := #[24, 24] })
    (g off dLen dCap : Nat) (ad : Addr) (sLen sCap : Nat) (hd : a.eval d = .slice (some ⟨g, off, none⟩) dLen dCap) (hs : a.eval s = .slice (some ad) sLen sCap) (L cs : List Value) (hg : w.heap[g]? = some (.cells L.toArray 88 (0, 0))) (hn : cs.length = Nat.min sLen dLen * 5)
    (hsrc : ∀ j v, cs[j]? = some v → w.cell? (ad.add j) = some v) (hfit : off + cs.length ≤ L.length) (h1 : ∀ v ∈ cs, v.oneCell' = true)
    (h : ∀ w' v', w'.heap[g]? = some (.cells (laid L off cs).toArray 88 (0, 0)) → But g w w' → K (a.put o.dst v') w') : if Region.wanted o (yielded ops a.tmps) = true then Oper.wp Tryz.prog o a w K Q else E := by
  have hw : Region.wanted o (yielded ops a.tmps) = true := by simp [Region.wanted, hgd]
  rw [if_pos hw]
  have hrun := run_copyR w o.type g off dLen dCap ad sLen sCap L cs hg hn hsrc hfit h1
  unfold Oper.wp
  simp [execOp, ho, resolve, invoke, builtin, hd, hs, hrun, Result.andThen]
  exact h _ _ (setRow_heap w g _ _ _ _ hg) (But.row w g _)

theorem But.grown {g : Nat} {w w' : World} (h : But g w w') : w.grownBy w' (some g) := ⟨h.os, h.tape, h.output, h.size, fun k hk hne => h.block k hk (by intro e; exact hne (by rw [e]))⟩
theorem grown_below {row : Option Nat} {w w' : World} (h : Below w.heap.size w w') : w.grownBy w' row := ⟨h.os, h.tape, h.output, h.size, fun k hk _ => h.block k hk⟩
theorem grown_trans {row : Option Nat} {a b c : World} (h : a.grownBy b row) (k : b.grownBy c row) : a.grownBy c row :=
  ⟨k.os.trans h.os, k.tape.trans h.tape, k.output.trans h.output, Nat.le_trans h.size k.size, fun i hi hne => (k.block i (Nat.lt_of_lt_of_le hi h.size) hne).trans (h.block i hi hne)⟩
theorem below_of_grown {B : Nat} {row : Option Nat} {w w' : World} (h : w.grownBy w' row) (hB : B ≤ w.heap.size) (hr : ∀ k, row = some k → B ≤ k) : Below B w w' := (Below.refl _ _).grown h hB hr

/-- a row that is known whole is a row of one's own -/
theorem ownR_row {w : World} {base g n cap : Nat} {L : List Value} {hs : List Pl.RH} (hb : base ≤ g) (hg : w.heap[g]? = some (.cells L.toArray 88 (0, 0))) (hn : hs.length = n) (hc : n ≤ cap) (hm : cap ≤ maxLen) (hs' : L.length = cap * 5) (hx : L.take (n * 5) = cellsR hs) : OwnR w base (.slice (some ⟨g, 0, none⟩) n cap) hs := by
  subst hn
  exact ⟨cellsR_len hs, .inr ⟨g, cap, L.toArray, rfl, hb, hg, hc, hm, by simpa using hs', by simpa using hx⟩⟩
theorem OwnR.row {w : World} {base : Nat} {v : Value} {hs : List Pl.RH} (h : OwnR w base v hs) (hne : 0 < hs.length) :
    ∃ g cap L, v = .slice (some ⟨g, 0, none⟩) hs.length cap ∧ base ≤ g ∧ w.heap[g]? = some (.cells (List.toArray L) 88 (0, 0)) ∧ hs.length ≤ cap ∧ cap ≤ maxLen ∧ L.length = cap * 5 ∧ L.take (hs.length * 5) = cellsR hs := by
  obtain ⟨_, h | ⟨g, cap, cur, rfl, hb, hh, hn, hm, hs', hx⟩⟩ := h
  · omega
  · exact ⟨g, cap, cur.toList, rfl, hb, by simpa using hh, hn, hm, by simpa using hs', hx⟩
theorem row_cell {w : World} {g : Nat} {L : List Value} {T : TypeId} (hg : w.heap[g]? = some (.cells L.toArray T (0, 0))) {j : Nat} {u : Value} (h : L[j]? = some u) : w.cell? ⟨g, j, none⟩ = some u := by
  simp [World.cell?, hg, h]
theorem laid_twice (L A B X : List Value) (n i : Nat) (hA : A.length = i * 5) (hB : B.length = (n - i) * 5) (hX : X.length = 5) (hi : i < n) (hL : (n + 1) * 5 ≤ L.length) (h : L.take (n * 5) = A ++ B) :
    (laid (laid L ((i + 1) * 5) B) (i * 5) X).take ((n + 1) * 5) = A ++ (X ++ B) := by
  have hAL : L.take (i * 5) = A := by
    have : L.take (i * 5) = (L.take (n * 5)).take (i * 5) := by rw [List.take_take]; congr 1; omega
    rw [this, h, List.take_append_of_le_length (by omega), List.take_of_length_le (by omega)]
  have h1 : (laid L ((i + 1) * 5) B).take (i * 5) = A := by
    unfold laid
    rw [List.append_assoc, List.take_append_of_le_length (by simp; omega), List.take_take, show min (i * 5) ((i + 1) * 5) = i * 5 by omega, hAL]
  have h2 : (laid L ((i + 1) * 5) B).drop (i * 5 + X.length) = B ++ L.drop ((i + 1) * 5 + B.length) := by
    unfold laid
    rw [List.append_assoc, show i * 5 + X.length = (L.take ((i + 1) * 5)).length by simp; omega, List.drop_left]
  rw [show laid (laid L ((i + 1) * 5) B) (i * 5) X = (laid L ((i + 1) * 5) B).take (i * 5) ++ X ++ (laid L ((i + 1) * 5) B).drop (i * 5 + X.length) from rfl, h1, h2]
  rw [show A ++ X ++ (B ++ L.drop ((i + 1) * 5 + B.length)) = (A ++ (X ++ B)) ++ L.drop ((i + 1) * 5 + B.length) by simp, List.take_append_of_le_length (by simp; omega), List.take_of_length_le (by simp; omega)]
theorem laid_new (Z A B X : List Value) (n i : Nat) (hA : A.length = i * 5) (hB : B.length = (n - i) * 5) (hX : X.length = 5) (hi : i < n) :
    (laid (laid (A ++ Z) (i * 5) X) ((i + 1) * 5) B).take ((n + 1) * 5) = A ++ (X ++ B) := by
  have h1 : laid (A ++ Z) (i * 5) X = A ++ X ++ Z.drop 5 := by
    unfold laid
    rw [List.take_append_of_le_length (by omega), List.take_of_length_le (by omega), show i * 5 + X.length = A.length + 5 by omega, List.drop_append]
    simp
  rw [h1]
  unfold laid
  rw [show (i + 1) * 5 = (A ++ X).length by simp; omega, List.take_left, show A ++ X ++ B ++ (A ++ X ++ Z.drop 5).drop ((A ++ X).length + B.length) = (A ++ (X ++ B)) ++ (A ++ X ++ Z.drop 5).drop ((A ++ X).length + B.length) by simp, List.take_append_of_le_length (by simp; omega), List.take_of_length_le (by simp; omega)]
end Go.Proofs.YtcdobhdbafpkiafGreatDoor
/-
  Contract: slices.Insert of one route into a row of one's own.
-/
namespace Go.Proofs.YtcdobhdbafpkiafGreatDoor
open Go.RowKit
set_option maxRecDepth 20000

def rtObj (x : Pl.RH) : Obj := .cells #[.int .i64 x.p.1, .int .i64 x.p.2, .bool x.here, .int .i64 x.cost, .slice x.ha x.hl x.hc] 88

theorem overlapsNo (w : World) (g o lb cb : Nat) (L : List Value) (x : Pl.RH) (hg : w.heap[g]? = some (.cells L.toArray 88 (0, 0))) (hL : L.length ≠ 0) :
    (callFunc 103 #[.slice (some ⟨w.heap.size, 0, none⟩) 1 1, .slice (some ⟨g, o, none⟩) lb cb]).run Tryz.prog (w.alloc (rtObj x)) = .ok (.value (.bool false)) (w.alloc (rtObj x)) := by
  have hlt := blockLt hg
  have hnew : (w.alloc (rtObj x)).heap[w.heap.size]? = some (rtObj x) := heapNewZ w _
  have hgA : (w.alloc (rtObj x)).heap[g]? = some (.cells L.toArray 88 (0, 0)) := by rw [Below.heap_alloc _ _ _ hlt]; exact hg
  rw [run_callFunc_extern Tryz.func103 (by kernel_rfl) (by kernel_rfl) (by kernel_rfl) (e := Extern.SlicesOverlaps.overlaps #[24, 24] #[4]) (by kernel_rfl),
    Lib.run_overlaps_apart (w.alloc (rtObj x)) 24 4 88 Tryz.underlying24 5 Tryz.sizeOf88 ⟨w.heap.size, 0, none⟩ ⟨g, o, none⟩ 1 1 lb cb (by show w.heap.size ≠ g; omega) 88 88 5 L.length
      (by simp only [World.shape?, hnew]; rfl) (by simp only [World.shape?, hgA]; simp) hL (by simp only [World.frozen?, hnew]; rfl) (by simp only [World.frozen?, hnew]; rfl)]
  rfl

set_option maxHeartbeats 2000000 in
theorem Insert_end (base : Nat) (v : Value) (hs : List Pl.RH) (x : Pl.RH) (w : World) (hown : OwnR w base v hs) (hbase : base ≤ w.heap.size) (hb : hs.length ≤ 2000000) :
    Calls Tryz.prog 65 #[v, .int .i64 hs.length, .slice (some ⟨w.heap.size, 0, none⟩) 1 1] (w.alloc (rtObj x)) fun e w' =>
      ∃ v', e = .returned v' ∧ OwnR w' base v' (hs ++ [x]) ∧ (w.alloc (rtObj x)).grownBy w' v.ownBlock ∧ Below base w w' := by
  have HO := hid hown
  obtain ⟨a, cap, rfl, hrow, _⟩ := hown.rows
  have hc := hrow.2.1
  have hm := hrow.2.2.1
  have hnil := hrow.2.2.2.1
  unfold maxLen at hm
  clear hrow hown
  obtain ⟨n, HN⟩ : ∃ n, Hid (hs.length = n) := ⟨_, rfl⟩
  rw [HN.out] at hc hb HO ⊢
  have HD : Hid (rtObj x = .cells #[.int .i64 x.p.1, .int .i64 x.p.2, .bool x.here, .int .i64 x.cost, .slice x.ha x.hl x.hc] 88) := hid rfl
  rw [HD.out]
  obtain ⟨row, HRW⟩ : ∃ row, Hid ((Value.slice a n cap).ownBlock = row) := ⟨_, rfl⟩
  rw [HRW.out]
  go_enter Tryz.func65, Tryz.ntmps65
  go_wp2_with (at_builtin; refine append_rt rfl (.tmp 23) (.tmp 24) rfl base (.slice a n cap) hs x rfl HO.out hbase rfl (by rw [HN.out]; omega) ?_; intro v' w' hown' hg' hb'; have HG := hid hg'; rw [HRW.out] at HG; clear hg')
  all_goals
    go_ret
    exact ⟨_, rfl, hown', HG.out, hb'⟩

theorem wpList_zeros {w : World} {ops : Array Oper} {rest : List Oper} {o : Oper} {a : Act} {Q : Exit → Act → World → Prop} (hgd : o.guard = none) (s x : Operand)
    (ho : o.op = .call { callee := .builtin .append, args := #[s, x], argTypes := #[24, 3] })
    (g i cap k : Nat) (hs : a.eval s = .slice (some ⟨g, 0, none⟩) i cap) (kv : Int) (hx : a.eval x = .int .i64 kv) (hkv : kv = (k : Int)) (A : List Value) (hA : A.length = i * 5) (hsrc : ∀ j u, A[j]? = some u → w.cell? ⟨g, j, none⟩ = some u) (h0 : 0 < k) (hroom : cap < i + k) (hbig : i + k ≤ 3000000)
    (h : ∀ w' G Z, w'.heap[w.heap.size]? = some (.cells (A ++ Z).toArray 88 (0, 0)) → A.length + Z.length = G * 5 → i + k ≤ G → G ≤ maxLen → Below w.heap.size w w' → wpList Tryz.prog ops Q rest (a.put o.dst (.slice (some ⟨w.heap.size, 0, none⟩) (i + k) G)) w') : wpList Tryz.prog ops Q (o :: rest) a w := by
  obtain ⟨i0, hi0, hz0, hz1, hz2⟩ := partsOf infoRoute
  have hold : (Builtin.firstCells i0.size i (.slice (some ⟨g, 0, none⟩) i cap)).run Tryz.prog w.drew = .ok A.toArray w.drew := by
    rw [hz1]
    exact run_firstCells_some w.drew 5 i ⟨g, 0, none⟩ i cap A hA (fun j u hj => by rw [add_none, Nat.zero_add]; exact hsrc j u hj)
  have hr := Lib.run_append_grow_zeros w 24 3 o.type 88 i0 _ .i64 .i64 Tryz.underlying24 Tryz.underlying3 hi0 hz0 (some ⟨g, 0, none⟩) i cap A hold k h0 (by omega) hroom (by omega) (by rw [hz2]; omega) (by rw [hz2]; exact growslice_fits hroom (by omega))
  subst hkv
  have hGn := grownCap_ge w (i + k) cap 88
  have hGm := grownCap_le_maxLen w (i + k) cap 88 (by unfold maxLen; omega)
  generalize grownCap w (i + k) cap 88 = G at *
  refine Lib.wpList_append_run _ hgd s x _ _ ho _ _ hs hx _ _ hr ?_
  refine h _ G (Builtin.zeroCells (Value.agg #[.int .i64 0, .int .i64 0, .bool false, .int .i64 0, .slice none 0 0]).cells k ++ Builtin.zeroCells (Value.agg #[.int .i64 0, .int .i64 0, .bool false, .int .i64 0, .slice none 0 0]).cells (G - (i + k))).toList ?_ ?_ hGn hGm ?_
  · have := heapNewZ w.drew (.cells (A.toArray ++ Builtin.zeroCells (Value.agg #[.int .i64 0, .int .i64 0, .bool false, .int .i64 0, .slice none 0 0]).cells k ++ Builtin.zeroCells (Value.agg #[.int .i64 0, .int .i64 0, .bool false, .int .i64 0, .slice none 0 0]).cells (G - (i + k))) 88)
    rw [show w.drew.heap.size = w.heap.size from rfl] at this
    rw [this]
    congr 2
    apply Array.ext'
    simp
  · simp [Builtin.zeroCells, Value.cells, hA]
    omega
  · exact (Below.refl _ _).drew.alloc (Nat.le_refl _) _
end Go.Proofs.YtcdobhdbafpkiafGreatDoor
