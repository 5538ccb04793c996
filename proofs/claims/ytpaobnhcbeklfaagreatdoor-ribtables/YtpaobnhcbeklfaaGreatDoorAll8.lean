/-
  Contracts and facts that the proof rests on, put together out of several texts.
-/
import Derived.Test.YtpaobnhcbeklfaaGreatDoorAll7
import Derived.Test.YtpaobnhcbeklfaaGreatDoorAll1
import Derived.Deep.DeepAppendWide
import Derived.Laws.CopyRow
import Derived.Laws.Externs
import Derived.Lib.Overlaps
import Derived.Lib.AppendZerosOnto
import Derived.Deep.RegionLaw
import Derived.Test.YtpaobnhcbeklfaaGreatDoorAll4
import Derived.OpenShut
/-
  Rows of routes that a call itself has made: what they hold, and how one more is appended.
-/
namespace Go.Proofs.YtpaobnhcbeklfaaGreatDoor
open Go.RowKit
set_option maxRecDepth 20000

def cellsH (h : Pl.RH) : List Value := [.int .i64 h.p.1, .int .i64 h.p.2, .bool h.here, .int .i64 h.cost, .slice h.ha h.hl h.hc]
def cellsR : List Pl.RH → List Value
  | [] => []
  | h :: r => cellsH h ++ cellsR r
theorem cellsR_len : ∀ hs : List Pl.RH, (cellsR hs).length = hs.length * 5
  | [] => rfl
  | h :: r => by simp [cellsR, cellsH, cellsR_len r]; omega
theorem cellsR_append : ∀ (a b : List Pl.RH), cellsR (a ++ b) = cellsR a ++ cellsR b
  | [], _ => rfl
  | h :: r, b => by simp [cellsR, cellsR_append r b]
theorem cellsR_one : ∀ hs : List Pl.RH, ∀ u ∈ cellsR hs, u.oneCell' = true
  | [], u, h => by simp [cellsR] at h
  | e :: r, u, h => by
    simp only [cellsR, List.mem_append] at h
    rcases h with h | h
    · simp [cellsH] at h
      rcases h with rfl | rfl | rfl | rfl | rfl <;> rfl
    · exact cellsR_one r u h
theorem rowsAt_cons {w : World} {b off : Nat} {h : Pl.RH} {r : List Pl.RH} :
    RowsAt w b off (h :: r) ↔ (w.cell? ⟨b, off, none⟩ = some (.int .i64 h.p.1) ∧ w.cell? ⟨b, off + 1, none⟩ = some (.int .i64 h.p.2) ∧ w.cell? ⟨b, off + 2, none⟩ = some (.bool h.here) ∧ w.cell? ⟨b, off + 3, none⟩ = some (.int .i64 h.cost) ∧ w.cell? ⟨b, off + 4, none⟩ = some (.slice h.ha h.hl h.hc)) ∧ RowsAt w b (off + 5) r := by
  constructor
  · intro k
    refine ⟨?_, fun i hi => ?_⟩
    · have := k 0 (by simp)
      simpa [Pl.rh_cons_zero] using this
    · have := k (i + 1) (by simpa using hi)
      rw [Pl.rh_cons_succ, show off + (i + 1) * 5 = off + 5 + i * 5 by omega] at this
      exact this
  · rintro ⟨h0, h1⟩ i hi
    cases i with
    | zero => simpa [Pl.rh_cons_zero] using h0
    | succ i =>
      rw [Pl.rh_cons_succ, show off + (i + 1) * 5 = off + 5 + i * 5 by omega]
      exact h1 i (by simpa using hi)
theorem rowsAt_cells {w : World} {b : Nat} : ∀ (hs : List Pl.RH) (off : Nat), RowsAt w b off hs ↔ ∀ j u, (cellsR hs)[j]? = some u → w.cell? ⟨b, off + j, none⟩ = some u
  | [], off => by
    constructor
    · intro _ j u h; simp [cellsR] at h
    · intro _ i hi; simp at hi
  | e :: r, off => by
    rw [rowsAt_cons, rowsAt_cells r (off + 5)]
    constructor
    · rintro ⟨⟨h0, h1, h2, h3, h4⟩, h5⟩ j u hj
      match j, hj with
      | 0, hj => simp [cellsR, cellsH] at hj; subst hj; exact h0
      | 1, hj => simp [cellsR, cellsH] at hj; subst hj; exact h1
      | 2, hj => simp [cellsR, cellsH] at hj; subst hj; exact h2
      | 3, hj => simp [cellsR, cellsH] at hj; subst hj; exact h3
      | 4, hj => simp [cellsR, cellsH] at hj; subst hj; exact h4
      | j + 5, hj =>
        have := h5 j u (by simpa [cellsR, cellsH] using hj)
        rwa [show off + (j + 5) = off + 5 + j by omega]
    · intro h
      refine ⟨⟨?_, ?_, ?_, ?_, ?_⟩, fun j u hj => ?_⟩
      · exact h 0 _ (by simp [cellsR, cellsH])
      · exact h 1 _ (by simp [cellsR, cellsH])
      · exact h 2 _ (by simp [cellsR, cellsH])
      · exact h 3 _ (by simp [cellsR, cellsH])
      · exact h 4 _ (by simp [cellsR, cellsH])
      · have := h (j + 5) u (by simpa [cellsR, cellsH] using hj)
        rwa [show off + 5 + j = off + (j + 5) by omega]
theorem Pl.rh_take (hs : List Pl.RH) (n i : Nat) (h : i < n) (hi : i < hs.length) : Pl.rh (hs.take n) i = Pl.rh hs i := by
  rw [Pl.rh_eq _ _ (by simp; omega), Pl.rh_eq _ _ hi]; simp
theorem Pl.rh_drop (hs : List Pl.RH) (n i : Nat) (hi : n + i < hs.length) : Pl.rh (hs.drop n) i = Pl.rh hs (n + i) := by
  rw [Pl.rh_eq _ _ (by simp; omega), Pl.rh_eq _ _ hi]; simp
theorem RowsAt.take {w : World} {b off : Nat} {hs : List Pl.RH} (h : RowsAt w b off hs) (n : Nat) : RowsAt w b off (hs.take n) := by
  intro i hi
  simp only [List.length_take] at hi
  rw [Pl.rh_take hs n i (by omega) (by omega)]
  exact h i (by omega)
theorem RowsAt.drop {w : World} {b off : Nat} {hs : List Pl.RH} (h : RowsAt w b off hs) (n : Nat) : RowsAt w b (off + n * 5) (hs.drop n) := by
  intro i hi
  simp only [List.length_drop] at hi
  rw [Pl.rh_drop hs n i (by omega), show off + n * 5 + i * 5 = off + (n + i) * 5 by omega]
  exact h (n + i) (by omega)
theorem Pl.rh_app_lt (a b : List Pl.RH) (i : Nat) (h : i < a.length) : Pl.rh (a ++ b) i = Pl.rh a i := by
  rw [Pl.rh_eq a i h, Pl.rh_eq _ i (by simp; omega), List.getElem_append_left h]
theorem Pl.rh_app_at (a : List Pl.RH) (x : Pl.RH) : Pl.rh (a ++ [x]) a.length = x := by
  rw [Pl.rh_eq _ _ (by simp)]; simp
theorem Pl.rt_app_lt (a b : List Pl.Rt) (i : Nat) (h : i < a.length) : Pl.rt (a ++ b) i = Pl.rt a i := by
  rw [Pl.rt_eq a i h, Pl.rt_eq _ i (by simp; omega), List.getElem_append_left h]
theorem Pl.rt_app_at (a : List Pl.Rt) (x : Pl.Rt) : Pl.rt (a ++ [x]) a.length = x := by
  rw [Pl.rt_eq _ _ (by simp)]; simp

/-- a slice value over a row of routes of the call's own -/
def OwnR (w : World) (base : Nat) (v : Value) (hs : List Pl.RH) : Prop := w.ownsRow base 41 5 v hs.length (cellsR hs)
theorem infoRoute : (Tryz.prog.info? 41).map (fun i => (i.zero, i.size, i.bytes)) = some (some (.agg #[.int .i64 0, .int .i64 0, .bool false, .int .i64 0, .slice none 0 0]), 5, 56) := by kernel_rfl
theorem OwnR.nil (w : World) (base : Nat) : OwnR w base (.slice none 0 0) [] := World.ownsRow_nil _ _ _ _
theorem OwnR.below {w w' : World} {base : Nat} {v : Value} {hs : List Pl.RH} (h : OwnR w base v hs) (k : Below w.heap.size w w') : OwnR w' base v hs := ownsRow_under h k
theorem OwnR.mono {w : World} {base base' : Nat} {v : Value} {hs : List Pl.RH} (h : OwnR w base v hs) (k : base' ≤ base) : OwnR w base' v hs := by
  obtain ⟨h0, h1⟩ := h
  refine ⟨h0, ?_⟩
  rcases h1 with h1 | ⟨g, cap, cur, rfl, hb, hr⟩
  · exact .inl h1
  · exact .inr ⟨g, cap, cur, rfl, by omega, hr⟩
theorem OwnR.rows {w : World} {base : Nat} {v : Value} {hs : List Pl.RH} (h : OwnR w base v hs) :
    ∃ a cap, v = .slice a hs.length cap ∧ IsRows w a hs.length cap hs ∧ (∀ x, a = some x → base ≤ x.block) := by
  obtain ⟨_, ⟨h, h1⟩ | ⟨g, cap, cur, rfl, hb, hh, hn, hm, hs', hx⟩⟩ := h
  · have e : hs = [] := List.length_eq_zero_iff.1 h1
    subst e
    exact ⟨none, 0, h, ⟨rfl, Nat.le_refl _, by simp, fun _ => rfl, .inl rfl⟩, by simp⟩
  · refine ⟨_, cap, rfl, ⟨rfl, hn, hm, by simp, .inr ⟨g, 0, rfl, blockLt hh, ?_⟩⟩, by rintro x ⟨⟩; exact hb⟩
    rw [rowsAt_cells]
    intro j u hj
    rw [← hx] at hj
    have hj' : cur[j]? = some u := by
      rw [List.getElem?_take] at hj
      split at hj
      · rw [← Array.getElem?_toList]; exact hj
      · cases hj
    simp [World.cell?, hh, hj']
theorem ownR_of {w : World} {base n : Nat} {v : Value} {xs : List Value} {hs : List Pl.RH} (h : w.ownsRow base 41 5 v n xs) (e : xs = cellsR hs) : OwnR w base v hs := by
  subst e
  have hn : n = hs.length := by
    have := h.1
    rw [cellsR_len] at this
    omega
  subst hn
  exact h
/-- a row of numbers and a row of routes are two blocks -/
theorem apartZR {w : World} {b1 b2 : Nat} {u v : Value} {xs : List Int} {hs : List Pl.RH} (h1 : OwnZ w b1 u xs) (h2 : OwnR w b2 v hs) : u.ownBlock = none ∨ u.ownBlock ≠ v.ownBlock := by
  obtain ⟨_, ⟨rfl, _⟩ | ⟨g, cap, cur, rfl, _, hh, _⟩⟩ := h1
  · exact .inl rfl
  · right
    obtain ⟨_, ⟨rfl, _⟩ | ⟨g2, cap2, cur2, rfl, _, hh2, _⟩⟩ := h2
    · simp [Value.ownBlock]
    · simp only [Value.ownBlock, ne_eq, Option.some.injEq]
      intro e
      subst e
      rw [hh] at hh2
      simp at hh2

theorem append_rt {w : World} {ops : Array Oper} {rest : List Oper} {o : Oper} {a : Act} {Q : Exit → Act → World → Prop} (hgd : o.guard = none) (s x : Operand)
    (ho : o.op = .call { callee := .builtin .append, args := #[s, x], argTypes := #[23, 23] })
    (base : Nat) (v : Value) (hs : List Pl.RH) (e : Pl.RH) (hs' : a.eval s = v) (hown : OwnR w base v hs) (hbase : base ≤ w.heap.size) (hx : a.eval x = .slice (some ⟨w.heap.size, 0, none⟩) 1 1) (hb : hs.length ≤ 4000000000000)
    (h : ∀ v' w', OwnR w' base v' (hs ++ [e]) → (w.alloc (.cells #[.int .i64 e.p.1, .int .i64 e.p.2, .bool e.here, .int .i64 e.cost, .slice e.ha e.hl e.hc] 41)).grownBy w' v.ownBlock → Below base w w' → wpList Tryz.prog ops Q rest (a.put o.dst v') w') :
    wpList Tryz.prog ops Q (o :: rest) a (w.alloc (.cells #[.int .i64 e.p.1, .int .i64 e.p.2, .bool e.here, .int .i64 e.cost, .slice e.ha e.hl e.hc] 41)) := by
  obtain ⟨i0, hi0, hz0, hz1, hz2⟩ := partsOf infoRoute
  refine wpList_append_own_wide (w := _) hgd s x 23 ho base 41 i0 _ 5 56 Tryz.underlying23 hi0 hz0 hz1 hz2 rfl (by decide) _ hs.length (cellsR hs) hs' (World.ownsRow.alloc hown _) ⟨w.heap.size, 0, none⟩ 1 1 (cellsH e) hx rfl ?_ ?_ (by unfold maxLen; omega) (by omega) (by simp; omega) ?_
  · intro j u hj
    rw [add_none]
    match j, hj with
    | 0, hj => simp [cellsH] at hj; subst hj; simp
    | 1, hj => simp [cellsH] at hj; subst hj; simp
    | 2, hj => simp [cellsH] at hj; subst hj; simp
    | 3, hj => simp [cellsH] at hj; subst hj; simp
    | 4, hj => simp [cellsH] at hj; subst hj; simp
    | j + 5, hj => simp [cellsH] at hj
  · have := cellsR_one [e]
    simpa [cellsR] using this
  · intro v' w' hown' hg _
    have hlt := World.ownsRow.lt hown
    exact h v' w' (ownR_of hown' (by rw [cellsR_append]; simp [cellsR])) hg (((Below.refl _ _).alloc hbase _).grown hg (by simp; omega) (fun k hk => (hlt k hk).1))

/-- routes of the call's own: the row, and the hops of each one -/
def OwnTb (w : World) (base : Nat) (v : Value) (hs : List Pl.RH) (rs : List Pl.Rt) : Prop := OwnR w base v hs ∧ hs.length = rs.length ∧ ∀ i, i < hs.length → ReadsZ w base (Pl.rh hs i) (Pl.rt rs i)
theorem OwnTb.nil (w : World) (base : Nat) : OwnTb w base (.slice none 0 0) [] [] := ⟨OwnR.nil _ _, rfl, fun i h => by simp at h⟩
theorem OwnTb.below {w w' : World} {base : Nat} {v : Value} {hs : List Pl.RH} {rs : List Pl.Rt} (h : OwnTb w base v hs rs) (k : Below w.heap.size w w') : OwnTb w' base v hs rs := ⟨h.1.below k, h.2.1, fun i hi => (h.2.2 i hi).below k⟩
theorem OwnTb.mono {w : World} {base base' : Nat} {v : Value} {hs : List Pl.RH} {rs : List Pl.Rt} (h : OwnTb w base v hs rs) (k : base' ≤ base) : OwnTb w base' v hs rs := ⟨h.1.mono k, h.2.1, fun i hi => (h.2.2 i hi).mono k⟩
theorem OwnTb.reads {w : World} {base : Nat} {v : Value} {hs : List Pl.RH} {rs : List Pl.Rt} (h : OwnTb w base v hs rs) : ReadsAll w hs rs := ⟨h.2.1, fun i hi => (h.2.2 i hi).reads.1⟩
theorem OwnTb.snoc {w w' : World} {base : Nat} {v v' : Value} {hs : List Pl.RH} {rs : List Pl.Rt} {e : Pl.RH} {r : Pl.Rt} {o : Obj} (h : OwnTb w base v hs rs) (hr : ReadsZ w base e r) (h' : OwnR w' base v' (hs ++ [e])) (hg : (w.alloc o).grownBy w' v.ownBlock) : OwnTb w' base v' (hs ++ [e]) (rs ++ [r]) := by
  have key : ∀ x y, ReadsZ w base x y → ReadsZ w' base x y := by
    intro x y ⟨q1, q2, q3, q4, q5⟩
    exact ⟨q1, q2, q3, World.ownsRow.kept (World.ownsRow.alloc q4 o) hg (apartZR q4 h.1), q5⟩
  refine ⟨h', by simp [h.2.1], fun i hi => ?_⟩
  simp only [List.length_append, List.length_cons, List.length_nil] at hi
  rcases Nat.lt_or_ge i hs.length with q | q
  · rw [Pl.rh_app_lt _ _ _ q, Pl.rt_app_lt _ _ _ (by rw [← h.2.1]; exact q)]
    exact key _ _ (h.2.2 i q)
  · obtain rfl : i = hs.length := by omega
    rw [Pl.rh_app_at]
    have : Pl.rt (rs ++ [r]) hs.length = r := by rw [h.2.1]; exact Pl.rt_app_at rs r
    rw [this]
    exact key _ _ hr
theorem ReadsAll.snoc {w : World} {hs : List Pl.RH} {rs : List Pl.Rt} {e : Pl.RH} {r : Pl.Rt} (h : ReadsAll w hs rs) (hr : Reads w e r) : ReadsAll w (hs ++ [e]) (rs ++ [r]) := by
  refine ⟨by simp [h.1], fun i hi => ?_⟩
  simp only [List.length_append, List.length_cons, List.length_nil] at hi
  rcases Nat.lt_or_ge i hs.length with q | q
  · rw [Pl.rh_app_lt _ _ _ q, Pl.rt_app_lt _ _ _ (by rw [← h.1]; exact q)]
    exact h.2 i q
  · obtain rfl : i = hs.length := by omega
    rw [Pl.rh_app_at]
    have : Pl.rt (rs ++ [r]) hs.length = r := by rw [h.1]; exact Pl.rt_app_at rs r
    rw [this]
    exact hr
end Go.Proofs.YtpaobnhcbeklfaaGreatDoor
/-
  Contracts: slices.Equal over numbers, same, the document's sameRoute and routeAt.
-/
namespace Go.Proofs.YtpaobnhcbeklfaaGreatDoor
open Go.RowKit
set_option maxRecDepth 20000

theorem Pl.ints_eq_of {xs ys : List Int} (hl : xs.length = ys.length) (h : ∀ t, t < xs.length → Pl.nm xs t = Pl.nm ys t) : xs = ys := by
  refine List.ext_getElem hl fun i h1 h2 => ?_
  have := h i h1
  rwa [Pl.nm_eq xs i h1, Pl.nm_eq ys i h2] at this

theorem twoBoxes {w : World} {o o' : Obj} : Below w.heap.size w ((w.alloc o).alloc o') := ((Below.refl _ _).alloc (Nat.le_refl _) _).alloc (by simp) _

end Go.Proofs.YtpaobnhcbeklfaaGreatDoor
/-
  Contract: what parts two tables (rib.Diff).
-/
namespace Go.Proofs.YtpaobnhcbeklfaaGreatDoor
open Go.RowKit
set_option maxRecDepth 20000

def Pl.diffC (a b : List Pl.Rt) : Int := if Pl.tabF a = 0 then Pl.tabF b else Pl.tabF a
def Pl.diffS (a b : List Pl.Rt) : List Pl.Rt := if Pl.diffC a b = 0 then Pl.setL a b else []
def Pl.diffG (a b : List Pl.Rt) : List (Int × Int) := if Pl.diffC a b = 0 then Pl.goneL a b else []
theorem Pl.take_rt (rs : List Pl.Rt) (k : Nat) (h : k < rs.length) : rs.take (k + 1) = rs.take k ++ [Pl.rt rs k] := by
  rw [List.take_succ_eq_append_getElem h, Pl.rt_eq rs k h]
theorem Pl.setL_succ (a b : List Pl.Rt) (k : Nat) (h : k < b.length) : Pl.setL a (b.take (k + 1)) = Pl.setL a (b.take k) ++ (if Pl.keptB a (Pl.rt b k) then [] else [Pl.rt b k]) := by
  unfold Pl.setL
  rw [Pl.take_rt b k h, List.filter_append]
  cases hk : Pl.keptB a (Pl.rt b k) <;> simp [hk]
theorem Pl.goneL_succ (a b : List Pl.Rt) (k : Nat) (h : k < a.length) : Pl.goneL (a.take (k + 1)) b = Pl.goneL (a.take k) b ++ (if Pl.thereP (b.map Pl.Rt.p) (Pl.rt a k).p then [] else [(Pl.rt a k).p]) := by
  unfold Pl.goneL
  rw [Pl.take_rt a k h, List.filter_append, List.map_append]
  cases hk : Pl.thereP (b.map Pl.Rt.p) (Pl.rt a k).p <;> simp [hk]
theorem Pl.setL_len (a b : List Pl.Rt) : (Pl.setL a b).length ≤ b.length := List.length_filter_le _ _
theorem Pl.goneL_len (a b : List Pl.Rt) : (Pl.goneL a b).length ≤ a.length := by
  unfold Pl.goneL
  rw [List.length_map]
  exact List.length_filter_le _ _

theorem infoPfxR : (Tryz.prog.info? 38).map (fun i => (i.zero, i.size, i.bytes)) = some (some (.agg #[.int .i64 0, .int .i64 0]), 2, 16) := by kernel_rfl
theorem ret3 {v1 v2 v3 : Value} {P : Prop} (h : P) : Ending.returned (.tuple #[v1, v2, v3]) = .returned (.tuple #[v1, v2, v3]) ∧ P := ⟨rfl, h⟩

end Go.Proofs.YtpaobnhcbeklfaaGreatDoor
/-
  Rows of routes: one laid over a part of another (copy), and slices.Insert of one route.
-/
namespace Go.Proofs.YtpaobnhcbeklfaaGreatDoor
open Go.RowKit
set_option maxRecDepth 20000

/-- what a row holds where some cells are laid over it from a place on -/
def laid (L : List Value) (o : Nat) (cs : List Value) : List Value := L.take o ++ cs ++ L.drop (o + cs.length)
theorem laid_len (L : List Value) (o : Nat) (cs : List Value) (h : o + cs.length ≤ L.length) : (laid L o cs).length = L.length := by simp [laid]; omega

theorem run_copyR (w : World) (ty : TypeId) (g o dLen dCap : Nat) (ad : Addr) (sLen sCap : Nat) (L cs : List Value) (hg : w.heap[g]? = some (.cells L.toArray 41 (0, 0))) (hn : cs.length = Nat.min sLen dLen * 5)
    (hsrc : ∀ j v, cs[j]? = some v → w.cell? (ad.add j) = some v) (hfit : o + cs.length ≤ L.length) (h1 : ∀ v ∈ cs, v.oneCell' = true) :
    (Builtin.copy_ #[23, 23] ty #[.slice (some ⟨g, o, none⟩) dLen dCap, .slice (some ad) sLen sCap]).run Tryz.prog w = .ok (goInt (Nat.min sLen dLen)) (w.setRow g (laid L o cs).toArray) := by
  obtain ⟨i0, hi0, hz0, hz1, hz2⟩ := partsOf infoRoute
  have hl := run_loadCells_list (P := Tryz.prog) w ad cs hsrc
  have hst := run_storeCells_at Tryz.prog g o 41 cs 0 L.toArray w hg (by simpa using hfit) h1
  simp only [Nat.add_zero] at hst
  simp [Builtin.copy_, run_underlying Tryz.underlying23, Builtin.lenOf, Builtin.firstCells, sizeOf, typeInfo, hi0, hz1, ← hn, hl, hst, laid]
theorem But.row (w : World) (g : Nat) (cs : Array Value) : But g w (w.setRow g cs) := ⟨rfl, rfl, rfl, by simp [World.setRow], fun k _ hk => setRow_other w g k cs hk⟩

theorem wpList_copyR {w : World} {ops : Array Oper} {rest : List Oper} {o : Oper} {a : Act} {Q : Exit → Act → World → Prop} (hgd : o.guard = none) (d s : Operand)
    (ho : o.op = .call { callee := .builtin .copy, args := #[d, s], argTypes := #[23, 23] })
    (g off dLen dCap : Nat) (ad : Addr) (sLen sCap : Nat) (hd : a.eval d = .slice (some ⟨g, off, none⟩) dLen dCap) (hs : a.eval s = .slice (some ad) sLen sCap) (L cs : List Value) (hg : w.heap[g]? = some (.cells L.toArray 41 (0, 0))) (hn : cs.length = Nat.min sLen dLen * 5)
    (hsrc : ∀ j v, cs[j]? = some v → w.cell? (ad.add j) = some v) (hfit : off + cs.length ≤ L.length) (h1 : ∀ v ∈ cs, v.oneCell' = true)
    (h : ∀ w' v', w'.heap[g]? = some (.cells (laid L off cs).toArray 41 (0, 0)) → But g w w' → wpList Tryz.prog ops Q rest (a.put o.dst v') w') : wpList Tryz.prog ops Q (o :: rest) a w := by
  refine wpList_plain hgd fun K hK => ?_
  have hrun := run_copyR w o.type g off dLen dCap ad sLen sCap L cs hg hn hsrc hfit h1
  unfold Oper.wp
  simp [execOp, ho, resolve, invoke, builtin, hd, hs, hrun, Result.andThen]
  exact hK _ _ (h _ _ (setRow_heap w g _ _ _ _ hg) (But.row w g _))
theorem step_copyR {w : World} {ops : Array Oper} {o : Oper} {a : Act} {K : Act → World → Prop} {Q : Exit → Act → World → Prop} {E : Prop} (hgd : o.guard = none) (d s : Operand)
    (ho : o.op = .call { callee := .builtin .copy, args := #[d, s], argTypes := #[23, 23] })
    (g off dLen dCap : Nat) (ad : Addr) (sLen sCap : Nat) (hd : a.eval d = .slice (some ⟨g, off, none⟩) dLen dCap) (hs : a.eval s = .slice (some ad) sLen sCap) (L cs : List Value) (hg : w.heap[g]? = some (.cells L.toArray 41 (0, 0))) (hn : cs.length = Nat.min sLen dLen * 5)
    (hsrc : ∀ j v, cs[j]? = some v → w.cell? (ad.add j) = some v) (hfit : off + cs.length ≤ L.length) (h1 : ∀ v ∈ cs, v.oneCell' = true)
    (h : ∀ w' v', w'.heap[g]? = some (.cells (laid L off cs).toArray 41 (0, 0)) → But g w w' → K (a.put o.dst v') w') : if Region.wanted o (yielded ops a.tmps) = true then Oper.wp Tryz.prog o a w K Q else E := by
  have hw : Region.wanted o (yielded ops a.tmps) = true := by simp [Region.wanted, hgd]
  rw [if_pos hw]
  have hrun := run_copyR w o.type g off dLen dCap ad sLen sCap L cs hg hn hsrc hfit h1
  unfold Oper.wp
  simp [execOp, ho, resolve, invoke, builtin, hd, hs, hrun, Result.andThen]
  exact h _ _ (setRow_heap w g _ _ _ _ hg) (But.row w g _)

theorem But.grown {g : Nat} {w w' : World} (h : But g w w') : w.grownBy w' (some g) := ⟨h.os, h.tape, h.output, h.size, fun k hk hne => h.block k hk (by intro e; exact hne (by rw [e]))⟩
theorem grown_below {row : Option Nat} {w w' : World} (h : Below w.heap.size w w') : w.grownBy w' row := ⟨h.os, h.tape, h.output, h.size, fun k hk _ => h.block k hk⟩
theorem grown_trans {row : Option Nat} {a b c : World} (h : a.grownBy b row) (k : b.grownBy c row) : a.grownBy c row :=
  ⟨k.os.trans h.os, k.tape.trans h.tape, k.output.trans h.output, Nat.le_trans h.size k.size, fun i hi hne => (k.block i (Nat.lt_of_lt_of_le hi h.size) hne).trans (h.block i hi hne)⟩
theorem below_of_grown {B : Nat} {row : Option Nat} {w w' : World} (h : w.grownBy w' row) (hB : B ≤ w.heap.size) (hr : ∀ k, row = some k → B ≤ k) : Below B w w' := (Below.refl _ _).grown h hB hr

/-- a row that is known whole is a row of one's own -/
theorem ownR_row {w : World} {base g n cap : Nat} {L : List Value} {hs : List Pl.RH} (hb : base ≤ g) (hg : w.heap[g]? = some (.cells L.toArray 41 (0, 0))) (hn : hs.length = n) (hc : n ≤ cap) (hm : cap ≤ maxLen) (hs' : L.length = cap * 5) (hx : L.take (n * 5) = cellsR hs) : OwnR w base (.slice (some ⟨g, 0, none⟩) n cap) hs := by
  subst hn
  exact ⟨cellsR_len hs, .inr ⟨g, cap, L.toArray, rfl, hb, hg, hc, hm, by simpa using hs', by simpa using hx⟩⟩
theorem OwnR.row {w : World} {base : Nat} {v : Value} {hs : List Pl.RH} (h : OwnR w base v hs) (hne : 0 < hs.length) :
    ∃ g cap L, v = .slice (some ⟨g, 0, none⟩) hs.length cap ∧ base ≤ g ∧ w.heap[g]? = some (.cells (List.toArray L) 41 (0, 0)) ∧ hs.length ≤ cap ∧ cap ≤ maxLen ∧ L.length = cap * 5 ∧ L.take (hs.length * 5) = cellsR hs := by
  obtain ⟨_, h | ⟨g, cap, cur, rfl, hb, hh, hn, hm, hs', hx⟩⟩ := h
  · omega
  · exact ⟨g, cap, cur.toList, rfl, hb, by simpa using hh, hn, hm, by simpa using hs', hx⟩
theorem row_cell {w : World} {g : Nat} {L : List Value} {T : TypeId} (hg : w.heap[g]? = some (.cells L.toArray T (0, 0))) {j : Nat} {u : Value} (h : L[j]? = some u) : w.cell? ⟨g, j, none⟩ = some u := by
  simp [World.cell?, hg, h]
theorem laid_twice (L A B X : List Value) (n i : Nat) (hA : A.length = i * 5) (hB : B.length = (n - i) * 5) (hX : X.length = 5) (hi : i < n) (hL : (n + 1) * 5 ≤ L.length) (h : L.take (n * 5) = A ++ B) :
    (laid (laid L ((i + 1) * 5) B) (i * 5) X).take ((n + 1) * 5) = A ++ (X ++ B) := by
  have hAL : L.take (i * 5) = A := by
    have : L.take (i * 5) = (L.take (n * 5)).take (i * 5) := by rw [List.take_take]; congr 1; omega
    rw [this, h, List.take_append_of_le_length (by omega), List.take_of_length_le (by omega)]
  have h1 : (laid L ((i + 1) * 5) B).take (i * 5) = A := by
    unfold laid
    rw [List.append_assoc, List.take_append_of_le_length (by simp; omega), List.take_take, show min (i * 5) ((i + 1) * 5) = i * 5 by omega, hAL]
  have h2 : (laid L ((i + 1) * 5) B).drop (i * 5 + X.length) = B ++ L.drop ((i + 1) * 5 + B.length) := by
    unfold laid
    rw [List.append_assoc, show i * 5 + X.length = (L.take ((i + 1) * 5)).length by simp; omega, List.drop_left]
  rw [show laid (laid L ((i + 1) * 5) B) (i * 5) X = (laid L ((i + 1) * 5) B).take (i * 5) ++ X ++ (laid L ((i + 1) * 5) B).drop (i * 5 + X.length) from rfl, h1, h2]
  rw [show A ++ X ++ (B ++ L.drop ((i + 1) * 5 + B.length)) = (A ++ (X ++ B)) ++ L.drop ((i + 1) * 5 + B.length) by simp, List.take_append_of_le_length (by simp; omega), List.take_of_length_le (by simp; omega)]
theorem laid_new (Z A B X : List Value) (n i : Nat) (hA : A.length = i * 5) (hB : B.length = (n - i) * 5) (hX : X.length = 5) (hi : i < n) :
    (laid (laid (A ++ Z) (i * 5) X) ((i + 1) * 5) B).take ((n + 1) * 5) = A ++ (X ++ B) := by
  have h1 : laid (A ++ Z) (i * 5) X = A ++ X ++ Z.drop 5 := by
    unfold laid
    rw [List.take_append_of_le_length (by omega), List.take_of_length_le (by omega), show i * 5 + X.length = A.length + 5 by omega, List.drop_append]
    simp
  rw [h1]
  unfold laid
  rw [show (i + 1) * 5 = (A ++ X).length by simp; omega, List.take_left, show A ++ X ++ B ++ (A ++ X ++ Z.drop 5).drop ((A ++ X).length + B.length) = (A ++ (X ++ B)) ++ (A ++ X ++ Z.drop 5).drop ((A ++ X).length + B.length) by simp, List.take_append_of_le_length (by simp; omega), List.take_of_length_le (by simp; omega)]
end Go.Proofs.YtpaobnhcbeklfaaGreatDoor
/-
  Contract: slices.Insert of one route into a row of one's own.
-/
namespace Go.Proofs.YtpaobnhcbeklfaaGreatDoor
open Go.RowKit
set_option maxRecDepth 20000

def rtObj (x : Pl.RH) : Obj := .cells #[.int .i64 x.p.1, .int .i64 x.p.2, .bool x.here, .int .i64 x.cost, .slice x.ha x.hl x.hc] 41

theorem overlapsNo (w : World) (g o lb cb : Nat) (L : List Value) (x : Pl.RH) (hg : w.heap[g]? = some (.cells L.toArray 41 (0, 0))) (hL : L.length ≠ 0) :
    (callFunc 49 #[.slice (some ⟨w.heap.size, 0, none⟩) 1 1, .slice (some ⟨g, o, none⟩) lb cb]).run Tryz.prog (w.alloc (rtObj x)) = .ok (.value (.bool false)) (w.alloc (rtObj x)) := by
  have hlt := blockLt hg
  have hnew : (w.alloc (rtObj x)).heap[w.heap.size]? = some (rtObj x) := heapNewZ w _
  have hgA : (w.alloc (rtObj x)).heap[g]? = some (.cells L.toArray 41 (0, 0)) := by rw [Below.heap_alloc _ _ _ hlt]; exact hg
  rw [run_callFunc_extern Tryz.func49 (by kernel_rfl) (by kernel_rfl) (by kernel_rfl) (e := Extern.SlicesOverlaps.overlaps #[23, 23] #[4]) (by kernel_rfl),
    Lib.run_overlaps_apart (w.alloc (rtObj x)) 23 4 41 Tryz.underlying23 5 Tryz.sizeOf41 ⟨w.heap.size, 0, none⟩ ⟨g, o, none⟩ 1 1 lb cb (by show w.heap.size ≠ g; omega) 41 41 5 L.length
      (by simp only [World.shape?, hnew]; rfl) (by simp only [World.shape?, hgA]; simp) hL (by simp only [World.frozen?, hnew]; rfl) (by simp only [World.frozen?, hnew]; rfl)]
  rfl

set_option maxHeartbeats 2000000 in
theorem Insert_end (base : Nat) (v : Value) (hs : List Pl.RH) (x : Pl.RH) (w : World) (hown : OwnR w base v hs) (hbase : base ≤ w.heap.size) (hb : hs.length ≤ 2000000) :
    Calls Tryz.prog 26 #[v, .int .i64 hs.length, .slice (some ⟨w.heap.size, 0, none⟩) 1 1] (w.alloc (rtObj x)) fun e w' =>
      ∃ v', e = .returned v' ∧ OwnR w' base v' (hs ++ [x]) ∧ (w.alloc (rtObj x)).grownBy w' v.ownBlock ∧ Below base w w' := by
  have HO := hid hown
  obtain ⟨a, cap, rfl, hrow, _⟩ := hown.rows
  have hc := hrow.2.1
  have hm := hrow.2.2.1
  have hnil := hrow.2.2.2.1
  unfold maxLen at hm
  clear hrow hown
  obtain ⟨n, HN⟩ : ∃ n, Hid (hs.length = n) := ⟨_, rfl⟩
  rw [HN.out] at hc hb HO ⊢
  have HD : Hid (rtObj x = .cells #[.int .i64 x.p.1, .int .i64 x.p.2, .bool x.here, .int .i64 x.cost, .slice x.ha x.hl x.hc] 41) := hid rfl
  rw [HD.out]
  obtain ⟨row, HRW⟩ : ∃ row, Hid ((Value.slice a n cap).ownBlock = row) := ⟨_, rfl⟩
  rw [HRW.out]
  go_enter Tryz.func26, Tryz.ntmps26
  go_wp2_with (at_builtin; refine append_rt rfl (.tmp 23) (.tmp 24) rfl base (.slice a n cap) hs x rfl HO.out hbase rfl (by rw [HN.out]; omega) ?_; intro v' w' hown' hg' hb'; have HG := hid hg'; rw [HRW.out] at HG; clear hg')
  all_goals
    go_ret
    exact ⟨_, rfl, hown', HG.out, hb'⟩

theorem wpList_zeros {w : World} {ops : Array Oper} {rest : List Oper} {o : Oper} {a : Act} {Q : Exit → Act → World → Prop} (hgd : o.guard = none) (s x : Operand)
    (ho : o.op = .call { callee := .builtin .append, args := #[s, x], argTypes := #[23, 3] })
    (g i cap k : Nat) (hs : a.eval s = .slice (some ⟨g, 0, none⟩) i cap) (kv : Int) (hx : a.eval x = .int .i64 kv) (hkv : kv = (k : Int)) (A : List Value) (hA : A.length = i * 5) (hsrc : ∀ j u, A[j]? = some u → w.cell? ⟨g, j, none⟩ = some u) (h0 : 0 < k) (hroom : cap < i + k) (hbig : i + k ≤ 3000000)
    (h : ∀ w' G Z, w'.heap[w.heap.size]? = some (.cells (A ++ Z).toArray 41 (0, 0)) → A.length + Z.length = G * 5 → i + k ≤ G → G ≤ maxLen → Below w.heap.size w w' → wpList Tryz.prog ops Q rest (a.put o.dst (.slice (some ⟨w.heap.size, 0, none⟩) (i + k) G)) w') : wpList Tryz.prog ops Q (o :: rest) a w := by
  obtain ⟨i0, hi0, hz0, hz1, hz2⟩ := partsOf infoRoute
  have hold : (Builtin.firstCells i0.size i (.slice (some ⟨g, 0, none⟩) i cap)).run Tryz.prog w.drew = .ok A.toArray w.drew := by
    rw [hz1]
    exact run_firstCells_some w.drew 5 i ⟨g, 0, none⟩ i cap A hA (fun j u hj => by rw [add_none, Nat.zero_add]; exact hsrc j u hj)
  have hr := Lib.run_append_grow_zeros w 23 3 o.type 41 i0 _ .i64 .i64 Tryz.underlying23 Tryz.underlying3 hi0 hz0 (some ⟨g, 0, none⟩) i cap A hold k h0 (by omega) hroom (by omega) (by rw [hz2]; omega) (by rw [hz2]; exact growslice_fits hroom (by omega))
  subst hkv
  have hGn := grownCap_ge w (i + k) cap 41
  have hGm := grownCap_le_maxLen w (i + k) cap 41 (by unfold maxLen; omega)
  generalize grownCap w (i + k) cap 41 = G at *
  refine Lib.wpList_append_run _ hgd s x _ _ ho _ _ hs hx _ _ hr ?_
  refine h _ G (Builtin.zeroCells (Value.agg #[.int .i64 0, .int .i64 0, .bool false, .int .i64 0, .slice none 0 0]).cells k ++ Builtin.zeroCells (Value.agg #[.int .i64 0, .int .i64 0, .bool false, .int .i64 0, .slice none 0 0]).cells (G - (i + k))).toList ?_ ?_ hGn hGm ?_
  · have := heapNewZ w.drew (.cells (A.toArray ++ Builtin.zeroCells (Value.agg #[.int .i64 0, .int .i64 0, .bool false, .int .i64 0, .slice none 0 0]).cells k ++ Builtin.zeroCells (Value.agg #[.int .i64 0, .int .i64 0, .bool false, .int .i64 0, .slice none 0 0]).cells (G - (i + k))) 41)
    rw [show w.drew.heap.size = w.heap.size from rfl] at this
    rw [this]
    congr 2
    apply Array.ext'
    simp
  · simp [Builtin.zeroCells, Value.cells, hA]
    omega
  · exact (Below.refl _ _).drew.alloc (Nat.le_refl _) _
end Go.Proofs.YtpaobnhcbeklfaaGreatDoor
/-
  Contract: slices.Insert of one route into a row of one's own: at a place within it.
-/
namespace Go.Proofs.YtpaobnhcbeklfaaGreatDoor
open Go.RowKit
set_option maxRecDepth 20000

theorem cellsR_cut (hs : List Pl.RH) (i : Nat) : cellsR hs = cellsR (hs.take i) ++ cellsR (hs.drop i) := by rw [← cellsR_append, List.take_append_drop]
theorem cellsH_src (w : World) (x : Pl.RH) {j : Nat} {u : Value} (h : (cellsH x)[j]? = some u) : (w.alloc (rtObj x)).cell? ⟨w.heap.size, j, none⟩ = some u := by
  match j, h with
  | 0, h => simp [cellsH] at h; subst h; unfold rtObj; simp
  | 1, h => simp [cellsH] at h; subst h; unfold rtObj; simp
  | 2, h => simp [cellsH] at h; subst h; unfold rtObj; simp
  | 3, h => simp [cellsH] at h; subst h; unfold rtObj; simp
  | 4, h => simp [cellsH] at h; subst h; unfold rtObj; simp
  | j + 5, h => simp [cellsH] at h

set_option maxHeartbeats 4000000 in
theorem Insert_room (base : Nat) (hs : List Pl.RH) (i : Nat) (x : Pl.RH) (w : World) (g cap : Nat) (L : List Value) (hi : i < hs.length) (hb : base ≤ g) (hg : w.heap[g]? = some (.cells L.toArray 41 (0, 0))) (hroom : hs.length + 1 ≤ cap) (hm : cap ≤ maxLen) (hL : L.length = cap * 5) (hx : L.take (hs.length * 5) = cellsR hs) :
    Calls Tryz.prog 26 #[.slice (some ⟨g, 0, none⟩) hs.length cap, .int .i64 i, .slice (some ⟨w.heap.size, 0, none⟩) 1 1] (w.alloc (rtObj x)) fun e w' =>
      ∃ v', e = .returned v' ∧ OwnR w' base v' (hs.take i ++ x :: hs.drop i) ∧ (w.alloc (rtObj x)).grownBy w' (some g) := by
  have hm0 := hm
  unfold maxLen at hm
  have hlt := blockLt hg
  obtain ⟨W, HW⟩ : ∃ W, Hid (W = w.alloc (rtObj x)) := ⟨_, rfl⟩
  have HG : Hid (W.heap[g]? = some (.cells L.toArray 41 (0, 0))) := hid (by rw [HW.out, Below.heap_alloc _ _ _ hlt]; exact hg)
  have HOV : Hid (∀ o lb cb, (callFunc 49 #[.slice (some ⟨w.heap.size, 0, none⟩) 1 1, .slice (some ⟨g, o, none⟩) lb cb]).run Tryz.prog W = .ok (.value (.bool false)) W) := hid fun o lb cb => by
    rw [HW.out]; exact overlapsNo w g o lb cb L x hg (by omega)
  have HXS : Hid (∀ j u, (cellsH x)[j]? = some u → W.cell? ⟨w.heap.size, j, none⟩ = some u) := hid fun j u h => by rw [HW.out]; exact cellsH_src w x h
  have HSZ : Hid (W.heap.size = w.heap.size + 1) := hid (by rw [HW.out]; simp)
  have HFIN := hid (laid_twice L (cellsR (hs.take i)) (cellsR (hs.drop i)) (cellsH x) hs.length i (by rw [cellsR_len]; simp; omega) (by rw [cellsR_len]; simp) rfl hi (by omega) (by rw [hx]; exact cellsR_cut hs i))
  have HBL : Hid ((cellsR (hs.drop i)).length = (hs.length - i) * 5) := hid (by rw [cellsR_len]; simp)
  have HBS : Hid (∀ j u, (cellsR (hs.drop i))[j]? = some u → L[i * 5 + j]? = some u) := hid fun j u hj => by
    have h1 : (cellsR hs)[i * 5 + j]? = some u := by
      rw [cellsR_cut hs i, List.getElem?_append_right (by rw [cellsR_len]; simp; omega), cellsR_len]
      simpa [show min i hs.length = i by omega] using hj
    rw [← hx, List.getElem?_take] at h1
    split at h1
    · exact h1
    · cases h1
  have HB1 := hid (cellsR_one (hs.drop i))
  have HX1 : Hid (∀ u ∈ cellsH x, u.oneCell' = true) := hid (by have := cellsR_one [x]; simpa [cellsR] using this)
  rw [← HW.out]
  have HLEN : Hid ((hs.take i ++ x :: hs.drop i).length = hs.length + 1) := hid (by simp; omega)
  have HCEL : Hid (cellsR (hs.take i ++ x :: hs.drop i) = cellsR (hs.take i) ++ (cellsH x ++ cellsR (hs.drop i))) := hid (by rw [cellsR_append]; rfl)
  obtain ⟨ns, HNS⟩ : ∃ l, Hid (hs.take i ++ x :: hs.drop i = l) := ⟨_, rfl⟩
  rw [HNS.out] at HLEN HCEL ⊢
  obtain ⟨B, HBB⟩ : ∃ l, Hid (cellsR (hs.drop i) = l) := ⟨_, rfl⟩
  rw [HBB.out] at HFIN HBL HBS HB1 HCEL
  obtain ⟨A, HAA⟩ : ∃ l, Hid (cellsR (hs.take i) = l) := ⟨_, rfl⟩
  rw [HAA.out] at HFIN HCEL
  obtain ⟨X, HXX⟩ : ∃ l, Hid (cellsH x = l) := ⟨_, rfl⟩
  have HXL : Hid (X.length = 5) := hid (by rw [← HXX.out]; rfl)
  rw [HXX.out] at HFIN HXS HX1 HCEL
  obtain ⟨VB, HVB⟩ : ∃ n, Hid (w.heap.size = n) := ⟨_, rfl⟩
  rw [HVB.out] at HOV HXS hlt ⊢
  clear hg hx HBB HAA HXX HNS
  obtain ⟨n, HN⟩ : ∃ n, Hid (hs.length = n) := ⟨_, rfl⟩
  rw [HN.out] at hi hroom HFIN HBL HLEN ⊢
  have hi1 : ¬ ((i : Int) = (n : Int)) := by omega
  have hi2 : (i : Int) ≤ (n : Int) := by omega
  have hi3 : ¬ (cap = i) := by omega
  have hi4 : ¬ (cap = i + 1) := by omega
  have hrm : ¬ ((cap : Int) < (n : Int) + 1) := by omega
  have hie : ((i : Int) == (n : Int)) = false := by simpa using hi1
  have hw1 : IntKind.i64.wrap ((n : Int) + 1) = (n : Int) + 1 := by rw [IntKind.wrap_i64]; omega
  have hw2 : IntKind.i64.wrap ((i : Int) + 1) = (i : Int) + 1 := by rw [IntKind.wrap_i64]; omega
  have hov := HOV.out
  go_enter Tryz.func26, Tryz.ntmps26
  go_wp2_with (simp only [hov])
  have hw3 : ((i : Int) + 1).toNat = i + 1 := by omega
  have hw4 : (0 : Int) ≤ (i : Int) + 1 := by omega
  have hw5 : (i : Int) ≤ (n : Int) + 1 := by omega
  have HLL : Hid ((laid L ((i + 1) * 5) B).length = cap * 5) := hid (by rw [laid_len _ _ _ (by rw [HBL.out]; omega), hL])
  go_region_law (refine step_copyR rfl (.tmp 73) (.tmp 76) rfl g ((i + 1) * 5) (n - i) (cap - (i + 1)) ⟨g, i * 5, none⟩ (n + 1 - i) (cap - i) (by simp [Act.eval, Act.put]) (by simp [Act.eval, Act.put]) L B HG.out (by rw [HBL.out]; congr 1; simp only [Nat.min_def]; split <;> omega) (fun j u hj => by rw [add_none]; exact row_cell HG.out (HBS.out j u hj)) (by rw [HBL.out]; omega) HB1.out ?_; intro w1 v1 hg1 hb1; have HG1 := hid hg1; have HB1' := hid hb1; clear hg1 hb1)
  all_goals
    have HX2 : Hid (∀ j u, X[j]? = some u → w1.cell? ⟨VB, j, none⟩ = some u) := hid fun j u hj => (HB1'.out.cell (p := ⟨VB, j, none⟩) (by show VB < W.heap.size; rw [HSZ.out, HVB.out]; omega) (by show VB ≠ g; omega)).trans (HXS.out j u hj)
    go_wp2_with (refine wpList_copyR rfl (.tmp 80) (.tmp 81) rfl g (i * 5) (n + 1 - i) (cap - i) ⟨VB, 0, none⟩ 1 1 rfl rfl (laid L ((i + 1) * 5) B) X HG1.out (by rw [HXL.out]; simp only [Nat.min_def]; split <;> omega) (fun j u hj => by rw [add_none, Nat.zero_add]; exact HX2.out j u hj) (by rw [HXL.out, HLL.out]; omega) HX1.out ?_; intro w2 v2 hg2 hb2; have HG2 := hid hg2; have HB2 := hid hb2; clear hg2 hb2)
    go_ret
    refine ⟨_, rfl, ownR_row hb HG2.out HLEN.out hroom hm0 ?_ ?_, ?_⟩
    · rw [laid_len _ _ _ (by rw [HXL.out, HLL.out]; omega), HLL.out]
    · rw [HFIN.out, HCEL.out]
    · exact ((((But.refl g W).drawn 1).trans HB1'.out).trans HB2.out).grown

set_option maxHeartbeats 4000000 in
theorem Insert_grow (base : Nat) (hs : List Pl.RH) (i : Nat) (x : Pl.RH) (w : World) (g cap : Nat) (L : List Value) (hi : i < hs.length) (hbase : base ≤ w.heap.size) (hg : w.heap[g]? = some (.cells L.toArray 41 (0, 0))) (hcap : hs.length ≤ cap) (hroom : cap < hs.length + 1) (hbig : hs.length ≤ 2000000) (hx : L.take (hs.length * 5) = cellsR hs) :
    Calls Tryz.prog 26 #[.slice (some ⟨g, 0, none⟩) hs.length cap, .int .i64 i, .slice (some ⟨w.heap.size, 0, none⟩) 1 1] (w.alloc (rtObj x)) fun e w' =>
      ∃ v', e = .returned v' ∧ OwnR w' base v' (hs.take i ++ x :: hs.drop i) ∧ (w.alloc (rtObj x)).grownBy w' (some g) := by
  have hlt := blockLt hg
  obtain ⟨W, HW⟩ : ∃ W, Hid (W = w.alloc (rtObj x)) := ⟨_, rfl⟩
  have HG : Hid (W.heap[g]? = some (.cells L.toArray 41 (0, 0))) := hid (by rw [HW.out, Below.heap_alloc _ _ _ hlt]; exact hg)
  have HXS : Hid (∀ j u, (cellsH x)[j]? = some u → W.cell? ⟨w.heap.size, j, none⟩ = some u) := hid fun j u h => by rw [HW.out]; exact cellsH_src w x h
  have HSZ : Hid (W.heap.size = w.heap.size + 1) := hid (by rw [HW.out]; simp)
  have HFIN : Hid (∀ Z, (laid (laid (cellsR (hs.take i) ++ Z) (i * 5) (cellsH x)) ((i + 1) * 5) (cellsR (hs.drop i))).take ((hs.length + 1) * 5) = cellsR (hs.take i) ++ (cellsH x ++ cellsR (hs.drop i))) := hid fun Z => laid_new Z (cellsR (hs.take i)) (cellsR (hs.drop i)) (cellsH x) hs.length i (by rw [cellsR_len]; simp; omega) (by rw [cellsR_len]; simp) rfl hi
  have HBL : Hid ((cellsR (hs.drop i)).length = (hs.length - i) * 5) := hid (by rw [cellsR_len]; simp)
  have HAL : Hid ((cellsR (hs.take i)).length = i * 5) := hid (by rw [cellsR_len]; simp; omega)
  have HBS : Hid (∀ j u, (cellsR (hs.drop i))[j]? = some u → L[i * 5 + j]? = some u) := hid fun j u hj => by
    have h1 : (cellsR hs)[i * 5 + j]? = some u := by
      rw [cellsR_cut hs i, List.getElem?_append_right (by rw [cellsR_len]; simp; omega), cellsR_len]
      simpa [show min i hs.length = i by omega] using hj
    rw [← hx, List.getElem?_take] at h1
    split at h1
    · exact h1
    · cases h1
  have HAS : Hid (∀ j u, (cellsR (hs.take i))[j]? = some u → L[j]? = some u) := hid fun j u hj => by
    have h0 : j < (cellsR (hs.take i)).length := (List.getElem?_eq_some_iff.1 hj).1
    have h1 : (cellsR hs)[j]? = some u := by
      rw [cellsR_cut hs i, List.getElem?_append_left h0]
      exact hj
    rw [← hx, List.getElem?_take] at h1
    split at h1
    · exact h1
    · cases h1
  have HB1 := hid (cellsR_one (hs.drop i))
  have HX1 : Hid (∀ u ∈ cellsH x, u.oneCell' = true) := hid (by have := cellsR_one [x]; simpa [cellsR] using this)
  rw [← HW.out]
  have HLEN : Hid ((hs.take i ++ x :: hs.drop i).length = hs.length + 1) := hid (by simp; omega)
  have HCEL : Hid (cellsR (hs.take i ++ x :: hs.drop i) = cellsR (hs.take i) ++ (cellsH x ++ cellsR (hs.drop i))) := hid (by rw [cellsR_append]; rfl)
  obtain ⟨ns, HNS⟩ : ∃ l, Hid (hs.take i ++ x :: hs.drop i = l) := ⟨_, rfl⟩
  rw [HNS.out] at HLEN HCEL ⊢
  obtain ⟨B, HBB⟩ : ∃ l, Hid (cellsR (hs.drop i) = l) := ⟨_, rfl⟩
  rw [HBB.out] at HFIN HBL HBS HB1 HCEL
  obtain ⟨A, HAA⟩ : ∃ l, Hid (cellsR (hs.take i) = l) := ⟨_, rfl⟩
  rw [HAA.out] at HFIN HCEL HAL HAS
  obtain ⟨X, HXX⟩ : ∃ l, Hid (cellsH x = l) := ⟨_, rfl⟩
  have HXL : Hid (X.length = 5) := hid (by rw [← HXX.out]; rfl)
  rw [HXX.out] at HFIN HXS HX1 HCEL
  obtain ⟨VB, HVB⟩ : ∃ n, Hid (w.heap.size = n) := ⟨_, rfl⟩
  rw [HVB.out] at HXS hlt HSZ hbase ⊢
  clear hg hx HBB HAA HXX HNS
  obtain ⟨n, HN⟩ : ∃ n, Hid (hs.length = n) := ⟨_, rfl⟩
  rw [HN.out] at hi hroom hcap hbig HFIN HBL HLEN ⊢
  have hi1 : ¬ ((i : Int) = (n : Int)) := by omega
  have hi2 : (i : Int) ≤ (n : Int) := by omega
  have hi3 : ¬ (cap = i) := by omega
  have hrm : (cap : Int) < (n : Int) + 1 := by omega
  have hie : ((i : Int) == (n : Int)) = false := by simpa using hi1
  have hw1 : IntKind.i64.wrap ((n : Int) + 1) = (n : Int) + 1 := by rw [IntKind.wrap_i64]; omega
  have hw2 : IntKind.i64.wrap ((i : Int) + 1) = (i : Int) + 1 := by rw [IntKind.wrap_i64]; omega
  have hwk : (n : Int) + 1 - (i : Int) = ((n + 1 - i : Nat) : Int) := by omega
  go_enter Tryz.func26, Tryz.ntmps26
  go_wp2_with (first
    | (at_builtin; refine wpList_zeros rfl (.tmp 34) (.tmp 39) rfl g i cap (n + 1 - i) rfl _ rfl rfl A HAL.out (fun j u hj => row_cell HG.out (HAS.out j u hj)) (by omega) (by omega) (by omega) ?_; intro w1 G Z hg1 hz1 hG1 hG2 hb1; rw [show i + (n + 1 - i) = n + 1 by omega] at hG1 ⊢; have HG1 := hid hg1; have HZ1 := hid hz1; have HGM := hid hG2; have HB1' := hid hb1; have HX2 : Hid (∀ j u, X[j]? = some u → w1.cell? ⟨VB, j, none⟩ = some u) := hid (fun j u hj => (hb1.cell (p := ⟨VB, j, none⟩) (by show VB < W.heap.size; rw [HSZ.out]; omega)).trans (HXS.out j u hj)); have hgi : ¬ G = i := (by omega); have hgi1 : ¬ G = i + 1 := (by omega); clear hg1 hz1 hG2 hb1)
    | (refine wpList_copyR rfl (.tmp 43) (.tmp 44) rfl W.heap.size (i * 5) (n + 1 - i) (G - i) ⟨VB, 0, none⟩ 1 1 rfl rfl (A ++ Z) X HG1.out (by rw [HXL.out]; simp only [Nat.min_def]; split <;> omega) (fun j u hj => by rw [add_none, Nat.zero_add]; exact HX2.out j u hj) (by rw [HXL.out, List.length_append, HZ1.out]; omega) HX1.out ?_; intro w2 v2 hg2 hb2; have HG2 := hid hg2; have HB2 := hid hb2; clear hg2 hb2))
  have hw3 : ((i : Int) + 1).toNat = i + 1 := by omega
  have hw4 : (0 : Int) ≤ (i : Int) + 1 := by omega
  have hw6 : (i : Int) ≤ (n : Int) := by omega
  have HL2 : Hid ((laid (A ++ Z) (i * 5) X).length = G * 5) := hid (by rw [laid_len _ _ _ (by rw [HXL.out, List.length_append, HZ1.out]; omega), List.length_append, HZ1.out])
  have HGG : Hid (w2.heap[g]? = some (.cells L.toArray 41 (0, 0))) := hid (by
    have e1 := HB2.out.block g (by have := HB1'.out.size; rw [HSZ.out] at this; omega) (by rw [HSZ.out]; omega)
    have e2 := HB1'.out.block g (by rw [HSZ.out]; omega)
    rw [e1, e2]; exact HG.out)
  go_region_law (refine step_copyR rfl (.tmp 50) (.tmp 53) rfl W.heap.size ((i + 1) * 5) (n - i) (G - (i + 1)) ⟨g, i * 5, none⟩ (n - i) (cap - i) (by simp [Act.eval, Act.put]) (by simp [Act.eval, Act.put]) (laid (A ++ Z) (i * 5) X) B HG2.out (by rw [HBL.out]; congr 1; simp only [Nat.min_def]; split <;> omega) (fun j u hj => by rw [add_none]; exact row_cell HGG.out (HBS.out j u hj)) (by rw [HBL.out, HL2.out]; omega) HB1.out ?_; intro w3 v3 hg3 hb3; have HG3 := hid hg3; have HB3 := hid hb3; clear hg3 hb3)
  all_goals
    go_wp2_with fail
    go_ret
    refine ⟨_, rfl, ownR_row (by rw [HSZ.out]; omega) HG3.out HLEN.out hG1 HGM.out ?_ ?_, ?_⟩
    · rw [laid_len _ _ _ (by rw [HBL.out, HL2.out]; omega), HL2.out]
    · rw [HFIN.out, HCEL.out]
    · refine grown_below ?_
      exact (HB1'.out.trans (HB2.out.below (Nat.le_refl _) HB1'.out.size)).trans (((((But.refl W.heap.size w2).drawn 1).trans HB3.out)).below (Nat.le_refl _) (Nat.le_trans HB1'.out.size HB2.out.size))

theorem Insert_any (base : Nat) (v : Value) (hs : List Pl.RH) (i : Nat) (x : Pl.RH) (w : World) (hown : OwnR w base v hs) (hbase : base ≤ w.heap.size) (hb : hs.length ≤ 2000000) (hi : i ≤ hs.length) :
    Calls Tryz.prog 26 #[v, .int .i64 i, .slice (some ⟨w.heap.size, 0, none⟩) 1 1] (w.alloc (rtObj x)) fun e w' =>
      ∃ v', e = .returned v' ∧ OwnR w' base v' (hs.take i ++ x :: hs.drop i) ∧ (w.alloc (rtObj x)).grownBy w' v.ownBlock := by
  rcases Nat.lt_or_ge i hs.length with h | h
  · obtain ⟨g, cap, L, rfl, hbg, hg, hn, hm, hL, hx⟩ := hown.row (by omega)
    rcases Nat.lt_or_ge cap (hs.length + 1) with hc | hc
    · exact Insert_grow base hs i x w g cap L h hbase hg hn hc hb hx
    · exact Insert_room base hs i x w g cap L h hbg hg hc hm hL hx
  · obtain rfl : i = hs.length := by omega
    rw [List.take_of_length_le (Nat.le_refl _), List.drop_of_length_le (Nat.le_refl _)]
    exact (Insert_end base v hs x w hown hbase hb).mono fun e w' ⟨v', h1, h2, h3, _⟩ => ⟨v', h1, h2, h3⟩
end Go.Proofs.YtpaobnhcbeklfaaGreatDoor
/-
  Contract: slices.Delete of one route of a row of one's own.
-/
namespace Go.Proofs.YtpaobnhcbeklfaaGreatDoor
open Go.RowKit
set_option maxRecDepth 20000

theorem OwnR.head {w : World} {base g cap : Nat} {hs : List Pl.RH} (h : OwnR w base (.slice (some ⟨g, 0, none⟩) hs.length cap) hs) (i : Nat) (hi : i ≤ hs.length) : OwnR w base (.slice (some ⟨g, 0, none⟩) i cap) (hs.take i) := by
  obtain ⟨_, h | ⟨g', cap', cur, e, hb, hh, hn, hm, hs', hx⟩⟩ := h
  · simp at h
  · simp only [Value.slice.injEq, Option.some.injEq, Addr.mk.injEq, and_true] at e
    obtain ⟨rfl, _, rfl⟩ := e
    have hl : (hs.take i).length = i := by simp; omega
    refine ⟨cellsR_len _, .inr ⟨g, cap, cur, by rw [hl], hb, hh, by omega, hm, hs', ?_⟩⟩
    rw [hl]
    have : cur.toList.take (i * 5) = (cur.toList.take (hs.length * 5)).take (i * 5) := by rw [List.take_take]; congr 1; omega
    rw [this, hx, cellsR_cut hs i, List.take_append_of_le_length (by rw [cellsR_len, hl]; exact Nat.le_refl _), List.take_of_length_le (by rw [cellsR_len, hl]; exact Nat.le_refl _)]

theorem step_appendR {w : World} {ops : Array Oper} {o : Oper} {a : Act} {K : Act → World → Prop} {Q : Exit → Act → World → Prop} {E : Prop} (hgd : o.guard = none) (s x : Operand)
    (ho : o.op = .call { callee := .builtin .append, args := #[s, x], argTypes := #[23, 23] })
    (base g k cap : Nat) (hs : List Pl.RH) (hk : hs.length = k) (hs' : a.eval s = .slice (some ⟨g, 0, none⟩) k cap) (hown : OwnR w base (.slice (some ⟨g, 0, none⟩) k cap) hs) (ad : Addr) (m c : Nat) (ns : List Pl.RH) (hx : a.eval x = .slice (some ad) m c) (hn : ns.length = m)
    (hsrc : ∀ j u, (cellsR ns)[j]? = some u → w.cell? (ad.add j) = some u) (hroom : k + m ≤ cap)
    (h : ∀ w', OwnR w' base (.slice (some ⟨g, 0, none⟩) (k + m) cap) (hs ++ ns) → w.grownBy w' (some g) → K (a.put o.dst (.slice (some ⟨g, 0, none⟩) (k + m) cap)) w') : if Region.wanted o (yielded ops a.tmps) = true then Oper.wp Tryz.prog o a w K Q else E := by
  have hw : Region.wanted o (yielded ops a.tmps) = true := by simp [Region.wanted, hgd]
  rw [if_pos hw]
  subst hk
  obtain ⟨i0, hi0, hz0, hz1, hz2⟩ := partsOf infoRoute
  obtain ⟨w', hrun, r1, r2⟩ := run_append_fits (P := Tryz.prog) w base 23 o.type 41 i0 5 Tryz.underlying23 hi0 hz1 g hs.length cap (cellsR hs) hown ad m c (cellsR ns) (by rw [cellsR_len, hn]) hsrc (cellsR_one _) hroom
  unfold Oper.wp
  simp [execOp, ho, resolve, invoke, builtin, hs', hx, hrun, Result.andThen]
  exact h w' (ownR_of r1 (by rw [cellsR_append])) r2

theorem run_clearR (w : World) (g o c : Nat) (L : List Value) (hg : w.heap[g]? = some (.cells L.toArray 41 (0, 0))) (hfit : o + 5 ≤ L.length) (ty : TypeId) :
    (Builtin.clear_ #[23] ty #[.slice (some ⟨g, o, none⟩) 1 c]).run Tryz.prog w = .ok (.tuple #[]) (w.setRow g (laid L o [.int .i64 0, .int .i64 0, .bool false, .int .i64 0, .slice none 0 0]).toArray) := by
  have hv : ∀ w, (zeroValue 41).run Tryz.prog w = .ok (.agg #[.int .i64 0, .int .i64 0, .bool false, .int .i64 0, .slice none 0 0]) w := Tryz.zeroValue41
  have hz : (Builtin.zeroCells (Value.agg #[.int .i64 0, .int .i64 0, .bool false, .int .i64 0, .slice none 0 0]).cells 1).toList = [.int .i64 0, .int .i64 0, .bool false, .int .i64 0, .slice none 0 0] := by kernel_rfl
  have hst := run_storeCells_at Tryz.prog g o 41 [.int .i64 0, .int .i64 0, .bool false, .int .i64 0, .slice none 0 0] 0 L.toArray w hg (by simpa using hfit) (by intro v hv; simp at hv; rcases hv with rfl | rfl | rfl | rfl | rfl <;> rfl)
  simp only [Nat.add_zero] at hst
  simp only [Builtin.clear_]
  simp [run_underlying Tryz.underlying23, hv, hz, hst, laid]

theorem wpList_clearR {w : World} {ops : Array Oper} {rest : List Oper} {o : Oper} {a : Act} {Q : Exit → Act → World → Prop} (hgd : o.guard = none) (s : Operand)
    (ho : o.op = .call { callee := .builtin .clear, args := #[s], argTypes := #[23] })
    (base g n cap off c : Nat) (hs' : a.eval s = .slice (some ⟨g, off, none⟩) 1 c) (hs : List Pl.RH) (hown : OwnR w base (.slice (some ⟨g, 0, none⟩) n cap) hs) (hn : hs.length = n) (hoff : off = n * 5) (hfit : n + 1 ≤ cap)
    (h : ∀ w' v', OwnR w' base (.slice (some ⟨g, 0, none⟩) n cap) hs → But g w w' → wpList Tryz.prog ops Q rest (a.put o.dst v') w') : wpList Tryz.prog ops Q (o :: rest) a w := by
  subst hn
  obtain ⟨_, h0 | ⟨g', cap', cur, e, hb, hh, hn, hm, hsz, hx⟩⟩ := hown
  · simp at h0
  · simp only [Value.slice.injEq, Option.some.injEq, Addr.mk.injEq, and_true] at e
    obtain ⟨rfl, _, rfl⟩ := e
    have hgL : w.heap[g]? = some (.cells cur.toList.toArray 41 (0, 0)) := by simpa using hh
    have hfit2 : off + 5 ≤ cur.toList.length := by simp; omega
    have hrun := run_clearR w g off c cur.toList hgL hfit2 o.type
    refine wpList_plain hgd fun K hK => ?_
    unfold Oper.wp
    simp [execOp, ho, resolve, invoke, builtin, hs', hrun, Result.andThen]
    refine hK _ _ (h _ _ (ownR_row hb (setRow_heap w g _ _ _ _ hgL) rfl hn hm ?_ ?_) (But.row w g _))
    · rw [laid_len _ _ _ (by simpa using hfit2)]
      simpa using hsz
    · unfold laid
      rw [List.append_assoc, List.take_append_of_le_length (by simp; omega), List.take_take, show min (hs.length * 5) off = hs.length * 5 by omega, hx]

end Go.Proofs.YtpaobnhcbeklfaaGreatDoor
/-
  Contracts: a route laid at its place (rib.lay); a table without some prefixes (rib.without).
-/
namespace Go.Proofs.YtpaobnhcbeklfaaGreatDoor
open Go.RowKit
set_option maxRecDepth 20000

/-- one route of a row laid anew -/
def set5 (w : World) (g o : Nat) (x : Pl.RH) : World := ((((w.setCell ⟨g, o, none⟩ (.int .i64 x.p.1)).setCell ⟨g, o + 1, none⟩ (.int .i64 x.p.2)).setCell ⟨g, o + 2, none⟩ (.bool x.here)).setCell ⟨g, o + 3, none⟩ (.int .i64 x.cost)).setCell ⟨g, o + 4, none⟩ (.slice x.ha x.hl x.hc)
theorem cellsR_set : ∀ (hs : List Pl.RH) (i : Nat) (x : Pl.RH), cellsR (hs.set i x) = (((((cellsR hs).set (i * 5) (.int .i64 x.p.1)).set (i * 5 + 1) (.int .i64 x.p.2)).set (i * 5 + 2) (.bool x.here)).set (i * 5 + 3) (.int .i64 x.cost)).set (i * 5 + 4) (.slice x.ha x.hl x.hc)
  | [], i, x => by simp [cellsR]
  | e :: r, 0, x => by simp [cellsR, cellsH]
  | e :: r, i + 1, x => by
    rw [List.set_cons_succ, cellsR, cellsR_set r i x, show (i + 1) * 5 = i * 5 + 5 by omega]
    simp [cellsR, cellsH]
theorem blk_setR {w : World} {g o : Nat} {cur : Array Value} {T : TypeId} {v : Value} (h : w.heap[g]? = some (.cells cur T (0, 0))) : (w.setCell ⟨g, o, none⟩ v).heap[g]? = some (.cells (cur.setIfInBounds o v) T (0, 0)) := by
  rw [setCell_eq_setRow w g o cur T (0, 0) v h]
  exact setRow_heap w g _ _ _ _ h
theorem OwnR.set {w : World} {base g cap : Nat} {hs : List Pl.RH} (h : OwnR w base (.slice (some ⟨g, 0, none⟩) hs.length cap) hs) (i : Nat) (x : Pl.RH) : OwnR (set5 w g (i * 5) x) base (.slice (some ⟨g, 0, none⟩) hs.length cap) (hs.set i x) := by
  obtain ⟨_, h | ⟨g', cap', cur, e, hb, hh, hn, hm, hs', hx⟩⟩ := h
  · simp at h
  · simp only [Value.slice.injEq, Option.some.injEq, Addr.mk.injEq, and_true] at e
    obtain ⟨rfl, _, rfl⟩ := e
    refine ⟨by simp [cellsR_len], .inr ⟨g, cap, _, by simp, hb, blk_setR (blk_setR (blk_setR (blk_setR (blk_setR hh)))), by simpa using hn, hm, by simpa using hs', ?_⟩⟩
    simp only [Array.toList_setIfInBounds, List.take_set, List.length_set]
    rw [hx, cellsR_set]
theorem But.set5 (w : World) (g o : Nat) (x : Pl.RH) : But g w (set5 w g o x) := (((((But.refl g w).setCell _ _).setCell _ _).setCell _ _).setCell _ _).setCell _ _
theorem OwnR.opened {w : World} {base : Nat} {v : Value} {hs : List Pl.RH} (h : OwnR w base v hs) (hne : 0 < hs.length) :
    ∃ g cap, v = .slice (some ⟨g, 0, none⟩) hs.length cap ∧ base ≤ g ∧ g < w.heap.size ∧ hs.length ≤ cap ∧ cap ≤ maxLen ∧ RowsAt w g 0 hs ∧ (∀ o, w.frozen? ⟨g, o, none⟩ = false) := by
  obtain ⟨a, cap, rfl, hr, hb⟩ := h.rows
  obtain ⟨b, off, rfl, hlt, hra⟩ := hr.at (k := 0) (by omega)
  obtain ⟨g, cap', L, e, hbg, hg, _⟩ := h.row hne
  simp only [Value.slice.injEq, Option.some.injEq, Addr.mk.injEq, and_true] at e
  obtain ⟨⟨rfl, rfl⟩, _⟩ := e
  exact ⟨b, cap, rfl, hbg, hlt, hr.2.1, hr.2.2.1, hra, fun o => by simp [World.frozen?, hg]⟩
theorem Pl.set_eq (hs : List Pl.RH) (i : Nat) (x : Pl.RH) (h : i < hs.length) : hs.set i x = hs.take i ++ x :: hs.drop (i + 1) := List.set_eq_take_append_cons_drop .. |>.trans (by rw [if_pos h])

/-- what is laid at a place, as it lies in memory -/
def Pl.layH (hs : List Pl.RH) (i : Nat) (instead : Bool) (x : Pl.RH) : List Pl.RH := hs.take i ++ x :: hs.drop (if instead then i + 1 else i)

theorem ReadsAll.take {w : World} {hs : List Pl.RH} {rs : List Pl.Rt} (h : ReadsAll w hs rs) (n : Nat) : ReadsAll w (hs.take n) (rs.take n) := by
  refine ⟨by simp [h.1], fun i hi => ?_⟩
  simp only [List.length_take] at hi
  rw [Pl.rh_take hs n i (by omega) (by omega)]
  have : Pl.rt (rs.take n) i = Pl.rt rs i := by
    have := h.1
    rw [Pl.rt_eq _ _ (by simp; omega), Pl.rt_eq _ _ (by omega)]; simp
  rw [this]
  exact h.2 i (by omega)
theorem ReadsAll.drop {w : World} {hs : List Pl.RH} {rs : List Pl.Rt} (h : ReadsAll w hs rs) (n : Nat) : ReadsAll w (hs.drop n) (rs.drop n) := by
  refine ⟨by simp [h.1], fun i hi => ?_⟩
  simp only [List.length_drop] at hi
  rw [Pl.rh_drop hs n i (by omega)]
  have : Pl.rt (rs.drop n) i = Pl.rt rs (n + i) := by
    have := h.1
    rw [Pl.rt_eq _ _ (by simp; omega), Pl.rt_eq _ _ (by omega)]; simp
  rw [this]
  exact h.2 (n + i) (by omega)
theorem ReadsAll.append {w : World} {hs gs : List Pl.RH} {rs ss : List Pl.Rt} (h : ReadsAll w hs rs) (k : ReadsAll w gs ss) : ReadsAll w (hs ++ gs) (rs ++ ss) := by
  refine ⟨by simp [h.1, k.1], fun i hi => ?_⟩
  simp only [List.length_append] at hi
  rcases Nat.lt_or_ge i hs.length with q | q
  · rw [Pl.rh_app_lt _ _ _ q, Pl.rt_app_lt _ _ _ (by rw [← h.1]; exact q)]
    exact h.2 i q
  · have e1 : Pl.rh (hs ++ gs) i = Pl.rh gs (i - hs.length) := by
      rw [Pl.rh_eq _ _ (by simp; omega), Pl.rh_eq _ _ (by omega), List.getElem_append_right q]
    have e2 : Pl.rt (rs ++ ss) i = Pl.rt ss (i - hs.length) := by
      have h1 := h.1
      have h2 := k.1
      rw [Pl.rt_eq _ _ (by simp; omega), Pl.rt_eq _ _ (by omega), List.getElem_append_right (by omega)]
      simp [h1]
    rw [e1, e2]
    exact k.2 _ (by omega)
theorem ReadsAll.one {w : World} {x : Pl.RH} {r : Pl.Rt} (h : Reads w x r) : ReadsAll w [x] [r] := ⟨rfl, fun i hi => by simp at hi; subst hi; exact h⟩
theorem ReadsAll.lay {w : World} {hs : List Pl.RH} {rs : List Pl.Rt} {x : Pl.RH} {r : Pl.Rt} (h : ReadsAll w hs rs) (hr : Reads w x r) : ReadsAll w (Pl.layH hs (Pl.posP (Pl.hp hs) x.p) (Pl.thereP (Pl.hp hs) x.p) x) (Pl.insR rs r) := by
  rw [← Pl.lay_insR]
  have e : Pl.hp hs = rs.map Pl.Rt.p := h.map_p
  rw [e, hr.1]
  unfold Pl.layH Pl.layR
  exact (h.take _).append ((ReadsAll.one hr).append (h.drop _))
theorem ReadsAll.del {w : World} {hs : List Pl.RH} {rs : List Pl.Rt} {p : Int × Int} (h : ReadsAll w hs rs) (ht : Pl.thereP (Pl.hp hs) p = true) : ReadsAll w (hs.take (Pl.posP (Pl.hp hs) p) ++ hs.drop (Pl.posP (Pl.hp hs) p + 1)) (Pl.delR rs p) := by
  have e : Pl.hp hs = rs.map Pl.Rt.p := h.map_p
  rw [e] at ht ⊢
  unfold Pl.delR
  rw [if_pos ht]
  exact (h.take _).append (h.drop _)
theorem ReadsAll.asc {w : World} {hs : List Pl.RH} {rs : List Pl.Rt} (h : ReadsAll w hs rs) (hs' : Pl.SrtR rs) : Pl.AscP (Pl.hp hs) := by
  show Pl.AscP (hs.map Pl.RH.p)
  rw [h.map_p]
  exact (Pl.ascP_srt rs).2 hs'

theorem append_copyR {w : World} {ops : Array Oper} {rest : List Oper} {o : Oper} {a : Act} {Q : Exit → Act → World → Prop} (hgd : o.guard = none) (s x : Operand)
    (ho : o.op = .call { callee := .builtin .append, args := #[s, x], argTypes := #[23, 23] })
    (ao : Option Addr) (len cap : Nat) (hs : List Pl.RH) (hs' : a.eval s = .slice none 0 0) (hx : a.eval x = .slice ao len cap) (hE : IsRows w ao len cap hs) (hb : len ≤ 2000000)
    (h : ∀ v' w', OwnR w' w.heap.size v' hs → Below w.heap.size w w' → wpList Tryz.prog ops Q rest (a.put o.dst v') w') : wpList Tryz.prog ops Q (o :: rest) a w := by
  obtain ⟨i0, hi0, hz0, hz1, hz2⟩ := partsOf infoRoute
  obtain ⟨hl, hc, hm, hnil, hrow⟩ := hE
  rcases ao with _ | ad
  · obtain rfl := hnil rfl
    obtain rfl : len = 0 := by omega
    obtain rfl : hs = [] := List.length_eq_zero_iff.1 hl
    exact wpList_append_own_none hgd s x 23 ho w.heap.size 41 i0 5 Tryz.underlying23 hi0 _ 0 [] hs' (World.ownsRow_nil _ _ _ _) hx (h _ _ (OwnR.nil _ _) (Below.refl _ _))
  · refine wpList_append_own (w := w) hgd s x 23 ho w.heap.size 41 i0 _ 5 56 Tryz.underlying23 hi0 hz0 hz1 hz2 rfl (by decide) _ 0 [] hs' (World.ownsRow_nil _ _ _ _) ad len cap (cellsR hs) hx (by rw [cellsR_len, hl]) ?_ (cellsR_one _) (by unfold maxLen; omega) (by omega) (Nat.le_refl _) ?_
    · intro j u hj
      rcases hrow with rfl | ⟨b, off, hba, _, hr⟩
      · simp [cellsR] at hj
      · cases hba
        rw [add_none]
        exact (rowsAt_cells _ _).1 hr j u hj
    · intro v' w' hown hg _
      rw [List.nil_append] at hown
      exact h v' w' (ownR_of hown rfl) ((Below.refl _ _).grown hg (Nat.le_refl _) (by intro k hk; cases hk))

theorem Pl.take_prR (ps : List (Int × Int)) (k : Nat) (h : k < ps.length) : ps.take (k + 1) = ps.take k ++ [Pl.pr ps k] := by
  rw [List.take_succ_eq_append_getElem h, Pl.pr_eq ps k h]
theorem Pl.delsR_succ (rs : List Pl.Rt) (ps : List (Int × Int)) (k : Nat) (h : k < ps.length) : Pl.delsR rs (ps.take (k + 1)) = Pl.delR (Pl.delsR rs (ps.take k)) (Pl.pr ps k) := by
  unfold Pl.delsR
  rw [Pl.take_prR ps k h, List.foldl_append]; rfl
theorem OwnR.block {w : World} {base : Nat} {v : Value} {hs : List Pl.RH} (h : OwnR w base v hs) : ∀ k, v.ownBlock = some k → base ≤ k := fun k hk => (World.ownsRow.lt h k hk).1

end Go.Proofs.YtpaobnhcbeklfaaGreatDoor
/-
  Contract: a table that is patched (rib.Patch).
-/
namespace Go.Proofs.YtpaobnhcbeklfaaGreatDoor
open Go.RowKit
set_option maxRecDepth 20000

theorem Pl.inssR_cut (rs ss : List Pl.Rt) (k : Nat) : Pl.inssR rs ss = Pl.inssR (Pl.inssR rs (ss.take k)) (ss.drop k) := by
  unfold Pl.inssR
  rw [← List.foldl_append, List.take_append_drop]
theorem Pl.inssR_succ (rs ss : List Pl.Rt) (k : Nat) (h : k < ss.length) : Pl.inssR rs (ss.take (k + 1)) = Pl.insR (Pl.inssR rs (ss.take k)) (Pl.rt ss k) := by
  unfold Pl.inssR
  rw [Pl.take_rt ss k h, List.foldl_append]; rfl
theorem Pl.pat_size {a set : List Pl.Rt} {gone : List (Int × Int)} {k : Nat} (ha : Pl.tabF a = 0) (h : 200 < (Pl.inssR (Pl.delsR a gone) (set.take k)).length) : Pl.patC a set gone = 1 ∧ Pl.patL a set gone = [] := by
  have h1 : 200 < (Pl.patR a set gone).length := by
    unfold Pl.patR
    rw [Pl.inssR_cut _ set k]
    exact Nat.lt_of_lt_of_le h (Pl.inssR_len_ge _ _)
  have h2 := Pl.tabF_size h1
  unfold Pl.patC Pl.patL
  rw [if_pos ha, if_pos ha, h2]
  exact ⟨rfl, by rw [if_neg (by decide)]⟩
theorem Pl.rh_set_ne (hs : List Pl.RH) (k j : Nat) (x : Pl.RH) (h : j ≠ k) : Pl.rh (hs.set k x) j = Pl.rh hs j := by
  unfold Pl.rh
  rw [List.getD_eq_getElem?_getD, List.getD_eq_getElem?_getD, List.getElem?_set_ne (Ne.symm h)]
theorem Pl.rh_set_at (hs : List Pl.RH) (k : Nat) (x : Pl.RH) (h : k < hs.length) : Pl.rh (hs.set k x) k = x := by
  rw [Pl.rh_eq _ _ (by simpa using h)]; simp
/-- what a row of routes bears that one route of it is laid anew -/
theorem ReadsZ.set {w : World} {base b2 g o cap : Nat} {h x : Pl.RH} {r : Pl.Rt} {es : List Pl.RH} (hz : ReadsZ w base h r) (ho : OwnR w b2 (.slice (some ⟨g, 0, none⟩) es.length cap) es) : ReadsZ (set5 w g o x) base h r := by
  obtain ⟨q1, q2, q3, q4, q5⟩ := hz
  refine ⟨q1, q2, q3, q4.but (But.set5 w g o x) ?_, q5⟩
  rcases apartZR q4 ho with h | h
  · exact .inr (by rw [h]; simp)
  · exact .inr h

end Go.Proofs.YtpaobnhcbeklfaaGreatDoor
/-
  Contracts: the document's hasPrefix and PatchedOf.
-/
namespace Go.Proofs.YtpaobnhcbeklfaaGreatDoor
open Go.RowKit
set_option maxRecDepth 20000

theorem box2' {w w3 : World} {c0 c1 : Value} {T : TypeId} (hb : Below (w.heap.size + 1) (w.alloc (.cells #[c0, c1] T)) w3) :
    w3.cell? ⟨w.heap.size, 0, none⟩ = some c0 ∧ w3.cell? ⟨w.heap.size, 1, none⟩ = some c1 ∧ w.heap.size < w3.heap.size ∧ Below w.heap.size w w3 := box2 hb

set_option maxHeartbeats 2000000 in
theorem hasPrefix_any (a : Option Addr) (len cap : Nat) (ps : List (Int × Int)) (p1 p2 : Int) (w : World) (h : IsPairs w a len cap ps) :
    Calls Tryz.prog 12 #[.slice a len cap, .agg #[.int .i64 p1, .int .i64 p2]] w fun e w' => e = .returned (.bool (decide ((p1, p2) ∈ ps))) ∧ Below w.heap.size w w' := by
  obtain ⟨hl, hc, hm, _, hrow⟩ := h
  unfold maxLen at hm
  have HL := hid hl
  have HROW := hid hrow
  clear hl hrow
  obtain ⟨R, HR⟩ : ∃ R, Hid (decide ((p1, p2) ∈ ps) = R) := ⟨_, rfl⟩
  rw [HR.out]
  go_enter Tryz.func12, Tryz.ntmps12
  go_wp2_with fail
  obtain ⟨W0, HW0⟩ : ∃ x, Hid (x = w.alloc (.cells #[.int .i64 p1, .int .i64 p2] 38)) := ⟨_, rfl⟩
  have HB0 : Hid (Below w.heap.size w W0) := hid (by rw [HW0.out]; exact (Below.refl _ _).alloc (Nat.le_refl _) _)
  have HX0 : Hid (∀ W, Below W0.heap.size W0 W → W.cell? ⟨w.heap.size, 0, none⟩ = some (.int .i64 p1) ∧ W.cell? ⟨w.heap.size, 1, none⟩ = some (.int .i64 p2) ∧ w.heap.size < W.heap.size) := hid fun W hW => by
    have := box2' (w := w) (w3 := W) (c0 := .int .i64 p1) (c1 := .int .i64 p2) (T := 38) (by rw [HW0.out] at hW; simpa using hW)
    exact ⟨this.1, this.2.1, this.2.2.1⟩
  rw [← HW0.out]
  go_loopw [5] (fun i wr => ∃ k : Nat, k ≤ len ∧ i = .int .i64 k ∧ Hid (∀ t, t < k → ¬ Pl.pr ps t = (p1, p2)) ∧ Hid (Below W0.heap.size W0 wr)) (fun i _ => len - (intOf i).toNat)
  case atStart => exact ⟨0, Nat.zero_le _, rfl, hid (by intro t ht; omega), hid (Below.refl _ _)⟩
  case round =>
    obtain ⟨k, hk, rfl, HK, HBK⟩ := hrel
    obtain ⟨x0, x1, hsz⟩ := HX0.out _ HBK.out
    have HBW := hid (HB0.out.trans (HBK.out.mono HB0.out.size))
    by_cases hlt : k < len
    · obtain ⟨b, off, rfl, hbw, hr⟩ : ∃ b' off, a = some ⟨b', off, none⟩ ∧ b' < w.heap.size ∧ PairsAt w b' off ps := by
        rcases HROW.out with rfl | h
        · have := HL.out; simp at this; omega
        · exact h
      obtain ⟨c0, c1⟩ := hr.below hbw HBW.out k (by rw [HL.out]; exact hlt)
      obtain ⟨qq, HQ⟩ : ∃ x, Hid (Pl.pr ps k = x) := ⟨_, rfl⟩
      rw [HQ.out] at c0 c1
      obtain ⟨q1, q2⟩ := qq
      simp only at c0 c1
      have hlt' : (k : Int) < (len : Int) := by omega
      obtain ⟨e1, g1⟩ : ∃ c, (q1 == p1) = c := ⟨_, rfl⟩
      obtain ⟨e2, g2⟩ : ∃ c, (q2 == p2) = c := ⟨_, rfl⟩
      by_cases hfound : e1 = true ∧ e2 = true
      · obtain ⟨rfl, rfl⟩ := hfound
        have HT : Hid (R = true) := hid (by
          rw [← HR.out, decide_eq_true_eq]
          have : Pl.pr ps k = (p1, p2) := by rw [HQ.out]; simp at g1 g2; rw [g1, g2]
          rw [← this]
          exact Pl.pr_mem ps k (by rw [HL.out]; exact hlt))
        go_wp2_with fail
        go_quiet (fail)
        go_wp2_with fail
        go_ret
        exact ⟨ret_bool HT.out.symm, below_drew HBW.out _⟩
      · have HNE : Hid (¬ Pl.pr ps k = (p1, p2)) := hid fun hpr => by
          apply hfound
          rw [HQ.out] at hpr
          simp only [Prod.mk.injEq] at hpr
          rw [← g1, ← g2]
          simp [hpr.1, hpr.2]
        cases e1
        all_goals cases e2
        all_goals first | (exact absurd ⟨rfl, rfl⟩ hfound) | skip
        all_goals
          clear hfound
          go_wp2_with fail
          go_quiet (fail)
          go_wp2_with fail
          go_roundw
          case rel => exact ⟨k + 1, by omega, by go_num, hid fun t ht => by rcases Nat.lt_or_ge t k with q | q; exact HK.out t q; obtain rfl : t = k := (by omega); exact HNE.out, hid (below_drew HBK.out _)⟩
          case measure => simp [intOf]; omega
    · have HT : Hid (R = false) := hid (by
        rw [← HR.out, decide_eq_false_iff_not]
        intro hm
        obtain ⟨t, ht, e⟩ := List.getElem_of_mem hm
        have := HK.out t (by rw [HL.out] at ht; omega)
        rw [Pl.pr_eq ps t ht] at this
        exact this e)
      have hnl : ¬ ((k : Int) < (len : Int)) := by omega
      go_wp2_with fail
      go_ret
      exact ⟨ret_bool HT.out.symm, HBW.out⟩
end Go.Proofs.YtpaobnhcbeklfaaGreatDoor
/-
  Contracts, the document's side: the prefixes that a node tells in a store (PrefixesIn); is a node in a list (hasNode).
-/
namespace Go.Proofs.YtpaobnhcbeklfaaGreatDoor
open Go.RowKit
set_option maxRecDepth 20000

set_option maxHeartbeats 2000000 in
theorem PrefixesIn_any (a : Option Addr) (len cap : Nat) (es : List Pl.Ent) (n : Nat) (w : World) (h : IsEnts w a len cap es) (h0 : Pl.fault es = 0) (hn : n ≤ 1000) :
    Calls Tryz.prog 13 #[.slice a len cap, .int .i64 (n : Int)] w fun e w' => ∃ vl : Value, e = .returned vl ∧
      OwnP 38 w' w.heap.size vl (Pl.tP es n) ∧ Below w.heap.size w w' := by
  have HH := hid h
  clear h
  have hvz : (Pl.gotE es (Pl.pfxKey n)).val.size ≤ 120 := Pl.gotE_val _ _
  obtain ⟨g1, g2, g3⟩ := Pl.good_of_fault h0
  have hlen : es.length = len := HH.out.1
  have hl60 : len ≤ 60 := by omega
  have HA : Hid (Pl.Asc es) := g3
  clear g1 g2 g3
  have HD := hid (dec_any n w (by omega))
  obtain ⟨ky, HKY⟩ : ∃ ky, Hid (Pl.pfxKey n = ky) := ⟨_, hid rfl⟩
  have HK : Hid (ky = ⟨#[112, 58]⟩ ++ Pl.dec n) := hid HKY.out.symm
  have HV : Hid (Pl.gotE es (Pl.pfxKey n) = (if Pl.there es ky then Pl.ent es (Pl.pos es ky) else Pl.Ent.none)) := hid (by
    unfold Pl.gotE; rw [h0, if_pos rfl, HKY.out])
  have HTP : Hid (Pl.tP es n = Pl.rpS (Pl.gotE es (Pl.pfxKey n)).val.data.toList) := hid rfl
  have HPL := hid (fun w' (hb : Below w.heap.size w w') => placeOf_any a len cap es ky w' (HH.out.below hb))
  rw [Pl.idxI_asc HA.out] at HPL
  rw [HV.out] at HTP hvz
  rw [HK.out] at HPL HTP hvz
  clear HK HKY HV
  have hdz := Pl.dec_le n (by omega) (by omega)
  generalize Pl.dec (n : Int) = ds at *
  obtain ⟨t, HT⟩ : ∃ t, Hid (Pl.there es (⟨#[112, 58]⟩ ++ ds) = t) := ⟨_, hid rfl⟩
  obtain ⟨p, HP⟩ : ∃ t, Hid (Pl.pos es (⟨#[112, 58]⟩ ++ ds) = t) := ⟨_, hid rfl⟩
  rw [HT.out, HP.out] at HPL HTP hvz
  cases t
  · have HE : Hid (Pl.tP es n = []) := hid (by rw [HTP.out]; show Pl.rpS Pl.Ent.none.val.data.toList = []; decide)
    simp only [Bool.false_eq_true, ↓reduceIte] at HPL
    rw [HE.out]
    clear hvz
    go_enter Tryz.func13, Tryz.ntmps13
    go_wp2_with fail
    refine HD.out.mono ?_
    rintro e w1 ⟨rfl, hb1⟩
    go_wp2_with fail
    refine (HPL.out w1 hb1).mono ?_
    rintro e w2 ⟨rfl, hw2⟩
    rw [hw2]
    clear hw2 w2
    go_wp2_with fail
    go_ret
    exact ⟨_, rfl, OwnP.nil _ _ _, hb1⟩
  · have hplt : p < len := by
      have := HT.out
      unfold Pl.there at this
      simp only [Bool.and_eq_true, decide_eq_true_eq] at this
      have := HP.out
      omega
    have HE : Hid (Pl.tP es n = Pl.rpS (Pl.ent es p).val.data.toList) := hid HTP.out
    simp only [↓reduceIte] at HPL hvz
    rw [HE.out]
    obtain ⟨b, off, rfl, hbw, hr⟩ : ∃ b off, a = some ⟨b, off, none⟩ ∧ b < w.heap.size ∧ RowAt w b off es := by
      rcases HH.out.2.2.2.2 with h | h
      · rw [h] at hlen; simp at hlen; omega
      · exact h
    have hcap := HH.out.2.1
    have hm := HH.out.2.2.1
    unfold maxLen at hm
    have HR := hid hr
    clear hr
    obtain ⟨gx, HGX⟩ : ∃ x, Hid ((Pl.ent es p).val = x) := ⟨_, hid rfl⟩
    rw [HGX.out] at hvz ⊢
    obtain ⟨rc, HRC⟩ : ∃ x, Hid (Pl.rpC gx.data.toList = x) := ⟨_, hid rfl⟩
    obtain ⟨rs, HRS⟩ : ∃ x, Hid (Pl.rpS gx.data.toList = x) := ⟨_, hid rfl⟩
    rw [HRS.out]
    have hlen' := hid hlen
    clear hlen
    go_enter Tryz.func13, Tryz.ntmps13
    go_wp2_with fail
    refine HD.out.mono ?_
    rintro e w1 ⟨rfl, hb1⟩
    have HB1 := hid hb1
    go_wp2_with fail
    refine (HPL.out w1 hb1).mono ?_
    rintro e w2 ⟨rfl, hw2⟩
    rw [hw2]
    clear hw2 w2
    obtain ⟨_, _, _, q3⟩ := HR.out.below hbw hb1 p (by rw [hlen'.out]; omega)
    rw [HGX.out] at q3
    have hlt' : (p : Int) < (len : Int) := by omega
    have hbr : b < w1.heap.size := by have := hb1.size; omega
    clear hb1
    go_wp2_with fail
    refine (PrefixesOf_any gx _ (by omega)).mono ?_
    rw [HRC.out, HRS.out]
    rintro e w3 ⟨v3, rfl, ho3, hb3⟩
    go_wp2_with fail
    go_ret
    exact ⟨v3, rfl, ho3.mono HB1.out.size, HB1.out.trans (hb3.mono HB1.out.size)⟩

set_option maxHeartbeats 1000000 in
theorem hasNode_any (a : Option Addr) (len cap : Nat) (xs : List Int) (n : Int) (w : World) (h : IsInts w a len cap xs) :
    Calls Tryz.prog 14 #[.slice a len cap, .int .i64 n] w fun e w' => e = .returned (.bool (decide (n ∈ xs))) ∧ Below w.heap.size w w' := by
  have HA := hid h
  have HL : Hid (xs.length = len) := hid h.1
  have hc := h.2.1
  have hm := h.2.2.1
  unfold maxLen at hm
  clear h
  obtain ⟨R, HR⟩ : ∃ R, Hid (decide (n ∈ xs) = R) := ⟨_, hid rfl⟩
  rw [HR.out]
  go_enter Tryz.func14, Tryz.ntmps14
  go_wp2_with fail
  go_loopw [5] (fun i wr => ∃ k : Nat, k ≤ len ∧ i = .int .i64 k ∧ Hid (∀ t, t < k → ¬ Pl.nm xs t = n) ∧ Hid (Below w.heap.size w wr)) (fun i _ => len - (intOf i).toNat)
  case atStart => exact ⟨0, Nat.zero_le _, rfl, hid (fun t h => by omega), hid (Below.refl _ _)⟩
  case round =>
    obtain ⟨k, hk, rfl, HN, HB⟩ := hrel
    by_cases hlt : k < len
    · obtain ⟨b, off, rfl, hb, hr⟩ := HA.out.at hlt
      have c0 := (HB.out.cell (p := ⟨b, off + k, none⟩) hb).trans (hr k (by rw [HL.out]; exact hlt))
      have hbr : b < wr.heap.size := Nat.lt_of_lt_of_le hb HB.out.size
      have hlt' : (k : Int) < (len : Int) := by omega
      have HNK := hid (Pl.nm_eq xs k (by rw [HL.out]; exact hlt))
      obtain ⟨y, HY⟩ : ∃ y, Hid (Pl.nm xs k = y) := ⟨_, hid rfl⟩
      rw [HY.out] at c0
      clear hr
      by_cases e : y = n
      · have HRT : Hid (R = true) := hid (by rw [← HR.out]; exact decide_eq_true (by rw [← e, ← HY.out, HNK.out]; exact List.getElem_mem _))
        have e' : (y == n) = true := by simpa using e
        clear e
        go_wp2_with fail
        go_ret
        exact ⟨by rw [HRT.out]; rfl, HB.out⟩
      · have e' : (y == n) = false := by simpa using e
        have HNS : Hid (∀ t, t < k + 1 → ¬ Pl.nm xs t = n) := hid fun t ht => by
          rcases Nat.lt_or_ge t k with g | g
          · exact HN.out t g
          · rw [show t = k by omega, HY.out]; exact e
        clear e
        go_wp2_with fail
        go_roundw
        case rel => exact ⟨k + 1, by omega, by go_num, HNS, HB⟩
        case measure => simp [intOf]; omega
    · obtain rfl : k = len := by omega
      have HRF : Hid (R = false) := hid (by
        rw [← HR.out]
        refine decide_eq_false fun hm => ?_
        obtain ⟨i, hi, e⟩ := List.getElem_of_mem hm
        exact HN.out i (by rw [← HL.out]; exact hi) (by rw [Pl.nm_eq xs i hi]; exact e))
      go_wp2_with fail
      go_ret
      exact ⟨by rw [HRF.out]; rfl, HB.out⟩
end Go.Proofs.YtpaobnhcbeklfaaGreatDoor
/-
  Plain: a table while the prefixes of one node are offered; no program in sight.
-/
namespace Go.Proofs.YtpaobnhcbeklfaaGreatDoor
open Go.RowKit
set_option maxRecDepth 20000

theorem Pl.offs_take_succ (C H node n) (rs : List Pl.Rt) (ps : List (Int × Int)) (j : Nat) (h : j < ps.length) : Pl.offs C H node n rs (ps.take (j + 1)) = Pl.offR (Pl.offs C H node n rs (ps.take j)) (Pl.mkR C H node n (Pl.pr ps j)) := by
  unfold Pl.offs
  rw [List.take_add_one, List.getElem?_eq_getElem h, List.foldl_append, Pl.pr_eq ps j h]
  rfl
theorem Pl.mem_take_pr {ps : List (Int × Int)} (hn : ps.Nodup) {j : Nat} (h : j < ps.length) : ¬ Pl.pr ps j ∈ ps.take j := by
  intro hm
  rw [Pl.pr_eq ps j h] at hm
  obtain ⟨i, hi, e⟩ := List.getElem_of_mem hm
  have hi' : i < j := by simp at hi; omega
  rw [List.getElem_take] at e
  have := (List.nodup_iff_pairwise_ne.1 hn)
  exact (List.pairwise_iff_getElem.1 this i j (by omega) h hi') e
/-- a route that costs nothing comes of the node itself -/
theorem Pl.getT_zero {C H P node} (hC : ∀ n, n < 12 → C n = 0 → n = node) (q : Int × Int) : ∀ k, k ≤ 12 → ∀ a, Pl.getT C H P node q k = some a → a.cost = 0 → node < k
  | 0, _, a, e, _ => by cases e
  | k + 1, hk, a, e, h0 => by
    have ih := Pl.getT_zero (H := H) (P := P) hC q k (by omega)
    unfold Pl.getT at e
    split at e
    · have := ih a e h0; omega
    · cases e
      cases ho : Pl.getT C H P node q k with
      | none =>
        rw [ho] at h0
        have := hC k (by omega) h0; omega
      | some b =>
        rw [ho] at h0
        have h1 : (Pl.bestR b (Pl.mkR C H node k q)).cost = 0 := h0
        unfold Pl.bestR at h1
        split at h1
        · have := hC k (by omega) h1; omega
        · split at h1
          · have := ih b ho h1; omega
          · have := ih b ho h1; omega
/-- what is wanted of a table to which one more prefix of a node is offered -/
theorem Pl.offs_ready (es : List Pl.Ent) {f k : Nat} (hf : f < 12) (hk : k < 12) (hc : 0 ≤ Pl.wC es f k) {j : Nat} (hj : j < (Pl.tP es k).length) :
    let rs := Pl.offs (Pl.wC es f) (Pl.wH es f) f k (Pl.tabK (Pl.wC es f) (Pl.wH es f) (Pl.tP es) f k) ((Pl.tP es k).take j)
    Pl.SrtR rs ∧ rs.length ≤ 78 ∧ (∀ q ∈ rs, Pl.hopsB q.hops = true) ∧ (∀ q ∈ rs, q.p = Pl.pr (Pl.tP es k) j → Pl.wC es f k = q.cost → q.hops ≠ []) := by
  intro rs
  have hn : ∀ i, (Pl.tP es i).Nodup := fun _ => Pl.rpS_nodup _
  have hl : ∀ i, (Pl.tP es i).length ≤ 6 := fun _ => (Pl.rpS_good _).1
  have hs0 := Pl.tabK_srt (Pl.wC es f) (Pl.wH es f) (Pl.tP es) f k
  have hs : Pl.SrtR rs := Pl.offs_srt _ _ _ _ _ _ hs0
  have hnt : ((Pl.tP es k).take j).Nodup := (List.take_sublist _ _).nodup (hn k)
  have hok : ∀ q ∈ rs, Pl.okR q := by
    intro q hq
    have h1 := Pl.getR_mem hs hq
    rw [Pl.offs_get _ _ _ _ _ _ _ hs0 hnt, Pl.tabK_get hn] at h1
    have ih := Pl.getT_ok (Pl.tab_WP es hf) q.p k (by omega)
    split at h1
    · rename_i hm
      rw [← Option.some.inj h1]
      exact Pl.more_ok (fun a ha => (ih a ha).1) (Pl.tab_WP es hf k hk hc _ (List.mem_of_mem_take hm))
    · exact (ih q h1).1
  refine ⟨hs, ?_, fun q hq => ((Pl.routeB_iff q).1 (hok q hq).1).2.2.2, fun q hq hp hce hh => ?_⟩
  · have h1 := Pl.offs_len (Pl.wC es f) (Pl.wH es f) f k ((Pl.tP es k).take j) (Pl.tabK (Pl.wC es f) (Pl.wH es f) (Pl.tP es) f k)
    have h2 := Pl.tabK_len (C := Pl.wC es f) (H := Pl.wH es f) (node := f) hl k
    have h3 := hl k
    have h4 : ((Pl.tP es k).take j).length ≤ 6 := by simp; omega
    show (Pl.offs _ _ _ _ _ _).length ≤ 78
    omega
  · have h1 := Pl.getR_mem hs hq
    rw [Pl.offs_get _ _ _ _ _ _ _ hs0 hnt, Pl.tabK_get hn, hp, if_neg (Pl.mem_take_pr (hn k) hj)] at h1
    obtain ⟨g1, g2⟩ := hok q hq
    have g3 := ((Pl.routeB_iff q).1 g1).2.2.1
    have hz : q.cost = 0 := by
      cases e : q.here
      · rw [e] at g3; simp only [Bool.false_eq_true, if_false] at g3; exact absurd hh g3
      · rw [e] at g3; simp only [if_true] at g3; exact g3.1
    have hC : ∀ n, n < 12 → Pl.wC es f n = 0 → n = f := fun n _ h => by
      rcases Nat.decEq n f with e | e
      · have := (Pl.wC_pos es hf e (by omega)).1; omega
      · exact e
    have a1 := Pl.getT_zero hC _ k (by omega) q h1 hz
    have a2 := hC k hk (by omega)
    omega
theorem Pl.tabK_next (es : List Pl.Ent) (f k : Nat) (h : 0 ≤ Pl.wC es f k) : Pl.tabK (Pl.wC es f) (Pl.wH es f) (Pl.tP es) f (k + 1) = Pl.offs (Pl.wC es f) (Pl.wH es f) f k (Pl.tabK (Pl.wC es f) (Pl.wH es f) (Pl.tP es) f k) (Pl.tP es k) := by
  show (if _ then _ else _) = _
  rw [if_neg (by omega)]
theorem Pl.tabK_skip (es : List Pl.Ent) (f k : Nat) (h : Pl.wC es f k < 0) : Pl.tabK (Pl.wC es f) (Pl.wH es f) (Pl.tP es) f (k + 1) = Pl.tabK (Pl.wC es f) (Pl.wH es f) (Pl.tP es) f k := by
  show (if _ then _ else _) = _
  rw [if_pos h]
end Go.Proofs.YtpaobnhcbeklfaaGreatDoor
/-
  Plain: a table that is patched by a difference is the one that was wanted; no program in sight.
-/
namespace Go.Proofs.YtpaobnhcbeklfaaGreatDoor
open Go.RowKit
set_option maxRecDepth 20000

theorem Pl.getR_filter {rs : List Pl.Rt} (hs : Pl.SrtR rs) (f : Pl.Rt → Bool) (q : Int × Int) : Pl.getR (rs.filter f) q = match Pl.getR rs q with | none => none | some r => if f r then some r else none := by
  cases h : Pl.getR rs q with
  | none =>
    refine Pl.getR_none fun r hr e => ?_
    have := Pl.getR_mem hs (List.mem_filter.1 hr).1
    rw [e, h] at this; cases this
  | some r =>
    obtain ⟨h1, h2⟩ := Pl.getR_some h
    show _ = if f r then some r else none
    split
    · rename_i g
      rw [← h2]
      exact Pl.getR_mem (Pl.filter_srt f hs) (List.mem_filter.2 ⟨h1, g⟩)
    · rename_i g
      refine Pl.getR_none fun x hx e => ?_
      obtain ⟨hx1, hx2⟩ := List.mem_filter.1 hx
      have := Pl.getR_mem hs hx1
      rw [e, h] at this
      cases this
      exact g hx2
theorem Pl.getR_inss : ∀ (ss rs : List Pl.Rt) (q : Int × Int), Pl.SrtR rs → Pl.SrtR ss → Pl.getR (Pl.inssR rs ss) q = match Pl.getR ss q with | none => Pl.getR rs q | some r => some r
  | [], rs, q, _, _ => rfl
  | x :: ss, rs, q, h, hs => by
    have hs' := hs
    unfold Pl.SrtR at hs
    rw [List.pairwise_cons] at hs
    show Pl.getR (Pl.inssR (Pl.insR rs x) ss) q = _
    rw [Pl.getR_inss ss _ q (Pl.insR_srt h) hs.2, Pl.getR_ins h]
    by_cases g : x.p = q
    · have e : Pl.getR ss q = none := Pl.getR_none fun r hr e => by
        have := hs.1 r hr
        rw [e, g, Pl.pltB_irrefl] at this; cases this
      rw [e]
      simp [Pl.getR, g]
    · simp only [Pl.getR, if_neg g]
theorem Pl.there_get {rs : List Pl.Rt} (hs : Pl.SrtR rs) (q : Int × Int) : Pl.thereP (rs.map Pl.Rt.p) q = (Pl.getR rs q).isSome := by
  rw [Pl.getR_there hs]
  cases Pl.thereP (rs.map Pl.Rt.p) q <;> simp
theorem Pl.kept_iff {a : List Pl.Rt} (hs : Pl.SrtR a) (r : Pl.Rt) : Pl.keptB a r = true ↔ Pl.getR a r.p = some r := by
  unfold Pl.keptB
  rw [Pl.getR_there hs]
  cases h : Pl.thereP (a.map Pl.Rt.p) r.p
  · simp
  · have h1 := Pl.thereP_eq h
    have h2 := Pl.thereP_lt h
    rw [Pl.pr_map a _ (by simpa using h2)] at h1
    generalize Pl.rt a (Pl.posP (a.map Pl.Rt.p) r.p) = x at *
    obtain ⟨xp, xh, xc, xl⟩ := x
    obtain ⟨rp, rh, rc, rl⟩ := r
    simp only at h1
    subst h1
    simp [Pl.sameR, and_assoc]
theorem Pl.setL_srt {a b : List Pl.Rt} (hb : Pl.SrtR b) : Pl.SrtR (Pl.setL a b) := Pl.filter_srt _ hb
/-- the patched table is the wanted one -/
theorem Pl.patR_diff {a b : List Pl.Rt} (ha : Pl.SrtR a) (hb : Pl.SrtR b) : Pl.patR a (Pl.setL a b) (Pl.goneL a b) = b := by
  unfold Pl.patR
  refine Pl.srtR_ext (Pl.inssR_srt _ _ (Pl.delsR_srt ha)) hb fun q => ?_
  rw [Pl.getR_inss _ _ q (Pl.delsR_srt ha) (Pl.setL_srt hb), Pl.delsR_filter _ _ ha, Pl.getR_filter ha]
  unfold Pl.setL
  rw [Pl.getR_filter hb]
  cases hy : Pl.getR b q with
  | none =>
    simp only
    cases hx : Pl.getR a q with
    | none => rfl
    | some r =>
      simp only
      rw [if_neg]
      simp only [decide_not, Bool.not_eq_true', decide_eq_false_iff_not, Decidable.not_not]
      obtain ⟨h1, h2⟩ := Pl.getR_some hx
      unfold Pl.goneL
      refine List.mem_map.2 ⟨r, List.mem_filter.2 ⟨h1, ?_⟩, rfl⟩
      rw [Pl.there_get hb, h2, hy]; rfl
  | some r =>
    obtain ⟨h1, h2⟩ := Pl.getR_some hy
    simp only
    cases hk : Pl.keptB a r
    · simp
    · have hx := (Pl.kept_iff ha r).1 hk
      rw [h2] at hx
      rw [hx]
      simp only [Bool.not_true, Bool.false_eq_true, if_false]
      rw [if_pos]
      simp only [decide_not, Bool.not_eq_true', decide_eq_false_iff_not]
      intro hm
      unfold Pl.goneL at hm
      obtain ⟨x, hx1, hx2⟩ := List.mem_map.1 hm
      obtain ⟨_, hx3⟩ := List.mem_filter.1 hx1
      rw [hx2, h2, Pl.there_get hb, hy] at hx3
      cases hx3
theorem Pl.setL_self {a : List Pl.Rt} (ha : Pl.SrtR a) : Pl.setL a a = [] := by
  unfold Pl.setL
  rw [List.filter_eq_nil_iff]
  intro r hr
  rw [(Pl.kept_iff ha r).2 (Pl.getR_mem ha hr)]; decide
theorem Pl.goneL_self {a : List Pl.Rt} (ha : Pl.SrtR a) : Pl.goneL a a = [] := by
  unfold Pl.goneL
  rw [List.map_eq_nil_iff, List.filter_eq_nil_iff]
  intro r hr
  rw [Pl.there_get ha, Pl.getR_mem ha hr]; simp
theorem Pl.patL_diff {a b : List Pl.Rt} (ha : Pl.tabF a = 0) (hb : Pl.tabF b = 0) : Pl.patC a (Pl.setL a b) (Pl.goneL a b) = 0 ∧ Pl.patL a (Pl.setL a b) (Pl.goneL a b) = b := by
  have e := Pl.patR_diff ((Pl.goodT_iff a).1 ha).2.2 ((Pl.goodT_iff b).1 hb).2.2
  unfold Pl.patC Pl.patL
  rw [if_pos ha, if_pos ha, e, hb]
  exact ⟨rfl, if_pos rfl⟩
end Go.Proofs.YtpaobnhcbeklfaaGreatDoor
/-
  Plain: the longest prefix of an address, and the cheapest node that tells it; no program in sight.
-/
namespace Go.Proofs.YtpaobnhcbeklfaaGreatDoor
open Go.RowKit
set_option maxRecDepth 20000

theorem Pl.mask_all : (List.range 9).all (fun b => (List.range 256).all fun x => decide (bits BinOp.andNot IntKind.i64 (x : Int) (255 / 2 ^ b) = (x : Int) - (x : Int) % Pl.span (b : Int))) = true := by decide +kernel
theorem Pl.mask_span {x b : Int} (hx : 0 ≤ x ∧ x ≤ 255) (hb : 0 ≤ b ∧ b ≤ 8) : bits BinOp.andNot IntKind.i64 x (255 / 2 ^ b.toNat) = x - x % Pl.span b := by
  have h := List.all_eq_true.1 Pl.mask_all b.toNat (List.mem_range.2 (by omega))
  have h2 := List.all_eq_true.1 h x.toNat (List.mem_range.2 (by omega))
  have h3 := of_decide_eq_true h2
  rw [show ((x.toNat : Nat) : Int) = x by omega, show ((b.toNat : Nat) : Int) = b by omega] at h3
  exact h3

/-- a node that is reached tells a prefix of an address -/
def Pl.Hit (C : Nat → Int) (x : Int) (k : Nat) (p : Int × Int) : Prop := 0 ≤ C k ∧ p.1 = x - x % Pl.span p.2
/-- what has been found among what was seen: the most bits, and the least cost of those -/
def Pl.Most (C : Nat → Int) (x : Int) (S : Nat → Int × Int → Prop) (b c : Int) : Prop :=
  (b = -1 ∧ c = -1 ∧ ∀ k p, S k p → ¬ Pl.Hit C x k p) ∨
  (0 ≤ b ∧ (∃ k p, S k p ∧ Pl.Hit C x k p ∧ p.2 = b ∧ C k = c) ∧ ∀ k p, S k p → Pl.Hit C x k p → p.2 < b ∨ (p.2 = b ∧ c ≤ C k))
theorem Pl.Most.miss {C x S b c} (h : Pl.Most C x S b c) {k : Nat} {p : Int × Int} (hn : ¬ Pl.Hit C x k p) : Pl.Most C x (fun k' p' => S k' p' ∨ (k' = k ∧ p' = p)) b c := by
  rcases h with ⟨h1, h2, h3⟩ | ⟨h1, ⟨k0, p0, g1, g2⟩, h3⟩
  · refine .inl ⟨h1, h2, ?_⟩
    rintro k' p' (h | ⟨rfl, rfl⟩)
    · exact h3 _ _ h
    · exact hn
  · refine .inr ⟨h1, ⟨k0, p0, .inl g1, g2⟩, ?_⟩
    rintro k' p' (h | ⟨rfl, rfl⟩) hh
    · exact h3 _ _ h hh
    · exact absurd hh hn
theorem Pl.Most.new {C x S b c} (h : Pl.Most C x S b c) {k : Nat} {p : Int × Int} (hy : Pl.Hit C x k p) (hp : 0 ≤ p.2) (hg : b < p.2 ∨ (p.2 = b ∧ C k < c)) : Pl.Most C x (fun k' p' => S k' p' ∨ (k' = k ∧ p' = p)) p.2 (C k) := by
  refine .inr ⟨hp, ⟨k, p, .inr ⟨rfl, rfl⟩, hy, rfl, rfl⟩, ?_⟩
  rintro k' p' (h' | ⟨rfl, rfl⟩) hh
  · rcases h with ⟨_, _, h3⟩ | ⟨_, _, h3⟩
    · exact absurd hh (h3 _ _ h')
    · rcases h3 _ _ h' hh with q | q <;> omega
  · exact .inr ⟨rfl, Int.le_refl _⟩
theorem Pl.Most.old {C x S b c} (h : Pl.Most C x S b c) {k : Nat} {p : Int × Int} (hp : 0 ≤ p.2) (hg : ¬ (b < p.2 ∨ (p.2 = b ∧ C k < c))) : Pl.Most C x (fun k' p' => S k' p' ∨ (k' = k ∧ p' = p)) b c := by
  rcases h with ⟨h1, h2, h3⟩ | ⟨h1, ⟨k0, p0, g1, g2⟩, h3⟩
  · omega
  · refine .inr ⟨h1, ⟨k0, p0, .inl g1, g2⟩, ?_⟩
    rintro k' p' (h' | ⟨rfl, rfl⟩) hh
    · exact h3 _ _ h' hh
    · omega
theorem Pl.Most.ext {C x S S' b c} (h : Pl.Most C x S b c) (e : ∀ k p, S k p ↔ S' k p) : Pl.Most C x S' b c := by
  have : S = S' := by funext k p; exact propext (e k p)
  rw [← this]; exact h
/-- seen: all prefixes of the first k nodes, and so many of the next one -/
def Pl.Seen (P : Nat → List (Int × Int)) (k j : Nat) : Nat → Int × Int → Prop := fun k' p => (k' < k ∧ p ∈ P k') ∨ (k' = k ∧ p ∈ (P k).take j)
theorem Pl.seen_succ {P : Nat → List (Int × Int)} {k j : Nat} (h : j < (P k).length) (k' : Nat) (p : Int × Int) : (Pl.Seen P k j k' p ∨ (k' = k ∧ p = Pl.pr (P k) j)) ↔ Pl.Seen P k (j + 1) k' p := by
  unfold Pl.Seen
  rw [List.take_add_one, List.getElem?_eq_getElem h, Pl.pr_eq (P k) j h]
  simp only [Option.toList_some, List.mem_append, List.mem_singleton]
  constructor
  · rintro ((h1 | ⟨h1, h2⟩) | ⟨h1, h2⟩)
    · exact .inl h1
    · exact .inr ⟨h1, .inl h2⟩
    · exact .inr ⟨h1, .inr h2⟩
  · rintro (h1 | ⟨h1, h2 | h2⟩)
    · exact .inl (.inl h1)
    · exact .inl (.inr ⟨h1, h2⟩)
    · exact .inr ⟨h1, h2⟩
theorem Pl.seen_next {P : Nat → List (Int × Int)} {k j : Nat} (h : (P k).length ≤ j) (k' : Nat) (p : Int × Int) : Pl.Seen P k j k' p ↔ Pl.Seen P (k + 1) 0 k' p := by
  unfold Pl.Seen
  rw [List.take_of_length_le h]
  constructor
  · rintro (⟨h1, h2⟩ | ⟨rfl, h2⟩)
    · exact .inl ⟨by omega, h2⟩
    · exact .inl ⟨by omega, h2⟩
  · rintro (⟨h1, h2⟩ | ⟨_, h2⟩)
    · rcases Nat.lt_or_ge k' k with g | g
      · exact .inl ⟨g, h2⟩
      · have e : k' = k := by omega
        subst e; exact .inr ⟨rfl, h2⟩
    · simp at h2
theorem Pl.most_start (C : Nat → Int) (x : Int) (P : Nat → List (Int × Int)) : Pl.Most C x (Pl.Seen P 0 0) (-1) (-1) := by
  refine .inl ⟨rfl, rfl, ?_⟩
  rintro k p (⟨h, _⟩ | ⟨_, h⟩)
  · omega
  · simp at h

/-- what stands at a prefix in a table: the least cost of those that tell it -/
theorem Pl.getT_min {C H P node} (q : Int × Int) : ∀ k, (Pl.getT C H P node q k = none ∧ ∀ n, n < k → C n < 0 ∨ ¬ q ∈ P n) ∨ (∃ a, Pl.getT C H P node q k = some a ∧ (∃ n, n < k ∧ 0 ≤ C n ∧ q ∈ P n ∧ a.cost = C n) ∧ ∀ n, n < k → 0 ≤ C n → q ∈ P n → a.cost ≤ C n)
  | 0 => .inl ⟨rfl, fun n h => by omega⟩
  | k + 1 => by
    have ih := Pl.getT_min (C := C) (H := H) (P := P) (node := node) q k
    by_cases g : C k < 0 ∨ ¬ q ∈ P k
    · have e : Pl.getT C H P node q (k + 1) = Pl.getT C H P node q k := by show (if _ then _ else _) = _; rw [if_pos g]
      rw [e]
      rcases ih with ⟨h1, h2⟩ | ⟨a, h1, ⟨n, n1, n2, n3, n4⟩, h3⟩
      · refine .inl ⟨h1, fun n hn => ?_⟩
        rcases Nat.lt_or_ge n k with q' | q'
        · exact h2 n q'
        · rw [show n = k by omega]; exact g
      · refine .inr ⟨a, h1, ⟨n, by omega, n2, n3, n4⟩, fun m hm hm2 hm3 => ?_⟩
        rcases Nat.lt_or_ge m k with q' | q'
        · exact h3 m q' hm2 hm3
        · rw [show m = k by omega] at hm2 hm3
          rcases g with g | g
          · omega
          · exact absurd hm3 g
    · have g1 : 0 ≤ C k := by omega
      have g2 : q ∈ P k := Decidable.byContradiction fun h => g (.inr h)
      have e : Pl.getT C H P node q (k + 1) = some (Pl.more (Pl.getT C H P node q k) (Pl.mkR C H node k q)) := by show (if _ then _ else _) = _; rw [if_neg g]
      right
      refine ⟨_, e, ?_⟩
      rcases ih with ⟨h1, h2⟩ | ⟨a, h1, ⟨n, n1, n2, n3, n4⟩, h3⟩
      · rw [h1]
        refine ⟨⟨k, by omega, g1, g2, rfl⟩, fun m hm hm2 hm3 => ?_⟩
        show C k ≤ C m
        rcases Nat.lt_or_ge m k with q' | q'
        · rcases h2 m q' with h | h
          · omega
          · exact absurd hm3 h
        · rw [show m = k by omega]; exact Int.le_refl _
      · rw [h1]
        have hb : (Pl.bestR a (Pl.mkR C H node k q)).cost = if C k < a.cost then C k else a.cost := by
          have e : (Pl.mkR C H node k q).cost = C k := rfl
          unfold Pl.bestR
          rw [e]
          by_cases hh : C k < a.cost
          · rw [if_pos hh, if_pos hh]; rfl
          · rw [if_neg hh, if_neg hh]; split <;> rfl
        show (∃ n, _ ∧ _ ∧ _ ∧ (Pl.bestR a (Pl.mkR C H node k q)).cost = C n) ∧ ∀ n, _ → _ → _ → (Pl.bestR a (Pl.mkR C H node k q)).cost ≤ C n
        rw [hb]
        split
        · rename_i hlt
          refine ⟨⟨k, by omega, g1, g2, rfl⟩, fun m hm hm2 hm3 => ?_⟩
          rcases Nat.lt_or_ge m k with q' | q'
          · have := h3 m q' hm2 hm3; omega
          · rw [show m = k by omega]; exact Int.le_refl _
        · rename_i hlt
          refine ⟨⟨n, by omega, n2, n3, n4⟩, fun m hm hm2 hm3 => ?_⟩
          rcases Nat.lt_or_ge m k with q' | q'
          · exact h3 m q' hm2 hm3
          · rw [show m = k by omega]; omega
/-- what the law TablesFind asks of what is found in a table -/
theorem Pl.find_most (es : List Pl.Ent) {f : Nat} (hf : f < 12) {x b c : Int} (hx : 0 ≤ x ∧ x ≤ 255) (h : Pl.Most (Pl.wC es f) x (Pl.Seen (Pl.tP es) 12 0) b c) :
    (b < 0 ∧ Pl.lookC (Pl.tabL es f) x = 6) ∨ (0 ≤ b ∧ Pl.lookC (Pl.tabL es f) x = 0 ∧ (Pl.lookR (Pl.tabL es f) x).p.2 = b ∧ (Pl.lookR (Pl.tabL es f) x).cost = c ∧ (Pl.lookR (Pl.tabL es f) x).here = decide (c = 0)) := by
  have hgood := Pl.tabL_good es hf
  have hft := Pl.tabL_fault es hf
  have hsrt := hgood.1.2.2
  have hbits : ∀ k p, p ∈ Pl.tP es k → (0 ≤ p.2 ∧ p.2 ≤ 8) := fun k p hp => (Pl.pfx1_zero ((Pl.rpS_good _).2.1 p hp)).1
  have hlk : Pl.lookC (Pl.tabL es f) x = (match Pl.lookN ((Pl.tabL es f).map Pl.Rt.p) x 9 with | some _ => 0 | none => 6) := by
    unfold Pl.lookC; rw [if_pos hft, if_pos hx]; cases Pl.lookN ((Pl.tabL es f).map Pl.Rt.p) x 9 <;> rfl
  have hlr : Pl.lookR (Pl.tabL es f) x = (match Pl.lookN ((Pl.tabL es f).map Pl.Rt.p) x 9 with | some i => Pl.rt (Pl.tabL es f) i | none => Pl.Rt.none) := by
    unfold Pl.lookR; rw [if_pos hft, if_pos hx]; cases Pl.lookN ((Pl.tabL es f).map Pl.Rt.p) x 9 <;> rfl
  have hth : ∀ n : Nat, Pl.thereP ((Pl.tabL es f).map Pl.Rt.p) (Pl.pfxAt x n) = true ↔ ∃ k, k < 12 ∧ 0 ≤ Pl.wC es f k ∧ Pl.pfxAt x n ∈ Pl.tP es k := by
    intro n
    rw [Pl.there_get hsrt, Pl.tabL_get]
    rcases Pl.getT_min (C := Pl.wC es f) (H := Pl.wH es f) (P := Pl.tP es) (node := f) (Pl.pfxAt x n) 12 with ⟨h1, h2⟩ | ⟨a, h1, ⟨k, n1, n2, n3, n4⟩, h3⟩
    · rw [h1]
      constructor
      · intro h; cases h
      · rintro ⟨k, k1, k2, k3⟩
        rcases h2 k k1 with q | q
        · omega
        · exact absurd k3 q
    · rw [h1]
      exact ⟨fun _ => ⟨k, n1, n2, n3⟩, fun _ => rfl⟩
  have hseen : ∀ k p, k < 12 → p ∈ Pl.tP es k → Pl.Seen (Pl.tP es) 12 0 k p := fun k p h1 h2 => .inl ⟨h1, h2⟩
  have hof : ∀ k p, Pl.Seen (Pl.tP es) 12 0 k p → k < 12 ∧ p ∈ Pl.tP es k := by
    rintro k p (h | ⟨_, h⟩)
    · exact h
    · simp at h
  have hpa : ∀ p : Int × Int, 0 ≤ p.2 → p.1 = x - x % Pl.span p.2 → p = Pl.pfxAt x p.2.toNat := by
    intro p h1 h2
    unfold Pl.pfxAt
    rw [show ((p.2.toNat : Nat) : Int) = p.2 by omega, ← h2]
  rcases h with ⟨h1, h2, h3⟩ | ⟨h1, ⟨k0, p0, s0, ⟨y0, y1⟩, y2, y3⟩, h3⟩
  · left
    refine ⟨by omega, ?_⟩
    rw [hlk]
    have hno : ∀ n, Pl.lookN ((Pl.tabL es f).map Pl.Rt.p) x n = none := by
      intro n
      induction n with
      | zero => rfl
      | succ n ih =>
        show (if _ then _ else _) = _
        rw [if_neg ?_]
        · exact ih
        · intro ht
          obtain ⟨k, k1, k2, k3⟩ := (hth n).1 ht
          exact h3 k _ (hseen k _ k1 k3) ⟨k2, rfl⟩
    rw [hno]
  · right
    have hm := hof _ _ s0
    have hbb := hbits k0 p0 hm.2
    have hp0 := hpa p0 hbb.1 y1
    obtain ⟨m, hmb⟩ : ∃ m : Nat, b = m := ⟨b.toNat, by omega⟩
    have hpm : p0 = Pl.pfxAt x m := by rw [hp0]; congr 1; omega
    have ht : Pl.thereP ((Pl.tabL es f).map Pl.Rt.p) (Pl.pfxAt x m) = true := (hth m).2 ⟨k0, hm.1, y0, by rw [← hpm]; exact hm.2⟩
    have hup : ∀ n, m < n → n ≤ 9 → Pl.lookN ((Pl.tabL es f).map Pl.Rt.p) x n = some (Pl.posP ((Pl.tabL es f).map Pl.Rt.p) (Pl.pfxAt x m)) := by
      intro n
      induction n with
      | zero => intro h; omega
      | succ n ih =>
        intro hn hn9
        show (if _ then _ else _) = _
        by_cases e : n = m
        · subst e; rw [if_pos ht]
        · rw [if_neg ?_]
          · exact ih (by omega) (by omega)
          · intro ht'
            obtain ⟨k, k1, k2, k3⟩ := (hth n).1 ht'
            rcases h3 k _ (hseen k _ k1 k3) ⟨k2, rfl⟩ with q | ⟨q, _⟩
            · have : (n : Int) < b := q
              omega
            · have : (n : Int) = b := q
              omega
    have hl9 := hup 9 (by omega) (Nat.le_refl _)
    rw [hlk, hlr, hl9]
    have hg := Pl.getR_there hsrt (Pl.pfxAt x m)
    rw [if_pos ht] at hg
    have hgt := hg
    rw [Pl.tabL_get] at hgt
    obtain ⟨r, hr⟩ : ∃ r, Pl.rt (Pl.tabL es f) (Pl.posP ((Pl.tabL es f).map Pl.Rt.p) (Pl.pfxAt x m)) = r := ⟨_, rfl⟩
    simp only [hr] at hg hgt ⊢
    obtain ⟨hmem, hrp⟩ := Pl.getR_some hg
    have hok := (hgood.2 r hmem).2
    have hcost : r.cost = c := by
      rcases Pl.getT_min (C := Pl.wC es f) (H := Pl.wH es f) (P := Pl.tP es) (node := f) (Pl.pfxAt x m) 12 with ⟨g1, _⟩ | ⟨a, g1, ⟨k, n1, n2, n3, n4⟩, g3⟩
      · rw [g1] at hgt; cases hgt
      · rw [g1] at hgt
        cases hgt
        have a1 := g3 k0 hm.1 y0 (by rw [← hpm]; exact hm.2)
        rcases h3 k _ (hseen k _ n1 n3) ⟨n2, rfl⟩ with q | ⟨_, q⟩
        · have : (m : Int) < b := q
          omega
        · omega
    refine ⟨h1, trivial, ?_, hcost, ?_⟩
    · rw [hrp]; show (m : Int) = b; omega
    · rw [hok, hcost]
end Go.Proofs.YtpaobnhcbeklfaaGreatDoor
/-
  Plain: the document's table, prefix by prefix, is the one that is made route by route; no program in sight.
-/
namespace Go.Proofs.YtpaobnhcbeklfaaGreatDoor
open Go.RowKit
set_option maxRecDepth 20000

/-- the least cost of those nodes, but for the node itself, that tell a prefix -/
def Pl.rMin (C : Nat → Int) (P : Nat → List (Int × Int)) (node : Nat) (p : Int × Int) : Nat → Int
  | 0 => -1
  | k + 1 => if k ≠ node ∧ 0 ≤ C k ∧ p ∈ P k ∧ (Pl.rMin C P node p k < 0 ∨ C k < Pl.rMin C P node p k) then C k else Pl.rMin C P node p k
/-- does a way to one of them that costs so much lead over a hop? -/
def Pl.rThere (C : Nat → Int) (H : Nat → List Int) (P : Nat → List (Int × Int)) (node : Nat) (p : Int × Int) (c h : Int) : Nat → Bool
  | 0 => false
  | k + 1 => Pl.rThere C H P node p c h k || (decide (k ≠ node) && decide (C k = c) && decide (p ∈ P k) && decide (h ∈ H k))
/-- the document's route to a prefix -/
def Pl.rRt (C : Nat → Int) (H : Nat → List Int) (P : Nat → List (Int × Int)) (node : Nat) (p : Int × Int) : Option Pl.Rt :=
  if p ∈ P node then some ⟨p, true, 0, []⟩
  else if Pl.rMin C P node p 12 < 0 then none
  else some ⟨p, false, Pl.rMin C P node p 12, Pl.hopsL (fun h => Pl.rThere C H P node p (Pl.rMin C P node p 12) (h : Int) 12) 12⟩
theorem Pl.rMin_spec (C P node p) : ∀ k, (Pl.rMin C P node p k = -1 ∧ ∀ n, n < k → ¬ (n ≠ node ∧ 0 ≤ C n ∧ p ∈ P n)) ∨ (0 ≤ Pl.rMin C P node p k ∧ (∃ n, n < k ∧ n ≠ node ∧ 0 ≤ C n ∧ p ∈ P n ∧ C n = Pl.rMin C P node p k) ∧ ∀ n, n < k → n ≠ node → 0 ≤ C n → p ∈ P n → Pl.rMin C P node p k ≤ C n)
  | 0 => .inl ⟨rfl, fun n h => by omega⟩
  | k + 1 => by
    have ih := Pl.rMin_spec C P node p k
    have e : Pl.rMin C P node p (k + 1) = if k ≠ node ∧ 0 ≤ C k ∧ p ∈ P k ∧ (Pl.rMin C P node p k < 0 ∨ C k < Pl.rMin C P node p k) then C k else Pl.rMin C P node p k := rfl
    generalize Pl.rMin C P node p k = m at *
    rw [e]
    clear e
    by_cases g : k ≠ node ∧ 0 ≤ C k ∧ p ∈ P k
    · by_cases g2 : m < 0 ∨ C k < m
      · rw [if_pos ⟨g.1, g.2.1, g.2.2, g2⟩]
        right
        refine ⟨g.2.1, ⟨k, by omega, g.1, g.2.1, g.2.2, rfl⟩, fun n hn h1 h2 h3 => ?_⟩
        rcases Nat.lt_or_ge n k with q | q
        · rcases ih with ⟨_, i2⟩ | ⟨i1, _, i3⟩
          · exact absurd ⟨h1, h2, h3⟩ (i2 n q)
          · have := i3 n q h1 h2 h3; omega
        · rw [show n = k by omega]; exact Int.le_refl _
      · rw [if_neg (fun h => g2 h.2.2.2)]
        rcases ih with ⟨i1, _⟩ | ⟨i1, ⟨n, n1, n2⟩, i3⟩
        · omega
        · right
          refine ⟨i1, ⟨n, by omega, n2⟩, fun n' hn h1 h2 h3 => ?_⟩
          rcases Nat.lt_or_ge n' k with q | q
          · exact i3 n' q h1 h2 h3
          · rw [show n' = k by omega]; omega
    · rw [if_neg (fun h => g ⟨h.1, h.2.1, h.2.2.1⟩)]
      rcases ih with ⟨i1, i2⟩ | ⟨i1, ⟨n, n1, n2⟩, i3⟩
      · refine .inl ⟨i1, fun n hn => ?_⟩
        rcases Nat.lt_or_ge n k with q | q
        · exact i2 n q
        · rw [show n = k by omega]; exact g
      · refine .inr ⟨i1, ⟨n, by omega, n2⟩, fun n' hn h1 h2 h3 => ?_⟩
        rcases Nat.lt_or_ge n' k with q | q
        · exact i3 n' q h1 h2 h3
        · rw [show n' = k by omega] at h1 h2 h3; exact absurd ⟨h1, h2, h3⟩ g
theorem Pl.rThere_iff (C H P node p c h) : ∀ k, Pl.rThere C H P node p c h k = true ↔ ∃ n, n < k ∧ n ≠ node ∧ C n = c ∧ p ∈ P n ∧ h ∈ H n
  | 0 => by simp [Pl.rThere]
  | k + 1 => by
    unfold Pl.rThere
    simp only [Bool.or_eq_true, Bool.and_eq_true, decide_eq_true_eq]
    rw [Pl.rThere_iff C H P node p c h k]
    constructor
    · rintro (⟨n, h1, h2⟩ | ⟨⟨⟨h1, h2⟩, h3⟩, h4⟩)
      · exact ⟨n, by omega, h2⟩
      · exact ⟨k, by omega, h1, h2, h3, h4⟩
    · rintro ⟨n, h1, h2, h3, h4, h5⟩
      rcases Nat.lt_or_ge n k with q | q
      · exact .inl ⟨n, q, h2, h3, h4, h5⟩
      · have e : n = k := by omega
        subst e
        exact .inr ⟨⟨⟨h2, h3⟩, h4⟩, h5⟩
/-- the hops of what stands at a prefix: those of all that cost as much -/
theorem Pl.getT_hops {C H P node} (hH : ∀ n, Pl.hopsB (H n) = true) (q : Int × Int) : ∀ k a, Pl.getT C H P node q k = some a → (∀ x ∈ a.hops, 0 ≤ x ∧ x ≤ 11) ∧ ∀ x, x ∈ a.hops ↔ ∃ n, n < k ∧ 0 ≤ C n ∧ q ∈ P n ∧ C n = a.cost ∧ x ∈ H n
  | 0, a, e => by cases e
  | k + 1, a, e => by
    have ih := Pl.getT_hops (C := C) (P := P) (node := node) hH q k
    have hmin := Pl.getT_min (C := C) (H := H) (P := P) (node := node) q k
    unfold Pl.getT at e
    split at e
    · rename_i g
      obtain ⟨i1, i2⟩ := ih a e
      refine ⟨i1, fun x => ?_⟩
      rw [i2]
      constructor
      · rintro ⟨n, h1, h2⟩; exact ⟨n, by omega, h2⟩
      · rintro ⟨n, h1, h2, h3, h4⟩
        rcases Nat.lt_or_ge n k with q' | q'
        · exact ⟨n, q', h2, h3, h4⟩
        · rw [show n = k by omega] at h2 h3
          rcases g with g | g
          · omega
          · exact absurd h3 g
    · rename_i g
      have g1 : 0 ≤ C k := by omega
      have g2 : q ∈ P k := Decidable.byContradiction fun h => g (.inr h)
      cases e
      cases ho : Pl.getT C H P node q k with
      | none =>
        rw [ho] at hmin
        have hno : ∀ n, n < k → C n < 0 ∨ ¬ q ∈ P n := by
          rcases hmin with ⟨_, h⟩ | ⟨a, h, _⟩
          · exact h
          · cases h
        show (∀ x ∈ H k, _) ∧ ∀ x, x ∈ H k ↔ ∃ n, n < k + 1 ∧ 0 ≤ C n ∧ q ∈ P n ∧ C n = C k ∧ x ∈ H n
        refine ⟨Pl.hopsB_range (hH k), fun x => ⟨fun h => ⟨k, by omega, g1, g2, rfl, h⟩, ?_⟩⟩
        rintro ⟨n, h1, h2, h3, _, h5⟩
        rcases Nat.lt_or_ge n k with q' | q'
        · rcases hno n q' with h | h
          · omega
          · exact absurd h3 h
        · rw [show n = k by omega] at h5; exact h5
      | some b =>
        obtain ⟨i1, i2⟩ := ih b ho
        rw [ho] at hmin
        have hle : ∀ n, n < k → 0 ≤ C n → q ∈ P n → b.cost ≤ C n := by
          rcases hmin with ⟨h, _⟩ | ⟨a, h, _, h3⟩
          · cases h
          · cases h; exact h3
        show (∀ x ∈ (Pl.bestR b (Pl.mkR C H node k q)).hops, _) ∧ ∀ x, x ∈ (Pl.bestR b (Pl.mkR C H node k q)).hops ↔ ∃ n, n < k + 1 ∧ 0 ≤ C n ∧ q ∈ P n ∧ C n = (Pl.bestR b (Pl.mkR C H node k q)).cost ∧ x ∈ H n
        have ec : (Pl.mkR C H node k q).cost = C k := rfl
        have eh : (Pl.mkR C H node k q).hops = H k := rfl
        unfold Pl.bestR
        rw [ec, eh]
        by_cases c1 : C k < b.cost
        · rw [if_pos c1, eh, ec]
          refine ⟨Pl.hopsB_range (hH k), fun x => ⟨fun h => ⟨k, by omega, g1, g2, rfl, h⟩, ?_⟩⟩
          rintro ⟨n, h1, h2, h3, h4, h5⟩
          rcases Nat.lt_or_ge n k with q' | q'
          · have := hle n q' h2 h3; omega
          · rw [show n = k by omega] at h5; exact h5
        · rw [if_neg c1]
          by_cases c2 : C k = b.cost
          · rw [if_pos c2]
            refine ⟨fun x hx => ?_, fun x => ?_⟩
            · rcases (Pl.mem_unite i1 (Pl.hopsB_range (hH k))).1 hx with h | h
              · exact i1 x h
              · exact Pl.hopsB_range (hH k) x h
            · rw [show (x ∈ Pl.unite b.hops (H k)) = (x ∈ b.hops ∨ x ∈ H k) from propext (Pl.mem_unite i1 (Pl.hopsB_range (hH k))), i2]
              constructor
              · rintro (⟨n, h1, h2⟩ | h)
                · exact ⟨n, by omega, h2⟩
                · exact ⟨k, by omega, g1, g2, c2, h⟩
              · rintro ⟨n, h1, h2, h3, h4, h5⟩
                rcases Nat.lt_or_ge n k with q' | q'
                · exact .inl ⟨n, q', h2, h3, h4, h5⟩
                · rw [show n = k by omega] at h5; exact .inr h5
          · rw [if_neg c2]
            refine ⟨i1, fun x => ?_⟩
            rw [i2]
            constructor
            · rintro ⟨n, h1, h2⟩; exact ⟨n, by omega, h2⟩
            · rintro ⟨n, h1, h2, h3, h4, h5⟩
              rcases Nat.lt_or_ge n k with q' | q'
              · exact ⟨n, q', h2, h3, h4, h5⟩
              · rw [show n = k by omega] at h4; exact absurd h4 c2
theorem Pl.hopsB_up {l : List Int} (h : Pl.hopsB l = true) : l.Pairwise (· < ·) := by
  rw [List.pairwise_iff_getElem]
  intro i j hi hj hij
  rw [← Pl.nm_eq l i hi, ← Pl.nm_eq l j hj]
  induction j with
  | zero => omega
  | succ m ih =>
    have hs := Pl.hopsB_at h (m + 1) hj
    rw [Pl.hopB_succ] at hs
    simp only [Bool.and_eq_true, decide_eq_true_eq] at hs
    rcases Nat.lt_or_ge i m with q | q
    · have := ih (by omega) q; omega
    · rw [show i = m by omega]; exact hs.2
/-- at each prefix both say the same -/
theorem Pl.rRt_same (es : List Pl.Ent) {f : Nat} (hf : f < 12) (q : Int × Int) : Pl.rRt (Pl.wC es f) (Pl.wH es f) (Pl.tP es) f q = Pl.getT (Pl.wC es f) (Pl.wH es f) (Pl.tP es) f q 12 := by
  have hH : ∀ n, Pl.hopsB (Pl.wH es f n) = true := fun n => Pl.hopsL_B _ (Nat.le_refl _)
  have hself := Pl.wC_self es hf
  have hpos : ∀ n, n ≠ f → 0 ≤ Pl.wC es f n → 0 < Pl.wC es f n := fun n h1 h2 => (Pl.wC_pos es hf h1 h2).1
  unfold Pl.rRt
  rcases Pl.getT_min (C := Pl.wC es f) (H := Pl.wH es f) (P := Pl.tP es) (node := f) q 12 with ⟨h1, h2⟩ | ⟨a, h1, ⟨n, n1, n2, n3, n4⟩, h3⟩
  · rw [h1]
    rw [if_neg (fun h => by rcases h2 f hf with g | g; (omega); exact g h)]
    rcases Pl.rMin_spec (Pl.wC es f) (Pl.tP es) f q 12 with ⟨r1, _⟩ | ⟨_, ⟨n, k1, k2, k3, k4, _⟩, _⟩
    · rw [r1, if_pos (by omega)]
    · rcases h2 n k1 with g | g
      · omega
      · exact absurd k4 g
  · obtain ⟨ok, op⟩ := Pl.getT_ok (Pl.tab_WP es hf) q 12 (Nat.le_refl _) a h1
    obtain ⟨hr, hm⟩ := Pl.getT_hops hH q 12 a h1
    obtain ⟨b1, b2⟩ := ok
    rw [Pl.routeB_iff] at b1
    rw [h1]
    obtain ⟨ap, ah, ac, al⟩ := a
    simp only at op b1 b2 hr hm n4 h3
    subst op
    by_cases hq : ap ∈ Pl.tP es f
    · rw [if_pos hq]
      have c0 : ac = 0 := by have := h3 f hf (by omega) hq; omega
      have e1 : ah = true := by rw [b2, c0]; rfl
      have e2 := b1.2.2.1
      rw [e1] at e2
      simp only [if_true] at e2
      rw [e1, c0, e2.2]
    · rw [if_neg hq]
      have hnf : n ≠ f := by rintro rfl; exact hq n3
      rcases Pl.rMin_spec (Pl.wC es f) (Pl.tP es) f ap 12 with ⟨_, r2⟩ | ⟨r1, ⟨k, k1, k2, k3, k4, k5⟩, r3⟩
      · exact absurd ⟨hnf, n2, n3⟩ (r2 n n1)
      · have ec : Pl.rMin (Pl.wC es f) (Pl.tP es) f ap 12 = ac := by
          have a1 := r3 n n1 hnf n2 n3
          have a2 := h3 k k1 k3 k4
          omega
        rw [ec, if_neg (by omega)]
        have e1 : ah = false := by
          have := hpos n hnf n2
          rw [b2]; simp; omega
        rw [e1]
        congr 2
        refine Pl.up_ext (Pl.hopsL_up _ _) (Pl.hopsB_up b1.2.2.2) fun x => ?_
        rw [Pl.mem_hopsL, hm]
        constructor
        · rintro ⟨j, j1, rfl, j2⟩
          obtain ⟨n', m1, m2, m3, m4, m5⟩ := (Pl.rThere_iff _ _ _ _ _ _ _ 12).1 j2
          exact ⟨n', m1, by omega, m4, m3, m5⟩
        · rintro ⟨n', m1, m2, m3, m4, m5⟩
          have hx := Pl.hopsB_range (hH n') x m5
          refine ⟨x.toNat, by omega, by omega, ?_⟩
          rw [Pl.rThere_iff, show ((x.toNat : Nat) : Int) = x by omega]
          exact ⟨n', m1, by rintro rfl; exact hq m3, m4, m3, m5⟩
end Go.Proofs.YtpaobnhcbeklfaaGreatDoor
/-
  Plain: the document's table as a list, address by address and bits by bits, is the program's; no program in sight.
-/
namespace Go.Proofs.YtpaobnhcbeklfaaGreatDoor
open Go.RowKit
set_option maxRecDepth 20000

/-- the document's route to a prefix, if the prefix may be -/
def Pl.rX (es : List Pl.Ent) (f a b : Nat) : List Pl.Rt := if (a : Int) % Pl.span (b : Int) = 0 then (Pl.rRt (Pl.wC es f) (Pl.wH es f) (Pl.tP es) f ((a : Int), (b : Int))).toList else []
def Pl.rB (es : List Pl.Ent) (f a : Nat) : Nat → List Pl.Rt
  | 0 => []
  | k + 1 => Pl.rB es f a k ++ Pl.rX es f a k
def Pl.rA (es : List Pl.Ent) (f : Nat) : Nat → List Pl.Rt
  | 0 => []
  | k + 1 => Pl.rA es f k ++ Pl.rB es f k 9
theorem Pl.mem_rX {es : List Pl.Ent} {f a b : Nat} (hf : f < 12) {r : Pl.Rt} : r ∈ Pl.rX es f a b ↔ (a : Int) % Pl.span (b : Int) = 0 ∧ Pl.getT (Pl.wC es f) (Pl.wH es f) (Pl.tP es) f ((a : Int), (b : Int)) 12 = some r := by
  unfold Pl.rX
  rw [Pl.rRt_same es hf]
  split
  · rename_i h; simp [h, eq_comm]
  · rename_i h; simp [h]
theorem Pl.rX_p {es : List Pl.Ent} {f a b : Nat} (hf : f < 12) {r : Pl.Rt} (h : r ∈ Pl.rX es f a b) : r.p = ((a : Int), (b : Int)) :=
  (Pl.getT_ok (Pl.tab_WP es hf) _ 12 (Nat.le_refl _) r ((Pl.mem_rX hf).1 h).2).2
theorem Pl.mem_rB {es : List Pl.Ent} {f a : Nat} {r : Pl.Rt} : ∀ k, r ∈ Pl.rB es f a k ↔ ∃ b, b < k ∧ r ∈ Pl.rX es f a b
  | 0 => by simp [Pl.rB]
  | k + 1 => by
    unfold Pl.rB
    rw [List.mem_append, Pl.mem_rB k]
    constructor
    · rintro (⟨b, h1, h2⟩ | h)
      · exact ⟨b, by omega, h2⟩
      · exact ⟨k, by omega, h⟩
    · rintro ⟨b, h1, h2⟩
      rcases Nat.lt_or_ge b k with q | q
      · exact .inl ⟨b, q, h2⟩
      · rw [show b = k by omega] at h2; exact .inr h2
theorem Pl.mem_rA {es : List Pl.Ent} {f : Nat} {r : Pl.Rt} : ∀ k, r ∈ Pl.rA es f k ↔ ∃ a, a < k ∧ r ∈ Pl.rB es f a 9
  | 0 => by simp [Pl.rA]
  | k + 1 => by
    unfold Pl.rA
    rw [List.mem_append, Pl.mem_rA k]
    constructor
    · rintro (⟨b, h1, h2⟩ | h)
      · exact ⟨b, by omega, h2⟩
      · exact ⟨k, by omega, h⟩
    · rintro ⟨b, h1, h2⟩
      rcases Nat.lt_or_ge b k with q | q
      · exact .inl ⟨b, q, h2⟩
      · rw [show b = k by omega] at h2; exact .inr h2
theorem Pl.rX_one (es : List Pl.Ent) (f a b : Nat) : Pl.SrtR (Pl.rX es f a b) ∧ (Pl.rX es f a b).length ≤ 1 := by
  unfold Pl.rX
  split
  · cases Pl.rRt (Pl.wC es f) (Pl.wH es f) (Pl.tP es) f ((a : Int), (b : Int)) with
    | none => exact ⟨List.Pairwise.nil, by simp⟩
    | some r => exact ⟨List.pairwise_singleton _ _, by simp⟩
  · exact ⟨List.Pairwise.nil, by simp⟩
theorem Pl.rB_srt {es : List Pl.Ent} {f : Nat} (hf : f < 12) (a : Nat) : ∀ k, Pl.SrtR (Pl.rB es f a k) ∧ (Pl.rB es f a k).length ≤ k
  | 0 => ⟨List.Pairwise.nil, by simp [Pl.rB]⟩
  | k + 1 => by
    obtain ⟨h1, h2⟩ := Pl.rB_srt (es := es) hf a k
    obtain ⟨g1, g2⟩ := Pl.rX_one es f a k
    unfold Pl.rB
    refine ⟨List.pairwise_append.2 ⟨h1, g1, fun x hx y hy => ?_⟩, by simp; omega⟩
    obtain ⟨b, hb, hx⟩ := (Pl.mem_rB k).1 hx
    rw [Pl.rX_p hf hx, Pl.rX_p hf hy, Pl.pltB_iff]
    right
    exact ⟨rfl, by show (b : Int) < (k : Int); omega⟩
theorem Pl.rA_srt {es : List Pl.Ent} {f : Nat} (hf : f < 12) : ∀ k, Pl.SrtR (Pl.rA es f k) ∧ (Pl.rA es f k).length ≤ k * 9
  | 0 => ⟨List.Pairwise.nil, by simp [Pl.rA]⟩
  | k + 1 => by
    obtain ⟨h1, h2⟩ := Pl.rA_srt (es := es) hf k
    obtain ⟨g1, g2⟩ := Pl.rB_srt (es := es) hf k 9
    unfold Pl.rA
    refine ⟨List.pairwise_append.2 ⟨h1, g1, fun x hx y hy => ?_⟩, by simp; omega⟩
    obtain ⟨a, ha, hx⟩ := (Pl.mem_rA k).1 hx
    obtain ⟨b, _, hx⟩ := (Pl.mem_rB 9).1 hx
    obtain ⟨c, _, hy⟩ := (Pl.mem_rB 9).1 hy
    rw [Pl.rX_p hf hx, Pl.rX_p hf hy, Pl.pltB_iff]
    left
    show (a : Int) < (k : Int)
    omega
theorem Pl.srtR_mem {a b : List Pl.Rt} (ha : Pl.SrtR a) (hb : Pl.SrtR b) (h : ∀ r, r ∈ a ↔ r ∈ b) : a = b := by
  refine Pl.srtR_ext ha hb fun q => ?_
  cases e1 : Pl.getR a q with
  | some r =>
    obtain ⟨h1, h2⟩ := Pl.getR_some e1
    rw [← h2]
    exact (Pl.getR_mem hb ((h r).1 h1)).symm
  | none =>
    cases e2 : Pl.getR b q with
    | none => rfl
    | some r =>
      obtain ⟨h1, h2⟩ := Pl.getR_some e2
      have := Pl.getR_mem ha ((h r).2 h1)
      rw [h2, e1] at this
      cases this
/-- both tables are the same -/
theorem Pl.rA_all (es : List Pl.Ent) {f : Nat} (hf : f < 12) : Pl.rA es f 256 = Pl.tabL es f := by
  have hg := (Pl.tabL_good es hf).1
  refine Pl.srtR_mem (Pl.rA_srt hf 256).1 hg.2.2 fun r => ?_
  rw [Pl.mem_rA]
  constructor
  · rintro ⟨a, ha, h⟩
    obtain ⟨b, hb, h⟩ := (Pl.mem_rB 9).1 h
    obtain ⟨_, h2⟩ := (Pl.mem_rX hf).1 h
    rw [← Pl.tabL_get] at h2
    exact (Pl.getR_some h2).1
  · intro h
    have h1 := Pl.getR_mem hg.2.2 h
    rw [Pl.tabL_get] at h1
    have hr := (Pl.routeB_iff r).1 (hg.2.1 r h)
    have hz := Pl.pfx1_zero hr.1
    have hm : r.p.1 % Pl.span r.p.2 = 0 := by
      have := hr.1
      unfold Pl.pfx1 at this
      split at this
      · split at this
        · assumption
        · cases this
      · cases this
    have e : r.p = ((r.p.1.toNat : Int), (r.p.2.toNat : Int)) := by
      rw [show ((r.p.1.toNat : Nat) : Int) = r.p.1 by omega, show ((r.p.2.toNat : Nat) : Int) = r.p.2 by omega]
    refine ⟨r.p.1.toNat, by omega, (Pl.mem_rB 9).2 ⟨r.p.2.toNat, by omega, (Pl.mem_rX hf).2 ⟨?_, ?_⟩⟩⟩
    · rw [show ((r.p.1.toNat : Nat) : Int) = r.p.1 by omega, show ((r.p.2.toNat : Nat) : Int) = r.p.2 by omega]; exact hm
    · rw [← e]; exact h1
end Go.Proofs.YtpaobnhcbeklfaaGreatDoor
