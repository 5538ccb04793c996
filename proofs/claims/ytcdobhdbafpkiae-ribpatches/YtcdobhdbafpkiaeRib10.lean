/-
  Rows of routes that a call itself has made: what they hold, and how one more is appended.
-/
import Derived.Test.YtcdobhdbafpkiaeRib6
import Derived.Test.YtcdobhdbafpkiaePairOwn
import Derived.Deep.DeepAppendWide
namespace Go.Proofs.Ytcdobhdbafpkiae
open Go.RowKit

def cellsH (h : Pl.RH) : List Value := [.int .i64 h.p.1, .int .i64 h.p.2, .bool h.here, .int .i64 h.cost, .slice h.ha h.hl h.hc]
def cellsR : List Pl.RH → List Value
  | [] => []
  | h :: r => cellsH h ++ cellsR r
theorem cellsR_len : ∀ hs : List Pl.RH, (cellsR hs).length = hs.length * 5
  | [] => rfl
  | h :: r => by simp [cellsR, cellsH, cellsR_len r]; omega
theorem cellsR_append : ∀ (a b : List Pl.RH), cellsR (a ++ b) = cellsR a ++ cellsR b
  | [], _ => rfl
  | h :: r, b => by simp [cellsR, cellsR_append r b]
theorem cellsR_one : ∀ hs : List Pl.RH, ∀ u ∈ cellsR hs, u.oneCell' = true
  | [], u, h => by simp [cellsR] at h
  | e :: r, u, h => by
    simp only [cellsR, List.mem_append] at h
    rcases h with h | h
    · simp [cellsH] at h
      rcases h with rfl | rfl | rfl | rfl | rfl <;> rfl
    · exact cellsR_one r u h
theorem rowsAt_cons {w : World} {b off : Nat} {h : Pl.RH} {r : List Pl.RH} :
    RowsAt w b off (h :: r) ↔ (w.cell? ⟨b, off, none⟩ = some (.int .i64 h.p.1) ∧ w.cell? ⟨b, off + 1, none⟩ = some (.int .i64 h.p.2) ∧ w.cell? ⟨b, off + 2, none⟩ = some (.bool h.here) ∧ w.cell? ⟨b, off + 3, none⟩ = some (.int .i64 h.cost) ∧ w.cell? ⟨b, off + 4, none⟩ = some (.slice h.ha h.hl h.hc)) ∧ RowsAt w b (off + 5) r := by
  constructor
  · intro k
    refine ⟨?_, fun i hi => ?_⟩
    · have := k 0 (by simp)
      simpa [Pl.rh_cons_zero] using this
    · have := k (i + 1) (by simpa using hi)
      rw [Pl.rh_cons_succ, show off + (i + 1) * 5 = off + 5 + i * 5 by omega] at this
      exact this
  · rintro ⟨h0, h1⟩ i hi
    cases i with
    | zero => simpa [Pl.rh_cons_zero] using h0
    | succ i =>
      rw [Pl.rh_cons_succ, show off + (i + 1) * 5 = off + 5 + i * 5 by omega]
      exact h1 i (by simpa using hi)
theorem rowsAt_cells {w : World} {b : Nat} : ∀ (hs : List Pl.RH) (off : Nat), RowsAt w b off hs ↔ ∀ j u, (cellsR hs)[j]? = some u → w.cell? ⟨b, off + j, none⟩ = some u
  | [], off => by
    constructor
    · intro _ j u h; simp [cellsR] at h
    · intro _ i hi; simp at hi
  | e :: r, off => by
    rw [rowsAt_cons, rowsAt_cells r (off + 5)]
    constructor
    · rintro ⟨⟨h0, h1, h2, h3, h4⟩, h5⟩ j u hj
      match j, hj with
      | 0, hj => simp [cellsR, cellsH] at hj; subst hj; exact h0
      | 1, hj => simp [cellsR, cellsH] at hj; subst hj; exact h1
      | 2, hj => simp [cellsR, cellsH] at hj; subst hj; exact h2
      | 3, hj => simp [cellsR, cellsH] at hj; subst hj; exact h3
      | 4, hj => simp [cellsR, cellsH] at hj; subst hj; exact h4
      | j + 5, hj =>
        have := h5 j u (by simpa [cellsR, cellsH] using hj)
        rwa [show off + (j + 5) = off + 5 + j by omega]
    · intro h
      refine ⟨⟨?_, ?_, ?_, ?_, ?_⟩, fun j u hj => ?_⟩
      · exact h 0 _ (by simp [cellsR, cellsH])
      · exact h 1 _ (by simp [cellsR, cellsH])
      · exact h 2 _ (by simp [cellsR, cellsH])
      · exact h 3 _ (by simp [cellsR, cellsH])
      · exact h 4 _ (by simp [cellsR, cellsH])
      · have := h (j + 5) u (by simpa [cellsR, cellsH] using hj)
        rwa [show off + 5 + j = off + (j + 5) by omega]
theorem Pl.rh_take (hs : List Pl.RH) (n i : Nat) (h : i < n) (hi : i < hs.length) : Pl.rh (hs.take n) i = Pl.rh hs i := by
  rw [Pl.rh_eq _ _ (by simp; omega), Pl.rh_eq _ _ hi]; simp
theorem Pl.rh_drop (hs : List Pl.RH) (n i : Nat) (hi : n + i < hs.length) : Pl.rh (hs.drop n) i = Pl.rh hs (n + i) := by
  rw [Pl.rh_eq _ _ (by simp; omega), Pl.rh_eq _ _ hi]; simp
theorem RowsAt.take {w : World} {b off : Nat} {hs : List Pl.RH} (h : RowsAt w b off hs) (n : Nat) : RowsAt w b off (hs.take n) := by
  intro i hi
  simp only [List.length_take] at hi
  rw [Pl.rh_take hs n i (by omega) (by omega)]
  exact h i (by omega)
theorem RowsAt.drop {w : World} {b off : Nat} {hs : List Pl.RH} (h : RowsAt w b off hs) (n : Nat) : RowsAt w b (off + n * 5) (hs.drop n) := by
  intro i hi
  simp only [List.length_drop] at hi
  rw [Pl.rh_drop hs n i (by omega), show off + n * 5 + i * 5 = off + (n + i) * 5 by omega]
  exact h (n + i) (by omega)
theorem Pl.rh_app_lt (a b : List Pl.RH) (i : Nat) (h : i < a.length) : Pl.rh (a ++ b) i = Pl.rh a i := by
  rw [Pl.rh_eq a i h, Pl.rh_eq _ i (by simp; omega), List.getElem_append_left h]
theorem Pl.rh_app_at (a : List Pl.RH) (x : Pl.RH) : Pl.rh (a ++ [x]) a.length = x := by
  rw [Pl.rh_eq _ _ (by simp)]; simp
theorem Pl.rt_app_lt (a b : List Pl.Rt) (i : Nat) (h : i < a.length) : Pl.rt (a ++ b) i = Pl.rt a i := by
  rw [Pl.rt_eq a i h, Pl.rt_eq _ i (by simp; omega), List.getElem_append_left h]
theorem Pl.rt_app_at (a : List Pl.Rt) (x : Pl.Rt) : Pl.rt (a ++ [x]) a.length = x := by
  rw [Pl.rt_eq _ _ (by simp)]; simp

/-- a slice value over a row of routes of the call's own -/
def OwnR (w : World) (base : Nat) (v : Value) (hs : List Pl.RH) : Prop := w.ownsRow base 30 5 v hs.length (cellsR hs)
theorem infoRoute : (Try.prog.info? 30).map (fun i => (i.zero, i.size, i.bytes)) = some (some (.agg #[.int .i64 0, .int .i64 0, .bool false, .int .i64 0, .slice none 0 0]), 5, 56) := by kernel_rfl
theorem OwnR.nil (w : World) (base : Nat) : OwnR w base (.slice none 0 0) [] := World.ownsRow_nil _ _ _ _
theorem OwnR.below {w w' : World} {base : Nat} {v : Value} {hs : List Pl.RH} (h : OwnR w base v hs) (k : Below w.heap.size w w') : OwnR w' base v hs := ownsRow_under h k
theorem OwnR.mono {w : World} {base base' : Nat} {v : Value} {hs : List Pl.RH} (h : OwnR w base v hs) (k : base' ≤ base) : OwnR w base' v hs := by
  obtain ⟨h0, h1⟩ := h
  refine ⟨h0, ?_⟩
  rcases h1 with h1 | ⟨g, cap, cur, rfl, hb, hr⟩
  · exact .inl h1
  · exact .inr ⟨g, cap, cur, rfl, by omega, hr⟩
theorem OwnR.rows {w : World} {base : Nat} {v : Value} {hs : List Pl.RH} (h : OwnR w base v hs) :
    ∃ a cap, v = .slice a hs.length cap ∧ IsRows w a hs.length cap hs ∧ (∀ x, a = some x → base ≤ x.block) := by
  obtain ⟨_, ⟨h, h1⟩ | ⟨g, cap, cur, rfl, hb, hh, hn, hm, hs', hx⟩⟩ := h
  · have e : hs = [] := List.length_eq_zero_iff.1 h1
    subst e
    exact ⟨none, 0, h, ⟨rfl, Nat.le_refl _, by simp, fun _ => rfl, .inl rfl⟩, by simp⟩
  · refine ⟨_, cap, rfl, ⟨rfl, hn, hm, by simp, .inr ⟨g, 0, rfl, blockLt hh, ?_⟩⟩, by rintro x ⟨⟩; exact hb⟩
    rw [rowsAt_cells]
    intro j u hj
    rw [← hx] at hj
    have hj' : cur[j]? = some u := by
      rw [List.getElem?_take] at hj
      split at hj
      · rw [← Array.getElem?_toList]; exact hj
      · cases hj
    simp [World.cell?, hh, hj']
theorem ownR_of {w : World} {base n : Nat} {v : Value} {xs : List Value} {hs : List Pl.RH} (h : w.ownsRow base 30 5 v n xs) (e : xs = cellsR hs) : OwnR w base v hs := by
  subst e
  have hn : n = hs.length := by
    have := h.1
    rw [cellsR_len] at this
    omega
  subst hn
  exact h
/-- a row of numbers and a row of routes are two blocks -/
theorem apartZR {w : World} {b1 b2 : Nat} {u v : Value} {xs : List Int} {hs : List Pl.RH} (h1 : OwnZ w b1 u xs) (h2 : OwnR w b2 v hs) : u.ownBlock = none ∨ u.ownBlock ≠ v.ownBlock := by
  obtain ⟨_, ⟨rfl, _⟩ | ⟨g, cap, cur, rfl, _, hh, _⟩⟩ := h1
  · exact .inl rfl
  · right
    obtain ⟨_, ⟨rfl, _⟩ | ⟨g2, cap2, cur2, rfl, _, hh2, _⟩⟩ := h2
    · simp [Value.ownBlock]
    · simp only [Value.ownBlock, ne_eq, Option.some.injEq]
      intro e
      subst e
      rw [hh] at hh2
      simp at hh2

theorem append_rt {w : World} {ops : Array Oper} {rest : List Oper} {o : Oper} {a : Act} {Q : Exit → Act → World → Prop} (hgd : o.guard = none) (s x : Operand)
    (ho : o.op = .call { callee := .builtin .append, args := #[s, x], argTypes := #[22, 22] })
    (base : Nat) (v : Value) (hs : List Pl.RH) (e : Pl.RH) (hs' : a.eval s = v) (hown : OwnR w base v hs) (hbase : base ≤ w.heap.size) (hx : a.eval x = .slice (some ⟨w.heap.size, 0, none⟩) 1 1) (hb : hs.length ≤ 4000000000000)
    (h : ∀ v' w', OwnR w' base v' (hs ++ [e]) → (w.alloc (.cells #[.int .i64 e.p.1, .int .i64 e.p.2, .bool e.here, .int .i64 e.cost, .slice e.ha e.hl e.hc] 30)).grownBy w' v.ownBlock → Below base w w' → wpList Try.prog ops Q rest (a.put o.dst v') w') :
    wpList Try.prog ops Q (o :: rest) a (w.alloc (.cells #[.int .i64 e.p.1, .int .i64 e.p.2, .bool e.here, .int .i64 e.cost, .slice e.ha e.hl e.hc] 30)) := by
  obtain ⟨i0, hi0, hz0, hz1, hz2⟩ := partsOf infoRoute
  refine wpList_append_own_wide (w := _) hgd s x 22 ho base 30 i0 _ 5 56 Try.underlying22 hi0 hz0 hz1 hz2 rfl (by decide) _ hs.length (cellsR hs) hs' (World.ownsRow.alloc hown _) ⟨w.heap.size, 0, none⟩ 1 1 (cellsH e) hx rfl ?_ ?_ (by unfold maxLen; omega) (by omega) (by simp; omega) ?_
  · intro j u hj
    rw [add_none]
    match j, hj with
    | 0, hj => simp [cellsH] at hj; subst hj; simp
    | 1, hj => simp [cellsH] at hj; subst hj; simp
    | 2, hj => simp [cellsH] at hj; subst hj; simp
    | 3, hj => simp [cellsH] at hj; subst hj; simp
    | 4, hj => simp [cellsH] at hj; subst hj; simp
    | j + 5, hj => simp [cellsH] at hj
  · have := cellsR_one [e]
    simpa [cellsR] using this
  · intro v' w' hown' hg _
    have hlt := World.ownsRow.lt hown
    exact h v' w' (ownR_of hown' (by rw [cellsR_append]; simp [cellsR])) hg (((Below.refl _ _).alloc hbase _).grown hg (by simp; omega) (fun k hk => (hlt k hk).1))

/-- routes of the call's own: the row, and the hops of each one -/
def OwnTb (w : World) (base : Nat) (v : Value) (hs : List Pl.RH) (rs : List Pl.Rt) : Prop := OwnR w base v hs ∧ hs.length = rs.length ∧ ∀ i, i < hs.length → ReadsZ w base (Pl.rh hs i) (Pl.rt rs i)
theorem OwnTb.nil (w : World) (base : Nat) : OwnTb w base (.slice none 0 0) [] [] := ⟨OwnR.nil _ _, rfl, fun i h => by simp at h⟩
theorem OwnTb.below {w w' : World} {base : Nat} {v : Value} {hs : List Pl.RH} {rs : List Pl.Rt} (h : OwnTb w base v hs rs) (k : Below w.heap.size w w') : OwnTb w' base v hs rs := ⟨h.1.below k, h.2.1, fun i hi => (h.2.2 i hi).below k⟩
theorem OwnTb.mono {w : World} {base base' : Nat} {v : Value} {hs : List Pl.RH} {rs : List Pl.Rt} (h : OwnTb w base v hs rs) (k : base' ≤ base) : OwnTb w base' v hs rs := ⟨h.1.mono k, h.2.1, fun i hi => (h.2.2 i hi).mono k⟩
theorem OwnTb.reads {w : World} {base : Nat} {v : Value} {hs : List Pl.RH} {rs : List Pl.Rt} (h : OwnTb w base v hs rs) : ReadsAll w hs rs := ⟨h.2.1, fun i hi => (h.2.2 i hi).reads.1⟩
theorem OwnTb.snoc {w w' : World} {base : Nat} {v v' : Value} {hs : List Pl.RH} {rs : List Pl.Rt} {e : Pl.RH} {r : Pl.Rt} {o : Obj} (h : OwnTb w base v hs rs) (hr : ReadsZ w base e r) (h' : OwnR w' base v' (hs ++ [e])) (hg : (w.alloc o).grownBy w' v.ownBlock) : OwnTb w' base v' (hs ++ [e]) (rs ++ [r]) := by
  have key : ∀ x y, ReadsZ w base x y → ReadsZ w' base x y := by
    intro x y ⟨q1, q2, q3, q4, q5⟩
    exact ⟨q1, q2, q3, World.ownsRow.kept (World.ownsRow.alloc q4 o) hg (apartZR q4 h.1), q5⟩
  refine ⟨h', by simp [h.2.1], fun i hi => ?_⟩
  simp only [List.length_append, List.length_cons, List.length_nil] at hi
  rcases Nat.lt_or_ge i hs.length with q | q
  · rw [Pl.rh_app_lt _ _ _ q, Pl.rt_app_lt _ _ _ (by rw [← h.2.1]; exact q)]
    exact key _ _ (h.2.2 i q)
  · obtain rfl : i = hs.length := by omega
    rw [Pl.rh_app_at]
    have : Pl.rt (rs ++ [r]) hs.length = r := by rw [h.2.1]; exact Pl.rt_app_at rs r
    rw [this]
    exact key _ _ hr
theorem ReadsAll.snoc {w : World} {hs : List Pl.RH} {rs : List Pl.Rt} {e : Pl.RH} {r : Pl.Rt} (h : ReadsAll w hs rs) (hr : Reads w e r) : ReadsAll w (hs ++ [e]) (rs ++ [r]) := by
  refine ⟨by simp [h.1], fun i hi => ?_⟩
  simp only [List.length_append, List.length_cons, List.length_nil] at hi
  rcases Nat.lt_or_ge i hs.length with q | q
  · rw [Pl.rh_app_lt _ _ _ q, Pl.rt_app_lt _ _ _ (by rw [← h.1]; exact q)]
    exact h.2 i q
  · obtain rfl : i = hs.length := by omega
    rw [Pl.rh_app_at]
    have : Pl.rt (rs ++ [r]) hs.length = r := by rw [h.1]; exact Pl.rt_app_at rs r
    rw [this]
    exact hr
end Go.Proofs.Ytcdobhdbafpkiae
