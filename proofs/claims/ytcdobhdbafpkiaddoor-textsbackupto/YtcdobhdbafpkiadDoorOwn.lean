/-
  Rows of entries that a call itself has made: what they hold, and how they are read.
-/
import Derived.Test.YtcdobhdbafpkiadDoorCheck
import Derived.Test.YtcdobhdbafpkiadDoorUpd
namespace Go.Proofs.YtcdobhdbafpkiadDoor
open Go.RowKit
set_option maxRecDepth 20000

def cellsE (e : Pl.Ent) : List Value := [.string e.key, .int .i64 e.ver, .int .i64 e.org, .string e.val]
def cellsL : List Pl.Ent → List Value
  | [] => []
  | e :: r => cellsE e ++ cellsL r
theorem cellsL_len : ∀ es : List Pl.Ent, (cellsL es).length = es.length * 4
  | [] => rfl
  | e :: r => by simp [cellsL, cellsE, cellsL_len r]; omega
theorem cellsL_append : ∀ (a b : List Pl.Ent), cellsL (a ++ b) = cellsL a ++ cellsL b
  | [], _ => rfl
  | e :: r, b => by simp [cellsL, cellsL_append r b]
theorem cellsL_one : ∀ es : List Pl.Ent, ∀ u ∈ cellsL es, u.oneCell' = true
  | [], u, h => by simp [cellsL] at h
  | e :: r, u, h => by
    simp only [cellsL, List.mem_append] at h
    rcases h with h | h
    · simp [cellsE] at h
      rcases h with rfl | rfl | rfl | rfl <;> rfl
    · exact cellsL_one r u h

theorem rowAt_cons {w : World} {b off : Nat} {e : Pl.Ent} {r : List Pl.Ent} :
    RowAt w b off (e :: r) ↔ (w.cell? ⟨b, off, none⟩ = some (.string e.key) ∧ w.cell? ⟨b, off + 1, none⟩ = some (.int .i64 e.ver) ∧ w.cell? ⟨b, off + 2, none⟩ = some (.int .i64 e.org) ∧ w.cell? ⟨b, off + 3, none⟩ = some (.string e.val)) ∧ RowAt w b (off + 4) r := by
  constructor
  · intro h
    refine ⟨?_, fun i hi => ?_⟩
    · have := h 0 (by simp)
      simpa [Pl.ent_cons_zero] using this
    · have := h (i + 1) (by simpa using hi)
      rw [Pl.ent_cons_succ, show off + (i + 1) * 4 = off + 4 + i * 4 by omega] at this
      exact this
  · rintro ⟨h0, h1⟩ i hi
    cases i with
    | zero => simpa [Pl.ent_cons_zero] using h0
    | succ i =>
      rw [Pl.ent_cons_succ, show off + (i + 1) * 4 = off + 4 + i * 4 by omega]
      exact h1 i (by simpa using hi)
theorem rowAt_cells {w : World} {b : Nat} : ∀ (es : List Pl.Ent) (off : Nat), RowAt w b off es ↔ ∀ j u, (cellsL es)[j]? = some u → w.cell? ⟨b, off + j, none⟩ = some u
  | [], off => by
    constructor
    · intro _ j u h; simp [cellsL] at h
    · intro _ i hi; simp at hi
  | e :: r, off => by
    rw [rowAt_cons, rowAt_cells r (off + 4)]
    constructor
    · rintro ⟨⟨h0, h1, h2, h3⟩, h4⟩ j u hj
      match j, hj with
      | 0, hj => simp [cellsL, cellsE] at hj; subst hj; exact h0
      | 1, hj => simp [cellsL, cellsE] at hj; subst hj; exact h1
      | 2, hj => simp [cellsL, cellsE] at hj; subst hj; exact h2
      | 3, hj => simp [cellsL, cellsE] at hj; subst hj; exact h3
      | j + 4, hj =>
        have := h4 j u (by simpa [cellsL, cellsE] using hj)
        rwa [show off + (j + 4) = off + 4 + j by omega]
    · intro h
      refine ⟨⟨?_, ?_, ?_, ?_⟩, fun j u hj => ?_⟩
      · exact h 0 _ (by simp [cellsL, cellsE])
      · exact h 1 _ (by simp [cellsL, cellsE])
      · exact h 2 _ (by simp [cellsL, cellsE])
      · exact h 3 _ (by simp [cellsL, cellsE])
      · have := h (j + 4) u (by simpa [cellsL, cellsE] using hj)
        rwa [show off + 4 + j = off + (j + 4) by omega]
theorem RowAt.take {w : World} {b off : Nat} {es : List Pl.Ent} (h : RowAt w b off es) (n : Nat) : RowAt w b off (es.take n) := by
  intro i hi
  simp only [List.length_take] at hi
  have := h i (by omega)
  have e : Pl.ent (es.take n) i = Pl.ent es i := by
    rw [Pl.ent_eq _ _ (by simp; omega), Pl.ent_eq _ _ (by omega)]; simp
  rwa [e]
theorem RowAt.drop {w : World} {b off : Nat} {es : List Pl.Ent} (h : RowAt w b off es) (n : Nat) : RowAt w b (off + n * 4) (es.drop n) := by
  intro i hi
  simp only [List.length_drop] at hi
  have := h (n + i) (by omega)
  have e : Pl.ent (es.drop n) i = Pl.ent es (n + i) := by
    rw [Pl.ent_eq _ _ (by simp; omega), Pl.ent_eq _ _ (by omega)]; simp
  rw [e, show off + n * 4 + i * 4 = off + (n + i) * 4 by omega]
  exact this

/-- a slice value over a row of the call's own, from block 'base' on -/
def Own (w : World) (base : Nat) (v : Value) (es : List Pl.Ent) : Prop := w.ownsRow base 64 4 v es.length (cellsL es)

theorem infoEntry : (Tryd.prog.info? 64).map (fun i => (i.zero, i.size, i.bytes)) = some (some (.agg #[.string ⟨#[]⟩, .int .i64 0, .int .i64 0, .string ⟨#[]⟩]), 4, 48) := by kernel_rfl

theorem Own.shape {w : World} {base : Nat} {v : Value} {es : List Pl.Ent} (h : Own w base v es) (hok : ∀ e ∈ es, e.ok) :
    ∃ a cap, v = .slice a es.length cap ∧ IsEnts w a es.length cap es ∧ (a = none → cap = 0) ∧ (∀ x, a = some x → base ≤ x.block) := by
  obtain ⟨_, h | ⟨g, cap, cur, rfl, hb, hh, hn, hm, hs, hx⟩⟩ := h
  · obtain ⟨rfl, hn⟩ := h
    have hes : es = [] := List.length_eq_zero_iff.1 hn
    subst hes
    exact ⟨none, 0, rfl, ⟨rfl, Nat.le_refl _, by simp, hok, .inl rfl⟩, fun _ => rfl, by simp⟩
  · refine ⟨some ⟨g, 0, none⟩, cap, rfl, ⟨rfl, hn, hm, hok, ?_⟩, by simp, by rintro x ⟨⟩; exact hb⟩
    rcases es with _ | ⟨e, r⟩
    · exact .inl rfl
    · right
      refine ⟨g, 0, rfl, ?_, ?_⟩
      · exact lt_of_block hh
      · rw [rowAt_cells]
        intro j u hj
        rw [← hx] at hj
        have hj' : cur[j]? = some u := by
          rw [List.getElem?_take] at hj
          split at hj
          · rw [← Array.getElem?_toList]; exact hj
          · cases hj
        simp [World.cell?, hh, hj']
theorem Own.below {w w' : World} {base : Nat} {v : Value} {es : List Pl.Ent} (h : Own w base v es) (k : Below w.heap.size w w') : Own w' base v es := by
  obtain ⟨h0, h1⟩ := h
  refine ⟨h0, ?_⟩
  rcases h1 with h1 | ⟨g, cap, cur, rfl, hb, hh, hr⟩
  · exact .inl h1
  · exact .inr ⟨g, cap, cur, rfl, hb, (k.block g (lt_of_block hh)).trans hh, hr⟩
theorem Own.mono {w : World} {base base' : Nat} {v : Value} {es : List Pl.Ent} (h : Own w base v es) (k : base' ≤ base) : Own w base' v es := by
  obtain ⟨h0, h1⟩ := h
  refine ⟨h0, ?_⟩
  rcases h1 with h1 | ⟨g, cap, cur, rfl, hb, hr⟩
  · exact .inl h1
  · exact .inr ⟨g, cap, cur, rfl, by omega, hr⟩
theorem Own.drewN {w : World} {base : Nat} {v : Value} {es : List Pl.Ent} (h : Own w base v es) (n : Nat) : Own (w.drewN n) base v es := h
theorem Own.nil (w : World) (base : Nat) : Own w base (.slice none 0 0) [] := World.ownsRow_nil _ _ _ _
theorem box4 {w w3 : World} {c0 c1 c2 c3 : Value} {T : TypeId} (hb : Below (w.heap.size + 1) (w.alloc (.cells #[c0, c1, c2, c3] T)) w3) :
    w3.cell? ⟨w.heap.size, 0, none⟩ = some c0 ∧ w3.cell? ⟨w.heap.size, 1, none⟩ = some c1 ∧ w3.cell? ⟨w.heap.size, 2, none⟩ = some c2 ∧ w3.cell? ⟨w.heap.size, 3, none⟩ = some c3 := by
  refine ⟨?_, ?_, ?_, ?_⟩
  all_goals
    rw [hb.cell (by simp)]
    simp
theorem new4 (w : World) {T : TypeId} {e : Pl.Ent} {j : Nat} {u : Value} (h : (cellsE e)[j]? = some u) :
    (w.alloc (.cells #[.string e.key, .int .i64 e.ver, .int .i64 e.org, .string e.val] T)).cell? ⟨w.heap.size, 0 + j, none⟩ = some u := by
  match j, h with
  | 0, h => simp [cellsE] at h; subst h; simp
  | 1, h => simp [cellsE] at h; subst h; simp
  | 2, h => simp [cellsE] at h; subst h; simp
  | 3, h => simp [cellsE] at h; subst h; simp
  | j + 4, h => simp [cellsE] at h

theorem own_of {w : World} {base n : Nat} {v : Value} {xs : List Value} {ll : List Pl.Ent} (h : w.ownsRow base 64 4 v n xs) (e : xs = cellsL ll) : Own w base v ll := by
  subst e
  have hn : n = ll.length := by
    have := h.1
    rw [cellsL_len] at this
    omega
  subst hn
  exact h

theorem heap_new (w : World) (o : Obj) : (w.alloc o).heap[w.heap.size]? = some o := by
  show (w.heap.push o)[w.heap.size]? = _
  simp
end Go.Proofs.YtcdobhdbafpkiadDoor
