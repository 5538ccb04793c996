/-
  Contract: the entry of a raw thing.
-/
import Derived.Test.YtcdobhdbafpkiadDoorRaw1
import Derived.Test.YtcdobhdbafpkiadDoorInv
import Derived.Test.YtcdobhdbafpkiadDoorList
import Derived.Test.YtcdobhdbafpkiadDoorOwn
namespace Go.Proofs.YtcdobhdbafpkiadDoor
open Go.RowKit
set_option maxRecDepth 20000

theorem rblk_set {w : World} {b : Nat} {cs : Array Value} {T : TypeId} {z : Nat × Nat} {o : Nat} {v : Value} (h : w.heap[b]? = some (.cells cs T z)) :
    (w.setCell ⟨b, o, none⟩ v).heap[b]? = some (.cells (cs.setIfInBounds o v) T z) := by
  simp only [World.setCell, Array.getElem?_modify, h]
  simp
theorem rblk4 {w : World} {b : Nat} {c0 c1 c2 c3 : Value} {T : TypeId} (h : w.heap[b]? = some (.cells #[c0, c1, c2, c3] T (0, 0))) :
    (w.cell? ⟨b, 0, none⟩ = some c0 ∧ w.cell? ⟨b, 1, none⟩ = some c1 ∧ w.cell? ⟨b, 2, none⟩ = some c2 ∧ w.cell? ⟨b, 3, none⟩ = some c3) ∧
    (w.frozen? ⟨b, 0, none⟩ = false ∧ w.frozen? ⟨b, 1, none⟩ = false ∧ w.frozen? ⟨b, 2, none⟩ = false ∧ w.frozen? ⟨b, 3, none⟩ = false) := by
  refine ⟨⟨?_, ?_, ?_, ?_⟩, ⟨?_, ?_, ?_, ?_⟩⟩
  all_goals simp [World.cell?, World.frozen?, h]
theorem rbelow_set {B X o : Nat} {a W : World} {v : Value} (h : Below B a W) (hB : B ≤ X) : Below B a (W.setCell ⟨X, o, none⟩ v) :=
  ⟨h.os, h.tape, h.output, by simpa [World.setCell] using h.size, fun k hk => (Below.heap_setCell _ _ _ _ (by simp; omega)).trans (h.block k hk)⟩

/-- what slot k + 3 holds once operation k has been carried out -/
def EF (k0 k1 k2 k3 : Int) (R : Nat) (w : World) : Nat → Value → Prop
  | 0, v => ∃ b, v = .slice (some ⟨b, 0, none⟩) 6 6 ∧ b < w.heap.size ∧ ∀ j, j < 6 → ∃ s, w.cell? ⟨b, j, none⟩ = some (.string s) ∧ Pl.keyB s = true
  | 1, v => v = .pointer (some ⟨R, 0, none⟩)
  | 2, v => v = .int .i64 k0
  | 3, v => ∃ n : Nat, v = .int .i64 (n : Int) ∧ n < 6
  | 4, v => ∃ b j s, v = .pointer (some ⟨b, j, none⟩) ∧ b < w.heap.size ∧ w.cell? ⟨b, j, none⟩ = some (.string s) ∧ Pl.keyB s = true
  | 5, v => ∃ s, v = .string s ∧ Pl.keyB s = true
  | 6, v => v = .pointer (some ⟨R, 1, none⟩)
  | 7, v => v = .int .i64 k1
  | 8, v => ∃ n : Nat, v = .int .i64 (n : Int) ∧ n < 4
  | 9, v => ∃ n : Int, v = .int .i64 n ∧ 1 ≤ n ∧ n ≤ 4
  | 10, v => v = .pointer (some ⟨R, 2, none⟩)
  | 11, v => v = .int .i64 k2
  | 12, v => ∃ n : Nat, v = .int .i64 (n : Int) ∧ n < 3
  | 13, v => ∃ b, v = .slice (some ⟨b, 0, none⟩) 5 5 ∧ b < w.heap.size ∧ ∀ j, j < 5 → ∃ s, w.cell? ⟨b, j, none⟩ = some (.string s) ∧ s.size ≤ 120
  | 14, v => v = .pointer (some ⟨R, 3, none⟩)
  | 15, v => v = .int .i64 k3
  | 16, v => ∃ n : Nat, v = .int .i64 (n : Int) ∧ n < 5
  | 17, v => ∃ b j s, v = .pointer (some ⟨b, j, none⟩) ∧ b < w.heap.size ∧ w.cell? ⟨b, j, none⟩ = some (.string s) ∧ s.size ≤ 120
  | 18, v => ∃ s, v = .string s ∧ s.size ≤ 120
  | 19, v => ∃ x : Pl.Ent, v = .agg #[.string x.key, .int .i64 x.ver, .int .i64 x.org, .string x.val] ∧ x.may = true ∧ x.ver ≤ 4
  | _, _ => True

theorem EF.mono {k0 k1 k2 k3 : Int} {R : Nat} {w w' : World} {k : Nat} {v : Value} (h : EF k0 k1 k2 k3 R w k v) (hb : Below w.heap.size w w') : EF k0 k1 k2 k3 R w' k v := by
  have hz := hb.size
  match k, h with
  | 0, ⟨b, h1, h2, h3⟩ => exact ⟨b, h1, by omega, fun j hj => by obtain ⟨s, e, q⟩ := h3 j hj; exact ⟨s, ((bcell hb).1 b j h2).trans e, q⟩⟩
  | 13, ⟨b, h1, h2, h3⟩ => exact ⟨b, h1, by omega, fun j hj => by obtain ⟨s, e, q⟩ := h3 j hj; exact ⟨s, ((bcell hb).1 b j h2).trans e, q⟩⟩
  | 4, ⟨b, j, s, h1, h2, h3, h4⟩ => exact ⟨b, j, s, h1, by omega, ((bcell hb).1 b j h2).trans h3, h4⟩
  | 17, ⟨b, j, s, h1, h2, h3, h4⟩ => exact ⟨b, j, s, h1, by omega, ((bcell hb).1 b j h2).trans h3, h4⟩
  | 1, h => exact h
  | 2, h => exact h
  | 3, h => exact h
  | 5, h => exact h
  | 6, h => exact h
  | 7, h => exact h
  | 8, h => exact h
  | 9, h => exact h
  | 10, h => exact h
  | 11, h => exact h
  | 12, h => exact h
  | 14, h => exact h
  | 15, h => exact h
  | 16, h => exact h
  | 18, h => exact h
  | 19, h => exact h
  | n + 20, h => exact h

structure EInv (k0 k1 k2 k3 : Int) (R : Nat) (W0 : World) (listed : Array Bool) (a : Act) (w : World) : Prop where
  ls : listed.size = 21
  sz : a.tmps.size = 23
  df : a.defers = []
  s1 : a.tmps[1]?.getD undef = .pointer (some ⟨R, 0, none⟩)
  s2 : a.tmps[2]?.getD undef = .pointer (some ⟨R + 1, 0, none⟩)
  f : listed.getD 20 false = false → ∀ k, k < 20 → listed.getD k false = true → EF k0 k1 k2 k3 R w k (a.tmps[k + 3]?.getD undef)
  nb : listed.getD 20 false = false → Below W0.heap.size W0 w
  al : listed.getD 20 false = true → ∀ k, k < 20 → listed.getD k false = true
  dn : listed.getD 20 false = true → ∃ x : Pl.Ent, (x.may = true ∧ x.ver ≤ 4) ∧ Below R W0 w ∧ w.heap[R + 1]? = some (.cells #[.string x.key, .int .i64 x.ver, .int .i64 x.org, .string x.val] 64 (0, 0))

theorem EInv.put {k0 k1 k2 k3 : Int} {R : Nat} {W0 : World} {listed : Array Bool} {a : Act} {w w' : World} {i : Nat} {v : Value} (h : EInv k0 k1 k2 k3 R W0 listed a w) (hi : i < 20) (hn : listed.getD 20 false = false) (hb : Below w.heap.size w w') (hv : EF k0 k1 k2 k3 R w' i v) :
    EInv k0 k1 k2 k3 R W0 (listed.setIfInBounds i true) (a.put (some (i + 3)) v) w' := by
  have h20 : (listed.setIfInBounds i true).getD 20 false = false := by rw [getD_set_ne false (by omega)]; exact hn
  refine ⟨by simp [h.ls], by simp [Act.put, h.sz], h.df, by rw [eval_ne (by omega)]; exact h.s1, by rw [eval_ne (by omega)]; exact h.s2, ?_, fun _ => ?_, (fun h' => by rw [h20] at h'; cases h'), fun h' => by rw [h20] at h'; cases h'⟩
  · intro _ k hk hl
    by_cases hki : i = k
    · subst hki
      rw [eval_eq (by rw [h.sz]; omega)]
      exact hv
    · rw [getD_set_ne false hki] at hl
      rw [eval_ne (by omega)]
      exact (h.f hn k hk hl).mono hb
  · have := h.nb hn
    exact this.trans (hb.mono this.size)
end Go.Proofs.YtcdobhdbafpkiadDoor
