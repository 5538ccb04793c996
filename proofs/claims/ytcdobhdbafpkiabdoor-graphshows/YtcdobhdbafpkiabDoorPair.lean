/-
  Slices of pairs of numbers in memory.
-/
import Derived.Test.YtcdobhdbafpkiabDoorProg
import Derived.Test.YtcdobhdbafpkiabDoorKey
import Derived.Test.YtcdobhdbafpkiabDoorPairP
import Derived.WalkLawsBesides
import Derived.WalkSpells
import Derived.Deep.RegionWith
import Derived.Deep.QuietTactic
import Derived.BigQuiet
namespace Go.Proofs.YtcdobhdbafpkiabDoor
open Go.RowKit

/-- the cells of pairs, one behind the other -/
def PairsAt (w : World) (b off : Nat) (ps : List (Int × Int)) : Prop := ∀ i, i < ps.length →
  w.cell? ⟨b, off + i * 2, none⟩ = some (.int .i64 (Pl.pr ps i).1) ∧ w.cell? ⟨b, off + i * 2 + 1, none⟩ = some (.int .i64 (Pl.pr ps i).2)

/-- a slice of pairs -/
def IsPairs (w : World) (a : Option Addr) (len cap : Nat) (ps : List (Int × Int)) : Prop :=
  ps.length = len ∧ len ≤ cap ∧ cap ≤ maxLen ∧ (∀ p ∈ ps, Pl.pairOk p) ∧ (ps = [] ∨ ∃ b off, a = some ⟨b, off, none⟩ ∧ b < w.heap.size ∧ PairsAt w b off ps)

theorem PairsAt.below {w w' : World} {b off : Nat} {ps : List (Int × Int)} (h : PairsAt w b off ps) (hb : b < w.heap.size) (k : Below w.heap.size w w') : PairsAt w' b off ps := by
  intro i hi
  obtain ⟨c0, c1⟩ := h i hi
  exact ⟨(k.cell (p := ⟨b, _, none⟩) hb).trans c0, (k.cell (p := ⟨b, _, none⟩) hb).trans c1⟩

theorem IsPairs.below {w w' : World} {a : Option Addr} {len cap : Nat} {ps : List (Int × Int)} (h : IsPairs w a len cap ps) (k : Below w.heap.size w w') : IsPairs w' a len cap ps := by
  obtain ⟨h1, h2, h3, h4, h5⟩ := h
  refine ⟨h1, h2, h3, h4, ?_⟩
  rcases h5 with h5 | ⟨b, off, rfl, hb, hr⟩
  · exact .inl h5
  · exact .inr ⟨b, off, rfl, Nat.lt_of_lt_of_le hb k.size, hr.below hb k⟩

theorem below_drew {B : Nat} {a w : World} (h : Below B a w) (n : Nat) : Below B a (w.drewN n) := h.trans ⟨rfl, rfl, rfl, Nat.le_refl _, fun _ _ => rfl⟩

theorem box2 {w w3 : World} {c0 c1 : Value} {T : TypeId} (hb : Below (w.heap.size + 1) (w.alloc (.cells #[c0, c1] T)) w3) :
    w3.cell? ⟨w.heap.size, 0, none⟩ = some c0 ∧ w3.cell? ⟨w.heap.size, 1, none⟩ = some c1 ∧ w.heap.size < w3.heap.size ∧ Below w.heap.size w w3 := by
  have hz := hb.size
  simp only [World.alloc, Array.size_push] at hz
  have h0 := hb.cell (p := ⟨w.heap.size, 0, none⟩) (by simp)
  have h1 := hb.cell (p := ⟨w.heap.size, 1, none⟩) (by simp)
  refine ⟨h0.trans ?_, h1.trans ?_, by omega, ((Below.refl _ _).alloc (Nat.le_refl _) _).trans (hb.mono (by omega))⟩
  all_goals simp
end Go.Proofs.YtcdobhdbafpkiabDoor
