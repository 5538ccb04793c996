/-
  A region that draws its order, whose operations read old memory and whose callees make new memory alone: one walk, in the order of the text.
-/
import Derived.Test.YtcdobhdbafpkiadDoorKey
import Derived.Deep.QuietTactic
import Derived.BigQuiet
namespace Go.Proofs.YtcdobhdbafpkiadDoor
open Go.RowKit
set_option maxRecDepth 20000

/-- a world that has grown out of another: what was there is as it was -/
structure WIn (W : World) where
  w : World
  h : Below W.heap.size W w

theorem wp_region_in {P : Program} {id : Nat} {Q : Exit → Act → World → Prop} {a : Act} {w : World} {l : List Oper} (hm : P.follows .mixedOrders = true) (hB : Region.lexB .any l.toArray = true)
    (h : wpQuiet P l.toArray (fun w' => ∃ x : WIn w, w' = x.w) (fun a' => ∀ w', (∃ x : WIn w, w' = x.w) → Q .normal a' w') l a) : (Code.region id l.toArray true).wp P Q a w :=
  wp_region_quiet (C := fun w' => ∃ x : WIn w, w' = x.w) hm hB ⟨⟨_, (Below.refl _ _).drew⟩, rfl⟩ (by simpa using h)

theorem in_call {P : Program} {f : FuncId} {args : Array Value} {W : World} {x : WIn W} {v : Value}
    (h : Calls P f args x.w fun e w' => e = .returned v ∧ Below x.w.heap.size x.w w') : Calls P f args x.w fun e w'' => e = .returned v ∧ ∃ y : WIn W, w'' = y.w :=
  h.mono fun _ w' ⟨he, hb⟩ => ⟨he, ⟨w', x.h.trans (hb.mono x.h.size)⟩, rfl⟩

theorem in_out {W w' : World} (h : ∃ x : WIn W, w' = x.w) : Below W.heap.size W w' := by
  obtain ⟨x, rfl⟩ := h
  exact x.h
theorem in_some (W : World) : Nonempty (WIn W) := ⟨⟨_, Below.refl _ _⟩⟩
theorem in_cell {W : World} {b o : Nat} {v : Value} (hb : b < W.heap.size) (h : W.cell? ⟨b, o, none⟩ = some v) : ∀ x : WIn W, x.w.cell? ⟨b, o, none⟩ = some v := fun x => (x.h.cell (p := ⟨b, o, none⟩) hb).trans h
end Go.Proofs.YtcdobhdbafpkiadDoor
