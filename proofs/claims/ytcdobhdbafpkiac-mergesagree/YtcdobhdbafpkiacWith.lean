/-
  Contract: what the document's withEntry makes.
-/
import Derived.Test.YtcdobhdbafpkiacApp
namespace Go.Proofs.Ytcdobhdbafpkiac
open Go.RowKit

theorem wE_step (es : List Pl.Ent) (k : Nat) (dn : Bool) (x : Pl.Ent) (h : k < es.length) : Pl.wE (es.drop k) dn x = (if !dn && !Pl.ltB (Pl.ent es k).key x.key then [x] else []) ++ ((if (Pl.ent es k).key = x.key then [] else [Pl.ent es k]) ++ Pl.wE (es.drop (k + 1)) (dn || !Pl.ltB (Pl.ent es k).key x.key) x) := by
  rw [Pl.drop_ent es k h]; rfl

theorem row_at {w w' : World} {b off k : Nat} {es : List Pl.Ent} {y : Pl.Ent} (h : RowAt w b off es) (hb : b < w.heap.size) (hw : Below w.heap.size w w') (hy : Pl.ent es k = y) (hk : k < es.length) :
    w'.cell? ⟨b, off + k * 4, none⟩ = some (.string y.key) ∧ w'.cell? ⟨b, off + k * 4 + 1, none⟩ = some (.int .i64 y.ver) ∧ w'.cell? ⟨b, off + k * 4 + 2, none⟩ = some (.int .i64 y.org) ∧ w'.cell? ⟨b, off + k * 4 + 3, none⟩ = some (.string y.val) := by
  subst hy
  exact (h.below hb hw) k hk

end Go.Proofs.Ytcdobhdbafpkiac
