/-
  What a parameter holds when it is read as data: a slice of prefixes.
-/
import Derived.Test.YtcdobhdbafpkiaePairOpen
namespace Go.Proofs.Ytcdobhdbafpkiae
open Go.ChangeShapes Go.WideShapes Go.ChangeAt Go.RowKit

theorem open_pfxs {H : Type} {enc : TypeId × Value → H} {w : World} {r : Reach} {b0 : Nat} {held : Bool} {v : Value} {d : DataW H} {p : List MemPlace}
    (hv : Value.okWide Try.prog w r b0 35 v) (h : DataW.Trod enc Try.prog w 0 (fun _ => true) held 35 v d p) :
    ∃ a len cap ps, v = .slice a len cap ∧ IsPairs w a len cap ps := by
  obtain ⟨a, len, cap, rfl⟩ := okWide_slice Try.underlying35 hv
  obtain ⟨fuel, hf⟩ := h
  obtain ⟨ps, hp⟩ := pairs_of_trod Try.underlying35 Try.underlying27 (by kernel_rfl) rfl rfl rfl rfl (by simpa [Value.cells] using hf)
  exact ⟨a, len, cap, ps, rfl, hp⟩
end Go.Proofs.Ytcdobhdbafpkiae
