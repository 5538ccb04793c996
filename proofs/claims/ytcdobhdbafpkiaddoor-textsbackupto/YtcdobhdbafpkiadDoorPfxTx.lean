/-
  Plain: prefixes that may be told are few and small; contract: the document's PrefixesText.
-/
import Derived.Test.YtcdobhdbafpkiadDoorAdjTx
import Derived.Test.YtcdobhdbafpkiadDoorPfx5
namespace Go.Proofs.YtcdobhdbafpkiadDoor
open Go.RowKit
set_option maxRecDepth 20000

theorem Pl.pfxN_ok (ps : List (Int × Int)) : ∀ (n i : Nat), i + n = ps.length → Pl.pfxN ps n i = 0 → ∀ j, i ≤ j → j < ps.length → Pl.pfx1 (Pl.pr ps j) = 0
  | 0, i, h, _, j, h1, h2 => by omega
  | n + 1, i, h, h0, j, h1, h2 => by
    rw [Pl.pfxN] at h0
    by_cases g1 : Pl.pfx1 (Pl.pr ps i) = 0
    · rw [if_pos g1] at h0
      split at h0
      · cases h0
      · rcases Nat.eq_or_lt_of_le h1 with e | h1
        · subst e; exact g1
        · exact Pl.pfxN_ok ps n (i + 1) (by omega) h0 j h1 h2
    · rw [if_neg g1] at h0; exact absurd h0 g1
theorem Pl.pfxF_ok {ps : List (Int × Int)} (h : Pl.pfxF ps = 0) : ps.length ≤ 6 ∧ ∀ p ∈ ps, Pl.small p := by
  unfold Pl.pfxF at h
  split at h
  · rename_i hl
    refine ⟨hl, fun p hp => ?_⟩
    obtain ⟨i, hi, rfl⟩ := List.getElem_of_mem hp
    have := Pl.pfx1_zero (Pl.pfxN_ok ps ps.length 0 (by omega) h i (by omega) hi)
    rw [Pl.pr_eq ps i hi] at this
    exact ⟨by omega, by omega, by omega, by omega⟩
  · cases h
/-- what ShowPrefixes answers -/
def Pl.pfxText (ps : List (Int × Int)) : ByteArray := if Pl.pfxF ps = 0 then Pl.showT ⟨#[47]⟩ ps else ⟨#[]⟩

end Go.Proofs.YtcdobhdbafpkiadDoor
