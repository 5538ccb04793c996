/-
  Contracts: cutting a text at the first of a sign (strings.Cut at a sign of one byte), and cutting a sign off its head.
-/
import Derived.Test.YtcdobhdbafpkiabDoorProg
import Derived.Test.YtcdobhdbafpkiabDoorKey
import Derived.Test.YtcdobhdbafpkiabDoorTextP
import Derived.WalkLawsBesides
import Derived.WalkSpells
import Derived.Deep.RegionWith
import Derived.Deep.QuietTactic
import Derived.BigQuiet
import Derived.Lib.Strings
import Derived.Lib.Slices
import Derived.Lib.Walk
import Derived.Lib.Bytealg
namespace Go.Proofs.YtcdobhdbafpkiabDoor
open Go.RowKit

theorem Pl.index_cut (c : UInt8) : ∀ l : List UInt8, (Lib.indexByte l c = -1 ∧ Pl.cutL c l = (l, none)) ∨ ∃ i : Nat, i < l.length ∧ Lib.indexByte l c = i ∧ Pl.cutL c l = (l.take i, some (l.drop (i + 1)))
  | [] => .inl ⟨rfl, rfl⟩
  | b :: r => by
    by_cases e : b = c
    · right
      exact ⟨0, by simp, by simp [Lib.indexByte, e], by simp [Pl.cutL, e]⟩
    · rcases Pl.index_cut c r with ⟨h1, h2⟩ | ⟨i, hi, h1, h2⟩
      · left
        exact ⟨by simp [Lib.indexByte, e, h1], by simp [Pl.cutL, e, h2]⟩
      · right
        refine ⟨i + 1, by simpa using hi, ?_, by simp [Pl.cutL, e, h2]⟩
        rw [Lib.indexByte]
        simp only [beq_iff_eq, e, if_false, h1]
        rw [if_neg (by omega)]
        rfl
theorem ext_list (s : ByteArray) (i j : Nat) : (s.extract i j).data.toList = (s.data.toList.drop i).take (j - i) := by
  rw [ByteArray.data_extract, Array.toList_extract]
theorem sz_list (s : ByteArray) : s.data.toList.length = s.size := by simp
theorem u8_back (c : UInt8) : ((c.toNat : Int)).toNat.toUInt8 = c := by simp

/-- is a sign the first of a text? -/
def Pl.headB (c : UInt8) (l : List UInt8) : Bool := l.head? == some c
/-- a text without the sign at its head -/
def Pl.tailB (c : UInt8) (l : List UInt8) : List UInt8 := if Pl.headB c l then l.tail else l

end Go.Proofs.YtcdobhdbafpkiabDoor
