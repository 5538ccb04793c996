/-
  Contract: the document's dec: a number's digits.
-/
import Derived.Test.YtcdobhdbafpkiadDoorShowP
import Derived.Laws.IdiomStrings
import Derived.Lib.BufferRead
namespace Go.Proofs.YtcdobhdbafpkiadDoor
open Go.RowKit
set_option maxRecDepth 20000

theorem Pl.dec_small {n : Nat} (h : n < 10) : Pl.dec (n : Int) = ⟨#[UInt8.ofNat (48 + n)]⟩ := by
  unfold Pl.dec
  rw [Lib.itoa_nonneg, Lib.decDigits_one h]
theorem Pl.dec_great {n : Nat} (h : ¬ n < 10) : Pl.dec (n : Int) = Pl.dec ((n / 10 : Nat) : Int) ++ Pl.dec ((n % 10 : Nat) : Int) := by
  have h1 : Pl.dec ((n % 10 : Nat) : Int) = ⟨#[UInt8.ofNat (48 + n % 10)]⟩ := Pl.dec_small (by omega)
  rw [h1]
  unfold Pl.dec
  rw [Lib.itoa_nonneg, Lib.itoa_nonneg, Lib.decDigits, dif_neg h]
  apply ByteArray.ext
  simp [ByteArray.data_append]

end Go.Proofs.YtcdobhdbafpkiadDoor
