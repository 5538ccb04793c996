/-
  Plain: pairs shown as a text; contracts of the library's strconv.Itoa and of the document's dec.
-/
import Derived.Test.YtcdobhdbafpkiadDoorShelf
import Derived.Test.YtcdobhdbafpkiadDoorPairOwn
import Derived.Test.YtcdobhdbafpkiadDoorInv
import Derived.Lib.ItoaMem
import Derived.Lib.ItoaLen
namespace Go.Proofs.YtcdobhdbafpkiadDoor
open Go.RowKit
set_option maxRecDepth 20000

/-- the table that strconv reads -/
def Tab (w : World) : Prop := Lib.TabIs Tryd.prog w "internal/strconv.uint64pow10" .u64 Lib.pow10Tab
theorem Tab.below {w w' : World} (h : Tab w) (k : Below w.heap.size w w') : Tab w' := by
  unfold Tab Lib.TabIs World.var? at h ⊢
  cases hg : Tryd.prog.globalNamed "internal/strconv.uint64pow10" with
  | none => rw [hg] at h; cases h
  | some g =>
  rw [hg] at h
  simp only [Option.bind_some] at h ⊢
  have hlt : g < w.heap.size := by
    rcases Nat.lt_or_ge g w.heap.size with h' | h'
    · exact h'
    · rw [Array.getElem?_eq_none h'] at h; cases h
  rw [k.block g hlt]
  exact h
theorem below_grow (w : World) (k : Nat) (os : Array Obj) : Below w.heap.size w (Sort.grow (w.drewN k) os) := by
  refine ⟨rfl, rfl, rfl, ?_, fun j hj => ?_⟩
  · show w.heap.size ≤ (w.heap ++ os).size
    simp
  · show (w.heap ++ os)[j]? = w.heap[j]?
    rw [Array.getElem?_append_left hj]

/-- a number's digits -/
def Pl.dec (n : Int) : ByteArray := ⟨(Lib.itoa n).toArray⟩
theorem Pl.dec_size (n : Int) (h0 : -9223372036854775808 ≤ n) (h1 : n ≤ 9223372036854775807) : (Pl.dec n).size ≤ 21 := by
  have := Lib.itoa_length_le n h0 h1
  show (Lib.itoa n).toArray.size ≤ 21
  simpa using this
theorem Itoa_any (n : Int) (w : World) (h0 : 0 ≤ n) (h1 : n ≤ 100000) (hT : Tab w) :
    Calls Tryd.prog 24 #[.int .i64 n] w fun e w' => e = .returned (.string (Pl.dec n)) ∧ Below w.heap.size w w' :=
  (Tryd.strconv_Itoa n (by omega) (by omega) w hT).mono fun e w' ⟨h, k, os, hw⟩ => ⟨h, hw ▸ below_grow w k os⟩

/-- a pair as a text, with a sign between -/
def Pl.sideT (m : ByteArray) (p : Int × Int) : ByteArray := Pl.dec p.1 ++ m ++ Pl.dec p.2
/-- pairs as a text -/
def Pl.showT (m : ByteArray) (ps : List (Int × Int)) : ByteArray := ⟨(Lib.join ((ps.map (Pl.sideT m)).map (·.data.toList)) [44]).toArray⟩
def Pl.small (p : Int × Int) : Prop := 0 ≤ p.1 ∧ p.1 ≤ 1000 ∧ 0 ≤ p.2 ∧ p.2 ≤ 1000
theorem Pl.dec_le (n : Int) (h0 : 0 ≤ n) (h1 : n ≤ 1000) : (Pl.dec n).size ≤ 21 := Pl.dec_size n (by omega) (by omega)
theorem Pl.sideT_size (m : ByteArray) (p : Int × Int) (h : Pl.small p) : (Pl.sideT m p).size ≤ 42 + m.size := by
  obtain ⟨h1, h2, h3, h4⟩ := h
  unfold Pl.sideT
  rw [ByteArray.size_append, ByteArray.size_append]
  have := Pl.dec_le p.1 h1 h2
  have := Pl.dec_le p.2 h3 h4
  omega
end Go.Proofs.YtcdobhdbafpkiadDoor
