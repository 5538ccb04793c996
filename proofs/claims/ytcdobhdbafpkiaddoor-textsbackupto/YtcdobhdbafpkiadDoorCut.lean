/-
  Contracts: cutting a text at the first of a sign (strings.Cut at a sign of one byte), and cutting a sign off its head.
-/
import Derived.Test.YtcdobhdbafpkiadDoorProg
import Derived.Test.YtcdobhdbafpkiadDoorKey
import Derived.Test.YtcdobhdbafpkiadDoorTextP
import Derived.WalkLawsBesides
import Derived.WalkSpells
import Derived.Deep.RegionWith
import Derived.Deep.QuietTactic
import Derived.BigQuiet
import Derived.Lib.Strings
import Derived.Lib.Slices
import Derived.Lib.Walk
import Derived.Lib.Bytealg
namespace Go.Proofs.YtcdobhdbafpkiadDoor
open Go.RowKit
set_option maxRecDepth 20000

theorem Pl.index_cut (c : UInt8) : ∀ l : List UInt8, (Lib.indexByte l c = -1 ∧ Pl.cutL c l = (l, none)) ∨ ∃ i : Nat, i < l.length ∧ Lib.indexByte l c = i ∧ Pl.cutL c l = (l.take i, some (l.drop (i + 1)))
  | [] => .inl ⟨rfl, rfl⟩
  | b :: r => by
    by_cases e : b = c
    · right
      exact ⟨0, by simp, by simp [Lib.indexByte, e], by simp [Pl.cutL, e]⟩
    · rcases Pl.index_cut c r with ⟨h1, h2⟩ | ⟨i, hi, h1, h2⟩
      · left
        exact ⟨by simp [Lib.indexByte, e, h1], by simp [Pl.cutL, e, h2]⟩
      · right
        refine ⟨i + 1, by simpa using hi, ?_, by simp [Pl.cutL, e, h2]⟩
        rw [Lib.indexByte]
        simp only [beq_iff_eq, e, if_false, h1]
        rw [if_neg (by omega)]
        rfl
theorem ext_list (s : ByteArray) (i j : Nat) : (s.extract i j).data.toList = (s.data.toList.drop i).take (j - i) := by
  rw [ByteArray.data_extract, Array.toList_extract]
theorem sz_list (s : ByteArray) : s.data.toList.length = s.size := by simp
theorem u8_back (c : UInt8) : ((c.toNat : Int)).toNat.toUInt8 = c := by simp

set_option maxHeartbeats 1000000 in
set_option maxRecDepth 100000 in
theorem lIndexByte_any (s : ByteArray) (c : Int) (w : World) :
    Calls Tryd.prog 79 #[.string s, .int .u8 c] w fun e w' => e = .returned (.int .i64 (Lib.indexByte s.data.toList c.toNat.toUInt8)) ∧ w' = w := by
  go_enter Tryd.func79, Tryd.ntmps79
  go_wp2
  rw [run_callFunc_extern Tryd.func89 (by kernel_rfl) (by kernel_rfl) (by kernel_rfl) (e := Extern.BytealgIndexByte.indexByte) (by kernel_rfl), Lib.run_indexByteString]
  simp only [Result.andThen]
  rw [Oper.upon_value]
  go_wp2
  go_ret
  exact ⟨rfl, rfl⟩

set_option maxHeartbeats 1000000 in
theorem lIndex_any (s : ByteArray) (c : UInt8) (w : World) :
    Calls Tryd.prog 69 #[.string s, .string ⟨#[c]⟩] w fun e w' => e = .returned (.int .i64 (Lib.indexByte s.data.toList c)) ∧ w' = w := by
  go_enter Tryd.func69, Tryd.ntmps69
  go_wp2_with (go_at_call 79; refine (lIndexByte_any _ _ _).mono ?_; rintro e w' ⟨rfl, rfl⟩)
  · have h : ([c] == s.toList) = true := by assumption
    go_ret
    refine ⟨?_, rfl⟩
    have e : s.data.toList = [c] := by rw [← Lib.toList_data]; exact (beq_iff_eq.1 h).symm
    rw [e]
    simp [Lib.indexByte]
  · go_ret
    exact ⟨rfl, rfl⟩

set_option maxHeartbeats 1000000 in
theorem lCut_any (s : ByteArray) (c : UInt8) (w : World) (hs : s.size ≤ maxLen) :
    Calls Tryd.prog 58 #[.string s, .string ⟨#[c]⟩] w fun e w' => ∃ a b : ByteArray, e = .returned (.tuple #[.string a, .string b, .bool (Pl.cutL c s.data.toList).2.isSome]) ∧
      a.data.toList = (Pl.cutL c s.data.toList).1 ∧ b.data.toList = Pl.behind (Pl.cutL c s.data.toList).2 ∧ ∃ n, w' = w.drewN n := by
  unfold maxLen at hs
  rcases Pl.index_cut c s.data.toList with ⟨h1, h2⟩ | ⟨i, hi, h1, h2⟩
  · have H1 := hid h1
    have H2 := hid h2
    clear h1 h2
    go_enter Tryd.func58, Tryd.ntmps58
    go_wp2_with (go_at_call 69; refine (lIndex_any _ _ _).mono ?_; rw [H1.out]; rintro e w' ⟨rfl, rfl⟩)
    go_ret3
    exact ⟨s, ⟨#[]⟩, by rw [H2.out]; rfl, by rw [H2.out], by rw [H2.out]; rfl, 0, rfl⟩
  · have H1 := hid h1
    have H2 := hid h2
    clear h1 h2
    rw [sz_list] at hi
    go_enter Tryd.func58, Tryd.ntmps58
    go_wp2_with (go_at_call 69; refine (lIndex_any _ _ _).mono ?_; rw [H1.out]; rintro e w' ⟨rfl, rfl⟩)
    go_quiet (fail)
    go_wp2
    go_ret3
    refine ⟨_, _, by rw [H2.out]; rfl, ?_, ?_, _, rfl⟩
    · rw [H2.out, ext_list]; simp
    · rw [H2.out, ext_list, List.take_of_length_le (by simp)]; rfl

set_option maxHeartbeats 1000000 in
theorem Cut_any (s : ByteArray) (c : UInt8) (w : World) (hs : s.size ≤ maxLen) :
    Calls Tryd.prog 37 #[.string s, .string ⟨#[c]⟩] w fun e w' => ∃ a b : ByteArray, e = .returned (.tuple #[.string a, .string b, .bool (Pl.cutL c s.data.toList).2.isSome]) ∧
      a.data.toList = (Pl.cutL c s.data.toList).1 ∧ b.data.toList = Pl.behind (Pl.cutL c s.data.toList).2 ∧ ∃ n, w' = w.drewN n := by
  obtain ⟨x, HX⟩ : ∃ x, Hid (Pl.cutL c s.data.toList = x) := ⟨_, rfl⟩
  rw [HX.out]
  go_enter Tryd.func37, Tryd.ntmps37
  go_wp2_with (go_at_call 58; refine (lCut_any _ _ _ hs).mono ?_; rw [HX.out]; rintro e w' ⟨a, b, rfl, ha, hb, n, rfl⟩)
  go_ret3
  exact ⟨a, b, rfl, ha, hb, n, rfl⟩

/-- is a sign the first of a text? -/
def Pl.headB (c : UInt8) (l : List UInt8) : Bool := l.head? == some c
/-- a text without the sign at its head -/
def Pl.tailB (c : UInt8) (l : List UInt8) : List UInt8 := if Pl.headB c l then l.tail else l

set_option maxHeartbeats 1000000 in
theorem CutPrefix_any (s : ByteArray) (c : UInt8) (w : World) (hs : s.size ≤ maxLen) :
    Calls Tryd.prog 20 #[.string s, .string ⟨#[c]⟩] w fun e w' => ∃ a : ByteArray, e = .returned (.tuple #[.string a, .bool (Pl.headB c s.data.toList)]) ∧
      a.data.toList = Pl.tailB c s.data.toList ∧ w' = w := by
  unfold maxLen at hs
  by_cases h : Pl.headB c s.data.toList = true
  · have h1 : 1 ≤ s.size := by
      rw [← sz_list]
      unfold Pl.headB at h
      cases hl : s.data.toList <;> simp [hl] at h ⊢
    have h2 : ((s.extract 0 1).toList == [c]) = true := by
      rw [Lib.toList_data, ext_list]
      unfold Pl.headB at h
      cases hl : s.data.toList <;> simp [hl] at h ⊢
      exact h
    have H := hid h
    clear h
    go_enter Tryd.func20, Tryd.ntmps20
    go_wp2
    go_ret2
    refine ⟨_, by rw [H.out]; rfl, ?_, rfl⟩
    rw [ext_list]
    unfold Pl.tailB
    rw [H.out, List.take_of_length_le (by simp)]
    simp
  · have H : Hid (Pl.headB c s.data.toList = false) := hid (by simpa using h)
    clear h
    rcases Nat.lt_or_ge s.size 1 with h1 | h1
    · go_enter Tryd.func20, Tryd.ntmps20
      go_wp2
      go_ret2
      exact ⟨s, by rw [H.out]; rfl, by unfold Pl.tailB; rw [H.out]; rfl, rfl⟩
    · have h2 : ((s.extract 0 1).toList == [c]) = false := by
        rw [Lib.toList_data, ext_list]
        have h := H.out
        unfold Pl.headB at h
        rw [← sz_list] at h1
        cases hl : s.data.toList <;> simp [hl] at h h1 ⊢
        exact h
      go_enter Tryd.func20, Tryd.ntmps20
      go_wp2
      go_ret2
      exact ⟨s, by rw [H.out]; rfl, by unfold Pl.tailB; rw [H.out]; rfl, rfl⟩
end Go.Proofs.YtcdobhdbafpkiadDoor
