/-
  Contracts and facts that the proof rests on, put together out of several texts.
-/
import Derived.Test.YtjjelkdajdeikaaGreatDoorProg
import Derived.Test.YtjjelkdajdeikaaGreatDoorTopTablesC1
import Derived.WalkLawsBesides
import Derived.WalkSpells
import Derived.Deep.RegionWith
import Derived.Deep.QuietTactic
import Derived.BigQuiet
import Derived.Lib.Strings
import Derived.Lib.Slices
import Derived.Lib.Walk
import Derived.Lib.Bytealg
import Derived.OwnWalk
import Derived.Deep.MidRow
import Derived.Laws.AppendOwnNone
import Derived.WalkKit
import Derived.Deep.DeepAppendWide
namespace Go.Proofs.YtjjelkdajdeikaaGreatDoor
open Go.RowKit
set_option maxRecDepth 20000
theorem Pl.index_cut (c : UInt8) : ∀ l : List UInt8, (Lib.indexByte l c = -1 ∧ Pl.cutL c l = (l, none)) ∨ ∃ i : Nat, i < l.length ∧ Lib.indexByte l c = i ∧ Pl.cutL c l = (l.take i, some (l.drop (i + 1)))
 | [] => .inl ⟨rfl, rfl⟩
 | b :: r => by
  by_cases e : b = c
  ·right
   exact ⟨0, by simp, by simp [Lib.indexByte, e], by simp [Pl.cutL, e]⟩
  ·rcases Pl.index_cut c r with ⟨h1, h2⟩ | ⟨i, hi, h1, h2⟩
   ·left
    exact ⟨by simp [Lib.indexByte, e, h1], by simp [Pl.cutL, e, h2]⟩
   ·right
    refine ⟨i + 1, by simpa using hi, ?_, by simp [Pl.cutL, e, h2]⟩
    rw [Lib.indexByte]
    simp only [beq_iff_eq, e, if_false, h1]
    rw [if_neg (by omega)]
    rfl
theorem ext_list (s : ByteArray) (i j : Nat) : (s.extract i j).data.toList = (s.data.toList.drop i).take (j - i) := by
 rw [ByteArray.data_extract, Array.toList_extract]
theorem sz_list (s : ByteArray) : s.data.toList.length = s.size := by simp
set_option maxHeartbeats 1000000 in
set_option maxRecDepth 100000 in
theorem lIndexByte_any (s : ByteArray) (c : Int) (w : World) :
  Calls Tryz.prog 202 #[.string s, .int .u8 c] w fun e w' => e = .returned (.int .i64 (Lib.indexByte s.data.toList c.toNat.toUInt8)) ∧ w' = w := by
 go_enter Tryz.func202, Tryz.ntmps202
 go_wp2
 rw [run_callFunc_extern Tryz.func222 (by kernel_rfl) (by kernel_rfl) (by kernel_rfl) (e := Extern.BytealgIndexByte.indexByte) (by kernel_rfl), Lib.run_indexByteString]
 simp only [Result.andThen]
 rw [Oper.upon_value]
 go_wp2
 go_ret
 exact ⟨rfl, rfl⟩
set_option maxHeartbeats 1000000 in
theorem lIndex_any (s : ByteArray) (c : UInt8) (w : World) :
  Calls Tryz.prog 178 #[.string s, .string ⟨#[c]⟩] w fun e w' => e = .returned (.int .i64 (Lib.indexByte s.data.toList c)) ∧ w' = w := by
 go_enter Tryz.func178, Tryz.ntmps178
 go_wp2_with (go_at_call 202; refine (lIndexByte_any _ _ _).mono ?_; rintro e w' ⟨rfl, rfl⟩)
 ·have h : ([c] == s.toList) = true := by assumption
  go_ret
  refine ⟨?_, rfl⟩
  have e : s.data.toList = [c] := by rw [← Lib.toList_data]; exact (beq_iff_eq.1 h).symm
  rw [e]
  simp [Lib.indexByte]
 ·go_ret
  exact ⟨rfl, rfl⟩
set_option maxHeartbeats 1000000 in
theorem lCut_any (s : ByteArray) (c : UInt8) (w : World) (hs : s.size ≤ maxLen) :
  Calls Tryz.prog 144 #[.string s, .string ⟨#[c]⟩] w fun e w' => ∃ a b : ByteArray, e = .returned (.tuple #[.string a, .string b, .bool (Pl.cutL c s.data.toList).2.isSome]) ∧
   a.data.toList = (Pl.cutL c s.data.toList).1 ∧ b.data.toList = Pl.behind (Pl.cutL c s.data.toList).2 ∧ ∃ n, w' = w.drewN n := by
 unfold maxLen at hs
 rcases Pl.index_cut c s.data.toList with ⟨h1, h2⟩ | ⟨i, hi, h1, h2⟩
 ·have H1 := hid h1
  have H2 := hid h2
  clear h1 h2
  go_enter Tryz.func144, Tryz.ntmps144
  go_wp2_with (go_at_call 178; refine (lIndex_any _ _ _).mono ?_; rw [H1.out]; rintro e w' ⟨rfl, rfl⟩)
  go_ret3
  exact ⟨s, ⟨#[]⟩, by rw [H2.out]; rfl, by rw [H2.out], by rw [H2.out]; rfl, 0, rfl⟩
 ·have H1 := hid h1
  have H2 := hid h2
  clear h1 h2
  rw [sz_list] at hi
  go_enter Tryz.func144, Tryz.ntmps144
  go_wp2_with (go_at_call 178; refine (lIndex_any _ _ _).mono ?_; rw [H1.out]; rintro e w' ⟨rfl, rfl⟩)
  go_quiet (fail)
  go_wp2
  go_ret3
  refine ⟨_, _, by rw [H2.out]; rfl, ?_, ?_, _, rfl⟩
  ·rw [H2.out, ext_list]; simp
  ·rw [H2.out, ext_list, List.take_of_length_le (by simp)]; rfl
set_option maxHeartbeats 1000000 in
theorem Cut_any (s : ByteArray) (c : UInt8) (w : World) (hs : s.size ≤ maxLen) :
  Calls Tryz.prog 97 #[.string s, .string ⟨#[c]⟩] w fun e w' => ∃ a b : ByteArray, e = .returned (.tuple #[.string a, .string b, .bool (Pl.cutL c s.data.toList).2.isSome]) ∧
   a.data.toList = (Pl.cutL c s.data.toList).1 ∧ b.data.toList = Pl.behind (Pl.cutL c s.data.toList).2 ∧ ∃ n, w' = w.drewN n := by
 obtain ⟨x, HX⟩ : ∃ x, Hid (Pl.cutL c s.data.toList = x) := ⟨_, rfl⟩
 rw [HX.out]
 go_enter Tryz.func97, Tryz.ntmps97
 go_wp2_with (go_at_call 144; refine (lCut_any _ _ _ hs).mono ?_; rw [HX.out]; rintro e w' ⟨a, b, rfl, ha, hb, n, rfl⟩)
 go_ret3
 exact ⟨a, b, rfl, ha, hb, n, rfl⟩
def Pl.headB (c : UInt8) (l : List UInt8) : Bool := l.head? == some c
def Pl.tailB (c : UInt8) (l : List UInt8) : List UInt8 := if Pl.headB c l then l.tail else l
set_option maxHeartbeats 1000000 in
theorem CutPrefix_any (s : ByteArray) (c : UInt8) (w : World) (hs : s.size ≤ maxLen) :
  Calls Tryz.prog 180 #[.string s, .string ⟨#[c]⟩] w fun e w' => ∃ a : ByteArray, e = .returned (.tuple #[.string a, .bool (Pl.headB c s.data.toList)]) ∧
   a.data.toList = Pl.tailB c s.data.toList ∧ w' = w := by
 unfold maxLen at hs
 by_cases h : Pl.headB c s.data.toList = true
 ·have h1 : 1 ≤ s.size := by
   rw [← sz_list]
   unfold Pl.headB at h
   cases hl : s.data.toList <;> simp [hl] at h ⊢
  have h2 : ((s.extract 0 1).toList == [c]) = true := by
   rw [Lib.toList_data, ext_list]
   unfold Pl.headB at h
   cases hl : s.data.toList <;> simp [hl] at h ⊢
   exact h
  have H := hid h
  clear h
  go_enter Tryz.func180, Tryz.ntmps180
  go_wp2
  go_ret2
  refine ⟨_, by rw [H.out]; rfl, ?_, rfl⟩
  rw [ext_list]
  unfold Pl.tailB
  rw [H.out, List.take_of_length_le (by simp)]
  simp
 ·have H : Hid (Pl.headB c s.data.toList = false) := hid (by simpa using h)
  clear h
  rcases Nat.lt_or_ge s.size 1 with h1 | h1
  ·go_enter Tryz.func180, Tryz.ntmps180
   go_wp2
   go_ret2
   exact ⟨s, by rw [H.out]; rfl, by unfold Pl.tailB; rw [H.out]; rfl, rfl⟩
  ·have h2 : ((s.extract 0 1).toList == [c]) = false := by
    rw [Lib.toList_data, ext_list]
    have h := H.out
    unfold Pl.headB at h
    rw [← sz_list] at h1
    cases hl : s.data.toList <;> simp [hl] at h h1 ⊢
    exact h
   go_enter Tryz.func180, Tryz.ntmps180
   go_wp2
   go_ret2
   exact ⟨s, by rw [H.out]; rfl, by unfold Pl.tailB; rw [H.out]; rfl, rfl⟩
theorem Pl.val_take (s : ByteArray) (k : Nat) (h : k < s.size) : Pl.val (s.data.toList.take (k + 1)) = 10 * Pl.val (s.data.toList.take k) + ((s[k].toNat : Int) - 48) := by
 rw [Pl.take_snoc s k h, Pl.val_snoc]
theorem Pl.dgs_take (s : ByteArray) (k : Nat) (h : k < s.size) : Pl.dgs (s.data.toList.take (k + 1)) = (Pl.dgs (s.data.toList.take k) && Pl.dg s[k]) := by
 rw [Pl.take_snoc s k h, Pl.dgs_snoc]
theorem Pl.dgs_bad (s : ByteArray) (k : Nat) (h : k < s.size) (hb : Pl.dg s[k] = false) : Pl.dgs s.data.toList = false :=
 Pl.dgs_false (l := s.data.toList) (k := k) (by simpa using h) hb
theorem Pl.val_bound {l : List UInt8} (h : l.length ≤ 6) (k : Pl.dgs l = true) : 0 ≤ Pl.val l ∧ Pl.val l < 1000000 := by
 obtain ⟨h1, h2⟩ := Pl.val_nonneg _ l rfl k
 refine ⟨h1, ?_⟩
 have h3 : (10 : Int) ^ l.length ≤ 10 ^ 6 := by
  have : l.length = 0 ∨ l.length = 1 ∨ l.length = 2 ∨ l.length = 3 ∨ l.length = 4 ∨ l.length = 5 ∨ l.length = 6 := by omega
  rcases this with h | h | h | h | h | h | h <;> rw [h] <;> decide
 omega
theorem Pl.head_get (s : ByteArray) (h : 0 < s.size) : s.data.toList.head? = some s[0] := by
 rw [List.head?_eq_getElem?, List.getElem?_eq_getElem (by simpa using h)]; rfl
theorem take_all (s : ByteArray) : s.data.toList.take s.size = s.data.toList := List.take_of_length_le (by simp)
set_option maxHeartbeats 1000000 in
theorem readNumber_any (s : ByteArray) (w : World) (hs : s.size ≤ maxLen) :
  Calls Tryz.prog 145 #[.string s] w fun e w' => ∃ x : Int, e = .returned (.tuple #[.int .i64 x, .bool (Pl.numL s.data.toList).isSome]) ∧
   (∀ n, Pl.numL s.data.toList = some n → x = n) ∧ w' = w := by
 unfold maxLen at hs
 rcases Nat.lt_or_ge s.size 1 with h0 | h0
 ·have hN := hid (Pl.numL_size (l := s.data.toList) (by rw [sz_list]; omega))
  have he : s.toList = [] := by rw [Lib.toList_data]; exact List.length_eq_zero_iff.1 (by rw [sz_list]; omega)
  go_enter Tryz.func145, Tryz.ntmps145
  go_wp2
  go_ret2
  exact ⟨0, by rw [hN.out]; rfl, by rw [hN.out]; simp, rfl⟩
 have he : (s.toList == []) = false := by
  rw [Lib.toList_data]
  cases hl : s.data.toList
  ·have := sz_list s; rw [hl] at this; simp at this; omega
  ·rfl
 rcases Nat.lt_or_ge 6 s.size with h6 | h6
 ·have hN := hid (Pl.numL_size (l := s.data.toList) (by rw [sz_list]; omega))
  go_enter Tryz.func145, Tryz.ntmps145
  go_wp2
  go_ret2
  exact ⟨0, by rw [hN.out]; rfl, by rw [hN.out]; simp, rfl⟩
 have hH := hid (Pl.head_get s h0)
 by_cases hz : (s[0].toNat : Int) = 48 ∧ 1 < s.size
 ·obtain ⟨hz1, hz2⟩ := hz
  have hN : Hid (Pl.numL s.data.toList = none) := hid (Pl.numL_zero (by rw [hH.out]; congr 1; apply UInt8.toNat_inj.1; show _ = 48; omega) (by rw [sz_list]; omega))
  have hq : (s.toList == [48]) = false := by
   rw [Lib.toList_data]
   rw [beq_eq_false_iff_ne]; intro e
   have := sz_list s; rw [e] at this; simp at this; omega
  go_enter Tryz.func145, Tryz.ntmps145
  go_wp2
  go_ret2
  exact ⟨0, by rw [hN.out]; rfl, by rw [hN.out]; simp, rfl⟩
 ·have HZ : Hid (¬ (s.data.toList.head? = some 48 ∧ 1 < s.data.toList.length)) := by
   refine hid ?_
   rw [hH.out, sz_list]
   rintro ⟨e, k⟩
   simp at e
   exact hz ⟨by rw [e]; rfl, k⟩
  have hgo : ((s[0].toNat : Int) = 48 ∧ (s.toList == [48]) = true) ∨ ((s[0].toNat : Int) == 48) = false := by
   by_cases e : (s[0].toNat : Int) = 48
   ·left
    refine ⟨e, ?_⟩
    have hs1 : s.size = 1 := by
     rcases Nat.lt_or_ge 1 s.size with h | h
     ·exact absurd ⟨e, h⟩ hz
     ·omega
    rw [Lib.toList_data, beq_iff_eq]
    have h1 := hH.out
    have h2 := sz_list s
    rw [hs1] at h2
    match hl : s.data.toList, h2 with
    | [x], _ =>
     rw [hl] at h1
     simp at h1
     rw [h1]
     congr 1
     apply UInt8.toNat_inj.1
     show _ = 48
     omega
   ·right
    simpa using e
  clear hz
  rcases hgo with ⟨hg1, hg2⟩ | hg1
  all_goals
   go_enter Tryz.func145, Tryz.ntmps145
   go_wp2
   go_loop [4, 24] (fun n i => ∃ (k : Nat) (v : Int), k ≤ s.size ∧ i = .int .i64 k ∧ n = .int .i64 v ∧ Hid (v = Pl.val (s.data.toList.take k)) ∧ Hid (Pl.dgs (s.data.toList.take k) = true) ∧ 0 ≤ v ∧ v < 1000000) (fun _ i => s.size - (intOf i).toNat)
   case atStart => exact ⟨0, 0, Nat.zero_le _, rfl, rfl, rfl, rfl, by omega, by omega⟩
   case round =>
    obtain ⟨k, v, hk, rfl, rfl, HV, HD, hv0, hv1⟩ := hrel
    by_cases hlt : k < s.size
    ·have hbl := byte_le s[k]
     by_cases a1 : (s[k].toNat : Int) < 48
     ·have HB : Hid (Pl.numL s.data.toList = none) := hid (Pl.numL_bad (Pl.dgs_bad s k hlt (by unfold Pl.dg; rw [decide_eq_false (by omega)])))
      go_wp2
      go_ret2
      exact ⟨0, by rw [HB.out]; rfl, by rw [HB.out]; simp, rfl⟩
     ·by_cases a2 : 57 < (s[k].toNat : Int)
      ·have HB : Hid (Pl.numL s.data.toList = none) := hid (Pl.numL_bad (Pl.dgs_bad s k hlt (by unfold Pl.dg; rw [decide_eq_false (by omega)])))
       go_wp2
       go_ret2
       exact ⟨0, by rw [HB.out]; rfl, by rw [HB.out]; simp, rfl⟩
      ·have HX : Hid (Pl.val (s.data.toList.take (k + 1)) = 10 * v + ((s[k].toNat : Int) - 48) ∧ Pl.dgs (s.data.toList.take (k + 1)) = true) := by
        refine hid ⟨?_, ?_⟩
        ·rw [Pl.val_take s k hlt, HV.out]
        ·rw [Pl.dgs_take s k hlt, HD.out]; unfold Pl.dg; rw [decide_eq_true (by omega)]; rfl
       have hB := Pl.val_bound (l := s.data.toList.take (k + 1)) (by simp; omega) HX.out.2
       rw [HX.out.1] at hB
       have hwr : IntKind.u8.wrap ((s[k].toNat : Int) - 48) = (s[k].toNat : Int) - 48 := by
        simp [IntKind.wrap, IntKind.signed, IntKind.bits]; omega
       go_wp2
       go_round
       case rel => exact ⟨k + 1, 10 * v + ((s[k].toNat : Int) - 48), by omega, by go_num, by go_num, hid HX.out.1.symm, HX.out.2, by omega, by omega⟩
       case measure => simp [intOf]; omega
    ·obtain rfl : k = s.size := by omega
     have HT := hid (take_all s)
     have HV' : Hid (v = Pl.val s.data.toList) := by rw [HT.out] at HV; exact HV
     have HD' : Hid (Pl.dgs s.data.toList = true) := by rw [HT.out] at HD; exact HD
     by_cases hgr : v ≤ 100000
     ·have HN := hid (Pl.numL_some (l := s.data.toList) (by rw [sz_list]; omega) (by rw [sz_list]; omega) HZ.out HD'.out (by rw [← HV'.out]; exact hgr))
      go_wp2
      go_ret2
      exact ⟨v, by rw [HN.out]; simp, by rw [HN.out, ← HV'.out]; simp, rfl⟩
     ·have HN := hid (Pl.numL_great (l := s.data.toList) (by rw [← HV'.out]; exact hgr))
      go_wp2
      go_ret2
      exact ⟨v, by rw [HN.out]; simp, by rw [HN.out]; simp, rfl⟩
theorem Pl.cut_size {m : UInt8} {s a b : ByteArray} (ha : a.data.toList = (Pl.cutL m s.data.toList).1) (hb : b.data.toList = Pl.behind (Pl.cutL m s.data.toList).2) : a.size ≤ s.size ∧ b.size ≤ s.size := by
 rw [← sz_list a, ← sz_list b, ← sz_list s, ha, hb]
 obtain ⟨h1, h2⟩ := Pl.cutL_len m s.data.toList
 refine ⟨h1, ?_⟩
 cases h : (Pl.cutL m s.data.toList).2
 ·simp [Pl.behind]
 ·have := h2 _ h; simp only [Pl.behind, Option.getD_some]; omega
set_option maxHeartbeats 1000000 in
theorem readPair_any (s : ByteArray) (m : UInt8) (w : World) (hs : s.size ≤ maxLen) :
  Calls Tryz.prog 98 #[.string s, .string ⟨#[m]⟩] w fun e w' => ∃ x y : Int, e = .returned (.tuple #[.agg #[.int .i64 x, .int .i64 y], .bool (Pl.pairL m s.data.toList).isSome]) ∧
   (∀ p, Pl.pairL m s.data.toList = some p → (x, y) = p) ∧ Below w.heap.size w w' := by
 have HS := hid hs
 clear hs
 obtain ⟨na, HA⟩ : ∃ x, Hid (Pl.numL (Pl.cutL m s.data.toList).1 = x) := ⟨_, rfl⟩
 obtain ⟨nb, HB⟩ : ∃ x, Hid (Pl.numL (Pl.behind (Pl.cutL m s.data.toList).2) = x) := ⟨_, rfl⟩
 obtain ⟨np, HP⟩ : ∃ x, Hid (Pl.pairL m s.data.toList = x) := ⟨_, rfl⟩
 have HC : Hid (∀ x y : Int, (∀ n, na = some n → x = n) → (∀ n, nb = some n → y = n) → (na.isSome && nb.isSome) = np.isSome ∧ (∀ p, np = some p → (x, y) = p)) := by
  refine hid fun x y hx hy => ?_
  have hp := HP.out
  unfold Pl.pairL at hp
  rw [HA.out, HB.out] at hp
  cases na <;> cases nb <;> simp at hp hx hy <;> subst hp <;> simp [hx, hy]
 rw [HP.out]
 go_enter Tryz.func98, Tryz.ntmps98
 go_wp2_with (go_at_call 97; refine (Cut_any _ _ _ HS.out).mono ?_; rintro e w1 ⟨a, b, rfl, ha, hb, n, rfl⟩)
 have HSZ := hid (Pl.cut_size ha hb)
 have HA1 := hid ha
 have HB1 := hid hb
 clear ha hb
 refine (readNumber_any a _ (Nat.le_trans HSZ.out.1 HS.out)).mono ?_
 rw [HA1.out, HA.out]
 rintro e w2 ⟨x, rfl, hx, rfl⟩
 have HX := hid hx
 clear hx
 go_wp2_with (go_at_call 145; refine (readNumber_any b _ (Nat.le_trans HSZ.out.2 HS.out)).mono ?_; rw [HB1.out, HB.out]; rintro e w3 ⟨y, rfl, hy, rfl⟩; have HY := hid hy; clear hy)
 all_goals
  refine bodyPost_ret (v := .tuple #[.agg #[.int .i64 x, .int .i64 y], .bool np.isSome]) (by rw [← (HC.out x y HX.out HY.out).1]; simp_all [results, Tryz.results98, go_sem]) rfl ⟨x, y, rfl, (HC.out x y HX.out HY.out).2, ((below_drew ((Below.refl _ _).alloc (Nat.le_refl _) _) n).setCell (Nat.le_refl _) _).setCell (Nat.le_refl _) _⟩
def mz : Value → Value → Nat
 | .string t, .bool true => t.size + 1
 | _, _ => 0
theorem infoPair : (Tryz.prog.info? 118).map (fun i => (i.zero, i.size, i.bytes)) = some (some (.agg #[.int .i64 0, .int .i64 0]), 2, 16) := by kernel_rfl
theorem toList_ne (s : ByteArray) (h : 0 < s.size) : (s.toList == []) = false := by
 rw [Lib.toList_data]
 cases hl : s.data.toList
 ·have := sz_list s; rw [hl] at this; simp at this; omega
 ·rfl
set_option maxHeartbeats 2000000 in
theorem readPairs_any (s : ByteArray) (m : UInt8) (w : World) (hs : s.size ≤ 4398046511104) :
  Calls Tryz.prog 59 #[.string s, .string ⟨#[m]⟩] w fun e w' => ∃ vl : Value, e = .returned (.tuple #[vl, .bool (Pl.pairsL m s.data.toList).isSome]) ∧
   OwnP 118 w' w.heap.size vl ((Pl.pairsL m s.data.toList).getD []) ∧ Below w.heap.size w w' := by
 obtain ⟨np, HP⟩ : ∃ x, Hid (Pl.pairsL m s.data.toList = x) := ⟨_, rfl⟩
 rw [HP.out]
 rcases Nat.eq_zero_or_pos s.size with h0 | h0
 ·have he : s.toList = [] := by rw [Lib.toList_data]; exact List.length_eq_zero_iff.1 (by rw [sz_list]; omega)
  have HN : Hid (np = some []) := hid (by rw [← HP.out]; unfold Pl.pairsL; rw [if_pos (List.length_eq_zero_iff.1 (by rw [sz_list]; omega))])
  go_enter Tryz.func59, Tryz.ntmps59
  go_wp2
  go_ret2
  exact ⟨_, by rw [HN.out]; rfl, by rw [HN.out]; exact OwnP.nil _ _ _, Below.refl _ _⟩
 ·have he := toList_ne s h0
  have HN : Hid (np = Pl.andThen [] (Pl.pairsP m (Pl.parts s.data.toList))) := by
   refine hid ?_
   rw [← HP.out]; unfold Pl.pairsL
   rw [if_neg (by intro h; have := sz_list s; rw [h] at this; simp at this; omega)]
   cases Pl.pairsP m (Pl.parts s.data.toList) <;> simp [Pl.andThen]
  go_enter Tryz.func59, Tryz.ntmps59
  go_wp2
  go_loopw [0, 6, 7] (fun s' vl mo wr => ∃ (t : ByteArray) (acc : List (Int × Int)) (b : Bool) (vv : Value), vv = vl ∧ s' = .string t ∧ mo = .bool b ∧ Hid (OwnP 118 wr w.heap.size vv acc) ∧ acc.length + t.size ≤ s.size + 1 ∧ t.size ≤ s.size ∧ (b = true → acc.length + t.size ≤ s.size) ∧ Hid (b = true → np = Pl.andThen acc (Pl.pairsP m (Pl.parts t.data.toList))) ∧ Hid (b = false → np = some acc) ∧ Below w.heap.size w wr) (fun s' _ mo _ => mz s' mo)
  case atStart => exact ⟨s, [], true, _, rfl, rfl, rfl, hid (OwnP.nil _ _ _), by simp, Nat.le_refl _, by simp, hid (fun _ => HN.out), hid (by simp), Below.refl _ _⟩
  case round =>
   obtain ⟨t, acc, b, vl, rfl, rfl, rfl, HO, hsz, htz, hsb, HT, HF, hb⟩ := hrel
   cases b
   ·have HF' := hid (HF.out rfl)
    clear HF HT hsb
    go_wp2
    go_ret2
    exact ⟨vl, by rw [HF'.out]; rfl, by rw [HF'.out]; exact HO.out, hb⟩
   ·have hsb' := hsb rfl
    clear hsb
    obtain ⟨cu, HCU⟩ : ∃ x, Hid (Pl.cutL 44 t.data.toList = x) := ⟨_, rfl⟩
    obtain ⟨c1, c2⟩ := cu
    obtain ⟨q, HQ⟩ : ∃ x, Hid (Pl.pairL m c1 = x) := ⟨_, rfl⟩
    have HTS : Hid (t.size ≤ maxLen) := hid (by unfold maxLen; omega)
    have HT' := hid (HT.out rfl)
    clear HT HF
    cases q with
    | none =>
     have HNN : Hid (np = none) := by
      refine hid ?_
      rw [HT'.out]
      cases c2 with
      | none => rw [Pl.parts_none (by rw [HCU.out]), HCU.out, Pl.pairsP_none HQ.out]; rfl
      | some r => rw [Pl.parts_some (r := r) (by rw [HCU.out]), HCU.out, Pl.pairsP_none HQ.out]; rfl
     go_wp2_with fail
     refine (Cut_any t 44 _ HTS.out).mono ?_
     rw [HCU.out]
     rintro e w1 ⟨a, d, rfl, ha, hd, n, rfl⟩
     have HA := hid ha
     have HSZ := hid (Pl.cut_size (m := 44) (s := t) (a := a) (b := d) (by rw [HCU.out]; exact ha) (by rw [HCU.out]; exact hd))
     clear ha hd
     go_wp2_with fail
     refine (readPair_any a m _ (Nat.le_trans HSZ.out.1 HTS.out)).mono ?_
     rw [HA.out, HQ.out]
     rintro e w2 ⟨x, y, rfl, _, hb2⟩
     go_wp2_with fail
     go_ret2
     exact ⟨_, by rw [HNN.out]; rfl, by rw [HNN.out]; exact OwnP.nil _ _ _, by have hb3 := (below_drew hb n).trans (hb2.mono hb.size); exact hb3.alloc (hb3.size) _⟩
    | some p =>
     go_wp2_with fail
     refine (Cut_any t 44 _ HTS.out).mono ?_
     rw [HCU.out]
     rintro e w1 ⟨a, d, rfl, ha, hd, n, rfl⟩
     have HA := hid ha
     have HD := hid hd
     have HSZ := hid (Pl.cut_size (m := 44) (s := t) (a := a) (b := d) (by rw [HCU.out]; exact ha) (by rw [HCU.out]; exact hd))
     clear ha hd
     go_wp2_with fail
     refine (readPair_any a m _ (Nat.le_trans HSZ.out.1 HTS.out)).mono ?_
     rw [HA.out, HQ.out]
     rintro e w2 ⟨x, y, rfl, hxy, hb2⟩
     obtain rfl := hxy p rfl
     clear hxy
     have hb3 : Below w.heap.size w w2 := (below_drew hb n).trans (hb2.mono hb.size)
     have hb4 : Below w.heap.size w (w2.alloc (.cells #[.int .i64 x, .int .i64 y] 118)) := hb3.alloc hb3.size _
     have hb5 : Below wr.heap.size wr (w2.alloc (.cells #[.int .i64 x, .int .i64 y] 118)) := ((below_drew (Below.refl _ _) n).trans hb2).alloc hb2.size _
     have HO4 := hid (HO.out.below hb5)
     have hz4 := hb4.size
     have HW4 := hid hb4
     clear hb5 hb2 hb4
     go_wp2_with (at_builtin; refine append_pairT Tryz.underlying114 infoPair rfl (.tmp 28) (.tmp 30) rfl w.heap.size vl acc (x, y) rfl HO4.out hz4 (by show Value.slice (some ⟨w2.heap.size + 1, 0, none⟩) 1 1 = _; simp) (by omega) ?_; intro v5 w5 ho5 hb5 _; have HO5 := hid ho5; clear ho5)
     have hb6 : Below w.heap.size w w5 := HW4.out.trans (hb5.mono (Nat.le_refl _))
     cases c2 with
     | none =>
      have HN' : Hid (np = some (acc ++ [(x, y)])) := by
       refine hid ?_
       rw [HT'.out, Pl.parts_none (by rw [HCU.out]), HCU.out, Pl.pairsP_some HQ.out]; simp [Pl.pairsP, Pl.andThen]
      have hdz : d.size = 0 := by rw [← sz_list, HD.out]; rfl
      go_roundw
      case rel => exact ⟨d, acc ++ [(x, y)], false, _, rfl, rfl, rfl, HO5, by simp; omega, by omega, by simp, hid (by simp), hid (fun _ => HN'.out), hb6⟩
      case measure => simp [mz]
     | some r =>
      have HN' : Hid (np = Pl.andThen (acc ++ [(x, y)]) (Pl.pairsP m (Pl.parts d.data.toList))) := by
       refine hid ?_
       rw [HT'.out, Pl.parts_some (r := r) (by rw [HCU.out]), HCU.out, Pl.pairsP_some HQ.out, HD.out]; rfl
      have hdz : d.size + 1 ≤ t.size := by
       have h := (Pl.cutL_len 44 t.data.toList).2 r (by rw [HCU.out])
       rw [← sz_list d, HD.out, ← sz_list t]
       show r.length + 1 ≤ _
       omega
      go_roundw
      case rel => exact ⟨d, acc ++ [(x, y)], true, _, rfl, rfl, rfl, HO5, by simp; omega, by omega, by simp; omega, hid (fun _ => HN'.out), hid (by simp), hb6⟩
      case measure => simp [mz]; omega
def OwnT (w : World) (base : Nat) (v : Value) (ks : List ByteArray) : Prop := w.ownsRow base 9 1 v ks.length (ks.map Value.string)
theorem infoText : (Tryz.prog.info? 9).map (fun i => (i.zero, i.size, i.bytes)) = some (some (.string ⟨#[]⟩), 1, 16) := by kernel_rfl
theorem OwnT.below {w w' : World} {base : Nat} {v : Value} {ks : List ByteArray} (h : OwnT w base v ks) (k : Below w.heap.size w w') : OwnT w' base v ks := ownsRow_under h k
theorem OwnT.nil (w : World) (base : Nat) : OwnT w base (.slice none 0 0) [] := World.ownsRow_nil _ _ _ _
theorem OwnT.shape {w : World} {base : Nat} {v : Value} {ks : List ByteArray} (h : OwnT w base v ks) :
  ∃ a cap, v = .slice a ks.length cap ∧ ks.length ≤ cap ∧ cap ≤ maxLen ∧ (ks = [] ∨ ∃ b, a = some ⟨b, 0, none⟩ ∧ base ≤ b ∧ b < w.heap.size ∧ ∀ (i : Nat) (hi : i < ks.length), w.cell? ⟨b, 0 + i, none⟩ = some (.string ks[i])) := by
 obtain ⟨_, h | ⟨g, cap, cur, rfl, hb, hh, hn, hm, hs, hx⟩⟩ := h
 ·obtain ⟨rfl, hn⟩ := h
  have hes : ks = [] := List.length_eq_zero_iff.1 hn
  subst hes
  exact ⟨none, 0, rfl, Nat.le_refl _, by simp, .inl rfl⟩
 ·refine ⟨some ⟨g, 0, none⟩, cap, rfl, hn, hm, .inr ⟨g, rfl, hb, blockLt hh, ?_⟩⟩
  intro i hi
  have hj : (List.take (ks.length * 1) cur.toList)[i]? = some (.string ks[i]) := by
   rw [hx]; simp [hi]
  have hj' : cur[i]? = some (.string ks[i]) := by
   rw [List.getElem?_take] at hj
   split at hj
   ·rw [← Array.getElem?_toList]; exact hj
   ·cases hj
  simp [World.cell?, hh, hj']
theorem Pl.parts_last {l : List UInt8} (h : (44 : UInt8) ∉ l) : Pl.parts l = [l] := by
 rw [Pl.parts_none (by rw [Pl.cutL_none h]), Pl.cutL_none h]
set_option maxHeartbeats 1000000 in
theorem CheckAdj_any (d : Bool) (a : Option Addr) (len cap : Nat) (ps : List (Int × Int)) (w : World) (h : IsPairs w a len cap ps) :
  Calls Tryz.prog 181 #[.agg #[.bool d, .slice a len cap]] w fun e w' => e = .returned (.int .i64 (Pl.adjF ps)) ∧ Below w.heap.size w w' := by
 obtain ⟨hl, hc, hm, hok, hrow⟩ := h
 unfold maxLen at hm
 go_enter Tryz.func181, Tryz.ntmps181
 go_wp2
 go_loopw [8] (fun i wr => ∃ k : Nat, k ≤ len ∧ i = .int .i64 k ∧ Hid (Pl.adjF ps = Pl.adjN ps (len - k) k) ∧ Below (w.heap.size + 1) (w.alloc (.cells #[.bool d, .slice a len cap] 141)) wr) (fun i _ => len - (intOf i).toNat)
 case atStart => exact ⟨0, Nat.zero_le _, rfl, by show _ = _; rw [← hl]; rfl, Below.refl _ _⟩
 case round =>
  obtain ⟨k, hk, rfl, HF, hb⟩ := hrel
  obtain ⟨x0, x1, xs, hbb⟩ := box2 hb
  by_cases hlt : k < len
  ·obtain ⟨b, off, rfl, hbw, hr⟩ : ∃ b off, a = some ⟨b, off, none⟩ ∧ b < w.heap.size ∧ PairsAt w b off ps := by
    rcases hrow with rfl | h
    ·simp at hl; omega
    ·exact h
   clear hrow
   have hr' := hr.below hbw hbb
   obtain ⟨c0, c1⟩ := hr' k (by omega)
   obtain ⟨n, hn⟩ : ∃ n, len - k = n + 1 := ⟨len - k - 1, by omega⟩
   have HN : Hid (len - k = n + 1) := hn
   clear hn
   have hbr : b < wr.heap.size := by omega
   obtain ⟨q0, HQ0⟩ : ∃ q0, Hid ((Pl.pr ps k).1 = q0) := ⟨_, rfl⟩
   obtain ⟨q1, HQ1⟩ : ∃ q1, Hid ((Pl.pr ps k).2 = q1) := ⟨_, rfl⟩
   rw [HQ0.out] at c0
   rw [HQ1.out] at c1
   obtain ⟨oo, HO⟩ : ∃ oo, Hid (decide (0 ≤ q0 ∧ q0 ≤ 11) = oo) := ⟨_, rfl⟩
   have HS : Hid (Pl.sideB (Pl.pr ps k).1 (Pl.pr ps k).2 = (oo && decide (1 ≤ q1 ∧ q1 ≤ 1000))) := by
    show _ = _
    unfold Pl.sideB
    rw [HQ0.out, HQ1.out, HO.out]
   by_cases hg : oo = true ∧ 1 ≤ q1 ∧ q1 ≤ 1000
   ·obtain ⟨rfl, h1, h2⟩ := hg
    have HM : Hid (Pl.sideB (Pl.pr ps k).1 (Pl.pr ps k).2 = true) := by show _ = _; rw [HS.out]; simp [h1, h2]
    rcases Nat.eq_zero_or_pos k with hk0 | hk0
    ·have hd : decide (0 < k) = false := by simp; omega
     have HK0 : Hid (k = 0) := hk0
     clear hk0
     go_wp2_with (go_at_call 72; refine (isNode_any _ _).mono ?_; rw [HO.out]; rintro e w' ⟨rfl, rfl⟩)
     go_quiet (fail)
     go_wp2
     go_roundw
     case rel => exact ⟨k + 1, by omega, by go_num, by show _ = _; have h := HN.out; rw [HF.out, h]; have hm := HM.out; rw [HK0.out] at hm ⊢; rw [Pl.adjN_first hm]; congr 1; have h0 := HK0.out; omega, below_drew (hb.alloc (by omega) _) _⟩
     case measure => simp [intOf]; omega
    ·obtain ⟨m, rfl⟩ : ∃ m, k = m + 1 := ⟨k - 1, by omega⟩
     obtain ⟨d0, d1⟩ := hr' m (by omega)
     obtain ⟨r0, HR0⟩ : ∃ r0, Hid ((Pl.pr ps m).1 = r0) := ⟨_, rfl⟩
     rw [HR0.out] at d0
     by_cases hle : q0 ≤ r0
     ·go_wp2_with (go_at_call 72; refine (isNode_any _ _).mono ?_; rw [HO.out]; rintro e w' ⟨rfl, rfl⟩)
      go_quiet (fail)
      go_wp2
      go_ret
      exact ⟨ret_int (by rw [HF.out, HN.out, Pl.adjN_low HM.out (by rw [HQ0.out, HR0.out]; omega)]), below_drew (hbb.alloc (by omega) _) _⟩
     ·go_wp2_with (go_at_call 72; refine (isNode_any _ _).mono ?_; rw [HO.out]; rintro e w' ⟨rfl, rfl⟩)
      go_quiet (fail)
      go_wp2
      go_roundw
      case rel => exact ⟨m + 1 + 1, by omega, by go_num, by show _ = _; rw [HF.out, HN.out, Pl.adjN_on HM.out (by rw [HQ0.out, HR0.out]; omega)]; congr 1; have := HN.out; omega, below_drew (hb.alloc (by omega) _) _⟩
      case measure => simp [intOf]; omega
   ·have HR : Hid (Pl.adjF ps = 2) := by
     show _ = _
     rw [HF.out, HN.out, Pl.adjN_range]
     rw [HS.out]
     cases oo
     ·rfl
     ·simp at hg ⊢; omega
    cases oo
    all_goals rcases Int.lt_or_le q1 1 with h1 | h1
    all_goals rcases Int.lt_or_le 1000 q1 with h2 | h2
    all_goals first | (exfalso; omega) | skip
    all_goals first | (exfalso; apply hg; refine ⟨rfl, ?_, ?_⟩ <;> assumption) | skip
    all_goals
     go_wp2_with (go_at_call 72; refine (isNode_any _ _).mono ?_; rw [HO.out]; rintro e w' ⟨rfl, rfl⟩)
     go_ret
     exact ⟨ret_int HR.out.symm, hbb.alloc (by omega) _⟩
  ·obtain rfl : k = len := by omega
   go_wp2
   go_ret
   exact ⟨ret_int (by rw [HF.out]; simp [Pl.adjN]), hbb⟩
def Pl.sidesL (l : List UInt8) : Option (List (Int × Int)) := Pl.pairsL 61 (Pl.tailB 33 l)
def Pl.adjC (l : List UInt8) : Int := match Pl.sidesL l with
 | none => 4
 | some ps => Pl.adjF ps
def Pl.adjD (l : List UInt8) : Bool := Pl.adjC l == 0 && Pl.headB 33 l
def Pl.adjS (l : List UInt8) : List (Int × Int) := if Pl.adjC l = 0 then (Pl.sidesL l).getD [] else []
theorem infoSide : (Tryz.prog.info? 143).map (fun i => (i.zero, i.size, i.bytes)) = some (some (.agg #[.int .i64 0, .int .i64 0]), 2, 16) := by kernel_rfl
theorem Pl.tail_size {c : UInt8} {s a : ByteArray} (h : a.data.toList = Pl.tailB c s.data.toList) : a.size ≤ s.size := by
 rw [← sz_list a, ← sz_list s, h]
 unfold Pl.tailB
 split <;> simp
theorem Pl.parts_len : ∀ (n : Nat) (l : List UInt8), (Pl.partsN n l).length ≤ l.length + 1
 | 0, _ => by simp [Pl.partsN]
 | n + 1, l => by
  rw [Pl.partsN]
  split
  ·simp
  ·rename_i r hr
   have h1 := (Pl.cutL_len 44 l).2 r hr
   have h2 := Pl.parts_len n r
   simp only [List.length_cons]; omega
theorem Pl.pairsP_len {m : UInt8} : ∀ {ps : List (List UInt8)} {a : List (Int × Int)}, Pl.pairsP m ps = some a → a.length = ps.length
 | [], a, h => by cases h; rfl
 | p :: r, a, h => by
  rw [Pl.pairsP] at h
  split at h
  ·rename_i x y hx hy
   cases h
   simp [Pl.pairsP_len hy]
  ·cases h
theorem Pl.pairsL_facts {m : UInt8} {l : List UInt8} {a : List (Int × Int)} (h : Pl.pairsL m l = some a) : a.length ≤ l.length + 1 ∧ (∀ p ∈ a, Pl.pairOk p) := by
 unfold Pl.pairsL at h
 split at h
 ·cases h; simp
 ·refine ⟨?_, fun p hp => Pl.pairOk_of (Pl.pairsP_ok h p hp)⟩
  rw [Pl.pairsP_len h]; exact Pl.parts_len _ _
theorem box2f {w w3 : World} {c0 c1 : Value} {T : TypeId} (hb : Below (w.heap.size + 1) (w.alloc (.cells #[c0, c1] T)) w3) :
  w3.frozen? ⟨w.heap.size, 0, none⟩ = false ∧ w3.frozen? ⟨w.heap.size, 1, none⟩ = false := by
 constructor
 all_goals
  rw [hb.frozen (by simp)]
  simp
theorem adjAt_cells {w : World} {B : Nat} {c0 c1 : Value} {T : TypeId} (h : w.heap[B]? = some (.cells #[c0, c1] T)) :
  w.cell? ⟨B, 0, none⟩ = some c0 ∧ w.cell? ⟨B, 1, none⟩ = some c1 ∧ w.frozen? ⟨B, 0, none⟩ = false ∧ w.frozen? ⟨B, 1, none⟩ = false ∧ B < w.heap.size := by
 refine ⟨?_, ?_, ?_, ?_, blockLt h⟩
 all_goals simp [World.cell?, World.frozen?, h]
theorem adjAt_set {w : World} {B : Nat} {c0 c1 : Value} {T : TypeId} (h : w.heap[B]? = some (.cells #[c0, c1] T)) (v : Value) : (w.setCell ⟨B, 1, none⟩ v).heap[B]? = some (.cells #[c0, v] T) := by
 have := blockLt h
 simp [World.setCell, Array.getElem?_modify, h]
theorem heapNew (w : World) (o : Obj) : (w.alloc o).heap[w.heap.size]? = some o := by
 show (w.heap.push o)[w.heap.size]? = _
 simp
theorem heapOld {w : World} {B : Nat} {x : Obj} (h : w.heap[B]? = some x) (o : Obj) : (w.alloc o).heap[B]? = some x := by
 have := blockLt h
 show (w.heap.push o)[B]? = _
 rw [Array.getElem?_push]; split
 ·omega
 ·exact h
theorem Pl.take_pr (ps : List (Int × Int)) (k : Nat) (h : k < ps.length) : ps.take (k + 1) = ps.take k ++ [Pl.pr ps k] := by
 rw [List.take_succ_eq_append_getElem h, Pl.pr_eq ps k h]
set_option maxHeartbeats 2000000 in
theorem ReadAdj_any (s : ByteArray) (w : World) (hs : s.size ≤ 4398046511103) :
  Calls Tryz.prog 149 #[.string s] w fun e w' => ∃ vl : Value, e = .returned (.tuple #[.agg #[.bool (Pl.adjD s.data.toList), vl], .int .i64 (Pl.adjC s.data.toList)]) ∧
   OwnP 143 w' w.heap.size vl (Pl.adjS s.data.toList) ∧ Below w.heap.size w w' := by
 obtain ⟨np, HP⟩ : ∃ x, Hid (Pl.sidesL s.data.toList = x) := ⟨_, rfl⟩
 obtain ⟨hd, HH⟩ : ∃ x, Hid (Pl.headB 33 s.data.toList = x) := ⟨_, rfl⟩
 have HSM : Hid (s.size ≤ maxLen) := hid (by unfold maxLen; omega)
 cases np with
 | none =>
  have HC : Hid (Pl.adjC s.data.toList = 4 ∧ Pl.adjD s.data.toList = false ∧ Pl.adjS s.data.toList = []) := by
   have h : Pl.adjC s.data.toList = 4 := by unfold Pl.adjC; rw [HP.out]
   refine hid ⟨h, ?_, ?_⟩
   ·unfold Pl.adjD; rw [h]; rfl
   ·unfold Pl.adjS; rw [h]; rfl
  rw [HC.out.1, HC.out.2.1, HC.out.2.2]
  go_enter Tryz.func149, Tryz.ntmps149
  go_wp2_with fail
  refine (CutPrefix_any s 33 _ HSM.out).mono ?_
  rw [HH.out]
  rintro e w1 ⟨a, rfl, ha, rfl⟩
  have HA := hid ha
  clear ha
  have haz := Pl.tail_size HA.out
  go_wp2_with fail
  refine (readPairs_any a 61 _ (by omega)).mono ?_
  rw [HA.out, show Pl.pairsL 61 (Pl.tailB 33 s.data.toList) = none from HP.out]
  rintro e w2 ⟨v2, rfl, _, hb2⟩
  have hb2' : Below (w.heap.size + 1) (w.alloc (.cells #[.bool false, .slice none 0 0] 141)) w2 := by simpa using hb2
  clear hb2
  obtain ⟨x0, x1, xs, hbb⟩ := box2 hb2'
  obtain ⟨f0, f1⟩ := box2f hb2'
  go_wp2_with fail
  refine bodyPost_ret (v := .tuple #[.agg #[.bool false, .slice none 0 0], .int .i64 4]) (by simp [results, Tryz.results149, go_sem, x0, x1]) rfl ⟨_, rfl, OwnP.nil _ _ _, ((hbb.setCell (Nat.le_refl _) _).setCell (Nat.le_refl _) _)⟩
 | some ps =>
  obtain ⟨cc, HCC⟩ : ∃ x, Hid (Pl.adjF ps = x) := ⟨_, rfl⟩
  have HC : Hid (Pl.adjC s.data.toList = cc ∧ (cc = 0 → Pl.adjD s.data.toList = hd ∧ Pl.adjS s.data.toList = ps) ∧ (cc ≠ 0 → Pl.adjD s.data.toList = false ∧ Pl.adjS s.data.toList = [])) := by
   have h : Pl.adjC s.data.toList = cc := by unfold Pl.adjC; rw [HP.out]; exact HCC.out
   refine hid ⟨h, fun h0 => ⟨?_, ?_⟩, fun h0 => ⟨?_, ?_⟩⟩
   ·unfold Pl.adjD; rw [h, h0, HH.out]; rfl
   ·unfold Pl.adjS; rw [h, h0, HP.out]; rfl
   ·unfold Pl.adjD; rw [h]; simp [h0]
   ·unfold Pl.adjS; rw [h, if_neg h0]
  have HFA := hid (Pl.pairsL_facts (m := 61) (l := Pl.tailB 33 s.data.toList) HP.out)
  rw [HC.out.1]
  go_enter Tryz.func149, Tryz.ntmps149
  go_wp2_with fail
  refine (CutPrefix_any s 33 _ HSM.out).mono ?_
  rw [HH.out]
  rintro e w1 ⟨a, rfl, ha, rfl⟩
  have HA := hid ha
  clear ha
  have haz := Pl.tail_size HA.out
  go_wp2_with fail
  refine (readPairs_any a 61 _ (by omega)).mono ?_
  rw [HA.out, show Pl.pairsL 61 (Pl.tailB 33 s.data.toList) = some ps from HP.out]
  rintro e w2 ⟨v2, rfl, ho2, hb2⟩
  have hb2' : Below (w.heap.size + 1) (w.alloc (.cells #[.bool false, .slice none 0 0] 141)) w2 := by simpa using hb2
  obtain ⟨a2, cap2, rfl, hp2, _, _⟩ := OwnP.shape (ps := ps) ho2 HFA.out.2
  have HP2 := hid hp2
  have hlen : ps.length ≤ s.size + 1 := by
   have h1 := HFA.out.1
   rw [← HA.out, sz_list] at h1
   omega
  have hcap := hp2.2.1
  have hmax := hp2.2.2.1
  unfold maxLen at hmax
  clear hb2 ho2 hp2
  go_wp2_with fail
  have hwz := hb2'.size
  simp at hwz
  go_loopw [29] (fun i wr => ∃ (k : Nat) (v : Value), k ≤ ps.length ∧ i = .int .i64 k ∧ Hid (wr.heap[w2.heap.size]? = some (.cells #[.bool hd, v] 141)) ∧ Hid (OwnP 143 wr (w2.heap.size + 1) v (ps.take k)) ∧ Below w2.heap.size w2 wr) (fun i _ => ps.length - (intOf i).toNat)
  case atStart => exact ⟨0, _, Nat.zero_le _, rfl, hid (heapNew _ _), hid (OwnP.nil _ _ _), (Below.refl _ _).alloc (Nat.le_refl _) _⟩
  case round =>
   obtain ⟨k, v, hk, rfl, HB, HO, hb⟩ := hrel
   obtain ⟨y0, y1, g0, g1, hzr⟩ := adjAt_cells HB.out
   by_cases hlt : k < ps.length
   ·obtain ⟨b, off, rfl, hbw, hr⟩ : ∃ b off, a2 = some ⟨b, off, none⟩ ∧ b < w2.heap.size ∧ PairsAt w2 b off ps := by
     rcases HP2.out.2.2.2.2 with rfl | h
     ·simp at hlt
     ·exact h
    obtain ⟨c0, c1⟩ := (hr.below hbw hb) k hlt
    have hbr : b < wr.heap.size := by omega
    clear hr
    obtain ⟨pp, hpp⟩ : ∃ pp, Hid (Pl.pr ps k = pp) := ⟨_, rfl⟩
    rw [hpp.out] at c0 c1
    have HO4 := hid (HO.out.below ((Below.refl wr.heap.size wr).alloc (Nat.le_refl _) (.cells #[.int .i64 pp.1, .int .i64 pp.2] 118)))
    have HB4 := hid (heapOld HB.out (.cells #[.int .i64 pp.1, .int .i64 pp.2] 118))
    have htk : (ps.take k).length = k := by simp; omega
    go_wp2_with (at_builtin; refine append_pairT Tryz.underlying139 infoSide rfl (.tmp 34) (.tmp 40) rfl (w2.heap.size + 1) v (ps.take k) pp rfl HO4.out (by simp; omega) (by show Value.slice (some ⟨wr.heap.size + 1, 0, none⟩) 1 1 = _; simp) (by rw [htk]; omega) ?_; intro v5 w5 ho5 hb5 _; obtain ⟨a5, n5, cap5, rfl⟩ := ho5.slice; have HO5 := hid ho5; clear ho5; have HB5 := hid ((hb5.block _ (Nat.lt_succ_self _)).trans HB4.out); obtain ⟨z0, z1, q0, q1, hz5⟩ := adjAt_cells HB5.out)
    go_roundw
    case rel => exact ⟨k + 1, .slice a5 n5 cap5, by omega, by go_num, hid (adjAt_set HB5.out _), hid (by show OwnP _ _ _ _ _; rw [Pl.take_pr ps k hlt, hpp.out]; exact ownsRow_setCell_below HO5.out (by simp) _), ((hb.alloc hb.size _).trans (hb5.mono (Nat.le_succ _))).setCell (Nat.le_refl _) _⟩
    case measure => simp [intOf]; omega
   ·obtain rfl : k = ps.length := by omega
    have HO' : Hid (OwnP 143 wr (w2.heap.size + 1) v ps) := by have h := HO.out; rw [List.take_length] at h; exact hid h
    obtain ⟨a3, cap3, rfl, hp3, _, _⟩ := OwnP.shape HO'.out HFA.out.2
    have HP3 := hid hp3
    clear hp3 HO
    have hbx : Below (w.heap.size + 1) (w.alloc (.cells #[.bool false, .slice none 0 0] 141)) wr := hb2'.trans (hb.mono (by omega))
    by_cases hc0 : cc = 0
    ·subst hc0
     have HC' := hid (HC.out.2.1 rfl)
     clear HC
     go_wp2_with fail
     refine (CheckAdj_any _ _ _ _ ps _ HP3.out).mono ?_
     rw [HCC.out]
     rintro e w4 ⟨rfl, hb4⟩
     have hbx4 := hbx.trans (hb4.mono (by omega))
     obtain ⟨x0, x1, xs, hbb⟩ := box2 hbx4
     obtain ⟨f0, f1⟩ := box2f hbx4
     have z0 := (hb4.cell (p := ⟨w2.heap.size, 0, none⟩) hzr).trans y0
     have z1 := (hb4.cell (p := ⟨w2.heap.size, 1, none⟩) hzr).trans y1
     go_wp2_with fail
     refine bodyPost_ret (v := .tuple #[.agg #[.bool hd, .slice a3 ps.length cap3], .int .i64 0]) (by simp [results, Tryz.results149, go_sem, x0, x1]) rfl ⟨_, by rw [HC'.out.1], ?_, ((hbb.setCell (Nat.le_refl _) _).setCell (Nat.le_refl _) _)⟩
     rw [HC'.out.2]
     have h5 := HO'.out.below hb4
     exact OwnP.mono (base := w2.heap.size + 1) (ownsRow_setCell_below (ownsRow_setCell_below h5 (by simp; omega) _) (by simp; omega) _) (by omega)
    ·have HC' := hid (HC.out.2.2 hc0)
     clear HC
     have hd0 : (cc == 0) = false := by simpa using hc0
     go_wp2_with fail
     refine (CheckAdj_any _ _ _ _ ps _ HP3.out).mono ?_
     rw [HCC.out]
     rintro e w4 ⟨rfl, hb4⟩
     have hbx4 := hbx.trans (hb4.mono (by omega))
     obtain ⟨x0, x1, xs, hbb⟩ := box2 hbx4
     obtain ⟨f0, f1⟩ := box2f hbx4
     go_wp2_with fail
     exact bodyPost_ret (v := .tuple #[.agg #[.bool false, .slice none 0 0], .int .i64 cc]) (by simp [results, Tryz.results149, go_sem, x0, x1]) rfl ⟨_, by rw [HC'.out.1], by rw [HC'.out.2]; exact OwnP.nil _ _ _, ((hbb.setCell (Nat.le_refl _) _).setCell (Nat.le_refl _) _)⟩
structure But (B : Nat) (w w' : World) : Prop where
 os : w'.os = w.os
 tape : w'.tape = w.tape
 output : w'.output = w.output
 size : w.heap.size ≤ w'.heap.size
 block : ∀ k, k < w.heap.size → k ≠ B → w'.heap[k]? = w.heap[k]?
theorem But.refl (B : Nat) (w : World) : But B w w := ⟨rfl, rfl, rfl, Nat.le_refl _, fun _ _ _ => rfl⟩
theorem But.trans {B : Nat} {a b c : World} (h : But B a b) (k : But B b c) : But B a c :=
 ⟨k.os.trans h.os, k.tape.trans h.tape, k.output.trans h.output, Nat.le_trans h.size k.size, fun i hi hB => (k.block i (Nat.lt_of_lt_of_le hi h.size) hB).trans (h.block i hi hB)⟩
theorem But.of {B : Nat} {w w' : World} (h : Below w.heap.size w w') : But B w w' := ⟨h.os, h.tape, h.output, h.size, fun k hk _ => h.block k hk⟩
theorem But.below {B C : Nat} {w w' : World} (h : But B w w') (hC : C ≤ B) (hw : C ≤ w.heap.size) : Below C w w' := ⟨h.os, h.tape, h.output, h.size, fun k hk => h.block k (by omega) (by omega)⟩
theorem But.setCell {B : Nat} {a w : World} (h : But B a w) (o : Nat) (u : Value) : But B a (w.setCell ⟨B, o, none⟩ u) :=
 h.trans ⟨rfl, rfl, rfl, by simp [World.setCell], fun k _ hB => Below.heap_setCell _ _ _ _ hB⟩
theorem But.setCells {B : Nat} {a : World} : ∀ (vs : List Value) (o : Nat) (w : World), But B a w → But B a (w.setCells B o vs)
 | [], _, _, h => h
 | v :: r, o, _, h => But.setCells r (o + 1) _ (h.setCell o v)
theorem But.alloc {B : Nat} {a w : World} (h : But B a w) (o : Obj) : But B a (w.alloc o) :=
 h.trans (But.of ((Below.refl _ _).alloc (Nat.le_refl _) o))
theorem But.drawn {B : Nat} {a w : World} (h : But B a w) (n : Nat) : But B a (w.drewN n) := h.trans ⟨rfl, rfl, rfl, Nat.le_refl _, fun _ _ _ => rfl⟩
theorem But.cell {B : Nat} {w w' : World} (h : But B w w') {p : Addr} (hp : p.block < w.heap.size) (hB : p.block ≠ B) : w'.cell? p = w.cell? p := by
 simp only [World.cell?]
 rw [h.block p.block hp hB]
def CellsAt (w : World) (B : Nat) (T : TypeId) (n : Nat) (g : Nat → Value) : Prop := w.heap[B]? = some (.cells (Array.ofFn (n := n) fun i => g i.1) T)
theorem CellsAt.lt {w B T n g} (h : CellsAt w B T n g) : B < w.heap.size := blockLt h
theorem CellsAt.cell {w B T n g} (h : CellsAt w B T n g) (o : Nat) (ho : o < n) : w.cell? ⟨B, o, none⟩ = some (g o) := by
 unfold CellsAt at h
 simp [World.cell?, h, ho]
theorem CellsAt.soft {w B T n g} (h : CellsAt w B T n g) (o : Nat) : w.frozen? ⟨B, o, none⟩ = false := by
 unfold CellsAt at h
 simp [World.frozen?, h]
theorem CellsAt.ext {w B T n g g'} (h : CellsAt w B T n g) (e : ∀ o, o < n → g o = g' o) : CellsAt w B T n g' := by
 unfold CellsAt at h ⊢
 rw [h]
 congr 2
 apply Array.ext
 ·simp
 ·intro i h1 h2
  simp only [Array.size_ofFn] at h1
  simpa using e i h1
theorem CellsAt.set {w B T n g} (h : CellsAt w B T n g) (o : Nat) (v : Value) : CellsAt (w.setCell ⟨B, o, none⟩ v) B T n (Pl.upd g o v) := by
 have hl := h.lt
 unfold CellsAt at h ⊢
 simp only [World.setCell, Array.getElem?_modify, h]
 simp only [↓reduceIte, Option.map_some, Option.isSome_none, Bool.false_eq_true]
 congr 2
 apply Array.ext
 ·simp
 ·intro i h1 h2
  simp only [Array.size_setIfInBounds, Array.size_ofFn] at h1
  rw [Array.getElem_setIfInBounds (by simpa using h1)]
  simp only [Array.getElem_ofFn, Pl.upd]
  by_cases hx : o = i
  ·subst hx; simp
  ·rw [if_neg hx, if_neg (Ne.symm hx)]
theorem CellsAt.sets {B : Nat} {T : TypeId} {n : Nat} : ∀ (vs : List Value) (o : Nat) (w : World) (g : Nat → Value), CellsAt w B T n g →
  CellsAt (w.setCells B o vs) B T n (fun i => if o ≤ i ∧ i < o + vs.length then vs.getD (i - o) undef else g i)
 | [], o, w, g, h => by
  refine CellsAt.ext h fun i _ => ?_
  rw [if_neg (by simp only [List.length_nil]; omega)]
 | v :: r, o, w, g, h => by
  have := CellsAt.sets r (o + 1) _ _ (h.set o v)
  refine CellsAt.ext this fun i _ => ?_
  by_cases h1 : o + 1 ≤ i ∧ i < o + 1 + r.length
  ·rw [if_pos h1, if_pos (by simp; omega)]
   obtain ⟨j, hj⟩ : ∃ j, i - o = j + 1 := ⟨i - o - 1, by omega⟩
   rw [hj, List.getD_cons_succ]; congr 1; omega
  ·rw [if_neg h1]
   by_cases h2 : i = o
   ·subst h2; rw [Pl.upd_same, if_pos (by simp)]; simp
   ·rw [Pl.upd_ne _ _ h2, if_neg (by simp; omega)]
theorem CellsAt.there {w B T n g} (h : CellsAt w B T n g) (o k : Nat) (hk : o + k ≤ n) : w.there B o k := fun j hj => ⟨by rw [h.cell _ (by omega)]; rfl, h.soft _⟩
theorem CellsAt.range {w B T n g} (h : CellsAt w B T n g) (o : Nat) (cs : List Value) (hk : o + cs.length ≤ n) (e : ∀ j (hj : j < cs.length), cs[j] = g (o + j)) : w.rangeAt B o cs := fun j v hv => by
 obtain ⟨hj, rfl⟩ := List.getElem?_eq_some_iff.1 hv
 rw [h.cell _ (by omega), e j hj]
theorem CellsAt.new (w : World) (T : TypeId) (cs : Array Value) (n : Nat) (g : Nat → Value) (hn : cs.size = n) (e : ∀ i (hi : i < cs.size), cs[i] = g i) : CellsAt (w.alloc (.cells cs T)) w.heap.size T n g := by
 unfold CellsAt
 rw [heapNew]
 congr 2
 apply Array.ext
 ·simpa using hn
 ·intro i h1 h2
  rw [e i h1]; simp
theorem CellsAt.but {w w' B C T n g} (h : CellsAt w B T n g) (k : But C w w') (hB : B ≠ C) : CellsAt w' B T n g := (k.block B h.lt hB).trans h
theorem CellsAt.below {w w' B T n g} (h : CellsAt w B T n g) (k : Below w.heap.size w w') : CellsAt w' B T n g := (k.block B h.lt).trans h
def srch (f : Nat) (s : Pl.DS) (o : Nat) : Value :=
 if o = 0 then .int .i64 f else if o < 13 then .int .i64 (s.cost (o - 1)) else if o < 157 then .bool (s.hops ((o - 13) / 12) ((o - 13) % 12)) else .bool (s.done (o - 157))
theorem srch_cost (f s) (i : Nat) (h : i < 12) : srch f s (1 + i) = .int .i64 (s.cost i) := by
 unfold srch; rw [if_neg (by omega), if_pos (by omega)]; congr 2; omega
theorem srch_hops (f s) (i k : Nat) (h : i < 12) (hk : k < 12) : srch f s (13 + i * 12 + k) = .bool (s.hops i k) := by
 unfold srch; rw [if_neg (by omega), if_neg (by omega), if_pos (by omega)]
 rw [show (13 + i * 12 + k - 13) / 12 = i by omega, show (13 + i * 12 + k - 13) % 12 = k by omega]
theorem srch_done (f s) (i : Nat) (h : i < 12) : srch f s (157 + i) = .bool (s.done i) := by
 unfold srch; rw [if_neg (by omega), if_neg (by omega), if_neg (by omega)]; congr 2; omega
theorem srch_setCost (f s) (i : Nat) (hi : i < 12) (c : Int) (o : Nat) : Pl.upd (srch f s) (1 + i) (.int .i64 c) o = srch f ⟨Pl.upd s.cost i c, s.hops, s.done⟩ o := by
 unfold Pl.upd srch
 by_cases h : o = 1 + i
 ·subst h; rw [if_pos rfl, if_neg (by omega), if_pos (by omega)]; simp
 ·rw [if_neg h]
  by_cases h0 : o = 0
  ·simp [h0]
  ·rw [if_neg h0, if_neg h0]
   by_cases h1 : o < 13
   ·rw [if_pos h1, if_pos h1]; simp only; rw [if_neg (by omega)]
   ·rw [if_neg h1, if_neg h1]
theorem srch_setHop (f s) (i k : Nat) (hi : i < 12) (hk : k < 12) (b : Bool) (o : Nat) (ho : o < 169) :
  Pl.upd (srch f s) (13 + i * 12 + k) (.bool b) o = srch f ⟨s.cost, Pl.upd s.hops i (Pl.upd (s.hops i) k b), s.done⟩ o := by
 unfold Pl.upd srch
 by_cases h : o = 13 + i * 12 + k
 ·subst h
  rw [if_pos rfl, if_neg (by omega), if_neg (by omega), if_pos (by omega)]
  simp only
  rw [if_pos (by omega), if_pos (by omega)]
 ·rw [if_neg h]
  by_cases h0 : o = 0
  ·simp [h0]
  ·rw [if_neg h0, if_neg h0]
   by_cases h1 : o < 13
   ·rw [if_pos h1, if_pos h1]
   ·rw [if_neg h1, if_neg h1]
    by_cases h2 : o < 157
    ·rw [if_pos h2, if_pos h2]
     simp only
     by_cases h3 : (o - 13) / 12 = i
     ·rw [if_pos h3, if_neg (by omega), h3]
     ·rw [if_neg h3]
    ·rw [if_neg h2, if_neg h2]
theorem srch_setDone (f s) (i : Nat) (hi : i < 12) (b : Bool) (o : Nat) : Pl.upd (srch f s) (157 + i) (.bool b) o = srch f ⟨s.cost, s.hops, Pl.upd s.done i b⟩ o := by
 unfold Pl.upd srch
 by_cases h : o = 157 + i
 ·subst h; rw [if_pos rfl, if_neg (by omega), if_neg (by omega), if_neg (by omega)]; simp
 ·rw [if_neg h]
  by_cases h0 : o = 0
  ·simp [h0]
  ·rw [if_neg h0, if_neg h0]
   by_cases h1 : o < 13
   ·rw [if_pos h1, if_pos h1]
   ·rw [if_neg h1, if_neg h1]
    by_cases h2 : o < 157
    ·rw [if_pos h2, if_pos h2]
    ·rw [if_neg h2, if_neg h2]; simp only; rw [if_neg (by omega)]
def SAt (w : World) (B f : Nat) (s : Pl.DS) : Prop := CellsAt w B 209 169 (srch f s)
theorem SAt.from {w B f s} (h : SAt w B f s) : w.cell? ⟨B, 0, none⟩ = some (.int .i64 f) := CellsAt.cell h 0 (by omega)
theorem SAt.cost {w B f s} (h : SAt w B f s) (i : Nat) (hi : i < 12) : w.cell? ⟨B, 1 + i, none⟩ = some (.int .i64 (s.cost i)) := by rw [CellsAt.cell h _ (by omega), srch_cost _ _ _ hi]
theorem SAt.hops {w B f s} (h : SAt w B f s) (i k : Nat) (hi : i < 12) (hk : k < 12) : w.cell? ⟨B, 13 + i * 12 + k, none⟩ = some (.bool (s.hops i k)) := by rw [CellsAt.cell h _ (by omega), srch_hops _ _ _ _ hi hk]
theorem SAt.done {w B f s} (h : SAt w B f s) (i : Nat) (hi : i < 12) : w.cell? ⟨B, 157 + i, none⟩ = some (.bool (s.done i)) := by rw [CellsAt.cell h _ (by omega), srch_done _ _ _ hi]
theorem SAt.setCost {w B f s} (h : SAt w B f s) (i : Nat) (hi : i < 12) (c : Int) : SAt (w.setCell ⟨B, 1 + i, none⟩ (.int .i64 c)) B f ⟨Pl.upd s.cost i c, s.hops, s.done⟩ :=
 (CellsAt.set h (1 + i) _).ext fun o _ => srch_setCost f s i hi c o
theorem SAt.setHop {w B f s} (h : SAt w B f s) (i k : Nat) (hi : i < 12) (hk : k < 12) (b : Bool) : SAt (w.setCell ⟨B, 13 + i * 12 + k, none⟩ (.bool b)) B f ⟨s.cost, Pl.upd s.hops i (Pl.upd (s.hops i) k b), s.done⟩ :=
 (CellsAt.set h _ _).ext fun o ho => srch_setHop f s i k hi hk b o ho
theorem SAt.setDone {w B f s} (h : SAt w B f s) (i : Nat) (hi : i < 12) (b : Bool) : SAt (w.setCell ⟨B, 157 + i, none⟩ (.bool b)) B f ⟨s.cost, s.hops, Pl.upd s.done i b⟩ :=
 (CellsAt.set h _ _).ext fun o _ => srch_setDone f s i hi b o
theorem SAt.clearHops {w B f s} (h : SAt w B f s) (i : Nat) (hi : i < 12) : SAt (w.setCells B (13 + i * 12) (List.replicate 12 (.bool false))) B f ⟨s.cost, Pl.upd s.hops i (fun _ => false), s.done⟩ := by
 refine (CellsAt.sets _ (13 + i * 12) _ _ h).ext fun o ho => ?_
 simp only [List.length_replicate]
 by_cases h1 : 13 + i * 12 ≤ o ∧ o < 13 + i * 12 + 12
 ·rw [if_pos h1]
  unfold srch
  rw [if_neg (by omega), if_neg (by omega), if_pos (by omega)]
  have e : (List.replicate 12 (Value.bool false)).getD (o - (13 + i * 12)) undef = .bool false := by
   rw [List.getD_eq_getElem?_getD, List.getElem?_replicate, if_pos (by omega)]; rfl
  rw [e]
  simp only [Pl.upd]
  rw [if_pos (by omega)]
 ·rw [if_neg h1]
  unfold srch
  by_cases h0 : o = 0
  ·simp [h0]
  ·rw [if_neg h0, if_neg h0]
   by_cases h1 : o < 13
   ·rw [if_pos h1, if_pos h1]
   ·rw [if_neg h1, if_neg h1]
    by_cases h2 : o < 157
    ·rw [if_pos h2, if_pos h2]
     simp only [Pl.upd]
     rw [if_neg (by omega)]
    ·rw [if_neg h2, if_neg h2]
def nwCell (D : Nat → Bool) (P K T : Nat → Value) (L : Nat → Nat → Int) (o : Nat) : Value :=
 if o < 48 then (if o % 4 = 0 then .bool (D (o / 4)) else if o % 4 = 1 then P (o / 4) else if o % 4 = 2 then K (o / 4) else T (o / 4)) else .int .i64 (L ((o - 48) / 12) ((o - 48) % 12))
def NwAt (w : World) (B : Nat) (D : Nat → Bool) (P K T : Nat → Value) (L : Nat → Nat → Int) : Prop := CellsAt w B 92 192 (nwCell D P K T L)
theorem NwAt.lt {w B D P K T L} (h : NwAt w B D P K T L) : B < w.heap.size := CellsAt.lt h
theorem NwAt.soft {w B D P K T L} (h : NwAt w B D P K T L) (o : Nat) : w.frozen? ⟨B, o, none⟩ = false := CellsAt.soft h o
theorem NwAt.below {w w' : World} {B D P K T L} (h : NwAt w B D P K T L) (k : Below w.heap.size w w') : NwAt w' B D P K T L := CellsAt.below h k
theorem NwAt.line {w B D P K T L} (h : NwAt w B D P K T L) (a b : Nat) (ha : a < 12) (hb : b < 12) : w.cell? ⟨B, 48 + a * 12 + b, none⟩ = some (.int .i64 (L a b)) := by
 rw [CellsAt.cell h _ (by omega)]; unfold nwCell
 rw [if_neg (by omega), show (48 + a * 12 + b - 48) / 12 = a by omega, show (48 + a * 12 + b - 48) % 12 = b by omega]
theorem NwAt.drained {w B D P K T L} (h : NwAt w B D P K T L) (a : Nat) (ha : a < 12) : w.cell? ⟨B, a * 4, none⟩ = some (.bool (D a)) := by
 rw [CellsAt.cell h _ (by omega)]; unfold nwCell
 rw [if_pos (by omega), if_pos (by omega), show a * 4 / 4 = a by omega]
theorem NwAt.prefixes {w B D P K T L} (h : NwAt w B D P K T L) (a : Nat) (ha : a < 12) : w.cell? ⟨B, a * 4 + 1, none⟩ = some (P a) := by
 rw [CellsAt.cell h _ (by omega)]; unfold nwCell
 rw [if_pos (by omega), if_neg (by omega), if_pos (by omega), show (a * 4 + 1) / 4 = a by omega]
theorem NwAt.knows {w B D P K T L} (h : NwAt w B D P K T L) (a : Nat) (ha : a < 12) : w.cell? ⟨B, a * 4 + 2, none⟩ = some (K a) := by
 rw [CellsAt.cell h _ (by omega)]; unfold nwCell
 rw [if_pos (by omega), if_neg (by omega), if_neg (by omega), if_pos (by omega), show (a * 4 + 2) / 4 = a by omega]
theorem NwAt.table {w B D P K T L} (h : NwAt w B D P K T L) (a : Nat) (ha : a < 12) : w.cell? ⟨B, a * 4 + 3, none⟩ = some (T a) := by
 rw [CellsAt.cell h _ (by omega)]; unfold nwCell
 rw [if_pos (by omega), if_neg (by omega), if_neg (by omega), if_neg (by omega), show (a * 4 + 3) / 4 = a by omega]
theorem NwAt.ext {w B D P K T L D' P' K' T' L'} (h : NwAt w B D P K T L) (h1 : ∀ a, a < 12 → D a = D' a) (h2 : ∀ a, a < 12 → P a = P' a) (h3 : ∀ a, a < 12 → K a = K' a) (h4 : ∀ a, a < 12 → T a = T' a) (h5 : ∀ a b, a < 12 → b < 12 → L a b = L' a b) : NwAt w B D' P' K' T' L' := by
 refine CellsAt.ext h fun o ho => ?_
 unfold nwCell
 split
 ·rw [h1 _ (by omega), h2 _ (by omega), h3 _ (by omega), h4 _ (by omega)]
 ·rw [h5 _ _ (by omega) (by omega)]
theorem NwAt.setDrained {w B D P K T L} (h : NwAt w B D P K T L) (a : Nat) (v : Bool) : NwAt (w.setCell ⟨B, a * 4, none⟩ (.bool v)) B (Pl.upd D a v) P K T L ∨ ¬ a < 12 := by
 by_cases ha : a < 12
 ·left
  refine (CellsAt.set h _ _).ext fun o ho => ?_
  unfold Pl.upd nwCell
  by_cases h1 : o = a * 4
  ·subst h1; rw [if_pos rfl, if_pos (by omega), if_pos (by omega)]; simp
  ·rw [if_neg h1]
   by_cases h0 : o < 48
   ·rw [if_pos h0, if_pos h0]
    by_cases h2 : o % 4 = 0
    ·rw [if_pos h2, if_pos h2]; simp only; rw [if_neg (by omega)]
    ·rw [if_neg h2, if_neg h2]
   ·rw [if_neg h0, if_neg h0]
 ·exact .inr ha
theorem NwAt.setLine {w B D P K T L} (h : NwAt w B D P K T L) (a b : Nat) (hb : b < 12) (v : Int) : NwAt (w.setCell ⟨B, 48 + a * 12 + b, none⟩ (.int .i64 v)) B D P K T (Pl.upd L a (Pl.upd (L a) b v)) := by
 refine (CellsAt.set h _ _).ext fun o ho => ?_
 unfold Pl.upd nwCell
 by_cases h1 : o = 48 + a * 12 + b
 ·subst h1
  rw [if_pos rfl, if_neg (by omega), show (48 + a * 12 + b - 48) / 12 = a by omega, show (48 + a * 12 + b - 48) % 12 = b by omega]
  simp
 ·rw [if_neg h1]
  by_cases h0 : o < 48
  ·rw [if_pos h0, if_pos h0]
  ·rw [if_neg h0, if_neg h0]
   by_cases h2 : (o - 48) / 12 = a
   ·simp only [if_pos h2]; rw [if_neg (by omega), h2]
   ·simp only [if_neg h2]
def Pl.line (L : Nat → Nat → Int) (a b : Nat) (c : Int) : Nat → Nat → Int := fun x y => if (x = a ∧ y = b) ∨ (x = b ∧ y = a) then c else L x y
set_option maxHeartbeats 2000000 in
theorem netLay_any (B : Nat) (D : Nat → Bool) (P K T : Nat → Value) (L : Nat → Nat → Int) (a b : Nat) (c : Int) (w : World) (h : NwAt w B D P K T L) (ha : a < 12) (hb : b < 12) :
  Calls Tryz.prog 157 #[.pointer (some ⟨B, 0, none⟩), .int .i64 a, .int .i64 b, .int .i64 c] w fun e w' => e = .returned (.tuple #[]) ∧ NwAt w' B D P K T (Pl.line L a b c) ∧ But B w w' := by
 have HN := hid h
 have c1 := h.line a b ha hb
 have c2 := h.line b a hb ha
 have f1 := h.soft (48 + a * 12 + b)
 have f2 := h.soft (48 + b * 12 + a)
 have hBl := h.lt
 have ha' : (a : Int) < 12 := by omega
 have hb' : (b : Int) < 12 := by omega
 clear h
 have HFIN : Hid (NwAt ((w.setCell ⟨B, 48 + a * 12 + b, none⟩ (.int .i64 c)).setCell ⟨B, 48 + b * 12 + a, none⟩ (.int .i64 c)) B D P K T (Pl.line L a b c)) := hid (((HN.out.setLine a b hb c).setLine b a ha c).ext (fun _ _ => rfl) (fun _ _ => rfl) (fun _ _ => rfl) (fun _ _ => rfl) (fun x y _ _ => by
  unfold Pl.line Pl.upd
  by_cases e1 : x = b
  ·subst e1
   simp only [if_true]
   by_cases e2 : y = a
   ·subst e2; simp
   ·rw [if_neg e2]
    by_cases e3 : x = a
    ·subst e3
     simp only [if_true]
     rw [if_neg e2, if_neg (by rintro (⟨_, h⟩ | ⟨_, h⟩) <;> exact e2 h)]
    ·rw [if_neg e3, if_neg (by rintro (⟨h, _⟩ | ⟨_, h⟩); (exact e3 h); exact e2 h)]
  ·simp only [if_neg e1]
   by_cases e3 : x = a
   ·subst e3
    simp only [if_true]
    by_cases e4 : y = b
    ·subst e4; simp
    ·rw [if_neg e4, if_neg (by rintro (⟨_, h⟩ | ⟨h, _⟩); (exact e4 h); exact e1 h)]
   ·rw [if_neg e3, if_neg (by rintro (⟨h, _⟩ | ⟨h, _⟩); (exact e3 h); exact e1 h)]))
 go_enter Tryz.func157, Tryz.ntmps157
 by_cases hab : a = b
 ·subst hab
  go_wp2_with fail
  first | refine bodyPost_end (v := .tuple #[]) (by simp [results, Tryz.results157, go_sem]) rfl ?_ | refine bodyPost_ret (v := .tuple #[]) (by simp [results, Tryz.results157, go_sem]) rfl ?_
  exact ⟨rfl, HFIN.out, ((But.refl _ _).setCell _ _).setCell _ _⟩
 ·have hoff : 48 + b * 12 + a ≠ 48 + a * 12 + b := by omega
  go_wp2_with fail
  first | refine bodyPost_end (v := .tuple #[]) (by simp [results, Tryz.results157, go_sem]) rfl ?_ | refine bodyPost_ret (v := .tuple #[]) (by simp [results, Tryz.results157, go_sem]) rfl ?_
  exact ⟨rfl, HFIN.out, ((But.refl _ _).setCell _ _).setCell _ _⟩
structure Pl.Ac where
 kind : Int
 a : Int
 b : Int
 n : Int
 m : Int
 p : Int × Int
 key : ByteArray
 val : ByteArray
theorem But.over {B G : Nat} {a b c : World} (h : But B a b) (k : But G b c) (hG : a.heap.size ≤ G) : But B a c :=
 ⟨k.os.trans h.os, k.tape.trans h.tape, k.output.trans h.output, Nat.le_trans h.size k.size, fun i hi hB => (k.block i (Nat.lt_of_lt_of_le hi h.size) (by omega)).trans (h.block i hi hB)⟩
theorem box4c {w : World} {b : Nat} {c0 c1 c2 c3 : Value} {T : TypeId} (h : w.heap[b]? = some (.cells #[c0, c1, c2, c3] T)) :
  (w.cell? ⟨b, 0, none⟩ = some c0 ∧ w.cell? ⟨b, 1, none⟩ = some c1 ∧ w.cell? ⟨b, 2, none⟩ = some c2 ∧ w.cell? ⟨b, 3, none⟩ = some c3) ∧ (∀ o, w.frozen? ⟨b, o, none⟩ = false) ∧ b < w.heap.size := by
 refine ⟨⟨?_, ?_, ?_, ?_⟩, fun o => ?_, blockLt h⟩
 iterate 4 simp [World.cell?, h]
 simp [World.frozen?, h]
theorem box9 {w : World} {b : Nat} {c0 c1 c2 c3 c4 c5 c6 c7 c8 : Value} {T : TypeId} (h : w.heap[b]? = some (.cells #[c0, c1, c2, c3, c4, c5, c6, c7, c8] T)) :
  w.cell? ⟨b, 0, none⟩ = some c0 ∧ w.cell? ⟨b, 1, none⟩ = some c1 ∧ w.cell? ⟨b, 2, none⟩ = some c2 ∧ w.cell? ⟨b, 3, none⟩ = some c3 ∧ w.cell? ⟨b, 4, none⟩ = some c4 ∧ w.cell? ⟨b, 5, none⟩ = some c5 ∧ w.cell? ⟨b, 6, none⟩ = some c6 ∧ w.cell? ⟨b, 7, none⟩ = some c7 ∧ w.cell? ⟨b, 8, none⟩ = some c8 := by
 refine ⟨?_, ?_, ?_, ?_, ?_, ?_, ?_, ?_, ?_⟩
 iterate 9 simp [World.cell?, h]
theorem two {w : World} (A B : Obj) : (((w.alloc A).alloc B).heap[w.heap.size]? = some A) ∧ (((w.alloc A).alloc B).heap[w.heap.size + 1]? = some B) ∧ ((w.alloc A).alloc B).heap.size = w.heap.size + 2 ∧ Below w.heap.size w ((w.alloc A).alloc B) := by
 have e1 : (w.alloc A).heap.size = w.heap.size + 1 := by simp
 refine ⟨?_, ?_, by simp, ((Below.refl _ _).alloc (Nat.le_refl _) _).alloc (by simp) _⟩
 ·rw [Below.heap_alloc _ _ _ (by simp)]; exact heapNew w A
 ·have := heapNew (w.alloc A) B
  rwa [e1] at this
set_option maxHeartbeats 1000000 in
theorem refused_any (c : Int) (w : World) :
  Calls Tryz.prog 71 #[.int .i64 c] w fun e w' => e = .returned (.agg #[.int .i64 c, .slice none 0 0, .int .i64 0, .slice none 0 0]) ∧ Below w.heap.size w w' := by
 go_enter Tryz.func71, Tryz.ntmps71
 go_wp2_with fail
 refine bodyPost_ret (v := .agg #[.int .i64 c, .slice none 0 0, .int .i64 0, .slice none 0 0]) (by simp [results, Tryz.results71, go_sem]) rfl ⟨rfl, (Below.refl _ _).alloc (Nat.le_refl _) _⟩
def Pl.linkC (x : Pl.Ac) : Int := if ¬ (0 ≤ x.b ∧ x.b ≤ 11) ∨ x.n < 1 ∨ 1000 < x.n then 2 else if x.a = x.b then 4 else 0
def Pl.linkL (L : Nat → Nat → Int) (x : Pl.Ac) : Nat → Nat → Int := if Pl.linkC x = 0 then Pl.line L x.a.toNat x.b.toNat x.n else L
set_option maxHeartbeats 4000000 in
theorem link_any (B : Nat) (D : Nat → Bool) (P K T : Nat → Value) (L : Nat → Nat → Int) (x : Pl.Ac) (w : World) (h : NwAt w B D P K T L) (ha : 0 ≤ x.a ∧ x.a ≤ 11) :
  Calls Tryz.prog 110 #[.pointer (some ⟨B, 0, none⟩), .agg #[.int .i64 x.kind, .int .i64 x.a, .int .i64 x.b, .int .i64 x.n, .int .i64 x.m, .int .i64 x.p.1, .int .i64 x.p.2, .string x.key, .string x.val]] w fun e w' =>
   e = .returned (.agg #[.int .i64 (Pl.linkC x), .slice none 0 0, .int .i64 0, .slice none 0 0]) ∧ NwAt w' B D P K T (Pl.linkL L x) ∧ But B w w' := by
 have HN := hid h
 have hBl := h.lt
 clear h
 obtain ⟨kind, a, b, n, m, ⟨p1, p2⟩, key, val⟩ := x
 simp only at ha ⊢
 obtain ⟨a, rfl⟩ : ∃ k : Nat, a = k := ⟨a.toNat, by omega⟩
 have H2 := hid (two (w := w) (.cells #[.int .i64 kind, .int .i64 (a : Int), .int .i64 b, .int .i64 n, .int .i64 m, .int .i64 p1, .int .i64 p2, .string key, .string val] 51) (.cells #[.int .i64 0, .slice none 0 0, .int .i64 0, .slice none 0 0] 40))
 obtain ⟨cd, HCD⟩ : ∃ c, Hid (Pl.linkC ⟨kind, (a : Int), b, n, m, (p1, p2), key, val⟩ = c) := ⟨_, hid rfl⟩
 obtain ⟨LL, HLX⟩ : ∃ c, Hid (Pl.linkL L ⟨kind, (a : Int), b, n, m, (p1, p2), key, val⟩ = c) := ⟨_, hid rfl⟩
 have HLL : Hid (LL = if cd = 0 then Pl.line L a b.toNat n else L) := hid (by rw [← HLX.out]; unfold Pl.linkL; rw [HCD.out]; rfl)
 rw [HCD.out, HLX.out]
 have HCE : Hid (cd = if ¬ (0 ≤ b ∧ b ≤ 11) ∨ n < 1 ∨ 1000 < n then 2 else if (a : Int) = b then 4 else 0) := hid HCD.out.symm
 have HRF := hid (fun (c : Int) (W : World) => refused_any c W)
 have HEND : Hid (∀ W : World, Below (w.heap.size + 2) ((w.alloc (.cells #[.int .i64 kind, .int .i64 (a : Int), .int .i64 b, .int .i64 n, .int .i64 m, .int .i64 p1, .int .i64 p2, .string key, .string val] 51)).alloc (.cells #[.int .i64 0, .slice none 0 0, .int .i64 0, .slice none 0 0] 40)) W → W.heap[w.heap.size + 1]? = some (.cells #[.int .i64 0, .slice none 0 0, .int .i64 0, .slice none 0 0] 40) ∧ Below w.heap.size w W) := hid fun W hW => by
  obtain ⟨_, h2, h3, h4⟩ := H2.out
  exact ⟨(hW.block _ (by omega)).trans h2, h4.trans (hW.mono (by omega))⟩
 by_cases hb : 0 ≤ b ∧ b ≤ 11
 ·have hdb : decide (0 ≤ b ∧ b ≤ 11) = true := by simpa using hb
  by_cases hn1 : n < 1
  ·have hn1' : decide (n < 1) = true := by simpa using hn1
   have HC2 : Hid (cd = 2) := hid (by rw [HCE.out]; rw [if_pos (by omega)])
   clear hn1
   go_enter Tryz.func110, Tryz.ntmps110
   go_wp2_with (go_at_call 72; refine (isNode_any _ _).mono ?_; rw [hdb]; rintro e w' ⟨rfl, hw'⟩; rw [hw']; clear hw' w')
   refine (HRF.out 2 _).mono ?_
   rintro e w3 ⟨rfl, hb3⟩
   obtain ⟨hbx, hbw⟩ := HEND.out w3 (by simpa using hb3)
   obtain ⟨⟨y0, y1, y2, y3⟩, yf, yl⟩ := box4c hbx
   have HBW := hid hbw
   clear hb3 hbx hbw
   go_wp2_with fail
   have hle : w.heap.size ≤ w.heap.size + 1 := by omega
   have hfin := (((HBW.out.setCell (p := ⟨w.heap.size + 1, 0, none⟩) hle (.int .i64 2)).setCell (p := ⟨w.heap.size + 1, 1, none⟩) hle (.slice none 0 0)).setCell (p := ⟨w.heap.size + 1, 2, none⟩) hle (.int .i64 0)).setCell (p := ⟨w.heap.size + 1, 3, none⟩) hle (.slice none 0 0)
   refine bodyPost_ret (v := .agg #[.int .i64 2, .slice none 0 0, .int .i64 0, .slice none 0 0]) (by simp [results, Tryz.results110, go_sem, y0, y1, y2, y3]) rfl ⟨by rw [HC2.out], ?_, But.of hfin⟩
   rw [HLL.out, HC2.out, if_neg (by decide)]
   exact HN.out.below hfin
  ·have hn1' : decide (n < 1) = false := by simpa using hn1
   by_cases hn2 : 1000 < n
   ·have hn2' : decide (1000 < n) = true := by simpa using hn2
    have HC2 : Hid (cd = 2) := hid (by rw [HCE.out]; rw [if_pos (by omega)])
    clear hn2
    go_enter Tryz.func110, Tryz.ntmps110
    go_wp2_with (go_at_call 72; refine (isNode_any _ _).mono ?_; rw [hdb]; rintro e w' ⟨rfl, hw'⟩; rw [hw']; clear hw' w')
    refine (HRF.out 2 _).mono ?_
    rintro e w3 ⟨rfl, hb3⟩
    obtain ⟨hbx, hbw⟩ := HEND.out w3 (by simpa using hb3)
    obtain ⟨⟨y0, y1, y2, y3⟩, yf, yl⟩ := box4c hbx
    have HBW := hid hbw
    clear hb3 hbx hbw
    go_wp2_with fail
    have hle : w.heap.size ≤ w.heap.size + 1 := by omega
    have hfin := (((HBW.out.setCell (p := ⟨w.heap.size + 1, 0, none⟩) hle (.int .i64 2)).setCell (p := ⟨w.heap.size + 1, 1, none⟩) hle (.slice none 0 0)).setCell (p := ⟨w.heap.size + 1, 2, none⟩) hle (.int .i64 0)).setCell (p := ⟨w.heap.size + 1, 3, none⟩) hle (.slice none 0 0)
    refine bodyPost_ret (v := .agg #[.int .i64 2, .slice none 0 0, .int .i64 0, .slice none 0 0]) (by simp [results, Tryz.results110, go_sem, y0, y1, y2, y3]) rfl ⟨by rw [HC2.out], ?_, But.of hfin⟩
    rw [HLL.out, HC2.out, if_neg (by decide)]
    exact HN.out.below hfin
   ·have hn2' : decide (1000 < n) = false := by simpa using hn2
    by_cases hab : (a : Int) = b
    ·have hab' : ((a : Int) == b) = true := by simpa using hab
     have HC2 : Hid (cd = 4) := hid (by rw [HCE.out]; rw [if_neg (by omega), if_pos hab])
     clear hab
     go_enter Tryz.func110, Tryz.ntmps110
     go_wp2_with (go_at_call 72; refine (isNode_any _ _).mono ?_; rw [hdb]; rintro e w' ⟨rfl, hw'⟩; rw [hw']; clear hw' w')
     refine (HRF.out 4 _).mono ?_
     rintro e w3 ⟨rfl, hb3⟩
     obtain ⟨hbx, hbw⟩ := HEND.out w3 (by simpa using hb3)
     obtain ⟨⟨y0, y1, y2, y3⟩, yf, yl⟩ := box4c hbx
     have HBW := hid hbw
     clear hb3 hbx hbw
     go_wp2_with fail
     have hle : w.heap.size ≤ w.heap.size + 1 := by omega
     have hfin := (((HBW.out.setCell (p := ⟨w.heap.size + 1, 0, none⟩) hle (.int .i64 4)).setCell (p := ⟨w.heap.size + 1, 1, none⟩) hle (.slice none 0 0)).setCell (p := ⟨w.heap.size + 1, 2, none⟩) hle (.int .i64 0)).setCell (p := ⟨w.heap.size + 1, 3, none⟩) hle (.slice none 0 0)
     refine bodyPost_ret (v := .agg #[.int .i64 4, .slice none 0 0, .int .i64 0, .slice none 0 0]) (by simp [results, Tryz.results110, go_sem, y0, y1, y2, y3]) rfl ⟨by rw [HC2.out], ?_, But.of hfin⟩
     rw [HLL.out, HC2.out, if_neg (by decide)]
     exact HN.out.below hfin
    ·have hab' : ((a : Int) == b) = false := by simpa using hab
     have HC0 : Hid (cd = 0) := hid (by rw [HCE.out, if_neg (by omega), if_neg hab])
     obtain ⟨b, rfl⟩ : ∃ k : Nat, b = k := ⟨b.toNat, by omega⟩
     have HLY := hid (fun W hW => netLay_any B D P K T L a b n W hW (by omega) (by omega))
     obtain ⟨b0, b1, bz, bb⟩ := H2.out
     have HB2 := hid bb
     have HX1 := hid b1
     have hz2 := bz
     clear b0 b1 bz bb hab hn1 hn2
     go_enter Tryz.func110, Tryz.ntmps110
     go_wp2_with (go_at_call 72; refine (isNode_any _ _).mono ?_; rw [hdb]; rintro e w' ⟨rfl, hw'⟩; rw [hw']; clear hw' w')
     refine (HLY.out _ (HN.out.below HB2.out)).mono ?_
     rintro e w3 ⟨rfl, hn3, hu3⟩
     have HN3 := hid hn3
     have HU3 := hid hu3
     obtain ⟨⟨y0, y1, y2, y3⟩, yf, yl⟩ := box4c ((hu3.block _ (by omega) (by omega)).trans HX1.out)
     clear hn3 hu3
     go_wp2_with fail
     have hub := (((((But.refl (w.heap.size + 1) w3).setCell 0 (.int .i64 0)).setCell 1 (.slice none 0 0)).setCell 2 (.int .i64 0)).setCell 3 (.slice none 0 0))
     refine bodyPost_ret (v := .agg #[.int .i64 0, .slice none 0 0, .int .i64 0, .slice none 0 0]) (by simp [results, Tryz.results110, go_sem, y0, y1, y2, y3]) rfl ⟨by rw [HC0.out], ?_, ?_⟩
     ·rw [HLL.out, HC0.out, if_pos rfl, Int.toNat_natCast]
      exact CellsAt.but HN3.out hub (by omega)
     ·exact ((But.of HB2.out).trans HU3.out).over hub (by omega)
 ·have hdb : decide (0 ≤ b ∧ b ≤ 11) = false := by simpa using hb
  have HC2 : Hid (cd = 2) := hid (by rw [HCE.out]; rw [if_pos (by omega)])
  clear hb
  go_enter Tryz.func110, Tryz.ntmps110
  go_wp2_with (go_at_call 72; refine (isNode_any _ _).mono ?_; rw [hdb]; rintro e w' ⟨rfl, hw'⟩; rw [hw']; clear hw' w')
  refine (HRF.out 2 _).mono ?_
  rintro e w3 ⟨rfl, hb3⟩
  obtain ⟨hbx, hbw⟩ := HEND.out w3 (by simpa using hb3)
  obtain ⟨⟨y0, y1, y2, y3⟩, yf, yl⟩ := box4c hbx
  have HBW := hid hbw
  clear hb3 hbx hbw
  go_wp2_with fail
  have hle : w.heap.size ≤ w.heap.size + 1 := by omega
  have hfin := (((HBW.out.setCell (p := ⟨w.heap.size + 1, 0, none⟩) hle (.int .i64 2)).setCell (p := ⟨w.heap.size + 1, 1, none⟩) hle (.slice none 0 0)).setCell (p := ⟨w.heap.size + 1, 2, none⟩) hle (.int .i64 0)).setCell (p := ⟨w.heap.size + 1, 3, none⟩) hle (.slice none 0 0)
  refine bodyPost_ret (v := .agg #[.int .i64 2, .slice none 0 0, .int .i64 0, .slice none 0 0]) (by simp [results, Tryz.results110, go_sem, y0, y1, y2, y3]) rfl ⟨by rw [HC2.out], ?_, But.of hfin⟩
  rw [HLL.out, HC2.out, if_neg (by decide)]
  exact HN.out.below hfin
def Pl.cutCd (L : Nat → Nat → Int) (x : Pl.Ac) : Int := if ¬ (0 ≤ x.b ∧ x.b ≤ 11) then 2 else if x.a = x.b then 4 else if L x.a.toNat x.b.toNat = 0 then 6 else 0
def Pl.cutLn (L : Nat → Nat → Int) (x : Pl.Ac) : Nat → Nat → Int := if Pl.cutCd L x = 0 then Pl.line L x.a.toNat x.b.toNat 0 else L
def Pl.drainC (x : Pl.Ac) : Int := if x.n = 0 ∨ x.n = 1 then 0 else 2
def Pl.drainD (D : Nat → Bool) (x : Pl.Ac) : Nat → Bool := if Pl.drainC x = 0 then Pl.upd D x.a.toNat (x.n == 1) else D
set_option maxHeartbeats 4000000 in
theorem netCut_any (B : Nat) (D : Nat → Bool) (P K T : Nat → Value) (L : Nat → Nat → Int) (x : Pl.Ac) (w : World) (h : NwAt w B D P K T L) (ha : 0 ≤ x.a ∧ x.a ≤ 11) :
  Calls Tryz.prog 111 #[.pointer (some ⟨B, 0, none⟩), .agg #[.int .i64 x.kind, .int .i64 x.a, .int .i64 x.b, .int .i64 x.n, .int .i64 x.m, .int .i64 x.p.1, .int .i64 x.p.2, .string x.key, .string x.val]] w fun e w' =>
   e = .returned (.agg #[.int .i64 (Pl.cutCd L x), .slice none 0 0, .int .i64 0, .slice none 0 0]) ∧ NwAt w' B D P K T (Pl.cutLn L x) ∧ But B w w' := by
 have HN := hid h
 have hBl := h.lt
 clear h
 obtain ⟨kind, a, b, n, m, ⟨p1, p2⟩, key, val⟩ := x
 simp only at ha ⊢
 obtain ⟨a, rfl⟩ : ∃ k : Nat, a = k := ⟨a.toNat, by omega⟩
 have H2 := hid (two (w := w) (.cells #[.int .i64 kind, .int .i64 (a : Int), .int .i64 b, .int .i64 n, .int .i64 m, .int .i64 p1, .int .i64 p2, .string key, .string val] 51) (.cells #[.int .i64 0, .slice none 0 0, .int .i64 0, .slice none 0 0] 40))
 obtain ⟨cd, HCD⟩ : ∃ c, Hid (Pl.cutCd L ⟨kind, (a : Int), b, n, m, (p1, p2), key, val⟩ = c) := ⟨_, hid rfl⟩
 obtain ⟨LL, HLX⟩ : ∃ c, Hid (Pl.cutLn L ⟨kind, (a : Int), b, n, m, (p1, p2), key, val⟩ = c) := ⟨_, hid rfl⟩
 have HLL : Hid (LL = if cd = 0 then Pl.line L a b.toNat 0 else L) := hid (by rw [← HLX.out]; unfold Pl.cutLn; rw [HCD.out]; rfl)
 rw [HCD.out, HLX.out]
 have HCE : Hid (cd = if ¬ (0 ≤ b ∧ b ≤ 11) then 2 else if (a : Int) = b then 4 else if L a b.toNat = 0 then 6 else 0) := hid HCD.out.symm
 have HRF := hid (fun (c : Int) (W : World) => refused_any c W)
 have HEND : Hid (∀ W : World, Below (w.heap.size + 2) ((w.alloc (.cells #[.int .i64 kind, .int .i64 (a : Int), .int .i64 b, .int .i64 n, .int .i64 m, .int .i64 p1, .int .i64 p2, .string key, .string val] 51)).alloc (.cells #[.int .i64 0, .slice none 0 0, .int .i64 0, .slice none 0 0] 40)) W → W.heap[w.heap.size + 1]? = some (.cells #[.int .i64 0, .slice none 0 0, .int .i64 0, .slice none 0 0] 40) ∧ Below w.heap.size w W) := hid fun W hW => by
  obtain ⟨_, h2, h3, h4⟩ := H2.out
  exact ⟨(hW.block _ (by omega)).trans h2, h4.trans (hW.mono (by omega))⟩
 by_cases hb : 0 ≤ b ∧ b ≤ 11
 ·have hdb : decide (0 ≤ b ∧ b ≤ 11) = true := by simpa using hb
  by_cases hab : (a : Int) = b
  ·have hab' : ((a : Int) == b) = true := by simpa using hab
   have HC2 : Hid (cd = 4) := hid (by rw [HCE.out]; rw [if_neg (by omega), if_pos hab])
   clear hab
   go_enter Tryz.func111, Tryz.ntmps111
   go_wp2_with (go_at_call 72; refine (isNode_any _ _).mono ?_; rw [hdb]; rintro e w' ⟨rfl, hw'⟩; rw [hw']; clear hw' w')
   refine (HRF.out 4 _).mono ?_
   rintro e w3 ⟨rfl, hb3⟩
   obtain ⟨hbx, hbw⟩ := HEND.out w3 (by simpa using hb3)
   obtain ⟨⟨y0, y1, y2, y3⟩, yf, yl⟩ := box4c hbx
   have HBW := hid hbw
   clear hb3 hbx hbw
   go_wp2_with fail
   have hle : w.heap.size ≤ w.heap.size + 1 := by omega
   have hfin := (((HBW.out.setCell (p := ⟨w.heap.size + 1, 0, none⟩) hle (.int .i64 4)).setCell (p := ⟨w.heap.size + 1, 1, none⟩) hle (.slice none 0 0)).setCell (p := ⟨w.heap.size + 1, 2, none⟩) hle (.int .i64 0)).setCell (p := ⟨w.heap.size + 1, 3, none⟩) hle (.slice none 0 0)
   refine bodyPost_ret (v := .agg #[.int .i64 4, .slice none 0 0, .int .i64 0, .slice none 0 0]) (by simp [results, Tryz.results111, go_sem, y0, y1, y2, y3]) rfl ⟨by rw [HC2.out], ?_, But.of hfin⟩
   rw [HLL.out, HC2.out, if_neg (by decide)]
   exact HN.out.below hfin
  ·have hab' : ((a : Int) == b) = false := by simpa using hab
   obtain ⟨b, rfl⟩ : ∃ k : Nat, b = k := ⟨b.toNat, by omega⟩
   rw [Int.toNat_natCast] at HCE HLL
   obtain ⟨b0, b1, bz, bb⟩ := H2.out
   have HB2 := hid bb
   have HX1 := hid b1
   have hz2 := bz
   have HN2 := hid (HN.out.below HB2.out)
   have cl := HN2.out.line a b (by omega) (by omega)
   have ha' : (a : Int) < 12 := by omega
   have hb' : (b : Int) < 12 := by omega
   obtain ⟨q0, q1, q2, q3, q4, q5, q6, q7, q8⟩ := box9 b0
   have hBl2 := HN2.out.lt
   obtain ⟨l, hl⟩ : ∃ l, L a b = l := ⟨_, rfl⟩
   rw [hl] at cl HCE
   by_cases hl0 : l = 0
   ·have hl0' : (l == 0) = true := by simpa using hl0
    have HC2 : Hid (cd = 6) := hid (by rw [HCE.out]; rw [if_neg (by omega), if_neg hab, if_pos hl0])
    clear hab hl0 hl
    go_enter Tryz.func111, Tryz.ntmps111
    go_wp2_with (go_at_call 72; refine (isNode_any _ _).mono ?_; rw [hdb]; rintro e w' ⟨rfl, hw'⟩; rw [hw']; clear hw' w')
    go_region
    go_wp2_with fail
    refine (HRF.out 6 _).mono ?_
    rintro e w3 ⟨rfl, hb3⟩
    obtain ⟨hbx, hbw⟩ := HEND.out w3 ((Below.refl _ _).drew.trans (by simpa using hb3))
    obtain ⟨⟨y0, y1, y2, y3⟩, yf, yl⟩ := box4c hbx
    have HBW := hid hbw
    clear hb3 hbx hbw
    go_wp2_with fail
    have hle : w.heap.size ≤ w.heap.size + 1 := by omega
    have hfin := (((HBW.out.setCell (p := ⟨w.heap.size + 1, 0, none⟩) hle (.int .i64 6)).setCell (p := ⟨w.heap.size + 1, 1, none⟩) hle (.slice none 0 0)).setCell (p := ⟨w.heap.size + 1, 2, none⟩) hle (.int .i64 0)).setCell (p := ⟨w.heap.size + 1, 3, none⟩) hle (.slice none 0 0)
    refine bodyPost_ret (v := .agg #[.int .i64 6, .slice none 0 0, .int .i64 0, .slice none 0 0]) (by simp [results, Tryz.results111, go_sem, y0, y1, y2, y3]) rfl ⟨by rw [HC2.out], ?_, But.of hfin⟩
    rw [HLL.out, HC2.out, if_neg (by decide)]
    exact HN.out.below hfin
   ·have hl0' : (l == 0) = false := by simpa using hl0
    have HC0 : Hid (cd = 0) := hid (by rw [HCE.out, if_neg (by omega), if_neg hab, if_neg hl0])
    have HLY := hid (fun W hW => netLay_any B D P K T L a b 0 W hW (by omega) (by omega))
    clear hab hl0 hl
    obtain ⟨W2, HW2⟩ : ∃ W, Hid (W = (w.alloc (.cells #[.int .i64 kind, .int .i64 (a : Int), .int .i64 (b : Int), .int .i64 n, .int .i64 m, .int .i64 p1, .int .i64 p2, .string key, .string val] 51)).alloc (.cells #[.int .i64 0, .slice none 0 0, .int .i64 0, .slice none 0 0] 40)) := ⟨_, hid rfl⟩
    rw [← HW2.out] at HB2 HX1 hz2 HN2 cl q0 q1 q2 q3 q4 q5 q6 q7 q8 hBl2
    go_enter Tryz.func111, Tryz.ntmps111
    go_wp2_with (go_at_call 72; refine (isNode_any _ _).mono ?_; rw [hdb]; rintro e w' ⟨rfl, hw'⟩; rw [hw']; clear hw' w')
    rw [← HW2.out]
    go_region
    go_wp2_with fail
    refine (HLY.out _ (HN2.out.below (Below.refl _ _).drew)).mono ?_
    rintro e w3 ⟨rfl, hn3, hu3⟩
    have HN3 := hid hn3
    have HU3 := hid hu3
    obtain ⟨⟨y0, y1, y2, y3⟩, yf, yl⟩ := box4c ((hu3.block (w.heap.size + 1) (by show _ < W2.heap.size; omega) (by omega)).trans HX1.out)
    clear hn3 hu3
    go_wp2_with fail
    have hub := (((((But.refl (w.heap.size + 1) w3).setCell 0 (.int .i64 0)).setCell 1 (.slice none 0 0)).setCell 2 (.int .i64 0)).setCell 3 (.slice none 0 0))
    refine bodyPost_ret (v := .agg #[.int .i64 0, .slice none 0 0, .int .i64 0, .slice none 0 0]) (by simp [results, Tryz.results111, go_sem, y0, y1, y2, y3]) rfl ⟨by rw [HC0.out], ?_, ?_⟩
    ·rw [HLL.out, HC0.out, if_pos rfl]
     exact CellsAt.but HN3.out hub (by omega)
    ·exact (((But.of HB2.out).drawn 1).trans HU3.out).over hub (by omega)
 ·have hdb : decide (0 ≤ b ∧ b ≤ 11) = false := by simpa using hb
  have HC2 : Hid (cd = 2) := hid (by rw [HCE.out]; rw [if_pos hb])
  clear hb
  go_enter Tryz.func111, Tryz.ntmps111
  go_wp2_with (go_at_call 72; refine (isNode_any _ _).mono ?_; rw [hdb]; rintro e w' ⟨rfl, hw'⟩; rw [hw']; clear hw' w')
  refine (HRF.out 2 _).mono ?_
  rintro e w3 ⟨rfl, hb3⟩
  obtain ⟨hbx, hbw⟩ := HEND.out w3 (by simpa using hb3)
  obtain ⟨⟨y0, y1, y2, y3⟩, yf, yl⟩ := box4c hbx
  have HBW := hid hbw
  clear hb3 hbx hbw
  go_wp2_with fail
  have hle : w.heap.size ≤ w.heap.size + 1 := by omega
  have hfin := (((HBW.out.setCell (p := ⟨w.heap.size + 1, 0, none⟩) hle (.int .i64 2)).setCell (p := ⟨w.heap.size + 1, 1, none⟩) hle (.slice none 0 0)).setCell (p := ⟨w.heap.size + 1, 2, none⟩) hle (.int .i64 0)).setCell (p := ⟨w.heap.size + 1, 3, none⟩) hle (.slice none 0 0)
  refine bodyPost_ret (v := .agg #[.int .i64 2, .slice none 0 0, .int .i64 0, .slice none 0 0]) (by simp [results, Tryz.results111, go_sem, y0, y1, y2, y3]) rfl ⟨by rw [HC2.out], ?_, But.of hfin⟩
  rw [HLL.out, HC2.out, if_neg (by decide)]
  exact HN.out.below hfin
set_option maxHeartbeats 4000000 in
theorem netDrain_any (B : Nat) (D : Nat → Bool) (P K T : Nat → Value) (L : Nat → Nat → Int) (x : Pl.Ac) (w : World) (h : NwAt w B D P K T L) (ha : 0 ≤ x.a ∧ x.a ≤ 11) :
  Calls Tryz.prog 112 #[.pointer (some ⟨B, 0, none⟩), .agg #[.int .i64 x.kind, .int .i64 x.a, .int .i64 x.b, .int .i64 x.n, .int .i64 x.m, .int .i64 x.p.1, .int .i64 x.p.2, .string x.key, .string x.val]] w fun e w' =>
   e = .returned (.agg #[.int .i64 (Pl.drainC x), .slice none 0 0, .int .i64 0, .slice none 0 0]) ∧ NwAt w' B (Pl.drainD D x) P K T L ∧ But B w w' := by
 have HN := hid h
 have hBl := h.lt
 clear h
 obtain ⟨kind, a, b, n, m, ⟨p1, p2⟩, key, val⟩ := x
 simp only at ha ⊢
 obtain ⟨a, rfl⟩ : ∃ k : Nat, a = k := ⟨a.toNat, by omega⟩
 have H2 := hid (two (w := w) (.cells #[.int .i64 kind, .int .i64 (a : Int), .int .i64 b, .int .i64 n, .int .i64 m, .int .i64 p1, .int .i64 p2, .string key, .string val] 51) (.cells #[.int .i64 0, .slice none 0 0, .int .i64 0, .slice none 0 0] 40))
 obtain ⟨cd, HCD⟩ : ∃ c, Hid (Pl.drainC ⟨kind, (a : Int), b, n, m, (p1, p2), key, val⟩ = c) := ⟨_, hid rfl⟩
 obtain ⟨DD, HLX⟩ : ∃ c, Hid (Pl.drainD D ⟨kind, (a : Int), b, n, m, (p1, p2), key, val⟩ = c) := ⟨_, hid rfl⟩
 have HLL : Hid (DD = if cd = 0 then Pl.upd D a (n == 1) else D) := hid (by rw [← HLX.out]; unfold Pl.drainD; rw [HCD.out]; rfl)
 rw [HCD.out, HLX.out]
 have HCE : Hid (cd = if n = 0 ∨ n = 1 then 0 else 2) := hid HCD.out.symm
 have HRF := hid (fun (c : Int) (W : World) => refused_any c W)
 have HEND : Hid (∀ W : World, Below (w.heap.size + 2) ((w.alloc (.cells #[.int .i64 kind, .int .i64 (a : Int), .int .i64 b, .int .i64 n, .int .i64 m, .int .i64 p1, .int .i64 p2, .string key, .string val] 51)).alloc (.cells #[.int .i64 0, .slice none 0 0, .int .i64 0, .slice none 0 0] 40)) W → W.heap[w.heap.size + 1]? = some (.cells #[.int .i64 0, .slice none 0 0, .int .i64 0, .slice none 0 0] 40) ∧ Below w.heap.size w W) := hid fun W hW => by
  obtain ⟨_, h2, h3, h4⟩ := H2.out
  exact ⟨(hW.block _ (by omega)).trans h2, h4.trans (hW.mono (by omega))⟩
 by_cases hn : n = 0 ∨ n = 1
 ·have HC0 : Hid (cd = 0) := hid (by rw [HCE.out, if_pos hn])
  obtain ⟨b0, b1, bz, bb⟩ := H2.out
  have HB2 := hid bb
  have HX1 := hid b1
  have hz2 := bz
  have HN2 := hid (HN.out.below HB2.out)
  have cl := HN2.out.drained a (by omega)
  have fl := HN2.out.soft (a * 4)
  have hBl2 := HN2.out.lt
  have ha' : (a : Int) < 12 := by omega
  obtain ⟨q0, q1, q2, q3, q4, q5, q6, q7, q8⟩ := box9 b0
  obtain ⟨W2, HW2⟩ : ∃ W, Hid (W = (w.alloc (.cells #[.int .i64 kind, .int .i64 (a : Int), .int .i64 b, .int .i64 n, .int .i64 m, .int .i64 p1, .int .i64 p2, .string key, .string val] 51)).alloc (.cells #[.int .i64 0, .slice none 0 0, .int .i64 0, .slice none 0 0] 40)) := ⟨_, hid rfl⟩
  rw [← HW2.out] at HB2 HX1 hz2 HN2 cl fl q0 q1 q2 q3 q4 q5 q6 q7 q8 hBl2
  clear b0 b1 bz bb
  obtain ⟨⟨y0, y1, y2, y3⟩, yf, yl⟩ := box4c HX1.out
  have hne1 : B ≠ w.heap.size + 1 := by omega
  have hne2 : w.heap.size + 1 ≠ B := by omega
  have HSD := hid (fun v => (HN2.out.setDrained a v).resolve_right (by omega))
  have HUW := hid (But.of HB2.out : But B w W2)
  rcases hn with rfl | rfl
  all_goals
   go_enter Tryz.func112, Tryz.ntmps112
   go_wp2_with fail
   rw [← HW2.out]
   go_region
   go_wp2_with fail
   refine bodyPost_ret (v := .agg #[.int .i64 0, .slice none 0 0, .int .i64 0, .slice none 0 0]) (by simp [results, Tryz.results112, go_sem, y0, y1, y2, y3]) rfl ⟨by rw [HC0.out], ?_, ?_⟩
   ·rw [HLL.out, HC0.out, if_pos rfl]
    exact CellsAt.but (HSD.out _) ((((((But.refl (w.heap.size + 1) _).setCell _ _).setCell _ _).setCell _ _).setCell _ _).drawn 1) hne1
   ·exact (HUW.out.setCell _ _).over ((((((But.refl (w.heap.size + 1) _).setCell _ _).setCell _ _).setCell _ _).setCell _ _).drawn 1) (by omega)
 ·have hn0 : (n != 0) = true := by simp; omega
  have hn1 : (n != 1) = true := by simp; omega
  have HC2 : Hid (cd = 2) := hid (by rw [HCE.out]; rw [if_neg hn])
  clear hn
  go_enter Tryz.func112, Tryz.ntmps112
  go_wp2_with fail
  refine (HRF.out 2 _).mono ?_
  rintro e w3 ⟨rfl, hb3⟩
  obtain ⟨hbx, hbw⟩ := HEND.out w3 (by simpa using hb3)
  obtain ⟨⟨y0, y1, y2, y3⟩, yf, yl⟩ := box4c hbx
  have HBW := hid hbw
  clear hb3 hbx hbw
  go_wp2_with fail
  have hle : w.heap.size ≤ w.heap.size + 1 := by omega
  have hfin := (((HBW.out.setCell (p := ⟨w.heap.size + 1, 0, none⟩) hle (.int .i64 2)).setCell (p := ⟨w.heap.size + 1, 1, none⟩) hle (.slice none 0 0)).setCell (p := ⟨w.heap.size + 1, 2, none⟩) hle (.int .i64 0)).setCell (p := ⟨w.heap.size + 1, 3, none⟩) hle (.slice none 0 0)
  refine bodyPost_ret (v := .agg #[.int .i64 2, .slice none 0 0, .int .i64 0, .slice none 0 0]) (by simp [results, Tryz.results112, go_sem, y0, y1, y2, y3]) rfl ⟨by rw [HC2.out], ?_, But.of hfin⟩
  rw [HLL.out, HC2.out, if_neg (by decide)]
  exact HN.out.below hfin
theorem NwAt.setPrefixes {w B D P K T L} (h : NwAt w B D P K T L) (a : Nat) (ha : a < 12) (v : Value) : NwAt (w.setCell ⟨B, a * 4 + 1, none⟩ v) B D (Pl.upd P a v) K T L := by
 refine (CellsAt.set h _ _).ext fun o ho => ?_
 unfold Pl.upd nwCell
 by_cases h1 : o = a * 4 + 1
 ·subst h1
  rw [if_pos rfl, if_pos (by omega), if_neg (by omega), if_pos (by omega)]
  simp only
  rw [if_pos (by omega)]
 ·rw [if_neg h1]
  by_cases h0 : o < 48
  ·rw [if_pos h0, if_pos h0]
   by_cases g0 : o % 4 = 0
   ·rw [if_pos g0, if_pos g0]
   ·rw [if_neg g0, if_neg g0]
    by_cases g1 : o % 4 = 1
    ·rw [if_pos g1, if_pos g1]; simp only; rw [if_neg (by omega)]
    ·rw [if_neg g1, if_neg g1]
  ·rw [if_neg h0, if_neg h0]
theorem NwAt.setKnows {w B D P K T L} (h : NwAt w B D P K T L) (a : Nat) (ha : a < 12) (v : Value) : NwAt (w.setCell ⟨B, a * 4 + 2, none⟩ v) B D P (Pl.upd K a v) T L := by
 refine (CellsAt.set h _ _).ext fun o ho => ?_
 unfold Pl.upd nwCell
 by_cases h1 : o = a * 4 + 2
 ·subst h1
  rw [if_pos rfl, if_pos (by omega), if_neg (by omega), if_neg (by omega), if_pos (by omega)]
  simp only
  rw [if_pos (by omega)]
 ·rw [if_neg h1]
  by_cases h0 : o < 48
  ·rw [if_pos h0, if_pos h0]
   by_cases g0 : o % 4 = 0
   ·rw [if_pos g0, if_pos g0]
   ·rw [if_neg g0, if_neg g0]
    by_cases g1 : o % 4 = 1
    ·rw [if_pos g1, if_pos g1]
    ·rw [if_neg g1, if_neg g1]
     by_cases g2 : o % 4 = 2
     ·rw [if_pos g2, if_pos g2]; simp only; rw [if_neg (by omega)]
     ·rw [if_neg g2, if_neg g2]
  ·rw [if_neg h0, if_neg h0]
theorem NwAt.setTable {w B D P K T L} (h : NwAt w B D P K T L) (a : Nat) (ha : a < 12) (v : Value) : NwAt (w.setCell ⟨B, a * 4 + 3, none⟩ v) B D P K (Pl.upd T a v) L := by
 refine (CellsAt.set h _ _).ext fun o ho => ?_
 unfold Pl.upd nwCell
 by_cases h1 : o = a * 4 + 3
 ·subst h1
  rw [if_pos rfl, if_pos (by omega), if_neg (by omega), if_neg (by omega), if_neg (by omega)]
  simp only
  rw [if_pos (by omega)]
 ·rw [if_neg h1]
  by_cases h0 : o < 48
  ·rw [if_pos h0, if_pos h0]
   by_cases g0 : o % 4 = 0
   ·rw [if_pos g0, if_pos g0]
   ·rw [if_neg g0, if_neg g0]
    by_cases g1 : o % 4 = 1
    ·rw [if_pos g1, if_pos g1]
    ·rw [if_neg g1, if_neg g1]
     by_cases g2 : o % 4 = 2
     ·rw [if_pos g2, if_pos g2]
     ·rw [if_neg g2, if_neg g2]; simp only; rw [if_neg (by omega)]
  ·rw [if_neg h0, if_neg h0]
theorem src_drop {w : World} {b off i cap : Nat} {es : List Pl.Ent} {ad : Addr} (hr : RowAt w b off es) (hl : es.length ≤ cap) (h : (if cap = i then some (⟨b, off, none⟩ : Addr) else some ⟨b, off + i * 4, none⟩) = some ad) :
  ∀ j u, (cellsL (es.drop i))[j]? = some u → w.cell? (ad.add j) = some u := by
 intro j u hj
 split at h
 ·rw [List.drop_eq_nil_of_le (by omega)] at hj
  simp [cellsL] at hj
 ·cases h
  rw [add_none]
  exact (rowAt_cells _ _).1 (hr.drop i) j u hj
theorem own_lit (w : World) (A C : Obj) (e : Pl.Ent) : Own (((w.alloc A).alloc (.cells #[.string e.key, .int .i64 e.ver, .int .i64 e.org, .string e.val] 55)).alloc C) w.heap.size (.slice (some ⟨w.heap.size + 1, 0, none⟩) 1 1) [e] := by
 refine ⟨rfl, .inr ⟨w.heap.size + 1, 1, #[.string e.key, .int .i64 e.ver, .int .i64 e.org, .string e.val], rfl, by omega, ?_, Nat.le_refl _, by unfold maxLen; omega, rfl, rfl⟩⟩
 rw [Below.heap_alloc _ _ _ (by simp)]
 have := heap_new (w.alloc A) (.cells #[.string e.key, .int .i64 e.ver, .int .i64 e.org, .string e.val] 55)
 simpa using this
theorem below_grown {B : Nat} {a w w' : World} {row : Option Nat} (h : Below B a w) (hg : w.grownBy w' row) (hB : B ≤ w.heap.size) (hr : ∀ k, row = some k → B ≤ k) : Below B a w' := h.grown hg hB hr
set_option maxHeartbeats 400000 in
theorem lay_full (b off len cap : Nat) (es : List Pl.Ent) (i : Nat) (ins : Bool) (x : Pl.Ent) (w : World) (h : IsEnts w (some ⟨b, off, none⟩) len cap es) (hbw : b < w.heap.size) (hr : RowAt w b off es) (h60 : len ≤ 60) (hi : i ≤ len) (hins : ins = true → i < len) :
  Calls Tryz.prog 89 #[.slice (some ⟨b, off, none⟩) len cap, .int .i64 i, .bool ins, .agg #[.string x.key, .int .i64 x.ver, .int .i64 x.org, .string x.val]] w
   fun e w' => ∃ v, e = .returned v ∧ Own w' w.heap.size v (Pl.layL es i ins x) ∧ Below w.heap.size w w' := by
 obtain ⟨hl, hc, hm, hok, _⟩ := h
 unfold maxLen at hm
 have HL : Hid (Pl.layL es i ins x = es.take i ++ ([x] ++ es.drop (if ins then i + 1 else i))) := rfl
 have HX : Hid (cellsE x = cellsL [x]) := rfl
 generalize Pl.layL es i ins x = ll at *
 obtain ⟨xk, xv, xo, xx⟩ := x
 simp only
 obtain ⟨i0, hi0, hz0, hz1, hz2⟩ := info_parts infoEntry
 have hi' : (i : Int) ≤ (len : Int) := by omega
 have htk : (es.take i).length = i := by simp; omega
 have hbx : Below w.heap.size w (w.alloc (.cells #[.string xk, .int .i64 xv, .int .i64 xo, .string xx] 55)) := (Below.refl _ _).alloc (Nat.le_refl _) _
 have HBX : Hid _ := hbx
 clear hbx
 cases ins
 ·go_enter Tryz.func89, Tryz.ntmps89
  go_wp2_with (first
   | (at_make; refine wpList_make_own _ rfl _ (.tmp 12) 28 rfl w.heap.size 55 i0 _ 4 Tryz.underlying28 hi0 hz0 hz1 .i64 .i64 _ (len + 1) rfl rfl (by simp) (by rw [hz2]; omega) (by unfold maxLen; omega) (by simp) ?_; intro w2 hown2 hg2; have hb2 := below_grown ((Below.refl (w.heap.size + 1) _)) hg2 (by simp) (by intro k hk; cases hk); simp only [World.size_alloc] at hown2; clear hg2; have hr2 := hr.below hbw (HBX.out.trans (hb2.mono (by omega))))
   | (at_builtin; (refine wpList_append_fits_any _ rfl (.tmp 14) (.tmp 17) 28 rfl w.heap.size 55 i0 4 Tryz.underlying28 hi0 hz1 (w.heap.size + 1) 0 (len + 1) [] rfl hown2 _ i cap (cellsL (es.take i)) rfl (by rw [cellsL_len, htk]) (by intro hh; cases hh) (by intro ad hh j u hj; cases hh; rw [add_none]; exact (rowAt_cells _ _).1 (hr2.take i) j u hj) (cellsL_one _) (by omega) ?_); intro w3 hown3 hg3; have hb3 := below_grown hb2 hg3 (by have := hb2.size; simp at this; omega) (by intro k hk; cases hk; omega); clear hg3; simp only [Nat.zero_add, List.nil_append] at hown3; obtain ⟨x0, x1, x2, x3⟩ := box4 hb3)
   | (at_builtin; (refine wpList_append_fits _ rfl (.tmp 19) (.tmp 21) 28 rfl w.heap.size 55 i0 4 Tryz.underlying28 hi0 hz1 (w.heap.size + 1) i (len + 1) (cellsL (es.take i)) rfl (hown3.alloc _) ⟨w3.heap.size, 0, none⟩ 1 1 (cellsE ⟨xk, xv, xo, xx⟩) rfl rfl (by intro j u hj; rw [add_none]; exact new4 w3 hj) (by rw [HX.out]; exact cellsL_one _) (by omega) ?_); intro w4 hown4 hg4; have hb4 := below_grown (hb3.alloc (by have := hb3.size; simpa using this) _) hg4 (by have := hb3.size; simp at this ⊢; omega) (by intro k hk; cases hk; omega); clear hg4; rw [HX.out, ← cellsL_append] at hown4; have hr4 := hr.below hbw (HBX.out.trans (hb4.mono (by omega))))
   | (at_builtin; (refine wpList_append_fits_any _ rfl (.tmp 26) (.tmp 29) 28 rfl w.heap.size 55 i0 4 Tryz.underlying28 hi0 hz1 (w.heap.size + 1) (i + 1) (len + 1) _ rfl hown4 _ _ _ (cellsL (es.drop i)) rfl (by rw [cellsL_len, List.length_drop, hl]) (by intro hh; split at hh <;> cases hh) (by intro ad hh; exact src_drop hr4 (by omega) hh) (cellsL_one _) (by omega) ?_); intro w5 hown5 hg5; have hb5 := below_grown hb4 hg5 (by have := hb4.size; simp at this ⊢; omega) (by intro k hk; cases hk; omega); clear hg5))
  all_goals (go_ret; exact ⟨_, rfl, own_of hown5 (by rw [HL.out]; simp [cellsL_append, cellsL]), HBX.out.trans (hb5.mono (by omega))⟩)
 ·have hlt := hins rfl
  have hlt' : (i : Int) + 1 ≤ (len : Int) := by omega
  go_enter Tryz.func89, Tryz.ntmps89
  go_wp2_with (first
   | (at_make; refine wpList_make_own _ rfl _ (.tmp 12) 28 rfl w.heap.size 55 i0 _ 4 Tryz.underlying28 hi0 hz0 hz1 .i64 .i64 _ (len + 1) rfl rfl (by simp) (by rw [hz2]; omega) (by unfold maxLen; omega) (by simp) ?_; intro w2 hown2 hg2; have hb2 := below_grown ((Below.refl (w.heap.size + 1) _)) hg2 (by simp) (by intro k hk; cases hk); simp only [World.size_alloc] at hown2; clear hg2; have hr2 := hr.below hbw (HBX.out.trans (hb2.mono (by omega))))
   | (at_builtin; (refine wpList_append_fits_any _ rfl (.tmp 14) (.tmp 17) 28 rfl w.heap.size 55 i0 4 Tryz.underlying28 hi0 hz1 (w.heap.size + 1) 0 (len + 1) [] rfl hown2 _ i cap (cellsL (es.take i)) rfl (by rw [cellsL_len, htk]) (by intro hh; cases hh) (by intro ad hh j u hj; cases hh; rw [add_none]; exact (rowAt_cells _ _).1 (hr2.take i) j u hj) (cellsL_one _) (by omega) ?_); intro w3 hown3 hg3; have hb3 := below_grown hb2 hg3 (by have := hb2.size; simp at this; omega) (by intro k hk; cases hk; omega); clear hg3; simp only [Nat.zero_add, List.nil_append] at hown3; obtain ⟨x0, x1, x2, x3⟩ := box4 hb3)
   | (at_builtin; (refine wpList_append_fits _ rfl (.tmp 19) (.tmp 21) 28 rfl w.heap.size 55 i0 4 Tryz.underlying28 hi0 hz1 (w.heap.size + 1) i (len + 1) (cellsL (es.take i)) rfl (hown3.alloc _) ⟨w3.heap.size, 0, none⟩ 1 1 (cellsE ⟨xk, xv, xo, xx⟩) rfl rfl (by intro j u hj; rw [add_none]; exact new4 w3 hj) (by rw [HX.out]; exact cellsL_one _) (by omega) ?_); intro w4 hown4 hg4; have hb4 := below_grown (hb3.alloc (by have := hb3.size; simpa using this) _) hg4 (by have := hb3.size; simp at this ⊢; omega) (by intro k hk; cases hk; omega); clear hg4; rw [HX.out, ← cellsL_append] at hown4; have hr4 := hr.below hbw (HBX.out.trans (hb4.mono (by omega))))
   | (at_builtin; (refine wpList_append_fits_any _ rfl (.tmp 26) (.tmp 29) 28 rfl w.heap.size 55 i0 4 Tryz.underlying28 hi0 hz1 (w.heap.size + 1) (i + 1) (len + 1) _ rfl hown4 _ _ _ (cellsL (es.drop (i + 1))) rfl (by rw [cellsL_len, List.length_drop, hl]) (by intro hh; split at hh <;> cases hh) (by intro ad hh; exact src_drop hr4 (by omega) hh) (cellsL_one _) (by omega) ?_); intro w5 hown5 hg5; have hb5 := below_grown hb4 hg5 (by have := hb4.size; simp at this ⊢; omega) (by intro k hk; cases hk; omega); clear hg5))
  all_goals (go_ret; exact ⟨_, rfl, own_of hown5 (by rw [HL.out]; simp [cellsL_append, cellsL]), HBX.out.trans (hb5.mono (by omega))⟩)
set_option maxHeartbeats 400000 in
theorem lay_empty (a : Option Addr) (cap : Nat) (x : Pl.Ent) (w : World) (hm : cap ≤ maxLen) (hnil : a = none → cap = 0) :
  Calls Tryz.prog 89 #[.slice a 0 cap, .int .i64 0, .bool false, .agg #[.string x.key, .int .i64 x.ver, .int .i64 x.org, .string x.val]] w
   fun e w' => ∃ v, e = .returned v ∧ Own w' w.heap.size v [x] ∧ Below w.heap.size w w' := by
 unfold maxLen at hm
 obtain ⟨xk, xv, xo, xx⟩ := x
 simp only
 have hbx : Below w.heap.size w (w.alloc (.cells #[.string xk, .int .i64 xv, .int .i64 xo, .string xx] 55)) := (Below.refl _ _).alloc (Nat.le_refl _) _
 have HBX : Hid _ := hbx
 clear hbx
 have HN : Hid (a = none → cap = 0) := hnil
 clear hnil
 have hmk : ∀ w, (Instr.makeSlice 28 (.int .i64 0) (.int .i64 1)).run Tryz.prog w = .ok (.slice (some ⟨w.heap.size, 0, none⟩) 0 1) (w.alloc (.cells #[.string ⟨#[]⟩, .int .i64 0, .int .i64 0, .string ⟨#[]⟩] 55)) := fun _ => by kernel_rfl
 rcases a with _ | ad
 ·obtain rfl := HN.out rfl
  go_enter Tryz.func89, Tryz.ntmps89
  go_wp2_with fail
  go_ret
  exact ⟨_, rfl, own_lit w _ _ ⟨xk, xv, xo, xx⟩, (HBX.out.alloc (by simp) _).alloc (by simp; omega) _⟩
 ·clear HN
  go_enter Tryz.func89, Tryz.ntmps89
  go_wp2_with fail
  go_ret
  exact ⟨_, rfl, own_lit w _ _ ⟨xk, xv, xo, xx⟩, (HBX.out.alloc (by simp) _).alloc (by simp; omega) _⟩
theorem lay_any (a : Option Addr) (len cap : Nat) (es : List Pl.Ent) (i : Nat) (ins : Bool) (x : Pl.Ent) (w : World) (h : IsEnts w a len cap es) (hnil : a = none → cap = 0) (h60 : len ≤ 60) (hi : i ≤ len) (hins : ins = true → i < len) :
  Calls Tryz.prog 89 #[.slice a len cap, .int .i64 i, .bool ins, .agg #[.string x.key, .int .i64 x.ver, .int .i64 x.org, .string x.val]] w
   fun e w' => ∃ v, e = .returned v ∧ Own w' w.heap.size v (Pl.layL es i ins x) ∧ Below w.heap.size w w' := by
 have h0 := h
 obtain ⟨hl, hc, hm, hok, hrow⟩ := h
 rcases hrow with rfl | ⟨b, off, rfl, hb, hr⟩
 ·simp at hl
  subst hl
  obtain rfl : i = 0 := by omega
  cases ins
  ·exact lay_empty a cap x w hm hnil
  ·have := hins rfl; omega
 ·exact lay_full b off len cap es i ins x w h0 hb hr h60 hi hins
theorem append_copy {w : World} {ops : Array Oper} {rest : List Oper} {o : Oper} {a : Act} {Q : Exit → Act → World → Prop} (hgd : o.guard = none) (s x : Operand)
  (ho : o.op = .call { callee := .builtin .append, args := #[s, x], argTypes := #[28, 28] })
  (ao : Option Addr) (len cap : Nat) (es : List Pl.Ent) (hs : a.eval s = .slice none 0 0) (hx : a.eval x = .slice ao len cap) (hE : IsEnts w ao len cap es) (hnil : ao = none → cap = 0) (hb : len * 48 ≤ 140737488351232)
  (h : ∀ v' w', Own w' w.heap.size v' es → Below w.heap.size w w' → wpList Tryz.prog ops Q rest (a.put o.dst v') w') : wpList Tryz.prog ops Q (o :: rest) a w := by
 obtain ⟨i0, hi0, hz0, hz1, hz2⟩ := info_parts infoEntry
 obtain ⟨hl, hc, hm, hok, hrow⟩ := hE
 rcases ao with _ | ad
 ·obtain rfl := hnil rfl
  obtain rfl : len = 0 := by omega
  obtain rfl : es = [] := List.length_eq_zero_iff.1 hl
  exact wpList_append_own_none hgd s x 28 ho w.heap.size 55 i0 4 Tryz.underlying28 hi0 _ 0 [] hs (World.ownsRow_nil _ _ _ _) hx (h _ _ (Own.nil _ _) (Below.refl _ _))
 ·refine wpList_append_own (w := w) hgd s x 28 ho w.heap.size 55 i0 _ 4 48 Tryz.underlying28 hi0 hz0 hz1 hz2 rfl (by decide) _ 0 [] hs (World.ownsRow_nil _ _ _ _) ad len cap (cellsL es) hx (by rw [cellsL_len, hl]) ?_ (cellsL_one _) (by unfold maxLen; omega) (by omega) (Nat.le_refl _) ?_
  ·intro j u hj
   rcases hrow with rfl | ⟨b, off, hba, _, hr⟩
   ·simp [cellsL] at hj
   ·cases hba
    rw [add_none]
    exact (rowAt_cells _ _).1 hr j u hj
  ·intro v' w' hown hg _
   rw [List.nil_append] at hown
   exact h v' w' (own_of hown rfl) ((Below.refl _ _).grown hg (Nat.le_refl _) (by intro k hk; cases hk))
theorem append_ent {w : World} {ops : Array Oper} {rest : List Oper} {o : Oper} {a : Act} {Q : Exit → Act → World → Prop} (hgd : o.guard = none) (s x : Operand)
  (ho : o.op = .call { callee := .builtin .append, args := #[s, x], argTypes := #[28, 28] })
  (base : Nat) (v : Value) (es : List Pl.Ent) (e : Pl.Ent) (hs : a.eval s = v) (hown : Own w base v es) (hbase : base ≤ w.heap.size) (hx : a.eval x = .slice (some ⟨w.heap.size, 0, none⟩) 1 1) (hb : (es.length + 1) * 48 ≤ 140737488355328)
  (h : ∀ v' w', Own w' base v' (es ++ [e]) → Below base w w' → wpList Tryz.prog ops Q rest (a.put o.dst v') w') :
  wpList Tryz.prog ops Q (o :: rest) a (w.alloc (.cells #[.string e.key, .int .i64 e.ver, .int .i64 e.org, .string e.val] 55)) := by
 obtain ⟨i0, hi0, hz0, hz1, hz2⟩ := info_parts infoEntry
 refine wpList_append_own (w := _) hgd s x 28 ho base 55 i0 _ 4 48 Tryz.underlying28 hi0 hz0 hz1 hz2 rfl (by decide) _ es.length (cellsL es) hs (World.ownsRow.alloc hown _) ⟨w.heap.size, 0, none⟩ 1 1 (cellsE e) hx rfl ?_ ?_ (by unfold maxLen; omega) hb (by simp; omega) ?_
 ·intro j u hj
  rw [add_none]; exact new4 w hj
 ·show ∀ u ∈ cellsE e, _
  have := cellsL_one [e]
  simpa [cellsL] using this
 ·intro v' w' hown' hg _
  have hlt := World.ownsRow.lt hown
  exact h v' w' (own_of hown' (by rw [cellsL_append]; simp [cellsL])) (((Below.refl _ _).alloc hbase _).grown hg (by simp; omega) (fun k hk => (hlt k hk).1))
theorem Own.kept {w w' : World} {base : Nat} {v : Value} {es : List Pl.Ent} {row : Option Nat} (h : Own w base v es) (hg : w.grownBy w' row) (hne : v.ownBlock = none ∨ v.ownBlock ≠ row) : Own w' base v es := World.ownsRow.kept h hg hne
def OwnS (w : World) (base : Nat) (v : Value) (ks : List ByteArray) : Prop := w.ownsRow base 9 1 v ks.length (ks.map Value.string)
theorem infoStr : (Tryz.prog.info? 9).map (fun i => (i.zero, i.size, i.bytes)) = some (some (.string ⟨#[]⟩), 1, 16) := by kernel_rfl
theorem ownsRow_below {w w' : World} {base : Nat} {e : TypeId} {sz : Nat} {v : Value} {n : Nat} {xs : List Value} (h : w.ownsRow base e sz v n xs) (k : Below w.heap.size w w') : w'.ownsRow base e sz v n xs := by
 obtain ⟨h0, h1⟩ := h
 refine ⟨h0, ?_⟩
 rcases h1 with h1 | ⟨g, cap, cur, rfl, hb, hh, hr⟩
 ·exact .inl h1
 ·exact .inr ⟨g, cap, cur, rfl, hb, (k.block g (lt_of_block hh)).trans hh, hr⟩
theorem OwnS.below {w w' : World} {base : Nat} {v : Value} {ks : List ByteArray} (h : OwnS w base v ks) (k : Below w.heap.size w w') : OwnS w' base v ks := ownsRow_below h k
theorem OwnS.nil (w : World) (base : Nat) : OwnS w base (.slice none 0 0) [] := World.ownsRow_nil _ _ _ _
theorem append_key {w : World} {ops : Array Oper} {rest : List Oper} {o : Oper} {a : Act} {Q : Exit → Act → World → Prop} (hgd : o.guard = none) (s x : Operand)
  (ho : o.op = .call { callee := .builtin .append, args := #[s, x], argTypes := #[38, 38] })
  (base : Nat) (v : Value) (ks : List ByteArray) (key : ByteArray) (hs : a.eval s = v) (hown : OwnS w base v ks) (hbase : base ≤ w.heap.size) (hx : a.eval x = .slice (some ⟨w.heap.size, 0, none⟩) 1 1) (hb : (ks.length + 1) * 16 ≤ 140737488355328)
  (h : ∀ v' w', OwnS w' base v' (ks ++ [key]) → (w.alloc (.cells #[.string key] 9)).grownBy w' v.ownBlock → Below base w w' → wpList Tryz.prog ops Q rest (a.put o.dst v') w') :
  wpList Tryz.prog ops Q (o :: rest) a (w.alloc (.cells #[.string key] 9)) := by
 obtain ⟨i0, hi0, hz0, hz1, hz2⟩ := info_parts infoStr
 refine wpList_append_own (w := _) hgd s x 38 ho base 9 i0 _ 1 16 Tryz.underlying38 hi0 hz0 hz1 hz2 rfl (by decide) _ ks.length (ks.map Value.string) hs (World.ownsRow.alloc hown _) ⟨w.heap.size, 0, none⟩ 1 1 [.string key] hx rfl ?_ ?_ (by unfold maxLen; omega) hb (by simp; omega) ?_
 ·intro j u hj
  match j, hj with
  | 0, hj => simp at hj; subst hj; rw [add_none]; simp
 ·intro u hu; simp at hu; subst hu; rfl
 ·intro v' w' hown' hg _
  have hlt := World.ownsRow.lt hown
  refine h v' w' ?_ hg (((Below.refl _ _).alloc hbase _).grown hg (by simp; omega) (fun k hk => (hlt k hk).1))
  unfold OwnS
  simpa using hown'
end Go.Proofs.YtjjelkdajdeikaaGreatDoor
namespace Go.Proofs.YtjjelkdajdeikaaGreatDoor.Pl
def span (b : Int) : Int := ((256 / 2 ^ b.toNat : Nat) : Int)
def inP (p : Int × Int) : Bool := decide (0 ≤ p.2 ∧ p.2 ≤ 8) && decide (0 ≤ p.1 ∧ p.1 ≤ 255)
def pfx1 (p : Int × Int) : Int := if inP p then (if p.1 % span p.2 = 0 then 0 else 4) else 2
def pfxLow (p q : Int × Int) : Bool := decide (10 * q.1 + q.2 ≤ 10 * p.1 + p.2)
def pfxN (ps : List (Int × Int)) : Nat → Nat → Int
 | 0, _ => 0
 | n + 1, i => if pfx1 (pr ps i) = 0 then (if 0 < i ∧ pfxLow (pr ps (i - 1)) (pr ps i) = true then 7 else pfxN ps n (i + 1)) else pfx1 (pr ps i)
def pfxF (ps : List (Int × Int)) : Int := if ps.length ≤ 6 then pfxN ps ps.length 0 else 1
theorem pfxF_size {ps : List (Int × Int)} (h : 6 < ps.length) : pfxF ps = 1 := by unfold pfxF; rw [if_neg (by omega)]
theorem pfxF_from {ps : List (Int × Int)} (h : ps.length ≤ 6) : pfxF ps = pfxN ps ps.length 0 := by unfold pfxF; rw [if_pos h]
theorem pfxN_bad {ps : List (Int × Int)} {n i : Nat} (h : pfx1 (pr ps i) ≠ 0) : pfxN ps (n + 1) i = pfx1 (pr ps i) := by simp [pfxN, h]
theorem pfxN_first {ps : List (Int × Int)} {n : Nat} (h : pfx1 (pr ps 0) = 0) : pfxN ps (n + 1) 0 = pfxN ps n 1 := by simp [pfxN, h]
theorem pfxN_low {ps : List (Int × Int)} {n m : Nat} (h : pfx1 (pr ps (m + 1)) = 0) (k : pfxLow (pr ps m) (pr ps (m + 1)) = true) : pfxN ps (n + 1) (m + 1) = 7 := by simp [pfxN, h, k]
theorem pfxN_on {ps : List (Int × Int)} {n m : Nat} (h : pfx1 (pr ps (m + 1)) = 0) (k : pfxLow (pr ps m) (pr ps (m + 1)) = false) : pfxN ps (n + 1) (m + 1) = pfxN ps n (m + 1 + 1) := by simp [pfxN, h, k]
theorem pfx1_zero {p : Int × Int} (h : pfx1 p = 0) : (0 ≤ p.2 ∧ p.2 ≤ 8) ∧ (0 ≤ p.1 ∧ p.1 ≤ 255) := by
 unfold pfx1 at h
 split at h
 ·rename_i hh
  unfold inP at hh
  simp at hh
  exact hh
 ·cases h
def pfxC (p q : Int × Int) : Int := if cmpI p.1 q.1 ≠ 0 then cmpI p.1 q.1 else cmpI p.2 q.2
theorem pfxC_low {p q : Int × Int} (hp : (0 ≤ p.2 ∧ p.2 ≤ 8) ∧ (0 ≤ p.1 ∧ p.1 ≤ 255)) (hq : (0 ≤ q.2 ∧ q.2 ≤ 8) ∧ (0 ≤ q.1 ∧ q.1 ≤ 255)) : decide (0 ≤ pfxC p q) = pfxLow p q := by
 unfold pfxC pfxLow cmpI
 rw [Bool.eq_iff_iff]
 simp only [decide_eq_true_eq]
 split <;> split <;> (try split) <;> (try split) <;> omega
theorem span_table : span 0 = 256 ∧ span 1 = 128 ∧ span 2 = 64 ∧ span 3 = 32 ∧ span 4 = 16 ∧ span 5 = 8 ∧ span 6 = 4 ∧ span 7 = 2 ∧ span 8 = 1 := by decide
theorem bits_cases {b : Int} (h : 0 ≤ b ∧ b ≤ 8) : b = 0 ∨ b = 1 ∨ b = 2 ∨ b = 3 ∨ b = 4 ∨ b = 5 ∨ b = 6 ∨ b = 7 ∨ b = 8 := by omega
end Go.Proofs.YtjjelkdajdeikaaGreatDoor.Pl
namespace Go.Proofs.YtjjelkdajdeikaaGreatDoor.Pl
structure Rt where
 p : Int × Int
 here : Bool
 cost : Int
 hops : List Int
def Rt.none : Rt := ⟨(0, 0), false, 0, []⟩
def rt (rs : List Rt) (i : Nat) : Rt := rs.getD i Rt.none
theorem rt_eq (rs : List Rt) (i : Nat) (h : i < rs.length) : rt rs i = rs[i] := by simp [rt, List.getD, h]
theorem rt_mem (rs : List Rt) (i : Nat) (h : i < rs.length) : rt rs i ∈ rs := by rw [rt_eq rs i h]; exact List.getElem_mem h
theorem rt_cons_succ (e : Rt) (es : List Rt) (i : Nat) : rt (e :: es) (i + 1) = rt es i := by simp [rt]
def nm (l : List Int) (i : Nat) : Int := l.getD i 0
theorem nm_eq (l : List Int) (i : Nat) (h : i < l.length) : nm l i = l[i] := by simp [nm, List.getD, h]
def hopB (l : List Int) (i : Nat) : Bool := decide (0 ≤ nm l i ∧ nm l i ≤ 11) && (decide (i = 0) || decide (nm l (i - 1) < nm l i))
def hopsB (l : List Int) : Bool := (List.range l.length).all (hopB l)
theorem hopsB_false {l : List Int} {k : Nat} (hk : k < l.length) (h : hopB l k = false) : hopsB l = false := by
 unfold hopsB
 rw [List.all_eq_false]
 exact ⟨k, List.mem_range.2 hk, by simp [h]⟩
theorem hopsB_true {l : List Int} (h : ∀ k, k < l.length → hopB l k = true) : hopsB l = true := by
 unfold hopsB
 rw [List.all_eq_true]
 intro k hk
 exact h k (List.mem_range.1 hk)
theorem hopsB_at {l : List Int} (h : hopsB l = true) (k : Nat) (hk : k < l.length) : hopB l k = true := by
 unfold hopsB at h
 rw [List.all_eq_true] at h
 exact h k (List.mem_range.2 hk)
theorem hopB_zero (l : List Int) : hopB l 0 = decide (0 ≤ nm l 0 ∧ nm l 0 ≤ 11) := by simp [hopB]
theorem hopB_succ (l : List Int) (m : Nat) : hopB l (m + 1) = (decide (0 ≤ nm l (m + 1) ∧ nm l (m + 1) ≤ 11) && decide (nm l m < nm l (m + 1))) := by simp [hopB]
def routeB (r : Rt) : Bool := decide (pfx1 r.p = 0) && decide (0 ≤ r.cost ∧ r.cost ≤ 1048576) && (if r.here then decide (r.cost = 0) && decide (r.hops = []) else decide (r.hops ≠ [])) && hopsB r.hops
def pltB (p q : Int × Int) : Bool := decide (p.1 < q.1 ∨ p.1 = q.1 ∧ p.2 < q.2)
theorem pltB_iff {p q : Int × Int} : pltB p q = true ↔ (p.1 < q.1 ∨ p.1 = q.1 ∧ p.2 < q.2) := by simp [pltB]
theorem pltB_not {p q : Int × Int} : pltB p q = false ↔ (q.1 < p.1 ∨ q.1 = p.1 ∧ q.2 ≤ p.2) := by
 rw [Bool.eq_false_iff, Ne, pltB_iff]; omega
theorem pltB_irrefl (p : Int × Int) : pltB p p = false := by rw [pltB_not]; omega
theorem pltB_asymm {p q : Int × Int} (h : pltB p q = true) : pltB q p = false := by rw [pltB_iff] at h; rw [pltB_not]; omega
theorem pltB_trans {p q r : Int × Int} (h : pltB p q = true) (k : pltB q r = true) : pltB p r = true := by rw [pltB_iff] at h k ⊢; omega
theorem pltB_total {p q : Int × Int} (h : pltB p q = false) (k : pltB q p = false) : p = q := by
 rw [pltB_not] at h k
 obtain ⟨a, b⟩ := p; obtain ⟨c, d⟩ := q
 simp only [Prod.mk.injEq] at *
 omega
theorem pltB_ne {p q : Int × Int} (h : pltB p q = true) : ¬ p = q := fun e => by rw [e, pltB_irrefl] at h; cases h
theorem pfxC_ge (p q : Int × Int) : decide (0 ≤ pfxC p q) = !pltB p q := by
 unfold pfxC cmpI pltB
 rw [Bool.eq_iff_iff]
 simp only [decide_eq_true_eq, Bool.not_eq_true', decide_eq_false_iff_not]
 split <;> (try split) <;> (try split) <;> (try split) <;> omega
def lowR (rs : List Rt) (i : Nat) : Bool := decide (0 < i) && !pltB (rt rs (i - 1)).p (rt rs i).p
theorem lowR_zero (rs : List Rt) : lowR rs 0 = false := by simp [lowR]
theorem lowR_succ (rs : List Rt) (m : Nat) : lowR rs (m + 1) = !pltB (rt rs m).p (rt rs (m + 1)).p := by simp [lowR]
def tabN (rs : List Rt) : Nat → Nat → Int
 | 0, _ => 0
 | n + 1, i => if routeB (rt rs i) then (if lowR rs i then 7 else tabN rs n (i + 1)) else 4
def tabF (rs : List Rt) : Int := if rs.length ≤ 200 then tabN rs rs.length 0 else 1
theorem tabF_size {rs : List Rt} (h : 200 < rs.length) : tabF rs = 1 := by unfold tabF; rw [if_neg (by omega)]
theorem tabF_from {rs : List Rt} (h : rs.length ≤ 200) : tabF rs = tabN rs rs.length 0 := by unfold tabF; rw [if_pos h]
theorem tabN_form {rs : List Rt} {n i : Nat} (h : routeB (rt rs i) = false) : tabN rs (n + 1) i = 4 := by simp [tabN, h]
theorem tabN_low {rs : List Rt} {n i : Nat} (h : routeB (rt rs i) = true) (k : lowR rs i = true) : tabN rs (n + 1) i = 7 := by simp [tabN, h, k]
theorem tabN_on {rs : List Rt} {n i : Nat} (h : routeB (rt rs i) = true) (k : lowR rs i = false) : tabN rs (n + 1) i = tabN rs n (i + 1) := by simp [tabN, h, k]
def AscP (ps : List (Int × Int)) : Prop := ∀ i j, i < j → j < ps.length → pltB (pr ps i) (pr ps j) = true
theorem pr_map (rs : List Rt) (i : Nat) (h : i < rs.length) : pr (rs.map Rt.p) i = (rt rs i).p := by
 rw [pr_eq _ _ (by simpa using h), rt_eq rs i h]; simp
theorem tabN_zero (rs : List Rt) : ∀ n i, tabN rs n i = 0 → ∀ j, i ≤ j → j < i + n → routeB (rt rs j) = true ∧ lowR rs j = false
 | 0, _, _, j, h1, h2 => by omega
 | n + 1, i, h, j, h1, h2 => by
  simp only [tabN] at h
  cases hm : routeB (rt rs i)
  ·simp [hm] at h
  ·cases hl : lowR rs i
   ·simp only [hm, hl] at h
    rcases Nat.lt_or_ge i j with k | k
    ·exact tabN_zero rs n (i + 1) (by simpa using h) j (by omega) (by omega)
    ·obtain rfl : j = i := by omega
     exact ⟨hm, hl⟩
   ·simp [hm, hl] at h
theorem good_of_tabF {rs : List Rt} (h : tabF rs = 0) : rs.length ≤ 200 ∧ (∀ i, i < rs.length → routeB (rt rs i) = true) ∧ AscP (rs.map Rt.p) := by
 unfold tabF at h
 split at h
 ·rename_i hl
  have hz := tabN_zero rs rs.length 0 h
  refine ⟨hl, fun i hi => (hz i (by omega) (by omega)).1, ?_⟩
  intro i j hij hj
  simp only [List.length_map] at hj
  rw [pr_map rs i (by omega), pr_map rs j hj]
  induction j with
  | zero => omega
  | succ m ih =>
   have hlow := (hz (m + 1) (by omega) (by omega)).2
   have hstep : pltB (rt rs m).p (rt rs (m + 1)).p = true := by
    rw [lowR_succ] at hlow
    simpa using hlow
   rcases Nat.lt_or_ge i m with k | k
   ·exact pltB_trans (ih k (by omega)) hstep
   ·obtain rfl : i = m := by omega
    exact hstep
 ·cases h
theorem tabN_of_good (rs : List Rt) (h : ∀ j, j < rs.length → routeB (rt rs j) = true ∧ lowR rs j = false) : ∀ n i, i + n ≤ rs.length → tabN rs n i = 0
 | 0, _, _ => rfl
 | n + 1, i, hi => by
  obtain ⟨h1, h2⟩ := h i (by omega)
  rw [tabN_on h1 h2]
  exact tabN_of_good rs h n (i + 1) (by omega)
theorem tabF_of_good {rs : List Rt} (hl : rs.length ≤ 200) (hm : ∀ i, i < rs.length → routeB (rt rs i) = true) (ha : AscP (rs.map Rt.p)) : tabF rs = 0 := by
 rw [tabF_from hl]
 refine tabN_of_good rs (fun j hj => ⟨hm j hj, ?_⟩) _ _ (by omega)
 rcases Nat.eq_zero_or_pos j with rfl | k
 ·exact lowR_zero _
 ·obtain ⟨m, rfl⟩ : ∃ m, j = m + 1 := ⟨j - 1, by omega⟩
  rw [lowR_succ]
  have := ha m (m + 1) (by omega) (by simpa using hj)
  rw [pr_map rs m (by omega), pr_map rs (m + 1) hj] at this
  rw [this]; rfl
def posP : List (Int × Int) → Int × Int → Nat
 | [], _ => 0
 | e :: r, p => if pltB e p then posP r p + 1 else 0
theorem pr_cons_succ (e : Int × Int) (es : List (Int × Int)) (i : Nat) : pr (e :: es) (i + 1) = pr es i := by simp [pr]
theorem posP_le : ∀ (ps : List (Int × Int)) (p : Int × Int), posP ps p ≤ ps.length
 | [], _ => Nat.le_refl _
 | e :: r, p => by
  simp only [posP, List.length_cons]
  have := posP_le r p
  split <;> omega
theorem posP_lt : ∀ (ps : List (Int × Int)) (p : Int × Int) (i : Nat), i < posP ps p → pltB (pr ps i) p = true
 | [], _, i, h => by simp [posP] at h
 | e :: r, p, i, h => by
  simp only [posP] at h
  split at h
  ·rename_i he
   cases i with
   | zero => simpa [pr] using he
   | succ i => rw [pr_cons_succ]; exact posP_lt r p i (by omega)
  ·omega
theorem posP_at : ∀ (ps : List (Int × Int)) (p : Int × Int), posP ps p < ps.length → pltB (pr ps (posP ps p)) p = false
 | [], _, h => by simp at h
 | e :: r, p, h => by
  cases he : pltB e p
  ·simp [posP, he, pr]
  ·simp only [posP, he, if_true] at h ⊢
   rw [pr_cons_succ]
   exact posP_at r p (by simpa using h)
theorem posP_of {ps : List (Int × Int)} {p : Int × Int} {i : Nat} (hi : i ≤ ps.length) (h1 : ∀ t, t < i → pltB (pr ps t) p = true) (h2 : i < ps.length → pltB (pr ps i) p = false) : posP ps p = i := by
 rcases Nat.lt_trichotomy (posP ps p) i with k | k | k
 ·have a := h1 _ k
  rw [posP_at ps p (by omega)] at a; cases a
 ·exact k
 ·have a := posP_lt ps p i k
  have b := posP_le ps p
  rw [h2 (by omega)] at a; cases a
def thereP (ps : List (Int × Int)) (p : Int × Int) : Bool := decide (posP ps p < ps.length) && decide (pr ps (posP ps p) = p)
theorem thereP_lt {ps : List (Int × Int)} {p : Int × Int} (h : thereP ps p = true) : posP ps p < ps.length := by
 unfold thereP at h
 simp only [Bool.and_eq_true, decide_eq_true_eq] at h
 exact h.1
theorem thereP_eq {ps : List (Int × Int)} {p : Int × Int} (h : thereP ps p = true) : pr ps (posP ps p) = p := by
 unfold thereP at h
 simp only [Bool.and_eq_true, decide_eq_true_eq] at h
 exact h.2
theorem ascP_lt {ps : List (Int × Int)} (h : AscP ps) {p : Int × Int} {t m : Nat} (hm : m < ps.length) (ht : t ≤ m) (k : pltB (pr ps m) p = true) : pltB (pr ps t) p = true := by
 rcases Nat.lt_or_ge t m with q | q
 ·exact pltB_trans (h t m q hm) k
 ·obtain rfl : t = m := by omega
  exact k
theorem ascP_ge {ps : List (Int × Int)} (h : AscP ps) {p : Int × Int} {t m : Nat} (ht : t < ps.length) (hm : m ≤ t) (k : pltB (pr ps m) p = false) : pltB (pr ps t) p = false := by
 cases q : pltB (pr ps t) p
 ·rfl
 ·rw [ascP_lt h ht hm q] at k; cases k
end Go.Proofs.YtjjelkdajdeikaaGreatDoor.Pl
namespace Go.Proofs.YtjjelkdajdeikaaGreatDoor
open Go.RowKit
set_option maxRecDepth 20000
def IntsAt (w : World) (b off : Nat) (zs : List Int) : Prop := ∀ i, i < zs.length → w.cell? ⟨b, off + i, none⟩ = some (.int .i64 (Pl.nm zs i))
def IsInts (w : World) (a : Option Addr) (len cap : Nat) (zs : List Int) : Prop :=
 zs.length = len ∧ len ≤ cap ∧ cap ≤ maxLen ∧ (a = none → cap = 0) ∧ (zs = [] ∨ ∃ b off, a = some ⟨b, off, none⟩ ∧ b < w.heap.size ∧ IntsAt w b off zs)
theorem IntsAt.below {w w' : World} {b off : Nat} {zs : List Int} (h : IntsAt w b off zs) (hb : b < w.heap.size) (k : Below w.heap.size w w') : IntsAt w' b off zs :=
 fun i hi => (k.cell (p := ⟨b, _, none⟩) hb).trans (h i hi)
theorem IsInts.below {w w' : World} {a : Option Addr} {len cap : Nat} {zs : List Int} (h : IsInts w a len cap zs) (k : Below w.heap.size w w') : IsInts w' a len cap zs := by
 obtain ⟨h1, h2, h3, h4, h5⟩ := h
 refine ⟨h1, h2, h3, h4, ?_⟩
 rcases h5 with h5 | ⟨b, off, rfl, hb, hr⟩
 ·exact .inl h5
 ·exact .inr ⟨b, off, rfl, Nat.lt_of_lt_of_le hb k.size, hr.below hb k⟩
theorem IsInts.nil (w : World) : IsInts w none 0 0 [] := ⟨rfl, Nat.le_refl _, by simp, fun _ => rfl, .inl rfl⟩
structure Pl.RH where
 p : Int × Int
 here : Bool
 cost : Int
 ha : Option Addr
 hl : Nat
 hc : Nat
def Pl.RH.none : Pl.RH := ⟨(0, 0), false, 0, Option.none, 0, 0⟩
def Pl.rh (hs : List Pl.RH) (i : Nat) : Pl.RH := hs.getD i Pl.RH.none
theorem Pl.rh_eq (hs : List Pl.RH) (i : Nat) (h : i < hs.length) : Pl.rh hs i = hs[i] := by simp [Pl.rh, List.getD, h]
theorem Pl.rh_cons_succ (e : Pl.RH) (es : List Pl.RH) (i : Nat) : Pl.rh (e :: es) (i + 1) = Pl.rh es i := by simp [Pl.rh]
theorem Pl.rh_cons_zero (e : Pl.RH) (es : List Pl.RH) : Pl.rh (e :: es) 0 = e := by simp [Pl.rh]
def RowsAt (w : World) (b off : Nat) (hs : List Pl.RH) : Prop := ∀ i, i < hs.length →
 w.cell? ⟨b, off + i * 5, none⟩ = some (.int .i64 (Pl.rh hs i).p.1) ∧ w.cell? ⟨b, off + i * 5 + 1, none⟩ = some (.int .i64 (Pl.rh hs i).p.2) ∧
 w.cell? ⟨b, off + i * 5 + 2, none⟩ = some (.bool (Pl.rh hs i).here) ∧ w.cell? ⟨b, off + i * 5 + 3, none⟩ = some (.int .i64 (Pl.rh hs i).cost) ∧
 w.cell? ⟨b, off + i * 5 + 4, none⟩ = some (.slice (Pl.rh hs i).ha (Pl.rh hs i).hl (Pl.rh hs i).hc)
def IsRows (w : World) (a : Option Addr) (len cap : Nat) (hs : List Pl.RH) : Prop :=
 hs.length = len ∧ len ≤ cap ∧ cap ≤ maxLen ∧ (a = none → cap = 0) ∧ (hs = [] ∨ ∃ b off, a = some ⟨b, off, none⟩ ∧ b < w.heap.size ∧ RowsAt w b off hs)
theorem RowsAt.below {w w' : World} {b off : Nat} {hs : List Pl.RH} (h : RowsAt w b off hs) (hb : b < w.heap.size) (k : Below w.heap.size w w') : RowsAt w' b off hs := by
 intro i hi
 obtain ⟨c0, c1, c2, c3, c4⟩ := h i hi
 exact ⟨(k.cell (p := ⟨b, _, none⟩) hb).trans c0, (k.cell (p := ⟨b, _, none⟩) hb).trans c1, (k.cell (p := ⟨b, _, none⟩) hb).trans c2, (k.cell (p := ⟨b, _, none⟩) hb).trans c3, (k.cell (p := ⟨b, _, none⟩) hb).trans c4⟩
theorem IsRows.below {w w' : World} {a : Option Addr} {len cap : Nat} {hs : List Pl.RH} (h : IsRows w a len cap hs) (k : Below w.heap.size w w') : IsRows w' a len cap hs := by
 obtain ⟨h1, h2, h3, h4, h5⟩ := h
 refine ⟨h1, h2, h3, h4, ?_⟩
 rcases h5 with h5 | ⟨b, off, rfl, hb, hr⟩
 ·exact .inl h5
 ·exact .inr ⟨b, off, rfl, Nat.lt_of_lt_of_le hb k.size, hr.below hb k⟩
def Reads (w : World) (h : Pl.RH) (r : Pl.Rt) : Prop := h.p = r.p ∧ h.here = r.here ∧ h.cost = r.cost ∧ IsInts w h.ha h.hl h.hc r.hops ∧ Pl.pairOk r.p
theorem Reads.below {w w' : World} {h : Pl.RH} {r : Pl.Rt} (hh : Reads w h r) (k : Below w.heap.size w w') : Reads w' h r := ⟨hh.1, hh.2.1, hh.2.2.1, hh.2.2.2.1.below k, hh.2.2.2.2⟩
def ReadsAll (w : World) (hs : List Pl.RH) (rs : List Pl.Rt) : Prop := hs.length = rs.length ∧ ∀ i, i < hs.length → Reads w (Pl.rh hs i) (Pl.rt rs i)
theorem ReadsAll.below {w w' : World} {hs : List Pl.RH} {rs : List Pl.Rt} (h : ReadsAll w hs rs) (k : Below w.heap.size w w') : ReadsAll w' hs rs := ⟨h.1, fun i hi => (h.2 i hi).below k⟩
theorem ReadsAll.map_p {w : World} {hs : List Pl.RH} {rs : List Pl.Rt} (h : ReadsAll w hs rs) : hs.map Pl.RH.p = rs.map Pl.Rt.p := by
 refine List.ext_getElem (by simpa using h.1) fun i h1 h2 => ?_
 simp only [List.length_map] at h1 h2
 have := (h.2 i h1).1
 rw [Pl.rh_eq hs i h1, Pl.rt_eq rs i h2] at this
 simpa using this
theorem IsRows.at {w : World} {a : Option Addr} {len cap : Nat} {hs : List Pl.RH} (h : IsRows w a len cap hs) {k : Nat} (hk : k < len) : ∃ b off, a = some ⟨b, off, none⟩ ∧ b < w.heap.size ∧ RowsAt w b off hs := by
 rcases h.2.2.2.2 with e | h'
 ·have := h.1; rw [e] at this; simp at this; omega
 ·exact h'
theorem IsInts.at {w : World} {a : Option Addr} {len cap : Nat} {zs : List Int} (h : IsInts w a len cap zs) {k : Nat} (hk : k < len) : ∃ b off, a = some ⟨b, off, none⟩ ∧ b < w.heap.size ∧ IntsAt w b off zs := by
 rcases h.2.2.2.2 with e | h'
 ·have := h.1; rw [e] at this; simp at this; omega
 ·exact h'
theorem IsInts.but {B : Nat} {w w' : World} {a : Option Addr} {len cap : Nat} {zs : List Int} (h : IsInts w a len cap zs) (k : But B w w') (hne : ∀ x, a = some x → x.block ≠ B) : IsInts w' a len cap zs := by
 obtain ⟨h1, h2, h3, h4, h5⟩ := h
 refine ⟨h1, h2, h3, h4, ?_⟩
 rcases h5 with h5 | ⟨b, off, rfl, hb, hr⟩
 ·exact .inl h5
 ·exact .inr ⟨b, off, rfl, Nat.lt_of_lt_of_le hb k.size, fun i hi => (k.cell (p := ⟨b, off + i, none⟩) hb (hne ⟨b, off, none⟩ rfl)).trans (hr i hi)⟩
theorem Reads.but {B : Nat} {w w' : World} {h : Pl.RH} {r : Pl.Rt} (hh : Reads w h r) (k : But B w w') (hne : ∀ x, h.ha = some x → x.block ≠ B) : Reads w' h r := ⟨hh.1, hh.2.1, hh.2.2.1, hh.2.2.2.1.but k hne, hh.2.2.2.2⟩
def cellsZ (xs : List Int) : List Value := xs.map fun x => .int .i64 x
def OwnZ (w : World) (base : Nat) (v : Value) (xs : List Int) : Prop := w.ownsRow base 3 1 v xs.length (cellsZ xs)
theorem infoZ : (Tryz.prog.info? 3).map (fun i => (i.zero, i.size, i.bytes)) = some (some (.int .i64 0), 1, 8) := by kernel_rfl
theorem OwnZ.nil (w : World) (base : Nat) : OwnZ w base (.slice none 0 0) [] := World.ownsRow_nil _ _ _ _
theorem cellsZ_one (xs : List Int) : ∀ u ∈ cellsZ xs, u.oneCell' = true := by
 intro u hu
 simp [cellsZ] at hu
 obtain ⟨x, _, rfl⟩ := hu
 rfl
theorem cellsZ_get {xs : List Int} {j : Nat} {u : Value} (h : (cellsZ xs)[j]? = some u) : j < xs.length ∧ u = .int .i64 (Pl.nm xs j) := by
 unfold cellsZ at h
 rw [List.getElem?_map] at h
 cases hx : xs[j]? with
 | none => rw [hx] at h; simp at h
 | some x =>
  rw [hx] at h
  simp at h
  obtain ⟨hj, e⟩ := List.getElem?_eq_some_iff.1 hx
  exact ⟨hj, by rw [Pl.nm_eq xs j hj, e, h]⟩
theorem OwnZ.ints {w : World} {base : Nat} {v : Value} {xs : List Int} (h : OwnZ w base v xs) :
  ∃ a cap, v = .slice a xs.length cap ∧ IsInts w a xs.length cap xs ∧ (∀ x, a = some x → base ≤ x.block) := by
 obtain ⟨_, ⟨h, h1⟩ | ⟨g, cap, cur, rfl, hb, hh, hn, hm, hs, hx⟩⟩ := h
 ·have e : xs = [] := List.length_eq_zero_iff.1 h1
  subst e
  exact ⟨none, 0, h, IsInts.nil w, by simp⟩
 ·refine ⟨_, cap, rfl, ⟨rfl, hn, hm, by simp, .inr ⟨g, 0, rfl, lt_of_block hh, fun i hi => ?_⟩⟩, by rintro x ⟨⟩; exact hb⟩
  have hj : (cellsZ xs)[i]? = some (.int .i64 (Pl.nm xs i)) := by
   simp [cellsZ, Pl.nm, List.getD_eq_getElem?_getD, List.getElem?_eq_getElem hi]
  rw [← hx] at hj
  have hj' : cur[i]? = some (.int .i64 (Pl.nm xs i)) := by
   rw [List.getElem?_take] at hj
   split at hj
   ·rw [← Array.getElem?_toList]; exact hj
   ·cases hj
  simp [World.cell?, hh, hj']
theorem OwnZ.but {B : Nat} {w w' : World} {base : Nat} {v : Value} {xs : List Int} (h : OwnZ w base v xs) (k : But B w w') (hne : B < base ∨ v.ownBlock ≠ some B) : OwnZ w' base v xs := by
 obtain ⟨h0, h1⟩ := h
 refine ⟨h0, ?_⟩
 rcases h1 with h1 | ⟨g, cap, cur, rfl, hb, hh, hr⟩
 ·exact .inl h1
 ·refine .inr ⟨g, cap, cur, rfl, hb, (k.block g (lt_of_block hh) ?_).trans hh, hr⟩
  rcases hne with h | h
  ·omega
  ·intro e; apply h; simp [Value.ownBlock, e]
theorem OwnZ.mono {w : World} {base base' : Nat} {v : Value} {xs : List Int} (h : OwnZ w base v xs) (k : base' ≤ base) : OwnZ w base' v xs := by
 obtain ⟨h0, h1⟩ := h
 refine ⟨h0, ?_⟩
 rcases h1 with h1 | ⟨g, cap, cur, rfl, hb, hr⟩
 ·exact .inl h1
 ·exact .inr ⟨g, cap, cur, rfl, by omega, hr⟩
theorem OwnZ.below {w w' : World} {base : Nat} {v : Value} {xs : List Int} (h : OwnZ w base v xs) (k : Below w.heap.size w w') : OwnZ w' base v xs := by
 obtain ⟨h0, h1⟩ := h
 refine ⟨h0, ?_⟩
 rcases h1 with h1 | ⟨g, cap, cur, rfl, hb, hh, hr⟩
 ·exact .inl h1
 ·exact .inr ⟨g, cap, cur, rfl, hb, (k.block g (lt_of_block hh)).trans hh, hr⟩
def ReadsZ (w : World) (base : Nat) (h : Pl.RH) (r : Pl.Rt) : Prop := h.p = r.p ∧ h.here = r.here ∧ h.cost = r.cost ∧ OwnZ w base (.slice h.ha h.hl h.hc) r.hops ∧ Pl.pairOk r.p
theorem ReadsZ.reads {w : World} {base : Nat} {h : Pl.RH} {r : Pl.Rt} (hz : ReadsZ w base h r) : Reads w h r ∧ (∀ x, h.ha = some x → base ≤ x.block) := by
 obtain ⟨h1, h2, h3, h4, h5⟩ := hz
 obtain ⟨a, cap, e, hi, hb⟩ := h4.ints
 simp only [Value.slice.injEq] at e
 obtain ⟨e1, e2, e3⟩ := e
 refine ⟨⟨h1, h2, h3, ?_, h5⟩, fun x hx => hb x (by rw [← e1]; exact hx)⟩
 rw [e1, e2, e3]
 exact hi
theorem ReadsZ.below {w w' : World} {base : Nat} {h : Pl.RH} {r : Pl.Rt} (hz : ReadsZ w base h r) (k : Below w.heap.size w w') : ReadsZ w' base h r := ⟨hz.1, hz.2.1, hz.2.2.1, hz.2.2.2.1.below k, hz.2.2.2.2⟩
theorem ReadsZ.mono {w : World} {base base' : Nat} {h : Pl.RH} {r : Pl.Rt} (hz : ReadsZ w base h r) (k : base' ≤ base) : ReadsZ w base' h r := ⟨hz.1, hz.2.1, hz.2.2.1, hz.2.2.2.1.mono k, hz.2.2.2.2⟩
theorem append_copyI {w : World} {ops : Array Oper} {rest : List Oper} {o : Oper} {a : Act} {Q : Exit → Act → World → Prop} (hgd : o.guard = none) (s x : Operand)
  (ho : o.op = .call { callee := .builtin .append, args := #[s, x], argTypes := #[37, 37] })
  (ao : Option Addr) (len cap : Nat) (zs : List Int) (hs : a.eval s = .slice none 0 0) (hx : a.eval x = .slice ao len cap) (hE : IsInts w ao len cap zs) (hb : len * 8 ≤ 140737488351232)
  (h : ∀ v' w', OwnZ w' w.heap.size v' zs → Below w.heap.size w w' → wpList Tryz.prog ops Q rest (a.put o.dst v') w') : wpList Tryz.prog ops Q (o :: rest) a w := by
 obtain ⟨i0, hi0, hz0, hz1, hz2⟩ := info_parts infoZ
 obtain ⟨hl, hc, hm, hnil, hrow⟩ := hE
 rcases ao with _ | ad
 ·obtain rfl := hnil rfl
  obtain rfl : len = 0 := by omega
  obtain rfl : zs = [] := List.length_eq_zero_iff.1 hl
  exact wpList_append_own_none hgd s x 37 ho w.heap.size 3 i0 1 Tryz.underlying37 hi0 _ 0 [] hs (World.ownsRow_nil _ _ _ _) hx (h _ _ (OwnZ.nil _ _) (Below.refl _ _))
 ·refine wpList_append_own (w := w) hgd s x 37 ho w.heap.size 3 i0 _ 1 8 Tryz.underlying37 hi0 hz0 hz1 hz2 rfl (by decide) _ 0 [] hs (World.ownsRow_nil _ _ _ _) ad len cap (cellsZ zs) hx (by simp [cellsZ, hl]) ?_ (cellsZ_one _) (by unfold maxLen; omega) (by omega) (Nat.le_refl _) ?_
  ·intro j u hj
   obtain ⟨hj1, rfl⟩ := cellsZ_get hj
   rcases hrow with rfl | ⟨b, off, hba, _, hr⟩
   ·simp at hj1
   ·cases hba
    rw [add_none]
    exact hr j hj1
  ·intro v' w' hown hg _
   rw [List.nil_append] at hown
   refine h v' w' ?_ ((Below.refl _ _).grown hg (Nat.le_refl _) (by intro k hk; cases hk))
   unfold OwnZ
   rw [hl]
   simpa using hown
theorem heapNewZ (w : World) (o : Obj) : (w.alloc o).heap[w.heap.size]? = some o := by
 show (w.heap.push o)[w.heap.size]? = _
 simp
theorem freshBox {w w3 : World} {c0 c1 c2 c3 c4 d0 d1 d2 d3 d4 : Value} {T : TypeId} (hb : Below ((w.alloc (.cells #[c0, c1, c2, c3, c4] T)).alloc (.cells #[d0, d1, d2, d3, d4] T)).heap.size ((w.alloc (.cells #[c0, c1, c2, c3, c4] T)).alloc (.cells #[d0, d1, d2, d3, d4] T)) w3) :
  (w3.cell? ⟨w.heap.size, 0, none⟩ = some c0 ∧ w3.cell? ⟨w.heap.size, 1, none⟩ = some c1 ∧ w3.cell? ⟨w.heap.size, 2, none⟩ = some c2 ∧ w3.cell? ⟨w.heap.size, 3, none⟩ = some c3 ∧ w3.cell? ⟨w.heap.size, 4, none⟩ = some c4) ∧
  (w3.cell? ⟨w.heap.size + 1, 0, none⟩ = some d0 ∧ w3.cell? ⟨w.heap.size + 1, 1, none⟩ = some d1 ∧ w3.cell? ⟨w.heap.size + 1, 2, none⟩ = some d2 ∧ w3.cell? ⟨w.heap.size + 1, 3, none⟩ = some d3 ∧ w3.cell? ⟨w.heap.size + 1, 4, none⟩ = some d4) ∧
  (∀ o, w3.frozen? ⟨w.heap.size, o, none⟩ = false) ∧ (∀ o, w3.frozen? ⟨w.heap.size + 1, o, none⟩ = false) := by
 have hs : ((w.alloc (.cells #[c0, c1, c2, c3, c4] T)).alloc (.cells #[d0, d1, d2, d3, d4] T)).heap.size = w.heap.size + 2 := by simp
 have hc : ∀ (b o : Nat) (v : Value), b < w.heap.size + 2 → ((w.alloc (.cells #[c0, c1, c2, c3, c4] T)).alloc (.cells #[d0, d1, d2, d3, d4] T)).cell? ⟨b, o, none⟩ = some v → w3.cell? ⟨b, o, none⟩ = some v := fun b o v hlt hv => (hb.cell (p := ⟨b, o, none⟩) (by rw [hs]; exact hlt)).trans hv
 refine ⟨⟨hc _ _ _ (by omega) (by simp), hc _ _ _ (by omega) (by simp), hc _ _ _ (by omega) (by simp), hc _ _ _ (by omega) (by simp), hc _ _ _ (by omega) (by simp)⟩, ⟨hc _ _ _ (by omega) ?_, hc _ _ _ (by omega) ?_, hc _ _ _ (by omega) ?_, hc _ _ _ (by omega) ?_, hc _ _ _ (by omega) ?_⟩, ?_, ?_⟩
 iterate 5
  have e := World.size_alloc w (.cells #[c0, c1, c2, c3, c4] T)
  rw [← e]; simp
 ·intro o
  rw [hb.frozen (p := ⟨w.heap.size, o, none⟩) (by rw [hs]; show w.heap.size < _; omega)]
  have e : ((w.alloc (.cells #[c0, c1, c2, c3, c4] T)).alloc (.cells #[d0, d1, d2, d3, d4] T)).heap[w.heap.size]? = some (.cells #[c0, c1, c2, c3, c4] T) := by
   rw [Below.heap_alloc _ _ _ (by simp)]; exact heapNewZ w _
  simp only [World.frozen?, e]
  simp
 ·intro o
  rw [hb.frozen (p := ⟨w.heap.size + 1, o, none⟩) (by rw [hs]; show w.heap.size + 1 < _; omega)]
  have e : ((w.alloc (.cells #[c0, c1, c2, c3, c4] T)).alloc (.cells #[d0, d1, d2, d3, d4] T)).heap[w.heap.size + 1]? = some (.cells #[d0, d1, d2, d3, d4] T) := by
   have h := heapNewZ (w.alloc (.cells #[c0, c1, c2, c3, c4] T)) (.cells #[d0, d1, d2, d3, d4] T)
   rwa [World.size_alloc] at h
  simp only [World.frozen?, e]
  simp
set_option maxHeartbeats 1000000 in
theorem fresh_own (h : Pl.RH) (r : Pl.Rt) (w : World) (hr : Reads w h r) (hl : h.hl ≤ 1000) :
  Calls Tryz.prog 69 #[.agg #[.int .i64 h.p.1, .int .i64 h.p.2, .bool h.here, .int .i64 h.cost, .slice h.ha h.hl h.hc]] w fun e w' =>
   ∃ g : Pl.RH, e = .returned (.agg #[.int .i64 g.p.1, .int .i64 g.p.2, .bool g.here, .int .i64 g.cost, .slice g.ha g.hl g.hc]) ∧ ReadsZ w' w.heap.size g r ∧ Below w.heap.size w w' := by
 obtain ⟨h1, h2, h3, h4, h5⟩ := hr
 have HI := hid h4
 have HX := hid (And.intro h1 (And.intro h2 (And.intro h3 h5)))
 clear h1 h2 h3 h4 h5
 obtain ⟨⟨p1, p2⟩, here, cost, ha, hln, hc⟩ := h
 simp only at HI HX hl
 simp only
 have HB : Hid (Below w.heap.size w ((w.alloc (.cells #[.int .i64 p1, .int .i64 p2, .bool here, .int .i64 cost, .slice ha hln hc] 80)).alloc (.cells #[.int .i64 0, .int .i64 0, .bool false, .int .i64 0, .slice none 0 0] 80))) := hid (((Below.refl _ _).alloc (Nat.le_refl _) _).alloc (by simp) _)
 go_enter Tryz.func69, Tryz.ntmps69
 go_wp2_with (at_builtin; refine append_copyI rfl _ _ rfl ha hln hc r.hops rfl rfl (HI.out.below HB.out) (by omega) ?_; intro v' w3 hown3 hb3; obtain ⟨a3, cap3, rfl, _, _⟩ := hown3.ints; have HI3 := hid hown3; clear hown3; have x0 := freshBox hb3; obtain ⟨⟨x0, x1, x2, x3, x4⟩, ⟨y0, y1, y2, y3, y4⟩, xf, yf⟩ := x0)
 have HB3 := hid hb3
 clear hb3
 have HK : Hid (Below w.heap.size w w3) := hid (HB.out.trans (HB3.out.mono (by simp; omega)))
 refine bodyPost_ret (v := .agg #[.int .i64 p1, .int .i64 p2, .bool here, .int .i64 cost, .slice a3 r.hops.length cap3]) (by simp [results, Tryz.results69, go_sem, y0, y1, y2, y3, y4]) rfl ?_
 have hu1 : But w.heap.size w3 (w3.setCell ⟨w.heap.size, 4, none⟩ (.slice a3 r.hops.length cap3)) := (But.refl _ _).setCell _ _
 refine ⟨⟨(p1, p2), here, cost, a3, r.hops.length, cap3⟩, rfl, ⟨HX.out.1, HX.out.2.1, HX.out.2.2.1, ?_, HX.out.2.2.2⟩, ?_⟩
 ·refine OwnZ.mono (base := w.heap.size + 2) ?_ (by omega)
  refine OwnZ.but (B := w.heap.size + 1) (w := w3.setCell ⟨w.heap.size, 4, none⟩ (.slice a3 r.hops.length cap3)) (OwnZ.but (OwnZ.mono HI3.out (by simp)) hu1 (.inl (by omega))) ?_ (.inl (by omega))
  exact (((((But.refl _ _).setCell _ _).setCell _ _).setCell _ _).setCell _ _).setCell _ _
 ·exact ((((((HK.out.setCell (Nat.le_refl _) _).setCell (by simp) _).setCell (by simp) _).setCell (by simp) _).setCell (by simp) _).setCell (by simp) _)
theorem fresh_any (h : Pl.RH) (r : Pl.Rt) (w : World) (hr : Reads w h r) (hl : h.hl ≤ 1000) :
  Calls Tryz.prog 69 #[.agg #[.int .i64 h.p.1, .int .i64 h.p.2, .bool h.here, .int .i64 h.cost, .slice h.ha h.hl h.hc]] w fun e w' =>
   ∃ g : Pl.RH, e = .returned (.agg #[.int .i64 g.p.1, .int .i64 g.p.2, .bool g.here, .int .i64 g.cost, .slice g.ha g.hl g.hc]) ∧ Reads w' g r ∧ (∀ x, g.ha = some x → w.heap.size ≤ x.block) ∧ Below w.heap.size w w' :=
 (fresh_own h r w hr hl).mono fun _ _ ⟨g, h1, h2, h3⟩ => ⟨g, h1, h2.reads.1, h2.reads.2, h3⟩
def cellsH (h : Pl.RH) : List Value := [.int .i64 h.p.1, .int .i64 h.p.2, .bool h.here, .int .i64 h.cost, .slice h.ha h.hl h.hc]
def cellsR : List Pl.RH → List Value
 | [] => []
 | h :: r => cellsH h ++ cellsR r
theorem cellsR_len : ∀ hs : List Pl.RH, (cellsR hs).length = hs.length * 5
 | [] => rfl
 | h :: r => by simp [cellsR, cellsH, cellsR_len r]; omega
theorem cellsR_append : ∀ (a b : List Pl.RH), cellsR (a ++ b) = cellsR a ++ cellsR b
 | [], _ => rfl
 | h :: r, b => by simp [cellsR, cellsR_append r b]
theorem cellsR_one : ∀ hs : List Pl.RH, ∀ u ∈ cellsR hs, u.oneCell' = true
 | [], u, h => by simp [cellsR] at h
 | e :: r, u, h => by
  simp only [cellsR, List.mem_append] at h
  rcases h with h | h
  ·simp [cellsH] at h
   rcases h with rfl | rfl | rfl | rfl | rfl <;> rfl
  ·exact cellsR_one r u h
theorem rowsAt_cons {w : World} {b off : Nat} {h : Pl.RH} {r : List Pl.RH} :
  RowsAt w b off (h :: r) ↔ (w.cell? ⟨b, off, none⟩ = some (.int .i64 h.p.1) ∧ w.cell? ⟨b, off + 1, none⟩ = some (.int .i64 h.p.2) ∧ w.cell? ⟨b, off + 2, none⟩ = some (.bool h.here) ∧ w.cell? ⟨b, off + 3, none⟩ = some (.int .i64 h.cost) ∧ w.cell? ⟨b, off + 4, none⟩ = some (.slice h.ha h.hl h.hc)) ∧ RowsAt w b (off + 5) r := by
 constructor
 ·intro k
  refine ⟨?_, fun i hi => ?_⟩
  ·have := k 0 (by simp)
   simpa [Pl.rh_cons_zero] using this
  ·have := k (i + 1) (by simpa using hi)
   rw [Pl.rh_cons_succ, show off + (i + 1) * 5 = off + 5 + i * 5 by omega] at this
   exact this
 ·rintro ⟨h0, h1⟩ i hi
  cases i with
  | zero => simpa [Pl.rh_cons_zero] using h0
  | succ i =>
   rw [Pl.rh_cons_succ, show off + (i + 1) * 5 = off + 5 + i * 5 by omega]
   exact h1 i (by simpa using hi)
theorem rowsAt_cells {w : World} {b : Nat} : ∀ (hs : List Pl.RH) (off : Nat), RowsAt w b off hs ↔ ∀ j u, (cellsR hs)[j]? = some u → w.cell? ⟨b, off + j, none⟩ = some u
 | [], off => by
  constructor
  ·intro _ j u h; simp [cellsR] at h
  ·intro _ i hi; simp at hi
 | e :: r, off => by
  rw [rowsAt_cons, rowsAt_cells r (off + 5)]
  constructor
  ·rintro ⟨⟨h0, h1, h2, h3, h4⟩, h5⟩ j u hj
   match j, hj with
   | 0, hj => simp [cellsR, cellsH] at hj; subst hj; exact h0
   | 1, hj => simp [cellsR, cellsH] at hj; subst hj; exact h1
   | 2, hj => simp [cellsR, cellsH] at hj; subst hj; exact h2
   | 3, hj => simp [cellsR, cellsH] at hj; subst hj; exact h3
   | 4, hj => simp [cellsR, cellsH] at hj; subst hj; exact h4
   | j + 5, hj =>
    have := h5 j u (by simpa [cellsR, cellsH] using hj)
    rwa [show off + (j + 5) = off + 5 + j by omega]
  ·intro h
   refine ⟨⟨?_, ?_, ?_, ?_, ?_⟩, fun j u hj => ?_⟩
   ·exact h 0 _ (by simp [cellsR, cellsH])
   ·exact h 1 _ (by simp [cellsR, cellsH])
   ·exact h 2 _ (by simp [cellsR, cellsH])
   ·exact h 3 _ (by simp [cellsR, cellsH])
   ·exact h 4 _ (by simp [cellsR, cellsH])
   ·have := h (j + 5) u (by simpa [cellsR, cellsH] using hj)
    rwa [show off + 5 + j = off + (j + 5) by omega]
theorem Pl.rh_take (hs : List Pl.RH) (n i : Nat) (h : i < n) (hi : i < hs.length) : Pl.rh (hs.take n) i = Pl.rh hs i := by
 rw [Pl.rh_eq _ _ (by simp; omega), Pl.rh_eq _ _ hi]; simp
theorem Pl.rh_drop (hs : List Pl.RH) (n i : Nat) (hi : n + i < hs.length) : Pl.rh (hs.drop n) i = Pl.rh hs (n + i) := by
 rw [Pl.rh_eq _ _ (by simp; omega), Pl.rh_eq _ _ hi]; simp
theorem Pl.rh_app_lt (a b : List Pl.RH) (i : Nat) (h : i < a.length) : Pl.rh (a ++ b) i = Pl.rh a i := by
 rw [Pl.rh_eq a i h, Pl.rh_eq _ i (by simp; omega), List.getElem_append_left h]
theorem Pl.rh_app_at (a : List Pl.RH) (x : Pl.RH) : Pl.rh (a ++ [x]) a.length = x := by
 rw [Pl.rh_eq _ _ (by simp)]; simp
theorem Pl.rt_app_lt (a b : List Pl.Rt) (i : Nat) (h : i < a.length) : Pl.rt (a ++ b) i = Pl.rt a i := by
 rw [Pl.rt_eq a i h, Pl.rt_eq _ i (by simp; omega), List.getElem_append_left h]
theorem Pl.rt_app_at (a : List Pl.Rt) (x : Pl.Rt) : Pl.rt (a ++ [x]) a.length = x := by
 rw [Pl.rt_eq _ _ (by simp)]; simp
def OwnR (w : World) (base : Nat) (v : Value) (hs : List Pl.RH) : Prop := w.ownsRow base 80 5 v hs.length (cellsR hs)
theorem infoRoute : (Tryz.prog.info? 80).map (fun i => (i.zero, i.size, i.bytes)) = some (some (.agg #[.int .i64 0, .int .i64 0, .bool false, .int .i64 0, .slice none 0 0]), 5, 56) := by kernel_rfl
theorem OwnR.nil (w : World) (base : Nat) : OwnR w base (.slice none 0 0) [] := World.ownsRow_nil _ _ _ _
theorem OwnR.below {w w' : World} {base : Nat} {v : Value} {hs : List Pl.RH} (h : OwnR w base v hs) (k : Below w.heap.size w w') : OwnR w' base v hs := ownsRow_under h k
theorem OwnR.mono {w : World} {base base' : Nat} {v : Value} {hs : List Pl.RH} (h : OwnR w base v hs) (k : base' ≤ base) : OwnR w base' v hs := by
 obtain ⟨h0, h1⟩ := h
 refine ⟨h0, ?_⟩
 rcases h1 with h1 | ⟨g, cap, cur, rfl, hb, hr⟩
 ·exact .inl h1
 ·exact .inr ⟨g, cap, cur, rfl, by omega, hr⟩
theorem OwnR.rows {w : World} {base : Nat} {v : Value} {hs : List Pl.RH} (h : OwnR w base v hs) :
  ∃ a cap, v = .slice a hs.length cap ∧ IsRows w a hs.length cap hs ∧ (∀ x, a = some x → base ≤ x.block) := by
 obtain ⟨_, ⟨h, h1⟩ | ⟨g, cap, cur, rfl, hb, hh, hn, hm, hs', hx⟩⟩ := h
 ·have e : hs = [] := List.length_eq_zero_iff.1 h1
  subst e
  exact ⟨none, 0, h, ⟨rfl, Nat.le_refl _, by simp, fun _ => rfl, .inl rfl⟩, by simp⟩
 ·refine ⟨_, cap, rfl, ⟨rfl, hn, hm, by simp, .inr ⟨g, 0, rfl, blockLt hh, ?_⟩⟩, by rintro x ⟨⟩; exact hb⟩
  rw [rowsAt_cells]
  intro j u hj
  rw [← hx] at hj
  have hj' : cur[j]? = some u := by
   rw [List.getElem?_take] at hj
   split at hj
   ·rw [← Array.getElem?_toList]; exact hj
   ·cases hj
  simp [World.cell?, hh, hj']
theorem ownR_of {w : World} {base n : Nat} {v : Value} {xs : List Value} {hs : List Pl.RH} (h : w.ownsRow base 80 5 v n xs) (e : xs = cellsR hs) : OwnR w base v hs := by
 subst e
 have hn : n = hs.length := by
  have := h.1
  rw [cellsR_len] at this
  omega
 subst hn
 exact h
theorem apartZR {w : World} {b1 b2 : Nat} {u v : Value} {xs : List Int} {hs : List Pl.RH} (h1 : OwnZ w b1 u xs) (h2 : OwnR w b2 v hs) : u.ownBlock = none ∨ u.ownBlock ≠ v.ownBlock := by
 obtain ⟨_, ⟨rfl, _⟩ | ⟨g, cap, cur, rfl, _, hh, _⟩⟩ := h1
 ·exact .inl rfl
 ·right
  obtain ⟨_, ⟨rfl, _⟩ | ⟨g2, cap2, cur2, rfl, _, hh2, _⟩⟩ := h2
  ·simp [Value.ownBlock]
  ·simp only [Value.ownBlock, ne_eq, Option.some.injEq]
   intro e
   subst e
   rw [hh] at hh2
   simp at hh2
theorem append_rt {w : World} {ops : Array Oper} {rest : List Oper} {o : Oper} {a : Act} {Q : Exit → Act → World → Prop} (hgd : o.guard = none) (s x : Operand)
  (ho : o.op = .call { callee := .builtin .append, args := #[s, x], argTypes := #[30, 30] })
  (base : Nat) (v : Value) (hs : List Pl.RH) (e : Pl.RH) (hs' : a.eval s = v) (hown : OwnR w base v hs) (hbase : base ≤ w.heap.size) (hx : a.eval x = .slice (some ⟨w.heap.size, 0, none⟩) 1 1) (hb : hs.length ≤ 4000000000000)
  (h : ∀ v' w', OwnR w' base v' (hs ++ [e]) → (w.alloc (.cells #[.int .i64 e.p.1, .int .i64 e.p.2, .bool e.here, .int .i64 e.cost, .slice e.ha e.hl e.hc] 80)).grownBy w' v.ownBlock → Below base w w' → wpList Tryz.prog ops Q rest (a.put o.dst v') w') :
  wpList Tryz.prog ops Q (o :: rest) a (w.alloc (.cells #[.int .i64 e.p.1, .int .i64 e.p.2, .bool e.here, .int .i64 e.cost, .slice e.ha e.hl e.hc] 80)) := by
 obtain ⟨i0, hi0, hz0, hz1, hz2⟩ := partsOf infoRoute
 refine wpList_append_own_wide (w := _) hgd s x 30 ho base 80 i0 _ 5 56 Tryz.underlying30 hi0 hz0 hz1 hz2 rfl (by decide) _ hs.length (cellsR hs) hs' (World.ownsRow.alloc hown _) ⟨w.heap.size, 0, none⟩ 1 1 (cellsH e) hx rfl ?_ ?_ (by unfold maxLen; omega) (by omega) (by simp; omega) ?_
 ·intro j u hj
  rw [add_none]
  match j, hj with
  | 0, hj => simp [cellsH] at hj; subst hj; simp
  | 1, hj => simp [cellsH] at hj; subst hj; simp
  | 2, hj => simp [cellsH] at hj; subst hj; simp
  | 3, hj => simp [cellsH] at hj; subst hj; simp
  | 4, hj => simp [cellsH] at hj; subst hj; simp
  | j + 5, hj => simp [cellsH] at hj
 ·have := cellsR_one [e]
  simpa [cellsR] using this
 ·intro v' w' hown' hg _
  have hlt := World.ownsRow.lt hown
  exact h v' w' (ownR_of hown' (by rw [cellsR_append]; simp [cellsR])) hg (((Below.refl _ _).alloc hbase _).grown hg (by simp; omega) (fun k hk => (hlt k hk).1))
def OwnTb (w : World) (base : Nat) (v : Value) (hs : List Pl.RH) (rs : List Pl.Rt) : Prop := OwnR w base v hs ∧ hs.length = rs.length ∧ ∀ i, i < hs.length → ReadsZ w base (Pl.rh hs i) (Pl.rt rs i)
theorem OwnTb.nil (w : World) (base : Nat) : OwnTb w base (.slice none 0 0) [] [] := ⟨OwnR.nil _ _, rfl, fun i h => by simp at h⟩
theorem OwnTb.below {w w' : World} {base : Nat} {v : Value} {hs : List Pl.RH} {rs : List Pl.Rt} (h : OwnTb w base v hs rs) (k : Below w.heap.size w w') : OwnTb w' base v hs rs := ⟨h.1.below k, h.2.1, fun i hi => (h.2.2 i hi).below k⟩
theorem OwnTb.mono {w : World} {base base' : Nat} {v : Value} {hs : List Pl.RH} {rs : List Pl.Rt} (h : OwnTb w base v hs rs) (k : base' ≤ base) : OwnTb w base' v hs rs := ⟨h.1.mono k, h.2.1, fun i hi => (h.2.2 i hi).mono k⟩
theorem OwnTb.reads {w : World} {base : Nat} {v : Value} {hs : List Pl.RH} {rs : List Pl.Rt} (h : OwnTb w base v hs rs) : ReadsAll w hs rs := ⟨h.2.1, fun i hi => (h.2.2 i hi).reads.1⟩
theorem OwnTb.snoc {w w' : World} {base : Nat} {v v' : Value} {hs : List Pl.RH} {rs : List Pl.Rt} {e : Pl.RH} {r : Pl.Rt} {o : Obj} (h : OwnTb w base v hs rs) (hr : ReadsZ w base e r) (h' : OwnR w' base v' (hs ++ [e])) (hg : (w.alloc o).grownBy w' v.ownBlock) : OwnTb w' base v' (hs ++ [e]) (rs ++ [r]) := by
 have key : ∀ x y, ReadsZ w base x y → ReadsZ w' base x y := by
  intro x y ⟨q1, q2, q3, q4, q5⟩
  exact ⟨q1, q2, q3, World.ownsRow.kept (World.ownsRow.alloc q4 o) hg (apartZR q4 h.1), q5⟩
 refine ⟨h', by simp [h.2.1], fun i hi => ?_⟩
 simp only [List.length_append, List.length_cons, List.length_nil] at hi
 rcases Nat.lt_or_ge i hs.length with q | q
 ·rw [Pl.rh_app_lt _ _ _ q, Pl.rt_app_lt _ _ _ (by rw [← h.2.1]; exact q)]
  exact key _ _ (h.2.2 i q)
 ·obtain rfl : i = hs.length := by omega
  rw [Pl.rh_app_at]
  have : Pl.rt (rs ++ [r]) hs.length = r := by rw [h.2.1]; exact Pl.rt_app_at rs r
  rw [this]
  exact key _ _ hr
structure Pl.Nt where
 D : Nat → Bool
 P : Nat → List (Int × Int)
 K : Nat → List Pl.Ent
 T : Nat → List Pl.Rt
 L : Nat → Nat → Int
def NetAt (w : World) (B : Nat) (s : Pl.Nt) : Prop := ∃ VP VK VT, NwAt w B s.D VP VK VT s.L ∧ (∀ i, i < 12 → OwnP 49 w (B + 1) (VP i) (s.P i)) ∧ (∀ i, i < 12 → Own w (B + 1) (VK i) (s.K i)) ∧
 (∀ i, i < 12 → ∃ hs, OwnTb w (B + 1) (VT i) hs (s.T i)) ∧ ∀ i j, i < 12 → j < 12 → i ≠ j → (VP i).ownBlock = none ∨ (VP i).ownBlock ≠ (VP j).ownBlock
structure NKept (B : Nat) (w w' : World) : Prop where
 os : w'.os = w.os
 tape : w'.tape = w.tape
 output : w'.output = w.output
 size : w.heap.size ≤ w'.heap.size
 block : ∀ k, k < w.heap.size → k ≠ B → (k < B ∨ ∀ cur m, w.heap[k]? ≠ some (.cells cur 49 m)) → w'.heap[k]? = w.heap[k]?
theorem NKept.refl (B : Nat) (w : World) : NKept B w w := ⟨rfl, rfl, rfl, Nat.le_refl _, fun _ _ _ _ => rfl⟩
theorem NKept.of {B : Nat} {w w' : World} (h : But B w w') : NKept B w w' := ⟨h.os, h.tape, h.output, h.size, fun k hk hB _ => h.block k hk hB⟩
theorem NKept.trans {B : Nat} {a b c : World} (h : NKept B a b) (k : NKept B b c) : NKept B a c :=
 ⟨k.os.trans h.os, k.tape.trans h.tape, k.output.trans h.output, Nat.le_trans h.size k.size, fun i hi hB ht => by
  have e := h.block i hi hB ht
  rw [k.block i (Nat.lt_of_lt_of_le hi h.size) hB (by rw [e]; exact ht), e]⟩
theorem ownsRow_but {B : Nat} {w w' : World} {base : Nat} {e : TypeId} {sz : Nat} {v : Value} {n : Nat} {xs : List Value} (h : w.ownsRow base e sz v n xs) (k : But B w w') (hB : B < base) : w'.ownsRow base e sz v n xs := by
 obtain ⟨h0, h1⟩ := h
 refine ⟨h0, ?_⟩
 rcases h1 with h1 | ⟨g, cap, cur, rfl, hb, hh, hr⟩
 ·exact .inl h1
 ·exact .inr ⟨g, cap, cur, rfl, hb, (k.block g (blockLt hh) (by omega)).trans hh, hr⟩
theorem OwnTb.but {B : Nat} {w w' : World} {base : Nat} {v : Value} {hs : List Pl.RH} {rs : List Pl.Rt} (h : OwnTb w base v hs rs) (k : But B w w') (hB : B < base) : OwnTb w' base v hs rs :=
 ⟨ownsRow_but h.1 k hB, h.2.1, fun i hi => by
  obtain ⟨q1, q2, q3, q4, q5⟩ := h.2.2 i hi
  exact ⟨q1, q2, q3, q4.but k (.inl hB), q5⟩⟩
theorem NetAt.lt {w B s} (h : NetAt w B s) : B < w.heap.size := by
 obtain ⟨_, _, _, h, _⟩ := h
 exact h.lt
theorem NetAt.below {w w' : World} {B s} (h : NetAt w B s) (k : Below w.heap.size w w') : NetAt w' B s := by
 obtain ⟨VP, VK, VT, h1, h2, h3, h4, h5⟩ := h
 exact ⟨VP, VK, VT, h1.below k, fun i hi => (h2 i hi).below k, fun i hi => (h3 i hi).below k, fun i hi => by obtain ⟨hs, q⟩ := h4 i hi; exact ⟨hs, q.below k⟩, h5⟩
theorem NetAt.box {w w' : World} {B s X} (h : NetAt w B s) (k : But X w w') (hX : X ≠ B) (hn : ∀ cur m, w.heap[X]? ≠ some (.cells cur 49 m) ∧ w.heap[X]? ≠ some (.cells cur 55 m) ∧ w.heap[X]? ≠ some (.cells cur 80 m) ∧ w.heap[X]? ≠ some (.cells cur 3 m)) : NetAt w' B s := by
 have key : ∀ {base : Nat} {e : TypeId} {sz : Nat} {v : Value} {n : Nat} {xs : List Value}, (∀ cur m, w.heap[X]? ≠ some (.cells cur e m)) → w.ownsRow base e sz v n xs → w'.ownsRow base e sz v n xs := by
  intro base e sz v n xs hne ⟨h0, h1⟩
  refine ⟨h0, ?_⟩
  rcases h1 with h1 | ⟨g, cap, cur, rfl, hb, hh, hr⟩
  ·exact .inl h1
  ·refine .inr ⟨g, cap, cur, rfl, hb, (k.block g (blockLt hh) ?_).trans hh, hr⟩
   rintro rfl
   exact hne _ _ hh
 obtain ⟨VP, VK, VT, h1, h2, h3, h4, h5⟩ := h
 refine ⟨VP, VK, VT, CellsAt.but h1 k (Ne.symm hX), fun i hi => key (fun c m => (hn c m).1) (h2 i hi), fun i hi => key (fun c m => (hn c m).2.1) (h3 i hi), fun i hi => ?_, h5⟩
 obtain ⟨hs, q⟩ := h4 i hi
 refine ⟨hs, key (fun c m => (hn c m).2.2.1) q.1, q.2.1, fun j hj => ?_⟩
 obtain ⟨q1, q2, q3, q4, q5⟩ := q.2.2 j hj
 exact ⟨q1, q2, q3, key (fun c m => (hn c m).2.2.2) q4, q5⟩
theorem NetAt.setKnows {w : World} {B s} (h : NetAt w B s) (a : Nat) (ha : a < 12) (v : Value) (es : List Pl.Ent) (hv : Own w (B + 1) v es) : NetAt (w.setCell ⟨B, a * 4 + 2, none⟩ v) B { s with K := Pl.upd s.K a es } := by
 obtain ⟨VP, VK, VT, h1, h2, h3, h4, h5⟩ := h
 have hb : But B w (w.setCell ⟨B, a * 4 + 2, none⟩ v) := (But.refl B w).setCell _ _
 refine ⟨VP, Pl.upd VK a v, VT, h1.setKnows a ha v, fun i hi => ownsRow_but (h2 i hi) hb (Nat.lt_succ_self _), fun i hi => ?_, fun i hi => ?_, h5⟩
 ·unfold Pl.upd
  by_cases e : i = a
  ·rw [if_pos e]; simp only [if_pos e]; exact ownsRow_but hv hb (Nat.lt_succ_self _)
  ·rw [if_neg e]; simp only [if_neg e]; exact ownsRow_but (h3 i hi) hb (Nat.lt_succ_self _)
 ·obtain ⟨hs, q⟩ := h4 i hi
  exact ⟨hs, q.but hb (Nat.lt_succ_self _)⟩
theorem NetAt.setTable {w : World} {B s} (h : NetAt w B s) (a : Nat) (ha : a < 12) (v : Value) (hs : List Pl.RH) (rs : List Pl.Rt) (hv : OwnTb w (B + 1) v hs rs) : NetAt (w.setCell ⟨B, a * 4 + 3, none⟩ v) B { s with T := Pl.upd s.T a rs } := by
 obtain ⟨VP, VK, VT, h1, h2, h3, h4, h5⟩ := h
 have hb : But B w (w.setCell ⟨B, a * 4 + 3, none⟩ v) := (But.refl B w).setCell _ _
 refine ⟨VP, VK, Pl.upd VT a v, h1.setTable a ha v, fun i hi => ownsRow_but (h2 i hi) hb (Nat.lt_succ_self _), fun i hi => ownsRow_but (h3 i hi) hb (Nat.lt_succ_self _), fun i hi => ?_, h5⟩
 unfold Pl.upd
 by_cases e : i = a
 ·rw [if_pos e]; simp only [if_pos e]; exact ⟨hs, hv.but hb (Nat.lt_succ_self _)⟩
 ·rw [if_neg e]; simp only [if_neg e]
  obtain ⟨gs, q⟩ := h4 i hi
  exact ⟨gs, q.but hb (Nat.lt_succ_self _)⟩
theorem NetAt.setPrefixes {w : World} {B s} (h : NetAt w B s) (a : Nat) (ha : a < 12) (v : Value) (ps : List (Int × Int)) (hv : OwnP 49 w (B + 1) v ps) (hap : ∀ VP VK VT, NwAt w B s.D VP VK VT s.L → ∀ i, i < 12 → i ≠ a → (v.ownBlock = none ∨ v.ownBlock ≠ (VP i).ownBlock) ∧ ((VP i).ownBlock = none ∨ (VP i).ownBlock ≠ v.ownBlock)) : NetAt (w.setCell ⟨B, a * 4 + 1, none⟩ v) B { s with P := Pl.upd s.P a ps } := by
 obtain ⟨VP, VK, VT, h1, h2, h3, h4, h5⟩ := h
 have hq := hap VP VK VT h1
 have hb : But B w (w.setCell ⟨B, a * 4 + 1, none⟩ v) := (But.refl B w).setCell _ _
 refine ⟨Pl.upd VP a v, VK, VT, h1.setPrefixes a ha v, fun i hi => ?_, fun i hi => ownsRow_but (h3 i hi) hb (Nat.lt_succ_self _), fun i hi => ?_, fun i j hi hj hne => ?_⟩
 ·unfold Pl.upd
  by_cases e : i = a
  ·rw [if_pos e]; simp only [if_pos e]; exact ownsRow_but hv hb (Nat.lt_succ_self _)
  ·rw [if_neg e]; simp only [if_neg e]; exact ownsRow_but (h2 i hi) hb (Nat.lt_succ_self _)
 ·obtain ⟨hs, q⟩ := h4 i hi
  exact ⟨hs, q.but hb (Nat.lt_succ_self _)⟩
 ·unfold Pl.upd
  by_cases e : i = a
  ·subst e
   rw [if_pos rfl, if_neg (Ne.symm hne)]
   exact (hq j hj (Ne.symm hne)).1
  ·rw [if_neg e]
   by_cases e2 : j = a
   ·subst e2
    rw [if_pos rfl]
    exact (hq i hi e).2
   ·rw [if_neg e2]
    exact h5 i j hi hj hne
end Go.Proofs.YtjjelkdajdeikaaGreatDoor
