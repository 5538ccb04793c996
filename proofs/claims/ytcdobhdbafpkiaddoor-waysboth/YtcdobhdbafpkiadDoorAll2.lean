/-
  Contracts and facts that the proof rests on, put together out of several texts.
-/
import Derived.Test.YtcdobhdbafpkiadDoorProg
import Derived.Test.YtcdobhdbafpkiadDoorAll1
import Derived.WalkLawsBesides
import Derived.WalkSpells
import Derived.Deep.RegionWith
import Derived.Deep.QuietTactic
import Derived.BigQuiet
import Derived.Lib.Strings
import Derived.Lib.Slices
import Derived.Lib.Walk
import Derived.Lib.Bytealg
import Derived.Laws.AppendOwnNone
import Derived.OwnWalk
import Derived.Deep.MidRow
/-
  Contracts: cutting a text at the first of a sign (strings.Cut at a sign of one byte), and cutting a sign off its head.
-/
namespace Go.Proofs.YtcdobhdbafpkiadDoor
open Go.RowKit
set_option maxRecDepth 20000

theorem Pl.index_cut (c : UInt8) : ∀ l : List UInt8, (Lib.indexByte l c = -1 ∧ Pl.cutL c l = (l, none)) ∨ ∃ i : Nat, i < l.length ∧ Lib.indexByte l c = i ∧ Pl.cutL c l = (l.take i, some (l.drop (i + 1)))
  | [] => .inl ⟨rfl, rfl⟩
  | b :: r => by
    by_cases e : b = c
    · right
      exact ⟨0, by simp, by simp [Lib.indexByte, e], by simp [Pl.cutL, e]⟩
    · rcases Pl.index_cut c r with ⟨h1, h2⟩ | ⟨i, hi, h1, h2⟩
      · left
        exact ⟨by simp [Lib.indexByte, e, h1], by simp [Pl.cutL, e, h2]⟩
      · right
        refine ⟨i + 1, by simpa using hi, ?_, by simp [Pl.cutL, e, h2]⟩
        rw [Lib.indexByte]
        simp only [beq_iff_eq, e, if_false, h1]
        rw [if_neg (by omega)]
        rfl
theorem ext_list (s : ByteArray) (i j : Nat) : (s.extract i j).data.toList = (s.data.toList.drop i).take (j - i) := by
  rw [ByteArray.data_extract, Array.toList_extract]
theorem sz_list (s : ByteArray) : s.data.toList.length = s.size := by simp
theorem u8_back (c : UInt8) : ((c.toNat : Int)).toNat.toUInt8 = c := by simp

set_option maxHeartbeats 1000000 in
set_option maxRecDepth 100000 in
theorem lIndexByte_any (s : ByteArray) (c : Int) (w : World) :
    Calls Tryd.prog 79 #[.string s, .int .u8 c] w fun e w' => e = .returned (.int .i64 (Lib.indexByte s.data.toList c.toNat.toUInt8)) ∧ w' = w := by
  go_enter Tryd.func79, Tryd.ntmps79
  go_wp2
  rw [run_callFunc_extern Tryd.func89 (by kernel_rfl) (by kernel_rfl) (by kernel_rfl) (e := Extern.BytealgIndexByte.indexByte) (by kernel_rfl), Lib.run_indexByteString]
  simp only [Result.andThen]
  rw [Oper.upon_value]
  go_wp2
  go_ret
  exact ⟨rfl, rfl⟩

set_option maxHeartbeats 1000000 in
theorem lIndex_any (s : ByteArray) (c : UInt8) (w : World) :
    Calls Tryd.prog 69 #[.string s, .string ⟨#[c]⟩] w fun e w' => e = .returned (.int .i64 (Lib.indexByte s.data.toList c)) ∧ w' = w := by
  go_enter Tryd.func69, Tryd.ntmps69
  go_wp2_with (go_at_call 79; refine (lIndexByte_any _ _ _).mono ?_; rintro e w' ⟨rfl, rfl⟩)
  · have h : ([c] == s.toList) = true := by assumption
    go_ret
    refine ⟨?_, rfl⟩
    have e : s.data.toList = [c] := by rw [← Lib.toList_data]; exact (beq_iff_eq.1 h).symm
    rw [e]
    simp [Lib.indexByte]
  · go_ret
    exact ⟨rfl, rfl⟩

set_option maxHeartbeats 1000000 in
theorem lCut_any (s : ByteArray) (c : UInt8) (w : World) (hs : s.size ≤ maxLen) :
    Calls Tryd.prog 58 #[.string s, .string ⟨#[c]⟩] w fun e w' => ∃ a b : ByteArray, e = .returned (.tuple #[.string a, .string b, .bool (Pl.cutL c s.data.toList).2.isSome]) ∧
      a.data.toList = (Pl.cutL c s.data.toList).1 ∧ b.data.toList = Pl.behind (Pl.cutL c s.data.toList).2 ∧ ∃ n, w' = w.drewN n := by
  unfold maxLen at hs
  rcases Pl.index_cut c s.data.toList with ⟨h1, h2⟩ | ⟨i, hi, h1, h2⟩
  · have H1 := hid h1
    have H2 := hid h2
    clear h1 h2
    go_enter Tryd.func58, Tryd.ntmps58
    go_wp2_with (go_at_call 69; refine (lIndex_any _ _ _).mono ?_; rw [H1.out]; rintro e w' ⟨rfl, rfl⟩)
    go_ret3
    exact ⟨s, ⟨#[]⟩, by rw [H2.out]; rfl, by rw [H2.out], by rw [H2.out]; rfl, 0, rfl⟩
  · have H1 := hid h1
    have H2 := hid h2
    clear h1 h2
    rw [sz_list] at hi
    go_enter Tryd.func58, Tryd.ntmps58
    go_wp2_with (go_at_call 69; refine (lIndex_any _ _ _).mono ?_; rw [H1.out]; rintro e w' ⟨rfl, rfl⟩)
    go_quiet (fail)
    go_wp2
    go_ret3
    refine ⟨_, _, by rw [H2.out]; rfl, ?_, ?_, _, rfl⟩
    · rw [H2.out, ext_list]; simp
    · rw [H2.out, ext_list, List.take_of_length_le (by simp)]; rfl

set_option maxHeartbeats 1000000 in
theorem Cut_any (s : ByteArray) (c : UInt8) (w : World) (hs : s.size ≤ maxLen) :
    Calls Tryd.prog 37 #[.string s, .string ⟨#[c]⟩] w fun e w' => ∃ a b : ByteArray, e = .returned (.tuple #[.string a, .string b, .bool (Pl.cutL c s.data.toList).2.isSome]) ∧
      a.data.toList = (Pl.cutL c s.data.toList).1 ∧ b.data.toList = Pl.behind (Pl.cutL c s.data.toList).2 ∧ ∃ n, w' = w.drewN n := by
  obtain ⟨x, HX⟩ : ∃ x, Hid (Pl.cutL c s.data.toList = x) := ⟨_, rfl⟩
  rw [HX.out]
  go_enter Tryd.func37, Tryd.ntmps37
  go_wp2_with (go_at_call 58; refine (lCut_any _ _ _ hs).mono ?_; rw [HX.out]; rintro e w' ⟨a, b, rfl, ha, hb, n, rfl⟩)
  go_ret3
  exact ⟨a, b, rfl, ha, hb, n, rfl⟩

/-- is a sign the first of a text? -/
def Pl.headB (c : UInt8) (l : List UInt8) : Bool := l.head? == some c
/-- a text without the sign at its head -/
def Pl.tailB (c : UInt8) (l : List UInt8) : List UInt8 := if Pl.headB c l then l.tail else l

set_option maxHeartbeats 1000000 in
theorem CutPrefix_any (s : ByteArray) (c : UInt8) (w : World) (hs : s.size ≤ maxLen) :
    Calls Tryd.prog 20 #[.string s, .string ⟨#[c]⟩] w fun e w' => ∃ a : ByteArray, e = .returned (.tuple #[.string a, .bool (Pl.headB c s.data.toList)]) ∧
      a.data.toList = Pl.tailB c s.data.toList ∧ w' = w := by
  unfold maxLen at hs
  by_cases h : Pl.headB c s.data.toList = true
  · have h1 : 1 ≤ s.size := by
      rw [← sz_list]
      unfold Pl.headB at h
      cases hl : s.data.toList <;> simp [hl] at h ⊢
    have h2 : ((s.extract 0 1).toList == [c]) = true := by
      rw [Lib.toList_data, ext_list]
      unfold Pl.headB at h
      cases hl : s.data.toList <;> simp [hl] at h ⊢
      exact h
    have H := hid h
    clear h
    go_enter Tryd.func20, Tryd.ntmps20
    go_wp2
    go_ret2
    refine ⟨_, by rw [H.out]; rfl, ?_, rfl⟩
    rw [ext_list]
    unfold Pl.tailB
    rw [H.out, List.take_of_length_le (by simp)]
    simp
  · have H : Hid (Pl.headB c s.data.toList = false) := hid (by simpa using h)
    clear h
    rcases Nat.lt_or_ge s.size 1 with h1 | h1
    · go_enter Tryd.func20, Tryd.ntmps20
      go_wp2
      go_ret2
      exact ⟨s, by rw [H.out]; rfl, by unfold Pl.tailB; rw [H.out]; rfl, rfl⟩
    · have h2 : ((s.extract 0 1).toList == [c]) = false := by
        rw [Lib.toList_data, ext_list]
        have h := H.out
        unfold Pl.headB at h
        rw [← sz_list] at h1
        cases hl : s.data.toList <;> simp [hl] at h h1 ⊢
        exact h
      go_enter Tryd.func20, Tryd.ntmps20
      go_wp2
      go_ret2
      exact ⟨s, by rw [H.out]; rfl, by unfold Pl.tailB; rw [H.out]; rfl, rfl⟩
end Go.Proofs.YtcdobhdbafpkiadDoor
/-
  Contracts: the number that a text tells: readNumber and the document's numOf.
-/
namespace Go.Proofs.YtcdobhdbafpkiadDoor
open Go.RowKit
set_option maxRecDepth 20000

theorem Pl.val_take (s : ByteArray) (k : Nat) (h : k < s.size) : Pl.val (s.data.toList.take (k + 1)) = 10 * Pl.val (s.data.toList.take k) + ((s[k].toNat : Int) - 48) := by
  rw [Pl.take_snoc s k h, Pl.val_snoc]
theorem Pl.dgs_take (s : ByteArray) (k : Nat) (h : k < s.size) : Pl.dgs (s.data.toList.take (k + 1)) = (Pl.dgs (s.data.toList.take k) && Pl.dg s[k]) := by
  rw [Pl.take_snoc s k h, Pl.dgs_snoc]
theorem Pl.dgs_bad (s : ByteArray) (k : Nat) (h : k < s.size) (hb : Pl.dg s[k] = false) : Pl.dgs s.data.toList = false :=
  Pl.dgs_false (l := s.data.toList) (k := k) (by simpa using h) hb
theorem Pl.val_bound {l : List UInt8} (h : l.length ≤ 6) (k : Pl.dgs l = true) : 0 ≤ Pl.val l ∧ Pl.val l < 1000000 := by
  obtain ⟨h1, h2⟩ := Pl.val_nonneg _ l rfl k
  refine ⟨h1, ?_⟩
  have h3 : (10 : Int) ^ l.length ≤ 10 ^ 6 := by
    have : l.length = 0 ∨ l.length = 1 ∨ l.length = 2 ∨ l.length = 3 ∨ l.length = 4 ∨ l.length = 5 ∨ l.length = 6 := by omega
    rcases this with h | h | h | h | h | h | h <;> rw [h] <;> decide
  omega
theorem Pl.head_get (s : ByteArray) (h : 0 < s.size) : s.data.toList.head? = some s[0] := by
  rw [List.head?_eq_getElem?, List.getElem?_eq_getElem (by simpa using h)]; rfl
theorem take_all (s : ByteArray) : s.data.toList.take s.size = s.data.toList := List.take_of_length_le (by simp)

set_option maxHeartbeats 1000000 in
theorem readNumber_any (s : ByteArray) (w : World) (hs : s.size ≤ maxLen) :
    Calls Tryd.prog 59 #[.string s] w fun e w' => ∃ x : Int, e = .returned (.tuple #[.int .i64 x, .bool (Pl.numL s.data.toList).isSome]) ∧
      (∀ n, Pl.numL s.data.toList = some n → x = n) ∧ w' = w := by
  unfold maxLen at hs
  rcases Nat.lt_or_ge s.size 1 with h0 | h0
  · have hN := hid (Pl.numL_size (l := s.data.toList) (by rw [sz_list]; omega))
    have he : s.toList = [] := by rw [Lib.toList_data]; exact List.length_eq_zero_iff.1 (by rw [sz_list]; omega)
    go_enter Tryd.func59, Tryd.ntmps59
    go_wp2
    go_ret2
    exact ⟨0, by rw [hN.out]; rfl, by rw [hN.out]; simp, rfl⟩
  have he : (s.toList == []) = false := by
    rw [Lib.toList_data]
    cases hl : s.data.toList
    · have := sz_list s; rw [hl] at this; simp at this; omega
    · rfl
  rcases Nat.lt_or_ge 6 s.size with h6 | h6
  · have hN := hid (Pl.numL_size (l := s.data.toList) (by rw [sz_list]; omega))
    go_enter Tryd.func59, Tryd.ntmps59
    go_wp2
    go_ret2
    exact ⟨0, by rw [hN.out]; rfl, by rw [hN.out]; simp, rfl⟩
  have hH := hid (Pl.head_get s h0)
  by_cases hz : (s[0].toNat : Int) = 48 ∧ 1 < s.size
  · obtain ⟨hz1, hz2⟩ := hz
    have hN : Hid (Pl.numL s.data.toList = none) := hid (Pl.numL_zero (by rw [hH.out]; congr 1; apply UInt8.toNat_inj.1; show _ = 48; omega) (by rw [sz_list]; omega))
    have hq : (s.toList == [48]) = false := by
      rw [Lib.toList_data]
      rw [beq_eq_false_iff_ne]; intro e
      have := sz_list s; rw [e] at this; simp at this; omega
    go_enter Tryd.func59, Tryd.ntmps59
    go_wp2
    go_ret2
    exact ⟨0, by rw [hN.out]; rfl, by rw [hN.out]; simp, rfl⟩
  · have HZ : Hid (¬ (s.data.toList.head? = some 48 ∧ 1 < s.data.toList.length)) := by
      refine hid ?_
      rw [hH.out, sz_list]
      rintro ⟨e, k⟩
      simp at e
      exact hz ⟨by rw [e]; rfl, k⟩
    have hgo : ((s[0].toNat : Int) = 48 ∧ (s.toList == [48]) = true) ∨ ((s[0].toNat : Int) == 48) = false := by
      by_cases e : (s[0].toNat : Int) = 48
      · left
        refine ⟨e, ?_⟩
        have hs1 : s.size = 1 := by
          rcases Nat.lt_or_ge 1 s.size with h | h
          · exact absurd ⟨e, h⟩ hz
          · omega
        rw [Lib.toList_data, beq_iff_eq]
        have h1 := hH.out
        have h2 := sz_list s
        rw [hs1] at h2
        match hl : s.data.toList, h2 with
        | [x], _ =>
          rw [hl] at h1
          simp at h1
          rw [h1]
          congr 1
          apply UInt8.toNat_inj.1
          show _ = 48
          omega
      · right
        simpa using e
    clear hz
    rcases hgo with ⟨hg1, hg2⟩ | hg1
    all_goals
      go_enter Tryd.func59, Tryd.ntmps59
      go_wp2
      go_loop [4, 24] (fun n i => ∃ (k : Nat) (v : Int), k ≤ s.size ∧ i = .int .i64 k ∧ n = .int .i64 v ∧ Hid (v = Pl.val (s.data.toList.take k)) ∧ Hid (Pl.dgs (s.data.toList.take k) = true) ∧ 0 ≤ v ∧ v < 1000000) (fun _ i => s.size - (intOf i).toNat)
      case atStart => exact ⟨0, 0, Nat.zero_le _, rfl, rfl, rfl, rfl, by omega, by omega⟩
      case round =>
        obtain ⟨k, v, hk, rfl, rfl, HV, HD, hv0, hv1⟩ := hrel
        by_cases hlt : k < s.size
        · have hbl := byte_le s[k]
          by_cases a1 : (s[k].toNat : Int) < 48
          · have HB : Hid (Pl.numL s.data.toList = none) := hid (Pl.numL_bad (Pl.dgs_bad s k hlt (by unfold Pl.dg; rw [decide_eq_false (by omega)])))
            go_wp2
            go_ret2
            exact ⟨0, by rw [HB.out]; rfl, by rw [HB.out]; simp, rfl⟩
          · by_cases a2 : 57 < (s[k].toNat : Int)
            · have HB : Hid (Pl.numL s.data.toList = none) := hid (Pl.numL_bad (Pl.dgs_bad s k hlt (by unfold Pl.dg; rw [decide_eq_false (by omega)])))
              go_wp2
              go_ret2
              exact ⟨0, by rw [HB.out]; rfl, by rw [HB.out]; simp, rfl⟩
            · have HX : Hid (Pl.val (s.data.toList.take (k + 1)) = 10 * v + ((s[k].toNat : Int) - 48) ∧ Pl.dgs (s.data.toList.take (k + 1)) = true) := by
                refine hid ⟨?_, ?_⟩
                · rw [Pl.val_take s k hlt, HV.out]
                · rw [Pl.dgs_take s k hlt, HD.out]; unfold Pl.dg; rw [decide_eq_true (by omega)]; rfl
              have hB := Pl.val_bound (l := s.data.toList.take (k + 1)) (by simp; omega) HX.out.2
              rw [HX.out.1] at hB
              have hwr : IntKind.u8.wrap ((s[k].toNat : Int) - 48) = (s[k].toNat : Int) - 48 := by
                simp [IntKind.wrap, IntKind.signed, IntKind.bits]; omega
              go_wp2
              go_round
              case rel => exact ⟨k + 1, 10 * v + ((s[k].toNat : Int) - 48), by omega, by go_num, by go_num, hid HX.out.1.symm, HX.out.2, by omega, by omega⟩
              case measure => simp [intOf]; omega
        · obtain rfl : k = s.size := by omega
          have HT := hid (take_all s)
          have HV' : Hid (v = Pl.val s.data.toList) := by rw [HT.out] at HV; exact HV
          have HD' : Hid (Pl.dgs s.data.toList = true) := by rw [HT.out] at HD; exact HD
          by_cases hgr : v ≤ 100000
          · have HN := hid (Pl.numL_some (l := s.data.toList) (by rw [sz_list]; omega) (by rw [sz_list]; omega) HZ.out HD'.out (by rw [← HV'.out]; exact hgr))
            go_wp2
            go_ret2
            exact ⟨v, by rw [HN.out]; simp, by rw [HN.out, ← HV'.out]; simp, rfl⟩
          · have HN := hid (Pl.numL_great (l := s.data.toList) (by rw [← HV'.out]; exact hgr))
            go_wp2
            go_ret2
            exact ⟨v, by rw [HN.out]; simp, by rw [HN.out]; simp, rfl⟩

/-- a number, or -1 -/
def Pl.numI (l : List UInt8) : Int := (Pl.numL l).getD (-1)

end Go.Proofs.YtcdobhdbafpkiadDoor
/-
  Contracts: a pair of numbers that a text tells: readPair and the document's pairOf.
-/
namespace Go.Proofs.YtcdobhdbafpkiadDoor
open Go.RowKit
set_option maxRecDepth 20000

theorem Pl.cut_size {m : UInt8} {s a b : ByteArray} (ha : a.data.toList = (Pl.cutL m s.data.toList).1) (hb : b.data.toList = Pl.behind (Pl.cutL m s.data.toList).2) : a.size ≤ s.size ∧ b.size ≤ s.size := by
  rw [← sz_list a, ← sz_list b, ← sz_list s, ha, hb]
  obtain ⟨h1, h2⟩ := Pl.cutL_len m s.data.toList
  refine ⟨h1, ?_⟩
  cases h : (Pl.cutL m s.data.toList).2
  · simp [Pl.behind]
  · have := h2 _ h; simp only [Pl.behind, Option.getD_some]; omega

set_option maxHeartbeats 1000000 in
theorem readPair_any (s : ByteArray) (m : UInt8) (w : World) (hs : s.size ≤ maxLen) :
    Calls Tryd.prog 38 #[.string s, .string ⟨#[m]⟩] w fun e w' => ∃ x y : Int, e = .returned (.tuple #[.agg #[.int .i64 x, .int .i64 y], .bool (Pl.pairL m s.data.toList).isSome]) ∧
      (∀ p, Pl.pairL m s.data.toList = some p → (x, y) = p) ∧ Below w.heap.size w w' := by
  have HS := hid hs
  clear hs
  obtain ⟨na, HA⟩ : ∃ x, Hid (Pl.numL (Pl.cutL m s.data.toList).1 = x) := ⟨_, rfl⟩
  obtain ⟨nb, HB⟩ : ∃ x, Hid (Pl.numL (Pl.behind (Pl.cutL m s.data.toList).2) = x) := ⟨_, rfl⟩
  obtain ⟨np, HP⟩ : ∃ x, Hid (Pl.pairL m s.data.toList = x) := ⟨_, rfl⟩
  have HC : Hid (∀ x y : Int, (∀ n, na = some n → x = n) → (∀ n, nb = some n → y = n) → (na.isSome && nb.isSome) = np.isSome ∧ (∀ p, np = some p → (x, y) = p)) := by
    refine hid fun x y hx hy => ?_
    have hp := HP.out
    unfold Pl.pairL at hp
    rw [HA.out, HB.out] at hp
    cases na <;> cases nb <;> simp at hp hx hy <;> subst hp <;> simp [hx, hy]
  rw [HP.out]
  go_enter Tryd.func38, Tryd.ntmps38
  go_wp2_with (go_at_call 37; refine (Cut_any _ _ _ HS.out).mono ?_; rintro e w1 ⟨a, b, rfl, ha, hb, n, rfl⟩)
  have HSZ := hid (Pl.cut_size ha hb)
  have HA1 := hid ha
  have HB1 := hid hb
  clear ha hb
  refine (readNumber_any a _ (Nat.le_trans HSZ.out.1 HS.out)).mono ?_
  rw [HA1.out, HA.out]
  rintro e w2 ⟨x, rfl, hx, rfl⟩
  have HX := hid hx
  clear hx
  go_wp2_with (go_at_call 59; refine (readNumber_any b _ (Nat.le_trans HSZ.out.2 HS.out)).mono ?_; rw [HB1.out, HB.out]; rintro e w3 ⟨y, rfl, hy, rfl⟩; have HY := hid hy; clear hy)
  all_goals
    refine bodyPost_ret (v := .tuple #[.agg #[.int .i64 x, .int .i64 y], .bool np.isSome]) (by rw [← (HC.out x y HX.out HY.out).1]; simp_all [results, Tryd.results38, go_sem]) rfl ⟨x, y, rfl, (HC.out x y HX.out HY.out).2, ((below_drew ((Below.refl _ _).alloc (Nat.le_refl _) _) n).setCell (Nat.le_refl _) _).setCell (Nat.le_refl _) _⟩

end Go.Proofs.YtcdobhdbafpkiadDoor
/-
  Rows of pairs, and of texts, that a call itself has made: what they hold, and how one more is appended.
-/
namespace Go.Proofs.YtcdobhdbafpkiadDoor
open Go.RowKit
set_option maxRecDepth 20000

def cellsP : List (Int × Int) → List Value
  | [] => []
  | p :: r => .int .i64 p.1 :: .int .i64 p.2 :: cellsP r
theorem cellsP_len : ∀ ps : List (Int × Int), (cellsP ps).length = ps.length * 2
  | [] => rfl
  | p :: r => by simp [cellsP, cellsP_len r]; omega
theorem cellsP_append : ∀ (a b : List (Int × Int)), cellsP (a ++ b) = cellsP a ++ cellsP b
  | [], _ => rfl
  | p :: r, b => by simp [cellsP, cellsP_append r b]
theorem cellsP_one : ∀ ps : List (Int × Int), ∀ u ∈ cellsP ps, u.oneCell' = true
  | [], u, h => by simp [cellsP] at h
  | p :: r, u, h => by
    simp only [cellsP, List.mem_cons] at h
    rcases h with rfl | rfl | h
    · rfl
    · rfl
    · exact cellsP_one r u h
theorem cellsP_get : ∀ (ps : List (Int × Int)) (i : Nat), i < ps.length → (cellsP ps)[i * 2]? = some (.int .i64 (Pl.pr ps i).1) ∧ (cellsP ps)[i * 2 + 1]? = some (.int .i64 (Pl.pr ps i).2)
  | [], i, h => by simp at h
  | p :: r, 0, _ => by simp [cellsP, Pl.pr]
  | p :: r, i + 1, h => by
    have := cellsP_get r i (by simpa using h)
    rw [show (i + 1) * 2 = i * 2 + 2 by omega]
    simpa [cellsP, Pl.pr] using this

theorem blockLt {w : World} {g : Nat} {o : Obj} (h : w.heap[g]? = some o) : g < w.heap.size := by
  rcases Nat.lt_or_ge g w.heap.size with h' | h'
  · exact h'
  · rw [Array.getElem?_eq_none h'] at h; cases h

/-- a slice value over a row of pairs of the call's own; T: the pairs' type -/
def OwnP (T : TypeId) (w : World) (base : Nat) (v : Value) (ps : List (Int × Int)) : Prop := w.ownsRow base T 2 v ps.length (cellsP ps)
theorem ownsRow_under {w w' : World} {base : Nat} {e : TypeId} {sz : Nat} {v : Value} {n : Nat} {xs : List Value} (h : w.ownsRow base e sz v n xs) (k : Below w.heap.size w w') : w'.ownsRow base e sz v n xs := by
  obtain ⟨h0, h1⟩ := h
  refine ⟨h0, ?_⟩
  rcases h1 with h1 | ⟨g, cap, cur, rfl, hb, hh, hr⟩
  · exact .inl h1
  · exact .inr ⟨g, cap, cur, rfl, hb, (k.block g (blockLt hh)).trans hh, hr⟩
theorem OwnP.below {T : TypeId} {w w' : World} {base : Nat} {v : Value} {ps : List (Int × Int)} (h : OwnP T w base v ps) (k : Below w.heap.size w w') : OwnP T w' base v ps := ownsRow_under h k
theorem OwnP.nil (T : TypeId) (w : World) (base : Nat) : OwnP T w base (.slice none 0 0) [] := World.ownsRow_nil _ _ _ _
theorem OwnP.mono {T : TypeId} {w : World} {base base' : Nat} {v : Value} {ps : List (Int × Int)} (h : OwnP T w base v ps) (k : base' ≤ base) : OwnP T w base' v ps := by
  obtain ⟨h0, h1⟩ := h
  refine ⟨h0, ?_⟩
  rcases h1 with h1 | ⟨g, cap, cur, rfl, hb, hr⟩
  · exact .inl h1
  · exact .inr ⟨g, cap, cur, rfl, by omega, hr⟩
theorem OwnP.shape {T : TypeId} {w : World} {base : Nat} {v : Value} {ps : List (Int × Int)} (h : OwnP T w base v ps) (hok : ∀ p ∈ ps, Pl.pairOk p) :
    ∃ a cap, v = .slice a ps.length cap ∧ IsPairs w a ps.length cap ps ∧ (a = none → cap = 0) ∧ (∀ x, a = some x → base ≤ x.block) := by
  obtain ⟨_, h | ⟨g, cap, cur, rfl, hb, hh, hn, hm, hs, hx⟩⟩ := h
  · obtain ⟨rfl, hn⟩ := h
    have hes : ps = [] := List.length_eq_zero_iff.1 hn
    subst hes
    exact ⟨none, 0, rfl, ⟨rfl, Nat.le_refl _, by simp, hok, .inl rfl⟩, fun _ => rfl, by simp⟩
  · refine ⟨some ⟨g, 0, none⟩, cap, rfl, ⟨rfl, hn, hm, hok, ?_⟩, by simp, by rintro x ⟨⟩; exact hb⟩
    rcases ps with _ | ⟨e, r⟩
    · exact .inl rfl
    · right
      refine ⟨g, 0, rfl, blockLt hh, ?_⟩
      have hcell : ∀ j u, (cellsP (e :: r))[j]? = some u → w.cell? ⟨g, 0 + j, none⟩ = some u := by
        intro j u hj
        rw [← hx] at hj
        have hj' : cur[j]? = some u := by
          rw [List.getElem?_take] at hj
          split at hj
          · rw [← Array.getElem?_toList]; exact hj
          · cases hj
        simp [World.cell?, hh, hj']
      intro i hi
      obtain ⟨h0, h1⟩ := cellsP_get _ i hi
      have c0 := hcell _ _ h0
      have c1 := hcell _ _ h1
      exact ⟨c0, by rw [Nat.add_assoc]; exact c1⟩
theorem OwnP.slice {T : TypeId} {w : World} {base : Nat} {v : Value} {ps : List (Int × Int)} (h : OwnP T w base v ps) : ∃ a n cap, v = .slice a n cap := by
  obtain ⟨_, h | ⟨g, cap, cur, rfl, _⟩⟩ := h
  · exact ⟨_, _, _, h.1⟩
  · exact ⟨_, _, _, rfl⟩
theorem partsOf {t : TypeId} {z : Value} {n m : Nat} (h : (Tryd.prog.info? t).map (fun i => (i.zero, i.size, i.bytes)) = some (some z, n, m)) : ∃ i, Tryd.prog.info? t = some i ∧ i.zero = some z ∧ i.size = n ∧ i.bytes = m := by
  cases hi : Tryd.prog.info? t with
  | none => rw [hi] at h; cases h
  | some i => rw [hi] at h; simp at h; exact ⟨i, rfl, h.1, h.2.1, h.2.2⟩

theorem append_pairT {tS tE : TypeId} (hS : Tryd.prog.underlying tS = some (.slice tE)) (hI : (Tryd.prog.info? tE).map (fun i => (i.zero, i.size, i.bytes)) = some (some (.agg #[.int .i64 0, .int .i64 0]), 2, 16))
    {w : World} {ops : Array Oper} {rest : List Oper} {o : Oper} {a : Act} {Q : Exit → Act → World → Prop} (hgd : o.guard = none) (s x : Operand)
    (ho : o.op = .call { callee := .builtin .append, args := #[s, x], argTypes := #[tS, tS] })
    (base : Nat) (v : Value) (ps : List (Int × Int)) (p : Int × Int) (hs : a.eval s = v) (hown : OwnP tE w base v ps) (hbase : base ≤ w.heap.size) (hx : a.eval x = .slice (some ⟨w.heap.size, 0, none⟩) 1 1) (hb : (ps.length + 1) * 16 ≤ 140737488355328)
    (h : ∀ v' w', OwnP tE w' base v' (ps ++ [p]) → Below base w w' → (w.alloc (.cells #[.int .i64 p.1, .int .i64 p.2] tE)).grownBy w' v.ownBlock → wpList Tryd.prog ops Q rest (a.put o.dst v') w') :
    wpList Tryd.prog ops Q (o :: rest) a (w.alloc (.cells #[.int .i64 p.1, .int .i64 p.2] tE)) := by
  obtain ⟨i0, hi0, hz0, hz1, hz2⟩ := partsOf hI
  refine wpList_append_own (w := _) hgd s x tS ho base tE i0 _ 2 16 hS hi0 hz0 hz1 hz2 rfl (by decide) _ ps.length (cellsP ps) hs (World.ownsRow.alloc hown _) ⟨w.heap.size, 0, none⟩ 1 1 [.int .i64 p.1, .int .i64 p.2] hx rfl ?_ ?_ (by unfold maxLen; omega) hb (by simp; omega) ?_
  · intro j u hj
    rw [add_none]
    match j, hj with
    | 0, hj => simp at hj; subst hj; simp
    | 1, hj => simp at hj; subst hj; simp
  · intro u hu; simp at hu; rcases hu with rfl | rfl <;> rfl
  · intro v' w' hown' hg _
    have hlt := World.ownsRow.lt hown
    refine h v' w' ?_ (((Below.refl _ _).alloc hbase _).grown hg (by simp; omega) (fun k hk => (hlt k hk).1)) hg
    unfold OwnP
    rw [cellsP_append]
    simpa [cellsP] using hown'
end Go.Proofs.YtcdobhdbafpkiadDoor
/-
  Contracts: the pairs that a text tells: readPairs and, cut at each comma, the document's cuts.
-/
namespace Go.Proofs.YtcdobhdbafpkiadDoor
open Go.RowKit
set_option maxRecDepth 20000

def mz : Value → Value → Nat
  | .string t, .bool true => t.size + 1
  | _, _ => 0
theorem infoPair : (Tryd.prog.info? 69).map (fun i => (i.zero, i.size, i.bytes)) = some (some (.agg #[.int .i64 0, .int .i64 0]), 2, 16) := by kernel_rfl
theorem toList_ne (s : ByteArray) (h : 0 < s.size) : (s.toList == []) = false := by
  rw [Lib.toList_data]
  cases hl : s.data.toList
  · have := sz_list s; rw [hl] at this; simp at this; omega
  · rfl

set_option maxHeartbeats 2000000 in
theorem readPairs_any (s : ByteArray) (m : UInt8) (w : World) (hs : s.size ≤ 4398046511104) :
    Calls Tryd.prog 21 #[.string s, .string ⟨#[m]⟩] w fun e w' => ∃ vl : Value, e = .returned (.tuple #[vl, .bool (Pl.pairsL m s.data.toList).isSome]) ∧
      OwnP 69 w' w.heap.size vl ((Pl.pairsL m s.data.toList).getD []) ∧ Below w.heap.size w w' := by
  obtain ⟨np, HP⟩ : ∃ x, Hid (Pl.pairsL m s.data.toList = x) := ⟨_, rfl⟩
  rw [HP.out]
  rcases Nat.eq_zero_or_pos s.size with h0 | h0
  · have he : s.toList = [] := by rw [Lib.toList_data]; exact List.length_eq_zero_iff.1 (by rw [sz_list]; omega)
    have HN : Hid (np = some []) := hid (by rw [← HP.out]; unfold Pl.pairsL; rw [if_pos (List.length_eq_zero_iff.1 (by rw [sz_list]; omega))])
    go_enter Tryd.func21, Tryd.ntmps21
    go_wp2
    go_ret2
    exact ⟨_, by rw [HN.out]; rfl, by rw [HN.out]; exact OwnP.nil _ _ _, Below.refl _ _⟩
  · have he := toList_ne s h0
    have HN : Hid (np = Pl.andThen [] (Pl.pairsP m (Pl.parts s.data.toList))) := by
      refine hid ?_
      rw [← HP.out]; unfold Pl.pairsL
      rw [if_neg (by intro h; have := sz_list s; rw [h] at this; simp at this; omega)]
      cases Pl.pairsP m (Pl.parts s.data.toList) <;> simp [Pl.andThen]
    go_enter Tryd.func21, Tryd.ntmps21
    go_wp2
    go_loopw [0, 6, 7] (fun s' vl mo wr => ∃ (t : ByteArray) (acc : List (Int × Int)) (b : Bool) (vv : Value), vv = vl ∧ s' = .string t ∧ mo = .bool b ∧ Hid (OwnP 69 wr w.heap.size vv acc) ∧ acc.length + t.size ≤ s.size + 1 ∧ t.size ≤ s.size ∧ (b = true → acc.length + t.size ≤ s.size) ∧ Hid (b = true → np = Pl.andThen acc (Pl.pairsP m (Pl.parts t.data.toList))) ∧ Hid (b = false → np = some acc) ∧ Below w.heap.size w wr) (fun s' _ mo _ => mz s' mo)
    case atStart => exact ⟨s, [], true, _, rfl, rfl, rfl, hid (OwnP.nil _ _ _), by simp, Nat.le_refl _, by simp, hid (fun _ => HN.out), hid (by simp), Below.refl _ _⟩
    case round =>
      obtain ⟨t, acc, b, vl, rfl, rfl, rfl, HO, hsz, htz, hsb, HT, HF, hb⟩ := hrel
      cases b
      · have HF' := hid (HF.out rfl)
        clear HF HT hsb
        go_wp2
        go_ret2
        exact ⟨vl, by rw [HF'.out]; rfl, by rw [HF'.out]; exact HO.out, hb⟩
      · have hsb' := hsb rfl
        clear hsb
        obtain ⟨cu, HCU⟩ : ∃ x, Hid (Pl.cutL 44 t.data.toList = x) := ⟨_, rfl⟩
        obtain ⟨c1, c2⟩ := cu
        obtain ⟨q, HQ⟩ : ∃ x, Hid (Pl.pairL m c1 = x) := ⟨_, rfl⟩
        have HTS : Hid (t.size ≤ maxLen) := hid (by unfold maxLen; omega)
        have HT' := hid (HT.out rfl)
        clear HT HF
        cases q with
        | none =>
          have HNN : Hid (np = none) := by
            refine hid ?_
            rw [HT'.out]
            cases c2 with
            | none => rw [Pl.parts_none (by rw [HCU.out]), HCU.out, Pl.pairsP_none HQ.out]; rfl
            | some r => rw [Pl.parts_some (r := r) (by rw [HCU.out]), HCU.out, Pl.pairsP_none HQ.out]; rfl
          go_wp2_with fail
          refine (Cut_any t 44 _ HTS.out).mono ?_
          rw [HCU.out]
          rintro e w1 ⟨a, d, rfl, ha, hd, n, rfl⟩
          have HA := hid ha
          have HSZ := hid (Pl.cut_size (m := 44) (s := t) (a := a) (b := d) (by rw [HCU.out]; exact ha) (by rw [HCU.out]; exact hd))
          clear ha hd
          go_wp2_with fail
          refine (readPair_any a m _ (Nat.le_trans HSZ.out.1 HTS.out)).mono ?_
          rw [HA.out, HQ.out]
          rintro e w2 ⟨x, y, rfl, _, hb2⟩
          go_wp2_with fail
          go_ret2
          exact ⟨_, by rw [HNN.out]; rfl, by rw [HNN.out]; exact OwnP.nil _ _ _, by have hb3 := (below_drew hb n).trans (hb2.mono hb.size); exact hb3.alloc (hb3.size) _⟩
        | some p =>
          go_wp2_with fail
          refine (Cut_any t 44 _ HTS.out).mono ?_
          rw [HCU.out]
          rintro e w1 ⟨a, d, rfl, ha, hd, n, rfl⟩
          have HA := hid ha
          have HD := hid hd
          have HSZ := hid (Pl.cut_size (m := 44) (s := t) (a := a) (b := d) (by rw [HCU.out]; exact ha) (by rw [HCU.out]; exact hd))
          clear ha hd
          go_wp2_with fail
          refine (readPair_any a m _ (Nat.le_trans HSZ.out.1 HTS.out)).mono ?_
          rw [HA.out, HQ.out]
          rintro e w2 ⟨x, y, rfl, hxy, hb2⟩
          obtain rfl := hxy p rfl
          clear hxy
          have hb3 : Below w.heap.size w w2 := (below_drew hb n).trans (hb2.mono hb.size)
          have hb4 : Below w.heap.size w (w2.alloc (.cells #[.int .i64 x, .int .i64 y] 69)) := hb3.alloc hb3.size _
          have hb5 : Below wr.heap.size wr (w2.alloc (.cells #[.int .i64 x, .int .i64 y] 69)) := ((below_drew (Below.refl _ _) n).trans hb2).alloc hb2.size _
          have HO4 := hid (HO.out.below hb5)
          have hz4 := hb4.size
          have HW4 := hid hb4
          clear hb5 hb2 hb4
          go_wp2_with (at_builtin; refine append_pairT Tryd.underlying67 infoPair rfl (.tmp 28) (.tmp 30) rfl w.heap.size vl acc (x, y) rfl HO4.out hz4 (by show Value.slice (some ⟨w2.heap.size + 1, 0, none⟩) 1 1 = _; simp) (by omega) ?_; intro v5 w5 ho5 hb5 _; have HO5 := hid ho5; clear ho5)
          have hb6 : Below w.heap.size w w5 := HW4.out.trans (hb5.mono (Nat.le_refl _))
          cases c2 with
          | none =>
            have HN' : Hid (np = some (acc ++ [(x, y)])) := by
              refine hid ?_
              rw [HT'.out, Pl.parts_none (by rw [HCU.out]), HCU.out, Pl.pairsP_some HQ.out]; simp [Pl.pairsP, Pl.andThen]
            have hdz : d.size = 0 := by rw [← sz_list, HD.out]; rfl
            go_roundw
            case rel => exact ⟨d, acc ++ [(x, y)], false, _, rfl, rfl, rfl, HO5, by simp; omega, by omega, by simp, hid (by simp), hid (fun _ => HN'.out), hb6⟩
            case measure => simp [mz]
          | some r =>
            have HN' : Hid (np = Pl.andThen (acc ++ [(x, y)]) (Pl.pairsP m (Pl.parts d.data.toList))) := by
              refine hid ?_
              rw [HT'.out, Pl.parts_some (r := r) (by rw [HCU.out]), HCU.out, Pl.pairsP_some HQ.out, HD.out]; rfl
            have hdz : d.size + 1 ≤ t.size := by
              have h := (Pl.cutL_len 44 t.data.toList).2 r (by rw [HCU.out])
              rw [← sz_list d, HD.out, ← sz_list t]
              show r.length + 1 ≤ _
              omega
            go_roundw
            case rel => exact ⟨d, acc ++ [(x, y)], true, _, rfl, rfl, rfl, HO5, by simp; omega, by omega, by simp; omega, hid (fun _ => HN'.out), hid (by simp), hb6⟩
            case measure => simp [mz]; omega
end Go.Proofs.YtcdobhdbafpkiadDoor
/-
  Contract: a text, cut at each comma: the document's cuts.
-/
namespace Go.Proofs.YtcdobhdbafpkiadDoor
open Go.RowKit
set_option maxRecDepth 20000

/-- a slice value over a row of texts of the call's own -/
def OwnT (w : World) (base : Nat) (v : Value) (ks : List ByteArray) : Prop := w.ownsRow base 9 1 v ks.length (ks.map Value.string)
theorem infoText : (Tryd.prog.info? 9).map (fun i => (i.zero, i.size, i.bytes)) = some (some (.string ⟨#[]⟩), 1, 16) := by kernel_rfl
theorem OwnT.below {w w' : World} {base : Nat} {v : Value} {ks : List ByteArray} (h : OwnT w base v ks) (k : Below w.heap.size w w') : OwnT w' base v ks := ownsRow_under h k
theorem OwnT.nil (w : World) (base : Nat) : OwnT w base (.slice none 0 0) [] := World.ownsRow_nil _ _ _ _
theorem OwnT.shape {w : World} {base : Nat} {v : Value} {ks : List ByteArray} (h : OwnT w base v ks) :
    ∃ a cap, v = .slice a ks.length cap ∧ ks.length ≤ cap ∧ cap ≤ maxLen ∧ (ks = [] ∨ ∃ b, a = some ⟨b, 0, none⟩ ∧ base ≤ b ∧ b < w.heap.size ∧ ∀ (i : Nat) (hi : i < ks.length), w.cell? ⟨b, 0 + i, none⟩ = some (.string ks[i])) := by
  obtain ⟨_, h | ⟨g, cap, cur, rfl, hb, hh, hn, hm, hs, hx⟩⟩ := h
  · obtain ⟨rfl, hn⟩ := h
    have hes : ks = [] := List.length_eq_zero_iff.1 hn
    subst hes
    exact ⟨none, 0, rfl, Nat.le_refl _, by simp, .inl rfl⟩
  · refine ⟨some ⟨g, 0, none⟩, cap, rfl, hn, hm, .inr ⟨g, rfl, hb, blockLt hh, ?_⟩⟩
    intro i hi
    have hj : (List.take (ks.length * 1) cur.toList)[i]? = some (.string ks[i]) := by
      rw [hx]; simp [hi]
    have hj' : cur[i]? = some (.string ks[i]) := by
      rw [List.getElem?_take] at hj
      split at hj
      · rw [← Array.getElem?_toList]; exact hj
      · cases hj
    simp [World.cell?, hh, hj']
theorem append_text {w : World} {ops : Array Oper} {rest : List Oper} {o : Oper} {a : Act} {Q : Exit → Act → World → Prop} (hgd : o.guard = none) (s x : Operand)
    (ho : o.op = .call { callee := .builtin .append, args := #[s, x], argTypes := #[79, 79] })
    (base : Nat) (v : Value) (ks : List ByteArray) (key : ByteArray) (hs : a.eval s = v) (hown : OwnT w base v ks) (hbase : base ≤ w.heap.size) (hx : a.eval x = .slice (some ⟨w.heap.size, 0, none⟩) 1 1) (hb : (ks.length + 1) * 16 ≤ 140737488355328)
    (h : ∀ v' w', OwnT w' base v' (ks ++ [key]) → Below base w w' → wpList Tryd.prog ops Q rest (a.put o.dst v') w') :
    wpList Tryd.prog ops Q (o :: rest) a (w.alloc (.cells #[.string key] 9)) := by
  obtain ⟨i0, hi0, hz0, hz1, hz2⟩ := partsOf infoText
  refine wpList_append_own (w := _) hgd s x 79 ho base 9 i0 _ 1 16 Tryd.underlying79 hi0 hz0 hz1 hz2 rfl (by decide) _ ks.length (ks.map Value.string) hs (World.ownsRow.alloc hown _) ⟨w.heap.size, 0, none⟩ 1 1 [.string key] hx rfl ?_ ?_ (by unfold maxLen; omega) hb (by simp; omega) ?_
  · intro j u hj
    match j, hj with
    | 0, hj => simp at hj; subst hj; rw [add_none]; simp
  · intro u hu; simp at hu; subst hu; rfl
  · intro v' w' hown' hg _
    have hlt := World.ownsRow.lt hown
    refine h v' w' ?_ (((Below.refl _ _).alloc hbase _).grown hg (by simp; omega) (fun k hk => (hlt k hk).1))
    unfold OwnT
    simpa using hown'

def Pl.lists (ks : List ByteArray) : List (List UInt8) := ks.map fun b => b.data.toList
def Pl.cutsL (l : List UInt8) : List (List UInt8) := if l = [] then [] else Pl.parts l

theorem Pl.parts_last {l : List UInt8} (h : (44 : UInt8) ∉ l) : Pl.parts l = [l] := by
  rw [Pl.parts_none (by rw [Pl.cutL_none h]), Pl.cutL_none h]
theorem Pl.parts_at {l : List UInt8} {i : Nat} (hi : i < l.length) (h : l[i]? = some 44) (k : (44 : UInt8) ∉ l.take i) : Pl.parts l = l.take i :: Pl.parts (l.drop (i + 1)) := by
  have e := Pl.cutL_some hi h k
  rw [Pl.parts_some (r := l.drop (i + 1)) (by rw [e]), e]

end Go.Proofs.YtcdobhdbafpkiadDoor
/-
  Contracts: what CheckAdj and AdjFault answer at every list of sides.
-/
namespace Go.Proofs.YtcdobhdbafpkiadDoor
open Go.RowKit
set_option maxRecDepth 20000

set_option maxHeartbeats 1000000 in
theorem CheckAdj_any (d : Bool) (a : Option Addr) (len cap : Nat) (ps : List (Int × Int)) (w : World) (h : IsPairs w a len cap ps) :
    Calls Tryd.prog 18 #[.agg #[.bool d, .slice a len cap]] w fun e w' => e = .returned (.int .i64 (Pl.adjF ps)) ∧ Below w.heap.size w w' := by
  obtain ⟨hl, hc, hm, hok, hrow⟩ := h
  unfold maxLen at hm
  go_enter Tryd.func18, Tryd.ntmps18
  go_wp2
  go_loopw [8] (fun i wr => ∃ k : Nat, k ≤ len ∧ i = .int .i64 k ∧ Hid (Pl.adjF ps = Pl.adjN ps (len - k) k) ∧ Below (w.heap.size + 1) (w.alloc (.cells #[.bool d, .slice a len cap] 25)) wr) (fun i _ => len - (intOf i).toNat)
  case atStart => exact ⟨0, Nat.zero_le _, rfl, by show _ = _; rw [← hl]; rfl, Below.refl _ _⟩
  case round =>
    obtain ⟨k, hk, rfl, HF, hb⟩ := hrel
    obtain ⟨x0, x1, xs, hbb⟩ := box2 hb
    by_cases hlt : k < len
    · obtain ⟨b, off, rfl, hbw, hr⟩ : ∃ b off, a = some ⟨b, off, none⟩ ∧ b < w.heap.size ∧ PairsAt w b off ps := by
        rcases hrow with rfl | h
        · simp at hl; omega
        · exact h
      clear hrow
      have hr' := hr.below hbw hbb
      obtain ⟨c0, c1⟩ := hr' k (by omega)
      obtain ⟨n, hn⟩ : ∃ n, len - k = n + 1 := ⟨len - k - 1, by omega⟩
      have HN : Hid (len - k = n + 1) := hn
      clear hn
      have hbr : b < wr.heap.size := by omega
      obtain ⟨q0, HQ0⟩ : ∃ q0, Hid ((Pl.pr ps k).1 = q0) := ⟨_, rfl⟩
      obtain ⟨q1, HQ1⟩ : ∃ q1, Hid ((Pl.pr ps k).2 = q1) := ⟨_, rfl⟩
      rw [HQ0.out] at c0
      rw [HQ1.out] at c1
      obtain ⟨oo, HO⟩ : ∃ oo, Hid (decide (0 ≤ q0 ∧ q0 ≤ 11) = oo) := ⟨_, rfl⟩
      have HS : Hid (Pl.sideB (Pl.pr ps k).1 (Pl.pr ps k).2 = (oo && decide (1 ≤ q1 ∧ q1 ≤ 1000))) := by
        show _ = _
        unfold Pl.sideB
        rw [HQ0.out, HQ1.out, HO.out]
      by_cases hg : oo = true ∧ 1 ≤ q1 ∧ q1 ≤ 1000
      · obtain ⟨rfl, h1, h2⟩ := hg
        have HM : Hid (Pl.sideB (Pl.pr ps k).1 (Pl.pr ps k).2 = true) := by show _ = _; rw [HS.out]; simp [h1, h2]
        rcases Nat.eq_zero_or_pos k with hk0 | hk0
        · have hd : decide (0 < k) = false := by simp; omega
          have HK0 : Hid (k = 0) := hk0
          clear hk0
          go_wp2_with (go_at_call 27; refine (isNode_any _ _).mono ?_; rw [HO.out]; rintro e w' ⟨rfl, rfl⟩)
          go_quiet (fail)
          go_wp2
          go_roundw
          case rel => exact ⟨k + 1, by omega, by go_num, by show _ = _; have h := HN.out; rw [HF.out, h]; have hm := HM.out; rw [HK0.out] at hm ⊢; rw [Pl.adjN_first hm]; congr 1; have h0 := HK0.out; omega, below_drew (hb.alloc (by omega) _) _⟩
          case measure => simp [intOf]; omega
        · obtain ⟨m, rfl⟩ : ∃ m, k = m + 1 := ⟨k - 1, by omega⟩
          obtain ⟨d0, d1⟩ := hr' m (by omega)
          obtain ⟨r0, HR0⟩ : ∃ r0, Hid ((Pl.pr ps m).1 = r0) := ⟨_, rfl⟩
          rw [HR0.out] at d0
          by_cases hle : q0 ≤ r0
          · go_wp2_with (go_at_call 27; refine (isNode_any _ _).mono ?_; rw [HO.out]; rintro e w' ⟨rfl, rfl⟩)
            go_quiet (fail)
            go_wp2
            go_ret
            exact ⟨ret_int (by rw [HF.out, HN.out, Pl.adjN_low HM.out (by rw [HQ0.out, HR0.out]; omega)]), below_drew (hbb.alloc (by omega) _) _⟩
          · go_wp2_with (go_at_call 27; refine (isNode_any _ _).mono ?_; rw [HO.out]; rintro e w' ⟨rfl, rfl⟩)
            go_quiet (fail)
            go_wp2
            go_roundw
            case rel => exact ⟨m + 1 + 1, by omega, by go_num, by show _ = _; rw [HF.out, HN.out, Pl.adjN_on HM.out (by rw [HQ0.out, HR0.out]; omega)]; congr 1; have := HN.out; omega, below_drew (hb.alloc (by omega) _) _⟩
            case measure => simp [intOf]; omega
      · have HR : Hid (Pl.adjF ps = 2) := by
          show _ = _
          rw [HF.out, HN.out, Pl.adjN_range]
          rw [HS.out]
          cases oo
          · rfl
          · simp at hg ⊢; omega
        cases oo
        all_goals rcases Int.lt_or_le q1 1 with h1 | h1
        all_goals rcases Int.lt_or_le 1000 q1 with h2 | h2
        all_goals first | (exfalso; omega) | skip
        all_goals first | (exfalso; apply hg; refine ⟨rfl, ?_, ?_⟩ <;> assumption) | skip
        all_goals
          go_wp2_with (go_at_call 27; refine (isNode_any _ _).mono ?_; rw [HO.out]; rintro e w' ⟨rfl, rfl⟩)
          go_ret
          exact ⟨ret_int HR.out.symm, hbb.alloc (by omega) _⟩
    · obtain rfl : k = len := by omega
      go_wp2
      go_ret
      exact ⟨ret_int (by rw [HF.out]; simp [Pl.adjN]), hbb⟩

end Go.Proofs.YtcdobhdbafpkiadDoor
/-
  Contracts: what a text tells of links: ReadAdj and the document's AdjOf.
-/
namespace Go.Proofs.YtcdobhdbafpkiadDoor
open Go.RowKit
set_option maxRecDepth 20000

/-- the sides that a text tells, if it tells any that may be -/
def Pl.sidesL (l : List UInt8) : Option (List (Int × Int)) := Pl.pairsL 61 (Pl.tailB 33 l)
/-- what ReadAdj answers: drained, the sides, the code -/
def Pl.adjC (l : List UInt8) : Int := match Pl.sidesL l with
  | none => 4
  | some ps => Pl.adjF ps
def Pl.adjD (l : List UInt8) : Bool := Pl.adjC l == 0 && Pl.headB 33 l
def Pl.adjS (l : List UInt8) : List (Int × Int) := if Pl.adjC l = 0 then (Pl.sidesL l).getD [] else []
theorem infoSide : (Tryd.prog.info? 31).map (fun i => (i.zero, i.size, i.bytes)) = some (some (.agg #[.int .i64 0, .int .i64 0]), 2, 16) := by kernel_rfl
theorem Pl.tail_size {c : UInt8} {s a : ByteArray} (h : a.data.toList = Pl.tailB c s.data.toList) : a.size ≤ s.size := by
  rw [← sz_list a, ← sz_list s, h]
  unfold Pl.tailB
  split <;> simp
theorem Pl.parts_len : ∀ (n : Nat) (l : List UInt8), (Pl.partsN n l).length ≤ l.length + 1
  | 0, _ => by simp [Pl.partsN]
  | n + 1, l => by
    rw [Pl.partsN]
    split
    · simp
    · rename_i r hr
      have h1 := (Pl.cutL_len 44 l).2 r hr
      have h2 := Pl.parts_len n r
      simp only [List.length_cons]; omega
theorem Pl.pairsP_len {m : UInt8} : ∀ {ps : List (List UInt8)} {a : List (Int × Int)}, Pl.pairsP m ps = some a → a.length = ps.length
  | [], a, h => by cases h; rfl
  | p :: r, a, h => by
    rw [Pl.pairsP] at h
    split at h
    · rename_i x y hx hy
      cases h
      simp [Pl.pairsP_len hy]
    · cases h
theorem Pl.pairsL_facts {m : UInt8} {l : List UInt8} {a : List (Int × Int)} (h : Pl.pairsL m l = some a) : a.length ≤ l.length + 1 ∧ (∀ p ∈ a, Pl.pairOk p) := by
  unfold Pl.pairsL at h
  split at h
  · cases h; simp
  · refine ⟨?_, fun p hp => Pl.pairOk_of (Pl.pairsP_ok h p hp)⟩
    rw [Pl.pairsP_len h]; exact Pl.parts_len _ _

theorem box2f {w w3 : World} {c0 c1 : Value} {T : TypeId} (hb : Below (w.heap.size + 1) (w.alloc (.cells #[c0, c1] T)) w3) :
    w3.frozen? ⟨w.heap.size, 0, none⟩ = false ∧ w3.frozen? ⟨w.heap.size, 1, none⟩ = false := by
  constructor
  all_goals
    rw [hb.frozen (by simp)]
    simp
theorem adjAt_cells {w : World} {B : Nat} {c0 c1 : Value} {T : TypeId} (h : w.heap[B]? = some (.cells #[c0, c1] T)) :
    w.cell? ⟨B, 0, none⟩ = some c0 ∧ w.cell? ⟨B, 1, none⟩ = some c1 ∧ w.frozen? ⟨B, 0, none⟩ = false ∧ w.frozen? ⟨B, 1, none⟩ = false ∧ B < w.heap.size := by
  refine ⟨?_, ?_, ?_, ?_, blockLt h⟩
  all_goals simp [World.cell?, World.frozen?, h]
theorem adjAt_set {w : World} {B : Nat} {c0 c1 : Value} {T : TypeId} (h : w.heap[B]? = some (.cells #[c0, c1] T)) (v : Value) : (w.setCell ⟨B, 1, none⟩ v).heap[B]? = some (.cells #[c0, v] T) := by
  have := blockLt h
  simp [World.setCell, Array.getElem?_modify, h]
theorem heapNew (w : World) (o : Obj) : (w.alloc o).heap[w.heap.size]? = some o := by
  show (w.heap.push o)[w.heap.size]? = _
  simp
theorem heapOld {w : World} {B : Nat} {x : Obj} (h : w.heap[B]? = some x) (o : Obj) : (w.alloc o).heap[B]? = some x := by
  have := blockLt h
  show (w.heap.push o)[B]? = _
  rw [Array.getElem?_push]; split
  · omega
  · exact h
theorem Pl.take_pr (ps : List (Int × Int)) (k : Nat) (h : k < ps.length) : ps.take (k + 1) = ps.take k ++ [Pl.pr ps k] := by
  rw [List.take_succ_eq_append_getElem h, Pl.pr_eq ps k h]
set_option maxHeartbeats 2000000 in
theorem ReadAdj_any (s : ByteArray) (w : World) (hs : s.size ≤ 4398046511103) :
    Calls Tryd.prog 8 #[.string s] w fun e w' => ∃ vl : Value, e = .returned (.tuple #[.agg #[.bool (Pl.adjD s.data.toList), vl], .int .i64 (Pl.adjC s.data.toList)]) ∧
      OwnP 31 w' w.heap.size vl (Pl.adjS s.data.toList) ∧ Below w.heap.size w w' := by
  obtain ⟨np, HP⟩ : ∃ x, Hid (Pl.sidesL s.data.toList = x) := ⟨_, rfl⟩
  obtain ⟨hd, HH⟩ : ∃ x, Hid (Pl.headB 33 s.data.toList = x) := ⟨_, rfl⟩
  have HSM : Hid (s.size ≤ maxLen) := hid (by unfold maxLen; omega)
  cases np with
  | none =>
    have HC : Hid (Pl.adjC s.data.toList = 4 ∧ Pl.adjD s.data.toList = false ∧ Pl.adjS s.data.toList = []) := by
      have h : Pl.adjC s.data.toList = 4 := by unfold Pl.adjC; rw [HP.out]
      refine hid ⟨h, ?_, ?_⟩
      · unfold Pl.adjD; rw [h]; rfl
      · unfold Pl.adjS; rw [h]; rfl
    rw [HC.out.1, HC.out.2.1, HC.out.2.2]
    go_enter Tryd.func8, Tryd.ntmps8
    go_wp2_with fail
    refine (CutPrefix_any s 33 _ HSM.out).mono ?_
    rw [HH.out]
    rintro e w1 ⟨a, rfl, ha, rfl⟩
    have HA := hid ha
    clear ha
    have haz := Pl.tail_size HA.out
    go_wp2_with fail
    refine (readPairs_any a 61 _ (by omega)).mono ?_
    rw [HA.out, show Pl.pairsL 61 (Pl.tailB 33 s.data.toList) = none from HP.out]
    rintro e w2 ⟨v2, rfl, _, hb2⟩
    have hb2' : Below (w.heap.size + 1) (w.alloc (.cells #[.bool false, .slice none 0 0] 25)) w2 := by simpa using hb2
    clear hb2
    obtain ⟨x0, x1, xs, hbb⟩ := box2 hb2'
    obtain ⟨f0, f1⟩ := box2f hb2'
    go_wp2_with fail
    refine bodyPost_ret (v := .tuple #[.agg #[.bool false, .slice none 0 0], .int .i64 4]) (by simp [results, Tryd.results8, go_sem, x0, x1]) rfl ⟨_, rfl, OwnP.nil _ _ _, ((hbb.setCell (Nat.le_refl _) _).setCell (Nat.le_refl _) _)⟩
  | some ps =>
    obtain ⟨cc, HCC⟩ : ∃ x, Hid (Pl.adjF ps = x) := ⟨_, rfl⟩
    have HC : Hid (Pl.adjC s.data.toList = cc ∧ (cc = 0 → Pl.adjD s.data.toList = hd ∧ Pl.adjS s.data.toList = ps) ∧ (cc ≠ 0 → Pl.adjD s.data.toList = false ∧ Pl.adjS s.data.toList = [])) := by
      have h : Pl.adjC s.data.toList = cc := by unfold Pl.adjC; rw [HP.out]; exact HCC.out
      refine hid ⟨h, fun h0 => ⟨?_, ?_⟩, fun h0 => ⟨?_, ?_⟩⟩
      · unfold Pl.adjD; rw [h, h0, HH.out]; rfl
      · unfold Pl.adjS; rw [h, h0, HP.out]; rfl
      · unfold Pl.adjD; rw [h]; simp [h0]
      · unfold Pl.adjS; rw [h, if_neg h0]
    have HFA := hid (Pl.pairsL_facts (m := 61) (l := Pl.tailB 33 s.data.toList) HP.out)
    rw [HC.out.1]
    go_enter Tryd.func8, Tryd.ntmps8
    go_wp2_with fail
    refine (CutPrefix_any s 33 _ HSM.out).mono ?_
    rw [HH.out]
    rintro e w1 ⟨a, rfl, ha, rfl⟩
    have HA := hid ha
    clear ha
    have haz := Pl.tail_size HA.out
    go_wp2_with fail
    refine (readPairs_any a 61 _ (by omega)).mono ?_
    rw [HA.out, show Pl.pairsL 61 (Pl.tailB 33 s.data.toList) = some ps from HP.out]
    rintro e w2 ⟨v2, rfl, ho2, hb2⟩
    have hb2' : Below (w.heap.size + 1) (w.alloc (.cells #[.bool false, .slice none 0 0] 25)) w2 := by simpa using hb2
    obtain ⟨a2, cap2, rfl, hp2, _, _⟩ := OwnP.shape (ps := ps) ho2 HFA.out.2
    have HP2 := hid hp2
    have hlen : ps.length ≤ s.size + 1 := by
      have h1 := HFA.out.1
      rw [← HA.out, sz_list] at h1
      omega
    have hcap := hp2.2.1
    have hmax := hp2.2.2.1
    unfold maxLen at hmax
    clear hb2 ho2 hp2
    go_wp2_with fail
    have hwz := hb2'.size
    simp at hwz
    go_loopw [29] (fun i wr => ∃ (k : Nat) (v : Value), k ≤ ps.length ∧ i = .int .i64 k ∧ Hid (wr.heap[w2.heap.size]? = some (.cells #[.bool hd, v] 25)) ∧ Hid (OwnP 31 wr (w2.heap.size + 1) v (ps.take k)) ∧ Below w2.heap.size w2 wr) (fun i _ => ps.length - (intOf i).toNat)
    case atStart => exact ⟨0, _, Nat.zero_le _, rfl, hid (heapNew _ _), hid (OwnP.nil _ _ _), (Below.refl _ _).alloc (Nat.le_refl _) _⟩
    case round =>
      obtain ⟨k, v, hk, rfl, HB, HO, hb⟩ := hrel
      obtain ⟨y0, y1, g0, g1, hzr⟩ := adjAt_cells HB.out
      by_cases hlt : k < ps.length
      · obtain ⟨b, off, rfl, hbw, hr⟩ : ∃ b off, a2 = some ⟨b, off, none⟩ ∧ b < w2.heap.size ∧ PairsAt w2 b off ps := by
          rcases HP2.out.2.2.2.2 with rfl | h
          · simp at hlt
          · exact h
        obtain ⟨c0, c1⟩ := (hr.below hbw hb) k hlt
        have hbr : b < wr.heap.size := by omega
        clear hr
        obtain ⟨pp, hpp⟩ : ∃ pp, Hid (Pl.pr ps k = pp) := ⟨_, rfl⟩
        rw [hpp.out] at c0 c1
        have HO4 := hid (HO.out.below ((Below.refl wr.heap.size wr).alloc (Nat.le_refl _) (.cells #[.int .i64 pp.1, .int .i64 pp.2] 69)))
        have HB4 := hid (heapOld HB.out (.cells #[.int .i64 pp.1, .int .i64 pp.2] 69))
        have htk : (ps.take k).length = k := by simp; omega
        go_wp2_with (at_builtin; refine append_pairT Tryd.underlying23 infoSide rfl (.tmp 34) (.tmp 40) rfl (w2.heap.size + 1) v (ps.take k) pp rfl HO4.out (by simp; omega) (by show Value.slice (some ⟨wr.heap.size + 1, 0, none⟩) 1 1 = _; simp) (by rw [htk]; omega) ?_; intro v5 w5 ho5 hb5 _; obtain ⟨a5, n5, cap5, rfl⟩ := ho5.slice; have HO5 := hid ho5; clear ho5; have HB5 := hid ((hb5.block _ (Nat.lt_succ_self _)).trans HB4.out); obtain ⟨z0, z1, q0, q1, hz5⟩ := adjAt_cells HB5.out)
        go_roundw
        case rel => exact ⟨k + 1, .slice a5 n5 cap5, by omega, by go_num, hid (adjAt_set HB5.out _), hid (by show OwnP _ _ _ _ _; rw [Pl.take_pr ps k hlt, hpp.out]; exact ownsRow_setCell_below HO5.out (by simp) _), ((hb.alloc hb.size _).trans (hb5.mono (Nat.le_succ _))).setCell (Nat.le_refl _) _⟩
        case measure => simp [intOf]; omega
      · obtain rfl : k = ps.length := by omega
        have HO' : Hid (OwnP 31 wr (w2.heap.size + 1) v ps) := by have h := HO.out; rw [List.take_length] at h; exact hid h
        obtain ⟨a3, cap3, rfl, hp3, _, _⟩ := OwnP.shape HO'.out HFA.out.2
        have HP3 := hid hp3
        clear hp3 HO
        have hbx : Below (w.heap.size + 1) (w.alloc (.cells #[.bool false, .slice none 0 0] 25)) wr := hb2'.trans (hb.mono (by omega))
        by_cases hc0 : cc = 0
        · subst hc0
          have HC' := hid (HC.out.2.1 rfl)
          clear HC
          go_wp2_with fail
          refine (CheckAdj_any _ _ _ _ ps _ HP3.out).mono ?_
          rw [HCC.out]
          rintro e w4 ⟨rfl, hb4⟩
          have hbx4 := hbx.trans (hb4.mono (by omega))
          obtain ⟨x0, x1, xs, hbb⟩ := box2 hbx4
          obtain ⟨f0, f1⟩ := box2f hbx4
          have z0 := (hb4.cell (p := ⟨w2.heap.size, 0, none⟩) hzr).trans y0
          have z1 := (hb4.cell (p := ⟨w2.heap.size, 1, none⟩) hzr).trans y1
          go_wp2_with fail
          refine bodyPost_ret (v := .tuple #[.agg #[.bool hd, .slice a3 ps.length cap3], .int .i64 0]) (by simp [results, Tryd.results8, go_sem, x0, x1]) rfl ⟨_, by rw [HC'.out.1], ?_, ((hbb.setCell (Nat.le_refl _) _).setCell (Nat.le_refl _) _)⟩
          rw [HC'.out.2]
          have h5 := HO'.out.below hb4
          exact OwnP.mono (base := w2.heap.size + 1) (ownsRow_setCell_below (ownsRow_setCell_below h5 (by simp; omega) _) (by simp; omega) _) (by omega)
        · have HC' := hid (HC.out.2.2 hc0)
          clear HC
          have hd0 : (cc == 0) = false := by simpa using hc0
          go_wp2_with fail
          refine (CheckAdj_any _ _ _ _ ps _ HP3.out).mono ?_
          rw [HCC.out]
          rintro e w4 ⟨rfl, hb4⟩
          have hbx4 := hbx.trans (hb4.mono (by omega))
          obtain ⟨x0, x1, xs, hbb⟩ := box2 hbx4
          obtain ⟨f0, f1⟩ := box2f hbx4
          go_wp2_with fail
          exact bodyPost_ret (v := .tuple #[.agg #[.bool false, .slice none 0 0], .int .i64 cc]) (by simp [results, Tryd.results8, go_sem, x0, x1]) rfl ⟨_, by rw [HC'.out.1], by rw [HC'.out.2]; exact OwnP.nil _ _ _, ((hbb.setCell (Nat.le_refl _) _).setCell (Nat.le_refl _) _)⟩
end Go.Proofs.YtcdobhdbafpkiadDoor
/-
  A world that differs from another in one block alone.
-/
namespace Go.Proofs.YtcdobhdbafpkiadDoor
open Go.RowKit
set_option maxRecDepth 20000

/-- of what was there nothing has turned but block B -/
structure But (B : Nat) (w w' : World) : Prop where
  os : w'.os = w.os
  tape : w'.tape = w.tape
  output : w'.output = w.output
  size : w.heap.size ≤ w'.heap.size
  block : ∀ k, k < w.heap.size → k ≠ B → w'.heap[k]? = w.heap[k]?
theorem But.refl (B : Nat) (w : World) : But B w w := ⟨rfl, rfl, rfl, Nat.le_refl _, fun _ _ _ => rfl⟩
theorem But.trans {B : Nat} {a b c : World} (h : But B a b) (k : But B b c) : But B a c :=
  ⟨k.os.trans h.os, k.tape.trans h.tape, k.output.trans h.output, Nat.le_trans h.size k.size, fun i hi hB => (k.block i (Nat.lt_of_lt_of_le hi h.size) hB).trans (h.block i hi hB)⟩
theorem But.of {B : Nat} {w w' : World} (h : Below w.heap.size w w') : But B w w' := ⟨h.os, h.tape, h.output, h.size, fun k hk _ => h.block k hk⟩
theorem But.below {B C : Nat} {w w' : World} (h : But B w w') (hC : C ≤ B) (hw : C ≤ w.heap.size) : Below C w w' := ⟨h.os, h.tape, h.output, h.size, fun k hk => h.block k (by omega) (by omega)⟩
theorem But.setCell {B : Nat} {a w : World} (h : But B a w) (o : Nat) (u : Value) : But B a (w.setCell ⟨B, o, none⟩ u) :=
  h.trans ⟨rfl, rfl, rfl, by simp [World.setCell], fun k _ hB => Below.heap_setCell _ _ _ _ hB⟩
theorem But.setCells {B : Nat} {a : World} : ∀ (vs : List Value) (o : Nat) (w : World), But B a w → But B a (w.setCells B o vs)
  | [], _, _, h => h
  | v :: r, o, _, h => But.setCells r (o + 1) _ (h.setCell o v)
theorem But.alloc {B : Nat} {a w : World} (h : But B a w) (o : Obj) : But B a (w.alloc o) :=
  h.trans (But.of ((Below.refl _ _).alloc (Nat.le_refl _) o))
theorem But.drawn {B : Nat} {a w : World} (h : But B a w) (n : Nat) : But B a (w.drewN n) := h.trans ⟨rfl, rfl, rfl, Nat.le_refl _, fun _ _ _ => rfl⟩
theorem But.cell {B : Nat} {w w' : World} (h : But B w w') {p : Addr} (hp : p.block < w.heap.size) (hB : p.block ≠ B) : w'.cell? p = w.cell? p := by
  simp only [World.cell?]
  rw [h.block p.block hp hB]
end Go.Proofs.YtcdobhdbafpkiadDoor
/-
  Blocks of many cells, by what lies at each place; a world that differs in one block alone.
-/
namespace Go.Proofs.YtcdobhdbafpkiadDoor
open Go.RowKit
set_option maxRecDepth 20000

/-- the block B is a row of n cells, g i at the place i -/
def CellsAt (w : World) (B : Nat) (T : TypeId) (n : Nat) (g : Nat → Value) : Prop := w.heap[B]? = some (.cells (Array.ofFn (n := n) fun i => g i.1) T)

theorem CellsAt.lt {w B T n g} (h : CellsAt w B T n g) : B < w.heap.size := blockLt h
theorem CellsAt.cell {w B T n g} (h : CellsAt w B T n g) (o : Nat) (ho : o < n) : w.cell? ⟨B, o, none⟩ = some (g o) := by
  unfold CellsAt at h
  simp [World.cell?, h, ho]
theorem CellsAt.soft {w B T n g} (h : CellsAt w B T n g) (o : Nat) : w.frozen? ⟨B, o, none⟩ = false := by
  unfold CellsAt at h
  simp [World.frozen?, h]
theorem CellsAt.ext {w B T n g g'} (h : CellsAt w B T n g) (e : ∀ o, o < n → g o = g' o) : CellsAt w B T n g' := by
  unfold CellsAt at h ⊢
  rw [h]
  congr 2
  apply Array.ext
  · simp
  · intro i h1 h2
    simp only [Array.size_ofFn] at h1
    simpa using e i h1
theorem CellsAt.set {w B T n g} (h : CellsAt w B T n g) (o : Nat) (v : Value) : CellsAt (w.setCell ⟨B, o, none⟩ v) B T n (Pl.upd g o v) := by
  have hl := h.lt
  unfold CellsAt at h ⊢
  simp only [World.setCell, Array.getElem?_modify, h]
  simp only [↓reduceIte, Option.map_some, Option.isSome_none, Bool.false_eq_true]
  congr 2
  apply Array.ext
  · simp
  · intro i h1 h2
    simp only [Array.size_setIfInBounds, Array.size_ofFn] at h1
    rw [Array.getElem_setIfInBounds (by simpa using h1)]
    simp only [Array.getElem_ofFn, Pl.upd]
    by_cases hx : o = i
    · subst hx; simp
    · rw [if_neg hx, if_neg (Ne.symm hx)]
theorem CellsAt.sets {B : Nat} {T : TypeId} {n : Nat} : ∀ (vs : List Value) (o : Nat) (w : World) (g : Nat → Value), CellsAt w B T n g →
    CellsAt (w.setCells B o vs) B T n (fun i => if o ≤ i ∧ i < o + vs.length then vs.getD (i - o) undef else g i)
  | [], o, w, g, h => by
    refine CellsAt.ext h fun i _ => ?_
    rw [if_neg (by simp only [List.length_nil]; omega)]
  | v :: r, o, w, g, h => by
    have := CellsAt.sets r (o + 1) _ _ (h.set o v)
    refine CellsAt.ext this fun i _ => ?_
    by_cases h1 : o + 1 ≤ i ∧ i < o + 1 + r.length
    · rw [if_pos h1, if_pos (by simp; omega)]
      obtain ⟨j, hj⟩ : ∃ j, i - o = j + 1 := ⟨i - o - 1, by omega⟩
      rw [hj, List.getD_cons_succ]; congr 1; omega
    · rw [if_neg h1]
      by_cases h2 : i = o
      · subst h2; rw [Pl.upd_same, if_pos (by simp)]; simp
      · rw [Pl.upd_ne _ _ h2, if_neg (by simp; omega)]
theorem CellsAt.there {w B T n g} (h : CellsAt w B T n g) (o k : Nat) (hk : o + k ≤ n) : w.there B o k := fun j hj => ⟨by rw [h.cell _ (by omega)]; rfl, h.soft _⟩
theorem CellsAt.range {w B T n g} (h : CellsAt w B T n g) (o : Nat) (cs : List Value) (hk : o + cs.length ≤ n) (e : ∀ j (hj : j < cs.length), cs[j] = g (o + j)) : w.rangeAt B o cs := fun j v hv => by
  obtain ⟨hj, rfl⟩ := List.getElem?_eq_some_iff.1 hv
  rw [h.cell _ (by omega), e j hj]
theorem CellsAt.new (w : World) (T : TypeId) (cs : Array Value) (n : Nat) (g : Nat → Value) (hn : cs.size = n) (e : ∀ i (hi : i < cs.size), cs[i] = g i) : CellsAt (w.alloc (.cells cs T)) w.heap.size T n g := by
  unfold CellsAt
  rw [heapNew]
  congr 2
  apply Array.ext
  · simpa using hn
  · intro i h1 h2
    rw [e i h1]; simp

theorem CellsAt.but {w w' B C T n g} (h : CellsAt w B T n g) (k : But C w w') (hB : B ≠ C) : CellsAt w' B T n g := (k.block B h.lt hB).trans h
theorem CellsAt.below {w w' B T n g} (h : CellsAt w B T n g) (k : Below w.heap.size w w') : CellsAt w' B T n g := (k.block B h.lt).trans h
theorem CellsAt.below' {w w' B C T n g} (h : CellsAt w B T n g) (k : Below C w w') (hC : B < C) : CellsAt w' B T n g := (k.block B hC).trans h

/-- what lies in a search's block -/
def srch (f : Nat) (s : Pl.DS) (o : Nat) : Value :=
  if o = 0 then .int .i64 f else if o < 13 then .int .i64 (s.cost (o - 1)) else if o < 157 then .bool (s.hops ((o - 13) / 12) ((o - 13) % 12)) else .bool (s.done (o - 157))
theorem srch_from (f s) : srch f s 0 = .int .i64 f := rfl
theorem srch_cost (f s) (i : Nat) (h : i < 12) : srch f s (1 + i) = .int .i64 (s.cost i) := by
  unfold srch; rw [if_neg (by omega), if_pos (by omega)]; congr 2; omega
theorem srch_hops (f s) (i k : Nat) (h : i < 12) (hk : k < 12) : srch f s (13 + i * 12 + k) = .bool (s.hops i k) := by
  unfold srch; rw [if_neg (by omega), if_neg (by omega), if_pos (by omega)]
  rw [show (13 + i * 12 + k - 13) / 12 = i by omega, show (13 + i * 12 + k - 13) % 12 = k by omega]
theorem srch_done (f s) (i : Nat) (h : i < 12) : srch f s (157 + i) = .bool (s.done i) := by
  unfold srch; rw [if_neg (by omega), if_neg (by omega), if_neg (by omega)]; congr 2; omega
theorem srch_setCost (f s) (i : Nat) (hi : i < 12) (c : Int) (o : Nat) : Pl.upd (srch f s) (1 + i) (.int .i64 c) o = srch f ⟨Pl.upd s.cost i c, s.hops, s.done⟩ o := by
  unfold Pl.upd srch
  by_cases h : o = 1 + i
  · subst h; rw [if_pos rfl, if_neg (by omega), if_pos (by omega)]; simp
  · rw [if_neg h]
    by_cases h0 : o = 0
    · simp [h0]
    · rw [if_neg h0, if_neg h0]
      by_cases h1 : o < 13
      · rw [if_pos h1, if_pos h1]; simp only; rw [if_neg (by omega)]
      · rw [if_neg h1, if_neg h1]
theorem srch_setHop (f s) (i k : Nat) (hi : i < 12) (hk : k < 12) (b : Bool) (o : Nat) (ho : o < 169) :
    Pl.upd (srch f s) (13 + i * 12 + k) (.bool b) o = srch f ⟨s.cost, Pl.upd s.hops i (Pl.upd (s.hops i) k b), s.done⟩ o := by
  unfold Pl.upd srch
  by_cases h : o = 13 + i * 12 + k
  · subst h
    rw [if_pos rfl, if_neg (by omega), if_neg (by omega), if_pos (by omega)]
    simp only
    rw [if_pos (by omega), if_pos (by omega)]
  · rw [if_neg h]
    by_cases h0 : o = 0
    · simp [h0]
    · rw [if_neg h0, if_neg h0]
      by_cases h1 : o < 13
      · rw [if_pos h1, if_pos h1]
      · rw [if_neg h1, if_neg h1]
        by_cases h2 : o < 157
        · rw [if_pos h2, if_pos h2]
          simp only
          by_cases h3 : (o - 13) / 12 = i
          · rw [if_pos h3, if_neg (by omega), h3]
          · rw [if_neg h3]
        · rw [if_neg h2, if_neg h2]
theorem srch_setDone (f s) (i : Nat) (hi : i < 12) (b : Bool) (o : Nat) : Pl.upd (srch f s) (157 + i) (.bool b) o = srch f ⟨s.cost, s.hops, Pl.upd s.done i b⟩ o := by
  unfold Pl.upd srch
  by_cases h : o = 157 + i
  · subst h; rw [if_pos rfl, if_neg (by omega), if_neg (by omega), if_neg (by omega)]; simp
  · rw [if_neg h]
    by_cases h0 : o = 0
    · simp [h0]
    · rw [if_neg h0, if_neg h0]
      by_cases h1 : o < 13
      · rw [if_pos h1, if_pos h1]
      · rw [if_neg h1, if_neg h1]
        by_cases h2 : o < 157
        · rw [if_pos h2, if_pos h2]
        · rw [if_neg h2, if_neg h2]; simp only; rw [if_neg (by omega)]

/-- a search lies in block B -/
def SAt (w : World) (B f : Nat) (s : Pl.DS) : Prop := CellsAt w B 110 169 (srch f s)
theorem SAt.from {w B f s} (h : SAt w B f s) : w.cell? ⟨B, 0, none⟩ = some (.int .i64 f) := CellsAt.cell h 0 (by omega)
theorem SAt.cost {w B f s} (h : SAt w B f s) (i : Nat) (hi : i < 12) : w.cell? ⟨B, 1 + i, none⟩ = some (.int .i64 (s.cost i)) := by rw [CellsAt.cell h _ (by omega), srch_cost _ _ _ hi]
theorem SAt.hops {w B f s} (h : SAt w B f s) (i k : Nat) (hi : i < 12) (hk : k < 12) : w.cell? ⟨B, 13 + i * 12 + k, none⟩ = some (.bool (s.hops i k)) := by rw [CellsAt.cell h _ (by omega), srch_hops _ _ _ _ hi hk]
theorem SAt.done {w B f s} (h : SAt w B f s) (i : Nat) (hi : i < 12) : w.cell? ⟨B, 157 + i, none⟩ = some (.bool (s.done i)) := by rw [CellsAt.cell h _ (by omega), srch_done _ _ _ hi]
theorem SAt.setCost {w B f s} (h : SAt w B f s) (i : Nat) (hi : i < 12) (c : Int) : SAt (w.setCell ⟨B, 1 + i, none⟩ (.int .i64 c)) B f ⟨Pl.upd s.cost i c, s.hops, s.done⟩ :=
  (CellsAt.set h (1 + i) _).ext fun o _ => srch_setCost f s i hi c o
theorem SAt.setHop {w B f s} (h : SAt w B f s) (i k : Nat) (hi : i < 12) (hk : k < 12) (b : Bool) : SAt (w.setCell ⟨B, 13 + i * 12 + k, none⟩ (.bool b)) B f ⟨s.cost, Pl.upd s.hops i (Pl.upd (s.hops i) k b), s.done⟩ :=
  (CellsAt.set h _ _).ext fun o ho => srch_setHop f s i k hi hk b o ho
theorem SAt.setDone {w B f s} (h : SAt w B f s) (i : Nat) (hi : i < 12) (b : Bool) : SAt (w.setCell ⟨B, 157 + i, none⟩ (.bool b)) B f ⟨s.cost, s.hops, Pl.upd s.done i b⟩ :=
  (CellsAt.set h _ _).ext fun o _ => srch_setDone f s i hi b o
/-- the hops of one node are cleared -/
theorem SAt.clearHops {w B f s} (h : SAt w B f s) (i : Nat) (hi : i < 12) : SAt (w.setCells B (13 + i * 12) (List.replicate 12 (.bool false))) B f ⟨s.cost, Pl.upd s.hops i (fun _ => false), s.done⟩ := by
  refine (CellsAt.sets _ (13 + i * 12) _ _ h).ext fun o ho => ?_
  simp only [List.length_replicate]
  by_cases h1 : 13 + i * 12 ≤ o ∧ o < 13 + i * 12 + 12
  · rw [if_pos h1]
    unfold srch
    rw [if_neg (by omega), if_neg (by omega), if_pos (by omega)]
    have e : (List.replicate 12 (Value.bool false)).getD (o - (13 + i * 12)) undef = .bool false := by
      rw [List.getD_eq_getElem?_getD, List.getElem?_replicate, if_pos (by omega)]; rfl
    rw [e]
    simp only [Pl.upd]
    rw [if_pos (by omega)]
  · rw [if_neg h1]
    unfold srch
    by_cases h0 : o = 0
    · simp [h0]
    · rw [if_neg h0, if_neg h0]
      by_cases h1 : o < 13
      · rw [if_pos h1, if_pos h1]
      · rw [if_neg h1, if_neg h1]
        by_cases h2 : o < 157
        · rw [if_pos h2, if_pos h2]
          simp only [Pl.upd]
          rw [if_neg (by omega)]
        · rw [if_neg h2, if_neg h2]
end Go.Proofs.YtcdobhdbafpkiadDoor
/-
  Contracts: a new search, and the nearest node of one.
-/
namespace Go.Proofs.YtcdobhdbafpkiadDoor
open Go.RowKit
set_option maxRecDepth 20000

def Pl.dNew (k : Nat) : Pl.DS := ⟨fun j => if j < k then -1 else 0, fun _ _ => false, fun _ => false⟩
theorem zeroSearch : Tryd.zeroCells110 = Array.ofFn (n := 169) fun i => srch 0 (Pl.dNew 0) i.1 := by kernel_rfl
theorem SAt.ext {w B f s t} (h : SAt w B f s) (e1 : ∀ i, i < 12 → s.cost i = t.cost i) (e2 : ∀ i k, i < 12 → k < 12 → s.hops i k = t.hops i k) (e3 : ∀ i, i < 12 → s.done i = t.done i) : SAt w B f t := by
  refine CellsAt.ext h fun o ho => ?_
  unfold srch
  split
  · rfl
  · split
    · rw [e1 _ (by omega)]
    · split
      · rw [e2 _ _ (by omega) (by omega)]
      · rw [e3 _ (by omega)]
theorem newSearch_block (f : Nat) (w : World) : SAt (w.alloc (.cells (Tryd.zeroCells110.setIfInBounds 0 (.int .i64 f)) 110)) w.heap.size f (Pl.dNew 0) := by
  refine CellsAt.new w _ _ _ _ (by rw [zeroSearch]; simp) fun i hi => ?_
  simp only [zeroSearch, Array.size_setIfInBounds, Array.size_ofFn] at hi
  rw [Array.getElem_setIfInBounds (by rw [zeroSearch]; simpa using hi)]
  simp only [zeroSearch, Array.getElem_ofFn]
  by_cases h : 0 = i
  · subst h; rfl
  · rw [if_neg h]; unfold srch; rw [if_neg (Ne.symm h), if_neg (Ne.symm h)]

set_option maxHeartbeats 1000000 in
theorem newSearch_any (f : Nat) (hf : f < 12) (w : World) :
    Calls Tryd.prog 29 #[.int .i64 f] w fun e w' => e = .returned (.pointer (some ⟨w.heap.size, 0, none⟩)) ∧ SAt w' w.heap.size f (Pl.dInit f) ∧ Below w.heap.size w w' := by
  go_enter Tryd.func29, Tryd.ntmps29
  go_wp2_with fail
  go_loopw [8] (fun i wr => ∃ k : Nat, k ≤ 12 ∧ i = .int .i64 k ∧ Hid (SAt wr w.heap.size f (Pl.dNew k)) ∧ Hid (Below w.heap.size w wr)) (fun i _ => 12 - (intOf i).toNat)
  case atStart => exact ⟨0, by omega, rfl, newSearch_block f w, (Below.refl _ _).alloc (Nat.le_refl _) _⟩
  case round =>
    obtain ⟨k, hk, rfl, HS, HB⟩ := hrel
    by_cases hlt : k < 12
    · have hc := HS.out.cost k hlt
      have hz := CellsAt.soft HS.out (1 + k)
      have hB := CellsAt.lt HS.out
      go_wp2_with fail
      go_roundw
      case rel =>
        refine ⟨k + 1, by omega, by go_num, (HS.out.setCost k hlt (-1)).ext (fun i hi => ?_) (fun _ _ _ _ => rfl) (fun _ _ => rfl), HB.out.setCell (Nat.le_refl _) _⟩
        simp only [Pl.dNew, Pl.upd]
        split <;> split <;> omega
      case measure => simp [intOf]; omega
    · obtain rfl : k = 12 := by omega
      have hc := HS.out.cost f hf
      have hz := CellsAt.soft HS.out (1 + f)
      have hB := CellsAt.lt HS.out
      go_wp2_with fail
      go_ret
      refine ⟨rfl, (HS.out.setCost f hf 0).ext (fun i hi => ?_) (fun _ _ _ _ => rfl) (fun _ _ => rfl), HB.out.setCell (Nat.le_refl _) _⟩
      simp only [Pl.dNew, Pl.upd, Pl.dInit]
      split
      · rfl
      · simp

theorem infoInts : (Tryd.prog.info? 53).map (·.size) = some 12 := by kernel_rfl
theorem infoBools : (Tryd.prog.info? 55).map (·.size) = some 12 := by kernel_rfl
def ints12 (c : Nat → Int) : List Value := (List.range 12).map fun i => .int .i64 (c i)
def bools12 (c : Nat → Bool) : List Value := (List.range 12).map fun i => .bool (c i)
theorem ints12_get (c : Nat → Int) (k : Nat) (hk : k < 12) : (ints12 c).toArray[k]? = some (.int .i64 (c k)) := by simp [ints12, hk]
theorem bools12_get (c : Nat → Bool) (k : Nat) (hk : k < 12) : (bools12 c).toArray[k]? = some (.bool (c k)) := by simp [bools12, hk]
theorem wpList_store_as {ops : Array Oper} {rest : List Oper} {op : Oper} {a : Act} {w w1 : World} {Q : Exit → Act → World → Prop} (hgd : op.guard = none) (ty : TypeId) (x y : Operand) (ho : op.op = .store ty x y)
    (b o : Nat) (cells : List Value) (hx : a.eval x = .pointer (some ⟨b, o, none⟩)) (hy : a.eval y = .agg cells.toArray)
    (ht : w.there b o cells.length) (hi : (Tryd.prog.info? ty).map (·.size) = some cells.length) (h1 : ∀ v ∈ cells, v.oneCell' = true) (hw : w1 = w.setCells b o cells)
    (h : wpList Tryd.prog ops Q rest (a.put op.dst undef) w1) : wpList Tryd.prog ops Q (op :: rest) a w :=
  wpList_store_mid hgd ty x y ho b o cells.toArray hx hy (by simpa using ht) (by simpa using hi) (all_oneCell_toArray h1) (by rw [hw] at h; exact h)

theorem infoInt1 : (Tryd.prog.info? 3).map (·.size) = some 1 := by kernel_rfl
theorem infoBool1 : (Tryd.prog.info? 4).map (·.size) = some 1 := by kernel_rfl
theorem infoSome {T : TypeId} {n : Nat} (h : (Tryd.prog.info? T).map (·.size) = some n) : ∃ i, Tryd.prog.info? T = some i ∧ i.size = n := by
  cases hx : Tryd.prog.info? T with
  | none => rw [hx] at h; cases h
  | some i => rw [hx] at h; exact ⟨i, rfl, by simpa using h⟩
theorem run_index_ints (c : Nat → Int) (k : Nat) (hk : k < 12) (w : World) : (Instr.index 53 (.agg (ints12 c).toArray) (.int .i64 k)).run Tryd.prog w = .ok (.int .i64 (c k)) w := by
  have h1 := ints12_get c k hk
  simp only [List.getElem?_toArray] at h1
  obtain ⟨i, hi, hz⟩ := infoSome infoInt1
  simp [Instr.index, part, isAgg, sizeOf, typeInfo, underlying, go_sem, Tryd.underlying53, Tryd.underlying3, hi, hz, h1, hk]
theorem run_index_bools (c : Nat → Bool) (k : Nat) (hk : k < 12) (w : World) : (Instr.index 55 (.agg (bools12 c).toArray) (.int .i64 k)).run Tryd.prog w = .ok (.bool (c k)) w := by
  have h1 := bools12_get c k hk
  simp only [List.getElem?_toArray] at h1
  obtain ⟨i, hi, hz⟩ := infoSome infoBool1
  simp [Instr.index, part, isAgg, sizeOf, typeInfo, underlying, go_sem, Tryd.underlying55, Tryd.underlying4, hi, hz, h1, hk]
theorem SAt.costs {w B f s} (h : SAt w B f s) : w.rangeAt B 1 (ints12 s.cost) := CellsAt.range h 1 _ (by simp [ints12]) fun j hj => by
  simp only [ints12, List.length_map, List.length_range] at hj
  rw [srch_cost _ _ _ hj]; simp [ints12]
theorem SAt.hopsOf {w B f s} (h : SAt w B f s) (i : Nat) (hi : i < 12) : w.rangeAt B (13 + i * 12) (bools12 (s.hops i)) := CellsAt.range h _ _ (by simp [bools12]; omega) fun j hj => by
  simp only [bools12, List.length_map, List.length_range] at hj
  rw [srch_hops _ _ _ _ hi hj]; simp [bools12]

set_option maxHeartbeats 1000000 in
theorem nearest_any (B f : Nat) (s : Pl.DS) (w : World) (h : SAt w B f s) :
    Calls Tryd.prog 48 #[.pointer (some ⟨B, 0, none⟩)] w fun e w' => e = .returned (.int .i64 (Pl.near s 12)) ∧ w' = w := by
  have HC := hid h.costs
  have HH := hid h
  clear h
  go_enter Tryd.func48, Tryd.ntmps48
  go_wp2_with (refine wpList_load_mid rfl 53 (.tmp 8) rfl B 1 rfl (ints12 s.cost) _ HC.out Tryd.underlying53 rfl infoInts ?_)
  go_loop [3, 10] (fun b i => ∃ (k : Nat) (v : Int), k ≤ 12 ∧ i = .int .i64 k ∧ b = .int .i64 v ∧ Hid (v = Pl.near s k)) (fun _ i => 12 - (intOf i).toNat)
  case atStart => exact ⟨0, -1, by omega, rfl, rfl, rfl⟩
  case round =>
    obtain ⟨k, v, hk, rfl, rfl, HV⟩ := hrel
    by_cases hlt : k < 12
    · have hg := run_index_ints s.cost k hlt w
      have hd := HH.out.done k hlt
      obtain ⟨c, HCK⟩ : ∃ c, Hid (s.cost k = c) := ⟨_, rfl⟩
      obtain ⟨d, HDK⟩ : ∃ d, Hid (s.done k = d) := ⟨_, rfl⟩
      rw [HCK.out] at hg
      rw [HDK.out] at hd
      have HN : Hid (Pl.near s (k + 1) = if c = -1 ∨ d = true then v else if v = -1 ∨ c < s.cost v.toNat then k else v) := hid (by
        conv => lhs; unfold Pl.near
        rw [HCK.out, HDK.out, ← HV.out])
      have hB := CellsAt.lt HH.out
      by_cases hc1 : c = -1
      · subst hc1
        go_wp2_with fail
        go_round
        case rel => exact ⟨k + 1, v, by omega, by go_num, rfl, by show _ = _; rw [HN.out, if_pos (.inl rfl)]⟩
        case measure => simp [intOf]; omega
      · cases d
        case true =>
          go_wp2_with fail
          go_round
          case rel => exact ⟨k + 1, v, by omega, by go_num, rfl, by show _ = _; rw [HN.out, if_pos (.inr rfl)]⟩
          case measure => simp [intOf]; omega
        case false =>
          have HN2 : Hid (Pl.near s (k + 1) = if v = -1 ∨ c < s.cost v.toNat then (k : Int) else v) := hid (by rw [HN.out, if_neg (by simpa using hc1)])
          clear HN
          by_cases hv : v = -1
          · subst hv
            go_wp2_with fail
            go_round
            case rel => exact ⟨k + 1, k, by omega, by go_num, rfl, by show _ = _; rw [HN2.out, if_pos (.inl rfl)]⟩
            case measure => simp [intOf]; omega
          · obtain ⟨n, rfl, hn⟩ : ∃ n : Nat, v = n ∧ n < 12 := by
              rcases Pl.near_spec s k with ⟨h1, _⟩ | ⟨n, h1, h2, _⟩
              · exact absurd (HV.out.trans h1) hv
              · exact ⟨n, HV.out.trans h1, by omega⟩
            have hcn := HH.out.cost n hn
            obtain ⟨q, HQ⟩ : ∃ q, Hid (s.cost n = q) := ⟨_, rfl⟩
            rw [HQ.out] at hcn
            have HN3 : Hid (Pl.near s (k + 1) = if c < q then (k : Int) else n) := hid (by
              have e := HN2.out
              rw [Int.toNat_natCast, HQ.out] at e
              rw [e]
              by_cases hx : c < q
              · rw [if_pos (.inr hx), if_pos hx]
              · rw [if_neg (by omega), if_neg hx])
            by_cases hx : c < q
            · go_wp2_with fail
              go_round
              case rel => exact ⟨k + 1, k, by omega, by go_num, rfl, by show _ = _; rw [HN3.out, if_pos hx]⟩
              case measure => simp [intOf]; omega
            · go_wp2_with fail
              go_round
              case rel => exact ⟨k + 1, n, by omega, by go_num, rfl, by show _ = _; rw [HN3.out, if_neg hx]⟩
              case measure => simp [intOf]; omega
    · obtain rfl : k = 12 := by omega
      go_wp2_with fail
      go_ret
      exact ⟨ret_int HV.out, rfl⟩
end Go.Proofs.YtcdobhdbafpkiadDoor
/-
  Contract: what linkCosts makes of what is told.
-/
namespace Go.Proofs.YtcdobhdbafpkiadDoor
open Go.RowKit
set_option maxRecDepth 20000

/-- twelve rows of twelve numbers -/
def grid (M : Nat → Nat → Int) (o : Nat) : Value := .int .i64 (M (o / 12) (o % 12))
def GAt (w : World) (B : Nat) (T : TypeId) (M : Nat → Nat → Int) : Prop := CellsAt w B T 144 (grid M)
theorem grid_at (M : Nat → Nat → Int) (a b : Nat) (hb : b < 12) : grid M (a * 12 + b) = .int .i64 (M a b) := by
  unfold grid; rw [show (a * 12 + b) / 12 = a by omega, show (a * 12 + b) % 12 = b by omega]
theorem GAt.cell {w B T M} (h : GAt w B T M) (a b : Nat) (ha : a < 12) (hb : b < 12) : w.cell? ⟨B, a * 12 + b, none⟩ = some (.int .i64 (M a b)) := by
  rw [CellsAt.cell h _ (by omega), grid_at M a b hb]
theorem GAt.ext {w B T M M'} (h : GAt w B T M) (e : ∀ a b, a < 12 → b < 12 → M a b = M' a b) : GAt w B T M' := by
  refine CellsAt.ext h fun o ho => ?_
  unfold grid; rw [e _ _ (by omega) (by omega)]
theorem GAt.set {w B T M} (h : GAt w B T M) (a b : Nat) (hb : b < 12) (v : Int) : GAt (w.setCell ⟨B, a * 12 + b, none⟩ (.int .i64 v)) B T (Pl.upd M a (Pl.upd (M a) b v)) := by
  refine (CellsAt.set h _ _).ext fun o ho => ?_
  unfold Pl.upd grid
  by_cases h1 : o = a * 12 + b
  · subst h1
    rw [if_pos rfl, show (a * 12 + b) / 12 = a by omega, show (a * 12 + b) % 12 = b by omega]
    simp
  · rw [if_neg h1]
    by_cases h2 : o / 12 = a
    · simp only [if_pos h2]; rw [if_neg (by omega), h2]
    · simp only [if_neg h2]
theorem GAt.row {w B T M} (h : GAt w B T M) (a : Nat) (ha : a < 12) : w.rangeAt B (a * 12) (ints12 (M a)) := CellsAt.range h _ _ (by simp [ints12]; omega) fun j hj => by
  simp only [ints12, List.length_map, List.length_range] at hj
  rw [grid_at M a j hj]; simp [ints12]
def cells144 (M : Nat → Nat → Int) : List Value := (List.range 144).map (grid M)
theorem cells144_len (M) : (cells144 M).length = 144 := by simp [cells144]
theorem cells144_one (M) : ∀ v ∈ cells144 M, v.oneCell' = true := by
  intro v hv
  simp only [cells144, List.mem_map] at hv
  obtain ⟨o, _, rfl⟩ := hv
  rfl
theorem GAt.all {w B T M} (h : GAt w B T M) : w.rangeAt B 0 (cells144 M) := CellsAt.range h _ _ (by simp [cells144]) fun j hj => by
  simp only [cells144, List.length_map, List.length_range] at hj
  simp [cells144]
theorem zeroGrid : Tryd.zeroCells111 = Array.ofFn (n := 144) fun i => grid (fun _ _ => 0) i.1 := by kernel_rfl
theorem GAt.new (w : World) : GAt (w.alloc (.cells Tryd.zeroCells111 111)) w.heap.size 111 (fun _ _ => 0) := by
  refine CellsAt.new w _ _ _ _ (by rw [zeroGrid]; simp) fun i hi => ?_
  simp only [zeroGrid, Array.getElem_ofFn]
theorem infoCosts : (Tryd.prog.info? 111).map (·.size) = some 144 := by kernel_rfl

/-- what each node tells lies in block B -/
def toldCell (D : Nat → Bool) (V : Nat → Value) (o : Nat) : Value := if o % 2 = 0 then .bool (D (o / 2)) else V (o / 2)
def ToldAt (w : World) (B : Nat) (D : Nat → Bool) (ps : Nat → List (Int × Int)) : Prop :=
  ∃ V : Nat → Value, CellsAt w B 84 24 (toldCell D V) ∧ ∀ i, i < 12 → ∃ a len cap, V i = .slice a len cap ∧ (∀ x, a = some x → x.block ≠ B) ∧ IsPairs w a len cap (ps i)
theorem ToldAt.below {w w' B D ps} (h : ToldAt w B D ps) (k : Below w.heap.size w w') : ToldAt w' B D ps := by
  obtain ⟨V, h1, h2⟩ := h
  refine ⟨V, h1.below k, fun i hi => ?_⟩
  obtain ⟨a, len, cap, e, hx, hp⟩ := h2 i hi
  exact ⟨a, len, cap, e, hx, hp.below k⟩
theorem ToldAt.drain {w B D ps} (h : ToldAt w B D ps) (i : Nat) (hi : i < 12) : w.cell? ⟨B, i * 2, none⟩ = some (.bool (D i)) := by
  obtain ⟨V, h1, _⟩ := h
  rw [h1.cell _ (by omega)]; unfold toldCell; rw [if_pos (by omega), show i * 2 / 2 = i by omega]
theorem ToldAt.sides {w B D ps} (h : ToldAt w B D ps) (i : Nat) (hi : i < 12) : ∃ a len cap, w.cell? ⟨B, i * 2 + 1, none⟩ = some (.slice a len cap) ∧ IsPairs w a len cap (ps i) := by
  obtain ⟨V, h1, h2⟩ := h
  obtain ⟨a, len, cap, e, _, hp⟩ := h2 i hi
  refine ⟨a, len, cap, ?_, hp⟩
  rw [h1.cell _ (by omega)]; unfold toldCell; rw [if_neg (by omega), show (i * 2 + 1) / 2 = i by omega, e]
theorem ToldAt.lt {w B D ps} (h : ToldAt w B D ps) : B < w.heap.size := by
  obtain ⟨V, h1, _⟩ := h; exact h1.lt

/-- of sides each has a node and a cost -/
def Pl.sidesOk (ps : List (Int × Int)) : Prop := ∀ p ∈ ps, 0 ≤ p.1 ∧ p.1 ≤ 11 ∧ 1 ≤ p.2 ∧ p.2 ≤ 1000
theorem Pl.sidesOk.at {ps : List (Int × Int)} (h : Pl.sidesOk ps) (k : Nat) (hk : k < ps.length) : 0 ≤ (Pl.pr ps k).1 ∧ (Pl.pr ps k).1 ≤ 11 ∧ 1 ≤ (Pl.pr ps k).2 ∧ (Pl.pr ps k).2 ≤ 1000 := by
  refine h _ ?_
  unfold Pl.pr
  rw [List.getD_eq_getElem?_getD, List.getElem?_eq_getElem hk]
  simp
/-- what the first k sides say of each node -/
def Pl.sayN (ps : List (Int × Int)) : Nat → Nat → Int
  | 0 => fun _ => 0
  | k + 1 => Pl.upd (Pl.sayN ps k) (Pl.pr ps k).1.toNat (Pl.pr ps k).2
def Pl.say (ps : List (Int × Int)) : Nat → Int := Pl.sayN ps ps.length
def Pl.said (ps : Nat → List (Int × Int)) (k j : Nat) : Nat → Nat → Int := fun a => if a < k then Pl.say (ps a) else if a = k then Pl.sayN (ps a) j else fun _ => 0
/-- the links: of what is told only that counts which both ends tell -/
def Pl.lnk (ps : Nat → List (Int × Int)) : Nat → Nat → Int := fun a b => if 0 < Pl.say (ps b) a then Pl.say (ps a) b else 0
def Pl.lnkN (ps : Nat → List (Int × Int)) (k j : Nat) : Nat → Nat → Int := fun a b => if a < k ∨ (a = k ∧ b < j) then Pl.lnk ps a b else 0

theorem Pl.said_step (ps : Nat → List (Int × Int)) (k j b : Nat) (v : Int) (hb : (Pl.pr (ps k) j).1.toNat = b) (hv : (Pl.pr (ps k) j).2 = v) :
    Pl.upd (Pl.said ps k j) k (Pl.upd (Pl.said ps k j k) b v) = Pl.said ps k (j + 1) := by
  funext a
  unfold Pl.upd Pl.said
  by_cases h : a = k
  · subst h
    rw [if_pos rfl, if_neg (by omega), if_pos rfl, if_neg (by omega), if_pos rfl]
    conv => rhs; unfold Pl.sayN
    rw [hb, hv]; rfl
  · rw [if_neg h, if_neg h, if_neg h]
theorem Pl.said_next (ps : Nat → List (Int × Int)) (k : Nat) : Pl.said ps k (ps k).length = Pl.said ps (k + 1) 0 := by
  funext a
  unfold Pl.said
  by_cases h : a < k
  · rw [if_pos h, if_pos (by omega)]
  · rw [if_neg h]
    by_cases h2 : a = k
    · subst h2; rw [if_pos rfl, if_pos (by omega)]; rfl
    · rw [if_neg h2, if_neg (by omega)]; split <;> rfl
theorem Pl.said_zero (ps : Nat → List (Int × Int)) : Pl.said ps 0 0 = fun _ _ => 0 := by
  funext a
  unfold Pl.said
  rw [if_neg (by omega)]; split <;> rfl

theorem results_mid {P : Program} {fn : Func} {p : Tmp} {ty : TypeId} {tmps : Array Value} {w : World} {b o : Nat} {cs : List Value} {d : TypeDesc} (h : fn.results = #[.cell p ty]) (hp : tmps.getD p undef = .pointer (some ⟨b, o, none⟩))
    (hc : w.rangeAt b o cs) (hu : P.underlying ty = some d) (hd : d.isRow = true) (hi : (P.info? ty).map (·.size) = some cs.length) :
    (results fn tmps).run P w = .ok (.agg cs.toArray) w := by
  have hl := run_loadVar_mid (P := P) w b o ty cs d hc hu hd hi
  rw [Array.getD_eq_getD_getElem?] at hp
  simp only [results, h]
  simp [hp, asAddr, hl]
/-- three new grids -/
theorem alloc3 {w w3 : World} (h : w3 = ((w.alloc (.cells Tryd.zeroCells111 111)).alloc (.cells Tryd.zeroCells111 111)).alloc (.cells Tryd.zeroCells111 111)) :
    w3.heap.size = w.heap.size + 3 ∧ Below w.heap.size w w3 ∧ GAt w3 w.heap.size 111 (fun _ _ => 0) ∧ GAt w3 (w.heap.size + 1) 111 (fun _ _ => 0) ∧ GAt w3 (w.heap.size + 1 + 1) 111 (fun _ _ => 0) := by
  subst h
  refine ⟨by simp, (((Below.refl _ _).alloc (by simp) _).alloc (by simp) _).alloc (by simp; omega) _, ?_, ?_, ?_⟩
  · exact CellsAt.below (CellsAt.below (GAt.new w) ((Below.refl _ _).alloc (Nat.le_refl _) _)) ((Below.refl _ _).alloc (Nat.le_refl _) _)
  · have := GAt.new (w.alloc (.cells Tryd.zeroCells111 111))
    rw [show (w.alloc (.cells Tryd.zeroCells111 111)).heap.size = w.heap.size + 1 by simp] at this
    exact CellsAt.below this ((Below.refl _ _).alloc (Nat.le_refl _) _)
  · have := GAt.new ((w.alloc (.cells Tryd.zeroCells111 111)).alloc (.cells Tryd.zeroCells111 111))
    rw [show ((w.alloc (.cells Tryd.zeroCells111 111)).alloc (.cells Tryd.zeroCells111 111)).heap.size = w.heap.size + 1 + 1 by simp] at this
    exact this
theorem But.drew {B : Nat} {a w : World} (h : But B a w) : But B a w.drew := ⟨h.os, h.tape, h.output, h.size, h.block⟩
theorem GAt.drew {w B T M} (h : GAt w B T M) : GAt w.drew B T M := h
theorem GAt.alloc {w B T M} (h : GAt w B T M) (o : Obj) : GAt (w.alloc o) B T M := heapOld h o

set_option maxHeartbeats 2000000 in
theorem linkCosts_any (B : Nat) (D : Nat → Bool) (ps : Nat → List (Int × Int)) (w : World) (h : ToldAt w B D ps) (hok : ∀ i, i < 12 → Pl.sidesOk (ps i)) :
    Calls Tryd.prog 47 #[.pointer (some ⟨B, 0, none⟩)] w fun e w' => e = .returned (.agg (cells144 (Pl.lnk ps)).toArray) ∧ Below w.heap.size w w' := by
  have HT := hid h
  have HOK := hid hok
  have hB := h.lt
  clear h hok
  obtain ⟨w3, HW3⟩ : ∃ x, Hid (x = ((w.alloc (.cells Tryd.zeroCells111 111)).alloc (.cells Tryd.zeroCells111 111)).alloc (.cells Tryd.zeroCells111 111)) := ⟨_, rfl⟩
  have H3 := hid (alloc3 HW3.out)
  go_enter Tryd.func47, Tryd.ntmps47
  go_wp2_with fail
  go_loopw [13] (fun i wr => ∃ k : Nat, k ≤ 12 ∧ i = .int .i64 k ∧ Hid (GAt wr (w.heap.size + 1) 111 (Pl.said ps k 0)) ∧ Hid (But (w.heap.size + 1) w3 wr)) (fun i _ => 12 - (intOf i).toNat)
  case atStart => exact ⟨0, by omega, rfl, by show GAt _ _ _ _; rw [Pl.said_zero, ← HW3.out]; exact H3.out.2.2.2.1, by show But _ _ _; rw [← HW3.out]; exact But.refl _ _⟩
  case round =>
    obtain ⟨k, hk, rfl, HG, HU⟩ := hrel
    have HBW : Hid (Below w.heap.size w wr) := hid (H3.out.2.1.trans (HU.out.below (by omega) (by have := H3.out.1; omega)))
    have hzr : w.heap.size + 3 ≤ wr.heap.size := by have := HU.out.size; have := H3.out.1; omega
    by_cases hlt : k < 12
    · have hd := (HBW.out.cell (p := ⟨B, k * 2, none⟩) hB).trans (HT.out.drain k hlt)
      obtain ⟨a, len, cap, hs, hp⟩ := HT.out.sides k hlt
      have hs := (HBW.out.cell (p := ⟨B, k * 2 + 1, none⟩) hB).trans hs
      have HP := hid hp
      have hBr : B < wr.heap.size := by omega
      clear hp
      generalize D k = d at hd
      go_wp2_with fail
      go_region
      go_wp2_with fail
      go_loopw [22] (fun i wr => ∃ j : Nat, j ≤ len ∧ i = .int .i64 j ∧ Hid (GAt wr (w.heap.size + 1) 111 (Pl.said ps k j)) ∧ Hid (But (w.heap.size + 1) w3 wr)) (fun i _ => len - (intOf i).toNat)
      case atStart => exact ⟨0, by omega, rfl, HG.out.alloc _, (HU.out.alloc _).drew⟩
      case round =>
        obtain ⟨j, hj, rfl, HG2, HU2⟩ := hrel
        have HBW2 : Hid (Below w.heap.size w wr) := hid (H3.out.2.1.trans (HU2.out.below (by omega) (by have := H3.out.1; omega)))
        have hzq : w.heap.size + 3 ≤ wr.heap.size := by have := HU2.out.size; have := H3.out.1; omega
        have hlen : (ps k).length = len := HP.out.1
        by_cases hjl : j < len
        · obtain ⟨b, off, rfl, hbw, hr⟩ : ∃ b off, a = some ⟨b, off, none⟩ ∧ b < w.heap.size ∧ PairsAt w b off (ps k) := by
            rcases HP.out.2.2.2.2 with h | h
            · rw [h] at hlen; simp at hlen; omega
            · exact h
          obtain ⟨c0, c1⟩ := (hr.below hbw HBW2.out) j (by omega)
          obtain ⟨o1, o2, o3, o4⟩ := (HOK.out k hlt).at j (by omega)
          obtain ⟨x, HX⟩ : ∃ x : Nat, Hid ((Pl.pr (ps k) j).1 = x) := ⟨(Pl.pr (ps k) j).1.toNat, hid (by omega)⟩
          obtain ⟨v, HV⟩ : ∃ v, Hid ((Pl.pr (ps k) j).2 = v) := ⟨_, rfl⟩
          have hx : x < 12 := by have := HX.out; omega
          rw [HX.out] at c0
          rw [HV.out] at c1
          clear o1 o2 o3 o4 hr hlen
          have hbr : b < wr.heap.size := by omega
          have hS : w.heap.size + 1 < wr.heap.size := by omega
          have hlm : len ≤ 9223372036854775807 := by have h1 := HP.out.2.1; have h2 := HP.out.2.2.1; unfold maxLen at h2; omega
          have hg := HG2.out.cell k x hlt hx
          have hgz := CellsAt.soft HG2.out (k * 12 + x)
          go_wp2_with fail
          go_region
          go_wp2_with fail
          go_roundw
          case rel =>
            refine ⟨j + 1, by omega, by go_num, ?_, ((HU2.out.setCell _ _).alloc _).drew⟩
            show GAt _ _ _ _
            rw [← Pl.said_step ps k j x v (by rw [HX.out]; simp) HV.out]
            exact ((HG2.out.set k x hx v).alloc _).drew
          case measure => simp [intOf]; omega
        · obtain rfl : j = len := by omega
          go_wp2_with fail
          go_roundw
          case rel => exact ⟨k + 1, by omega, by go_num, by show GAt _ _ _ _; rw [← Pl.said_next, hlen]; exact HG2.out, HU2⟩
          case measure => simp [intOf]; omega
    · obtain rfl : k = 12 := by omega
      have HK0 := hid (CellsAt.but H3.out.2.2.2.2 HU.out (by omega))
      have HR0 := hid (CellsAt.but H3.out.2.2.1 HU.out (by omega))
      rename World => w4
      go_wp2_with fail
      go_loopw [35] (fun i wr => ∃ k : Nat, k ≤ 12 ∧ i = .int .i64 k ∧ Hid (GAt wr (w.heap.size + 1 + 1) 111 (Pl.lnkN ps k 0)) ∧ Hid (But (w.heap.size + 1 + 1) w4 wr)) (fun i _ => 12 - (intOf i).toNat)
      case atStart => exact ⟨0, by omega, rfl, GAt.ext HK0.out (fun a b _ _ => by unfold Pl.lnkN; rw [if_neg (by omega)]), But.refl _ _⟩
      case round =>
        obtain ⟨k, hk, rfl, HG1, HU1⟩ := hrel
        by_cases hlt : k < 12
        · go_wp2_with fail
          go_loopw [38] (fun i wr => ∃ j : Nat, j ≤ 12 ∧ i = .int .i64 j ∧ Hid (GAt wr (w.heap.size + 1 + 1) 111 (Pl.lnkN ps k j)) ∧ Hid (But (w.heap.size + 1 + 1) w4 wr)) (fun i _ => 12 - (intOf i).toNat)
          case atStart => exact ⟨0, by omega, rfl, HG1, HU1⟩
          case round =>
            obtain ⟨j, hj, rfl, HG2, HU2⟩ := hrel
            by_cases hjl : j < 12
            · have hS := CellsAt.but HG.out HU2.out (by omega)
              have h1 := GAt.cell hS j k hjl hlt
              have h2 := GAt.cell hS k j hlt hjl
              have h3 := HG2.out.cell k j hlt hjl
              have h4 := CellsAt.soft HG2.out (k * 12 + j)
              have h5 := CellsAt.lt hS
              have h6 := CellsAt.lt HG2.out
              obtain ⟨x, HX⟩ : ∃ x, Hid (Pl.say (ps j) k = x) := ⟨_, rfl⟩
              obtain ⟨y, HY⟩ : ∃ x, Hid (Pl.say (ps k) j = x) := ⟨_, rfl⟩
              rw [show Pl.said ps 12 0 j k = x by unfold Pl.said; rw [if_pos hjl, HX.out]] at h1
              rw [show Pl.said ps 12 0 k j = y by unfold Pl.said; rw [if_pos hlt, HY.out]] at h2
              clear hS
              by_cases hx : 0 < x
              · go_wp2_with fail
                go_region
                go_wp2_with fail
                go_roundw
                case rel =>
                  refine ⟨j + 1, by omega, by go_num, (HG2.out.set k j hjl y).ext (fun a b ha hb => ?_), (HU2.out.setCell _ _).drew⟩
                  unfold Pl.upd Pl.lnkN
                  by_cases h1 : a = k
                  · subst h1
                    rw [if_pos rfl]
                    by_cases h2 : b = j
                    · subst h2; rw [if_pos rfl, if_pos (Or.inr ⟨rfl, by omega⟩)]; unfold Pl.lnk; rw [HX.out, if_pos hx, HY.out]
                    · rw [if_neg h2]
                      by_cases h3 : b < j
                      · rw [if_pos (.inr ⟨rfl, h3⟩), if_pos (.inr ⟨rfl, by omega⟩)]
                      · rw [if_neg (by omega), if_neg (by omega)]
                  · rw [if_neg h1]
                    by_cases h3 : a < k
                    · rw [if_pos (.inl h3), if_pos (.inl h3)]
                    · rw [if_neg (by omega), if_neg (by omega)]
                case measure => simp [intOf]; omega
              · go_wp2_with fail
                go_roundw
                case rel =>
                  refine ⟨j + 1, by omega, by go_num, HG2.out.ext (fun a b ha hb => ?_), HU2⟩
                  unfold Pl.lnkN
                  by_cases h1 : a = k ∧ b = j
                  · obtain ⟨rfl, rfl⟩ := h1
                    rw [if_neg (by omega), if_pos (.inr ⟨rfl, by omega⟩)]
                    unfold Pl.lnk
                    rw [HX.out, if_neg hx]
                  · by_cases h2 : a < k ∨ a = k ∧ b < j
                    · rw [if_pos h2, if_pos (by omega)]
                    · rw [if_neg h2, if_neg (by omega)]
                case measure => simp [intOf]; omega
            · obtain rfl : j = 12 := by omega
              go_wp2_with fail
              go_roundw
              case rel =>
                refine ⟨k + 1, by omega, by go_num, HG2.out.ext (fun a b ha hb => ?_), HU2⟩
                unfold Pl.lnkN
                by_cases h2 : a < k ∨ a = k ∧ b < 12
                · rw [if_pos h2, if_pos (by omega)]
                · rw [if_neg h2, if_neg (by omega)]
              case measure => simp [intOf]; omega
        · obtain rfl : k = 12 := by omega
          have HA := hid (GAt.ext (M' := Pl.lnk ps) HG1.out (fun a b ha hb => by unfold Pl.lnkN; rw [if_pos (.inl ha)]))
          have HRA := hid HA.out.all
          have HR1 := hid (CellsAt.but HR0.out HU1.out (by omega))
          have HTH := hid (CellsAt.there HR1.out 0 144 (by omega))
          rw [← cells144_len (Pl.lnk ps)] at HTH
          obtain ⟨w5, HX⟩ : ∃ x, Hid (x = wr.setCells w.heap.size 0 (cells144 (Pl.lnk ps))) := ⟨_, rfl⟩
          have HRL : Hid (w5.rangeAt w.heap.size 0 (cells144 (Pl.lnk ps))) := hid (by rw [HX.out]; exact World.rangeAt_setCells_same _ _ _ _ HTH.out)
          go_wp2_with (first
            | refine wpList_load_mid rfl 111 (.tmp 4) rfl (w.heap.size + 1 + 1) 0 rfl (cells144 (Pl.lnk ps)) _ HRA.out Tryd.underlying111 rfl (by rw [cells144_len]; exact infoCosts) ?_
            | refine wpList_store_as rfl 111 (.tmp 2) (.tmp 58) rfl w.heap.size 0 (cells144 (Pl.lnk ps)) rfl rfl HTH.out (by rw [cells144_len]; exact infoCosts) (cells144_one _) HX.out ?_)
          refine bodyPost_ret (v := .agg (cells144 (Pl.lnk ps)).toArray) ?_ rfl ⟨rfl, ?_⟩
          · exact results_mid rfl rfl HRL.out Tryd.underlying111 rfl (by rw [cells144_len]; exact infoCosts)
          · rw [HX.out]
            exact (H3.out.2.1.trans ((HU.out.below (by omega) (by have := H3.out.1; omega)).trans (HU1.out.below (by omega) (by have := HU.out.size; have := H3.out.1; omega)))).trans ((But.setCells _ 0 _ (But.refl w.heap.size wr)).below (Nat.le_refl _) (by have := CellsAt.lt HR1.out; omega))
end Go.Proofs.YtcdobhdbafpkiadDoor
/-
  Contracts: the place of a key in a store in order: the closure, the search, find; the document's placeOf.
-/
namespace Go.Proofs.YtcdobhdbafpkiadDoor
open Go.RowKit
set_option maxRecDepth 20000

theorem RowAt.drewN {w : World} {b off : Nat} {es : List Pl.Ent} (h : RowAt w b off es) (n : Nat) : RowAt (w.drewN n) b off es := fun i hi => h i hi

set_option maxHeartbeats 400000 in
theorem clo_any (es : List Pl.Ent) (key : ByteArray) (b off len cap bl bk i : Nat) (w : World) (hl : es.length = len) (_hc : len ≤ cap) (_hm : cap ≤ maxLen)
    (hrow : RowAt w b off es) (h1 : w.cell? ⟨bl, 0, none⟩ = some (.slice (some ⟨b, off, none⟩) len cap)) (h2 : w.cell? ⟨bk, 0, none⟩ = some (.string key)) (hi : i < len) :
    Calls Tryd.prog 64 #[.int .i64 i, .pointer (some ⟨bl, 0, none⟩), .pointer (some ⟨bk, 0, none⟩)] w fun e w' => e = .returned (.bool (!Pl.ltB (Pl.ent es i).key key)) ∧ ∃ n, w' = w.drewN n := by
  unfold maxLen at _hm
  obtain ⟨c0, _, _, _⟩ := hrow i (by omega)
  have hi' : (i : Int) < (len : Int) := by omega
  go_enter Tryd.func64, Tryd.ntmps64
  go_wp2_with fail
  go_quiet (fail)
  go_wp2
  go_ret
  exact ⟨rfl, _, rfl⟩

set_option maxHeartbeats 400000 in
theorem Search_any (es : List Pl.Ent) (key : ByteArray) (a : Option Addr) (len cap bl bk : Nat) (w : World) (hl : es.length = len) (hc : len ≤ cap) (hm : cap ≤ maxLen)
    (hrow : es = [] ∨ ∃ b off, a = some ⟨b, off, none⟩ ∧ RowAt w b off es) (h1 : w.cell? ⟨bl, 0, none⟩ = some (.slice a len cap)) (h2 : w.cell? ⟨bk, 0, none⟩ = some (.string key)) (has : Pl.Asc es) (h60 : len ≤ 60) :
    Calls Tryd.prog 63 #[.int .i64 len, .func (.func 64) #[] #[.pointer (some ⟨bl, 0, none⟩), .pointer (some ⟨bk, 0, none⟩)]] w fun e w' => e = .returned (.int .i64 (Pl.pos es key)) ∧ ∃ n, w' = w.drewN n := by
  have hm' : cap ≤ maxLen := hm
  have HM : Hid (cap ≤ maxLen) := hm'
  clear hm'
  unfold maxLen at hm
  have HR : Hid (es = [] ∨ ∃ b off, a = some ⟨b, off, none⟩ ∧ RowAt w b off es) := hrow
  have H1 : Hid (w.cell? ⟨bl, 0, none⟩ = some (.slice a len cap)) := h1
  have H2 : Hid (w.cell? ⟨bk, 0, none⟩ = some (.string key)) := h2
  have HA : Hid (Pl.Asc es) := has
  clear hrow h1 h2 has
  go_enter Tryd.func63, Tryd.ntmps63
  go_wp2
  go_loopw [5, 6] (fun i j wr => ∃ x y n : Nat, x ≤ y ∧ y ≤ len ∧ i = .int .i64 x ∧ j = .int .i64 y ∧ Hid (wr = w.drewN n) ∧ Hid (∀ t, t < x → Pl.ltB (Pl.ent es t).key key = true) ∧ Hid (∀ t, y ≤ t → t < len → Pl.ltB (Pl.ent es t).key key = false)) (fun i j _ => (intOf j).toNat - (intOf i).toNat)
  case atStart => exact ⟨0, len, 0, Nat.zero_le _, Nat.le_refl _, rfl, rfl, rfl, fun t h => by omega, fun t h h' => by omega⟩
  case round =>
    obtain ⟨x, y, n, hxy, hy, rfl, rfl, HW, HX, HY⟩ := hrel
    by_cases hlt : x < y
    · obtain ⟨b, off, rfl, hrow⟩ : ∃ b off, a = some ⟨b, off, none⟩ ∧ RowAt w b off es := by
        rcases HR.out with h | h
        · rw [h] at hl; simp at hl; omega
        · exact h
      have hr : RowAt wr b off es := by rw [HW.out]; exact hrow.drewN n
      have h1 : wr.cell? ⟨bl, 0, none⟩ = some (.slice (some ⟨b, off, none⟩) len cap) := by rw [HW.out]; exact H1.out
      have h2 : wr.cell? ⟨bk, 0, none⟩ = some (.string key) := by rw [HW.out]; exact H2.out
      have HC := fun m => clo_any es key b off len cap bl bk m wr hl hc HM.out hr h1 h2
      have HC' : Hid _ := HC
      clear HC hr h1 h2
      go_wp2_with fail
      obtain ⟨m, hm2, hxm, hmy⟩ : ∃ m : Nat, ((x : Int) + (y : Int)) / 2 = (m : Int) ∧ x ≤ m ∧ m < y := ⟨(x + y) / 2, by omega, by omega, by omega⟩
      rw [hm2]
      clear hm2
      refine (HC'.out m (by omega)).mono ?_
      rintro e w' ⟨rfl, q, hq⟩
      have HQ : Hid (w' = wr.drewN q) := hq
      clear hq
      obtain ⟨ll, HL⟩ : ∃ ll, Hid (Pl.ltB (Pl.ent es m).key key = ll) := ⟨_, rfl⟩
      rw [HL.out]
      have HW' : Hid (w' = w.drewN (n + q)) := by show _ = _; rw [HQ.out, HW.out, World.drewN_drewN]
      cases ll
      · go_wp2
        go_roundw
        case rel => exact ⟨x, m, n + q, by omega, by omega, rfl, rfl, HW', HX, fun t h h' => Pl.asc_ge HA.out (by omega) h HL.out⟩
        case measure => simp [intOf]; omega
      · go_wp2
        go_roundw
        case rel => exact ⟨m + 1, y, n + q, by omega, by omega, by go_num, rfl, HW', fun t h => Pl.asc_lt HA.out (by omega) (by omega) HL.out, HY⟩
        case measure => simp [intOf]; omega
    · obtain rfl : x = y := by omega
      go_wp2
      go_ret
      exact ⟨ret_int (by rw [Pl.pos_of (by omega) HX.out (fun h => HY.out x (Nat.le_refl _) (by omega))]), n, HW.out⟩

set_option maxHeartbeats 400000 in
theorem find_any (a : Option Addr) (len cap : Nat) (es : List Pl.Ent) (key : ByteArray) (w : World) (h : IsEnts w a len cap es) (has : Pl.Asc es) (h60 : len ≤ 60) :
    Calls Tryd.prog 42 #[.slice a len cap, .string key] w fun e w' => e = .returned (.tuple #[.int .i64 (Pl.pos es key), .bool (Pl.there es key)]) ∧ Below w.heap.size w w' := by
  obtain ⟨hl, hc, hm, _, hrow⟩ := h
  have hmf : ∀ (fn : Fn) (first cap : Array Value) (w : World), (Instr.makeFunc fn first cap).run Tryd.prog w = .ok (.func fn first cap) w := fun _ _ _ _ => rfl
  have HB : Hid (Below w.heap.size w ((w.alloc (.cells #[.slice a len cap] 45)).alloc (.cells #[.string key] 9))) := ((Below.refl _ _).alloc (Nat.le_refl _) _).alloc (by simp) _
  have HS : Hid (Calls Tryd.prog 63 #[.int .i64 len, .func (.func 64) #[] #[.pointer (some ⟨w.heap.size, 0, none⟩), .pointer (some ⟨w.heap.size + 1, 0, none⟩)]] ((w.alloc (.cells #[.slice a len cap] 45)).alloc (.cells #[.string key] 9)) fun e w' => e = .returned (.int .i64 (Pl.pos es key)) ∧ ∃ n, w' = ((w.alloc (.cells #[.slice a len cap] 45)).alloc (.cells #[.string key] 9)).drewN n) := by
    refine Search_any es key a len cap _ _ _ hl hc hm ?_ ?_ ?_ has h60
    · rcases hrow with h | ⟨b, off, rfl, hb, hr⟩
      · exact .inl h
      · exact .inr ⟨b, off, rfl, hr.below hb HB.out⟩
    · go_simp
    · go_simp
  have hp := Pl.pos_le es key
  unfold maxLen at hm
  rcases Nat.lt_or_ge (Pl.pos es key) len with hlt | hge
  · obtain ⟨b, off, rfl, hb, hr⟩ : ∃ b off, a = some ⟨b, off, none⟩ ∧ b < w.heap.size ∧ RowAt w b off es := by
      rcases hrow with h | h
      · rw [h] at hl; simp at hl; omega
      · exact h
    obtain ⟨c0, _, _, _⟩ := hr (Pl.pos es key) (by omega)
    have HT : Hid (Pl.there es key = ((Pl.ent es (Pl.pos es key)).key.toList == key.toList)) := by
      show _ = _
      unfold Pl.there
      rw [Pl.beqL, decide_eq_true (show Pl.pos es key < es.length by omega)]; rfl
    generalize Pl.pos es key = p at *
    clear hrow hr
    have hlt' : (p : Int) < (len : Int) := by omega
    go_enter Tryd.func42, Tryd.ntmps42
    go_wp2_with fail
    refine HS.out.mono ?_
    rintro e w' ⟨rfl, n, hn⟩
    subst hn
    go_wp2_with fail
    go_quiet (fail)
    go_wp2
    go_ret2
    exact ⟨by rw [HT.out]; rfl, below_drewN (below_drewN HB.out _) _⟩
  · have HT : Hid (Pl.there es key = false) := by
      show _ = _
      unfold Pl.there
      rw [decide_eq_false (show ¬ Pl.pos es key < es.length by omega)]; rfl
    generalize Pl.pos es key = p at *
    have hd : decide ((p : Int) < (len : Int)) = false := by simp; omega
    have hd' : decide (p < len) = false := by simp; omega
    go_enter Tryd.func42, Tryd.ntmps42
    go_wp2_with fail
    refine HS.out.mono ?_
    rintro e w' ⟨rfl, n, hn⟩
    subst hn
    go_wp2_with fail
    go_quiet (fail)
    go_wp2
    go_ret2
    exact ⟨by rw [HT.out]; rfl, below_drewN (below_drewN HB.out _) _⟩

end Go.Proofs.YtcdobhdbafpkiadDoor
/-
  Contracts: what Compare, ComparedOf and Above answer at every two entries.
-/
namespace Go.Proofs.YtcdobhdbafpkiadDoor
open Go.RowKit
set_option maxRecDepth 20000

theorem isNaNi_any (n : Int) (w : World) :
    Calls Tryd.prog 70 #[.int .i64 n] w fun e w' => e = .returned (.bool false) ∧ w' = w := by
  go_enter Tryd.func70, Tryd.ntmps70
  go_wp2
  go_ret
  exact ⟨ret_bool (by simp), rfl⟩

theorem isNaNs_any (x : ByteArray) (w : World) :
    Calls Tryd.prog 88 #[.string x] w fun e w' => e = .returned (.bool false) ∧ w' = w := by
  go_enter Tryd.func88, Tryd.ntmps88
  go_wp2
  go_ret
  exact ⟨ret_bool (by simp), rfl⟩

set_option maxHeartbeats 400000 in
theorem cmpi_any (a b : Int) (w : World) :
    Calls Tryd.prog 61 #[.int .i64 a, .int .i64 b] w fun e w' => e = .returned (.int .i64 (Pl.cmpI a b)) ∧ w' = w := by
  rcases Int.lt_trichotomy a b with h | rfl | h
  · go_enter Tryd.func61, Tryd.ntmps61
    go_wp2_with (go_at_call 70; refine (isNaNi_any _ _).mono ?_; rintro e w' ⟨rfl, rfl⟩)
    go_ret
    exact ⟨ret_int (Pl.cmpI_lt h).symm, rfl⟩
  · go_enter Tryd.func61, Tryd.ntmps61
    go_wp2_with (go_at_call 70; refine (isNaNi_any _ _).mono ?_; rintro e w' ⟨rfl, rfl⟩)
    go_ret
    exact ⟨ret_int (Pl.cmpI_eq _).symm, rfl⟩
  · have h' : ¬ a < b := by omega
    go_enter Tryd.func61, Tryd.ntmps61
    go_wp2_with (go_at_call 70; refine (isNaNi_any _ _).mono ?_; rintro e w' ⟨rfl, rfl⟩)
    go_ret
    exact ⟨ret_int (Pl.cmpI_gt h).symm, rfl⟩

set_option maxHeartbeats 400000 in
theorem cmps_any (a b : ByteArray) (w : World) :
    Calls Tryd.prog 75 #[.string a, .string b] w fun e w' => e = .returned (.int .i64 (Pl.cmpS a b)) ∧ w' = w := by
  rcases Pl.tri a b with ⟨h, h', hn⟩ | rfl | ⟨h, h', hn⟩
  · go_enter Tryd.func75, Tryd.ntmps75
    go_wp2_with (go_at_call 88; refine (isNaNs_any _ _).mono ?_; rintro e w' ⟨rfl, rfl⟩)
    go_ret
    exact ⟨ret_int (Pl.cmpS_lt h).symm, rfl⟩
  · have h := Pl.ltB_irrefl a
    have h' : Op.bytesLess a.toList a.toList = false := h
    clear h
    go_enter Tryd.func75, Tryd.ntmps75
    go_wp2_with (go_at_call 88; refine (isNaNs_any _ _).mono ?_; rintro e w' ⟨rfl, rfl⟩)
    go_ret
    exact ⟨ret_int (Pl.cmpS_eq _).symm, rfl⟩
  · have he := Pl.beqL_false hn
    go_enter Tryd.func75, Tryd.ntmps75
    go_wp2_with (go_at_call 88; refine (isNaNs_any _ _).mono ?_; rintro e w' ⟨rfl, rfl⟩)
    go_ret
    exact ⟨ret_int (Pl.cmpS_gt h').symm, rfl⟩

set_option maxHeartbeats 400000 in
theorem Compare_any (k1 k2 : ByteArray) (v1 o1 v2 o2 : Int) (x1 x2 : ByteArray) (w : World) :
    Calls Tryd.prog 65 #[.agg #[.string k1, .int .i64 v1, .int .i64 o1, .string x1], .agg #[.string k2, .int .i64 v2, .int .i64 o2, .string x2]] w
      fun e w' => e = .returned (.int .i64 (Pl.cmpE v1 o1 x1 v2 o2 x2)) ∧ Below w.heap.size w w' := by
  obtain ⟨c1, H1⟩ : ∃ c, Hid (Pl.cmpI v1 v2 = c) := ⟨_, rfl⟩
  obtain ⟨c2, H2⟩ : ∃ c, Hid (Pl.cmpI o1 o2 = c) := ⟨_, rfl⟩
  obtain ⟨c3, H3⟩ : ∃ c, Hid (Pl.cmpS x1 x2 = c) := ⟨_, rfl⟩
  have HE : Hid (Pl.cmpE v1 o1 x1 v2 o2 x2 = if c1 ≠ 0 then c1 else if c2 ≠ 0 then c2 else c3) := by
    show _ = _
    unfold Pl.cmpE; rw [H1.out, H2.out, H3.out]
  by_cases e1 : c1 = 0
  all_goals by_cases e2 : c2 = 0
  all_goals
    first | (have b1 : (c1 != 0) = false := by simp [e1]) | (have b1 : (c1 != 0) = true := by simp [e1])
  all_goals
    first | (have b2 : (c2 != 0) = false := by simp [e2]) | (have b2 : (c2 != 0) = true := by simp [e2])
  all_goals
    have HF : Hid (Pl.cmpE v1 o1 x1 v2 o2 x2 = if c1 ≠ 0 then c1 else if c2 ≠ 0 then c2 else c3) := HE
    clear HE
    have E1 : Hid (c1 = 0 ∨ True) := Or.inr trivial
    simp only [e1, e2, ne_eq, not_true_eq_false, not_false_eq_true, if_true, if_false] at HF
    clear e1 e2 E1
    go_enter Tryd.func65, Tryd.ntmps65
    go_wp2_with (first | (go_at_call_of 61 (Value.int IntKind.i64 v1); refine (cmpi_any _ _ _).mono ?_; rw [H1.out]; rintro e w' ⟨rfl, rfl⟩) | (go_at_call_of 61 (Value.int IntKind.i64 o1); refine (cmpi_any _ _ _).mono ?_; rw [H2.out]; rintro e w' ⟨rfl, rfl⟩) | (go_at_call 75; refine (cmps_any _ _ _).mono ?_; rw [H3.out]; rintro e w' ⟨rfl, rfl⟩))
    go_ret
    exact ⟨ret_int HF.out.symm, ((Below.refl _ _).alloc (Nat.le_refl _) _).alloc (by simp) _⟩

end Go.Proofs.YtcdobhdbafpkiadDoor
/-
  Contract: comes tells whether an entry is to be laid.
-/
namespace Go.Proofs.YtcdobhdbafpkiadDoor
open Go.RowKit
set_option maxRecDepth 20000

set_option maxHeartbeats 1000000 in
theorem comes_any (a : Option Addr) (len cap : Nat) (es : List Pl.Ent) (x : Pl.Ent) (w : World) (h : IsEnts w a len cap es) :
    Calls Tryd.prog 43 #[.slice a len cap, .int .i64 (Pl.pos es x.key), .bool (Pl.there es x.key), .agg #[.string x.key, .int .i64 x.ver, .int .i64 x.org, .string x.val]] w
      fun e w' => e = .returned (.bool (Pl.comesB es x)) ∧ Below w.heap.size w w' := by
  obtain ⟨hl, hc, hm, _, hrow⟩ := h
  unfold maxLen at hm
  obtain ⟨t, HT⟩ : ∃ t, Hid (Pl.there es x.key = t) := ⟨_, rfl⟩
  cases t
  · have HC : Hid (Pl.comesB es x = decide ((len : Int) < 60)) := by
      show _ = _
      unfold Pl.comesB; rw [HT.out, Bool.eq_iff_iff]; simp; omega
    rw [HT.out]
    generalize Pl.comesB es x = cb at *
    generalize Pl.pos es x.key = p at *
    obtain ⟨xk, xv, xo, xx⟩ := x
    go_enter Tryd.func43, Tryd.ntmps43
    go_wp2
    go_ret
    exact ⟨ret_bool HC.out.symm, (Below.refl _ _).alloc (Nat.le_refl _) _⟩
  · have hlt : Pl.pos es x.key < len := by
      have := HT.out
      unfold Pl.there at this
      simp only [Bool.and_eq_true, decide_eq_true_eq] at this
      omega
    have HC : Hid (Pl.comesB es x = decide (0 < Pl.cmpE x.ver x.org x.val (Pl.ent es (Pl.pos es x.key)).ver (Pl.ent es (Pl.pos es x.key)).org (Pl.ent es (Pl.pos es x.key)).val)) := by
      show _ = _
      unfold Pl.comesB; rw [HT.out]; rfl
    rw [HT.out]
    generalize Pl.comesB es x = cb at *
    obtain ⟨b, off, rfl, hb, hr⟩ : ∃ b off, a = some ⟨b, off, none⟩ ∧ b < w.heap.size ∧ RowAt w b off es := by
      rcases hrow with h | h
      · rw [h] at hl; simp at hl; omega
      · exact h
    clear hrow
    obtain ⟨q0, q1, q2, q3⟩ := hr (Pl.pos es x.key) (by omega)
    generalize Pl.pos es x.key = p at *
    generalize Pl.ent es p = y at *
    obtain ⟨xk, xv, xo, xx⟩ := x
    obtain ⟨yk, yv, yo, yx⟩ := y
    simp only at q0 q1 q2 q3
    have hlt' : (p : Int) < (len : Int) := by omega
    go_enter Tryd.func43, Tryd.ntmps43
    go_wp2_with fail
    go_region_with (go_at_call 65; refine (Compare_any _ _ _ _ _ _ _ _ _).mono ?_; rintro e w' ⟨rfl, hbc⟩)
    all_goals
      go_wp2_with fail
      go_ret
      exact ⟨ret_bool HC.out.symm, (((Below.refl _ _).alloc (Nat.le_refl _) _).drew).trans (hbc.mono (by simp))⟩
end Go.Proofs.YtcdobhdbafpkiadDoor
