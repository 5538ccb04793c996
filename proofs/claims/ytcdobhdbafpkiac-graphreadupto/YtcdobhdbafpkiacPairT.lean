/-
  Contracts: a pair of numbers that a text tells: readPair and the document's pairOf.
-/
import Derived.Test.YtcdobhdbafpkiacNum
import Derived.Test.YtcdobhdbafpkiacPair
namespace Go.Proofs.Ytcdobhdbafpkiac
open Go.RowKit

theorem Pl.cut_size {m : UInt8} {s a b : ByteArray} (ha : a.data.toList = (Pl.cutL m s.data.toList).1) (hb : b.data.toList = Pl.behind (Pl.cutL m s.data.toList).2) : a.size ≤ s.size ∧ b.size ≤ s.size := by
  rw [← sz_list a, ← sz_list b, ← sz_list s, ha, hb]
  obtain ⟨h1, h2⟩ := Pl.cutL_len m s.data.toList
  refine ⟨h1, ?_⟩
  cases h : (Pl.cutL m s.data.toList).2
  · simp [Pl.behind]
  · have := h2 _ h; simp only [Pl.behind, Option.getD_some]; omega

set_option maxHeartbeats 1000000 in
theorem readPair_any (s : ByteArray) (m : UInt8) (w : World) (hs : s.size ≤ maxLen) :
    Calls Try.prog 39 #[.string s, .string ⟨#[m]⟩] w fun e w' => ∃ x y : Int, e = .returned (.tuple #[.agg #[.int .i64 x, .int .i64 y], .bool (Pl.pairL m s.data.toList).isSome]) ∧
      (∀ p, Pl.pairL m s.data.toList = some p → (x, y) = p) ∧ Below w.heap.size w w' := by
  have HS := hid hs
  clear hs
  obtain ⟨na, HA⟩ : ∃ x, Hid (Pl.numL (Pl.cutL m s.data.toList).1 = x) := ⟨_, rfl⟩
  obtain ⟨nb, HB⟩ : ∃ x, Hid (Pl.numL (Pl.behind (Pl.cutL m s.data.toList).2) = x) := ⟨_, rfl⟩
  obtain ⟨np, HP⟩ : ∃ x, Hid (Pl.pairL m s.data.toList = x) := ⟨_, rfl⟩
  have HC : Hid (∀ x y : Int, (∀ n, na = some n → x = n) → (∀ n, nb = some n → y = n) → (na.isSome && nb.isSome) = np.isSome ∧ (∀ p, np = some p → (x, y) = p)) := by
    refine hid fun x y hx hy => ?_
    have hp := HP.out
    unfold Pl.pairL at hp
    rw [HA.out, HB.out] at hp
    cases na <;> cases nb <;> simp at hp hx hy <;> subst hp <;> simp [hx, hy]
  rw [HP.out]
  go_enter Try.func39, Try.ntmps39
  go_wp2_with (go_at_call 38; refine (Cut_any _ _ _ HS.out).mono ?_; rintro e w1 ⟨a, b, rfl, ha, hb, n, rfl⟩)
  have HSZ := hid (Pl.cut_size ha hb)
  have HA1 := hid ha
  have HB1 := hid hb
  clear ha hb
  refine (readNumber_any a _ (Nat.le_trans HSZ.out.1 HS.out)).mono ?_
  rw [HA1.out, HA.out]
  rintro e w2 ⟨x, rfl, hx, rfl⟩
  have HX := hid hx
  clear hx
  go_wp2_with (go_at_call 52; refine (readNumber_any b _ (Nat.le_trans HSZ.out.2 HS.out)).mono ?_; rw [HB1.out, HB.out]; rintro e w3 ⟨y, rfl, hy, rfl⟩; have HY := hid hy; clear hy)
  all_goals
    refine bodyPost_ret (v := .tuple #[.agg #[.int .i64 x, .int .i64 y], .bool np.isSome]) (by rw [← (HC.out x y HX.out HY.out).1]; simp_all [results, Try.results39, go_sem]) rfl ⟨x, y, rfl, (HC.out x y HX.out HY.out).2, ((below_drew ((Below.refl _ _).alloc (Nat.le_refl _) _) n).setCell (Nat.le_refl _) _).setCell (Nat.le_refl _) _⟩

set_option maxHeartbeats 1000000 in
theorem pairOf_any (s : ByteArray) (m : UInt8) (w : World) (hs : s.size ≤ maxLen) :
    Calls Try.prog 27 #[.string s, .int .u8 (m.toNat : Int)] w fun e w' => ∃ x y : Int, e = .returned (.tuple #[.int .i64 x, .int .i64 y, .bool (Pl.pairL m s.data.toList).isSome]) ∧
      (∀ p, Pl.pairL m s.data.toList = some p → (x, y) = p) ∧ w' = w := by
  have HS := hid hs
  unfold maxLen at hs
  obtain ⟨np, HP⟩ : ∃ x, Hid (Pl.pairL m s.data.toList = x) := ⟨_, rfl⟩
  rw [HP.out]
  go_enter Try.func27, Try.ntmps27
  go_wp2
  go_loop [7] (fun i => ∃ k : Nat, k ≤ s.size ∧ i = .int .i64 k ∧ Hid (m ∉ s.data.toList.take k)) (fun i => s.size - (intOf i).toNat)
  case atStart => exact ⟨0, Nat.zero_le _, rfl, hid (by simp)⟩
  case round =>
    obtain ⟨k, hk, rfl, HM⟩ := hrel
    by_cases hlt : k < s.size
    · by_cases he : (s[k].toNat : Int) = (m.toNat : Int)
      · have hem : s[k] = m := by apply UInt8.toNat_inj.1; omega
        have HCUT : Hid (Pl.cutL m s.data.toList = (s.data.toList.take k, some (s.data.toList.drop (k + 1)))) := hid (Pl.cutL_some (by rw [sz_list]; exact hlt) (by rw [List.getElem?_eq_getElem (by rw [sz_list]; exact hlt)]; rw [← hem]; rfl) HM.out)
        have HE1 : Hid ((s.extract 0 k).data.toList = (Pl.cutL m s.data.toList).1) := hid (by rw [ext_list, HCUT.out]; simp)
        have HE2 : Hid ((s.extract (k + 1) s.size).data.toList = Pl.behind (Pl.cutL m s.data.toList).2) := hid (by rw [ext_list, HCUT.out, List.take_of_length_le (by simp)]; rfl)
        have HSZ := hid (Pl.cut_size HE1.out HE2.out)
        obtain ⟨na, HA⟩ : ∃ x, Hid (Pl.numL (Pl.cutL m s.data.toList).1 = x) := ⟨_, rfl⟩
        obtain ⟨nb, HB⟩ : ∃ x, Hid (Pl.numL (Pl.behind (Pl.cutL m s.data.toList).2) = x) := ⟨_, rfl⟩
        obtain ⟨ia, HIA⟩ : ∃ x, Hid (Pl.numI (Pl.cutL m s.data.toList).1 = x) := ⟨_, rfl⟩
        obtain ⟨ib, HIB⟩ : ∃ x, Hid (Pl.numI (Pl.behind (Pl.cutL m s.data.toList).2) = x) := ⟨_, rfl⟩
        have HC : Hid ((decide (0 ≤ ia) && decide (0 ≤ ib)) = np.isSome ∧ (∀ p, np = some p → (ia, ib) = p)) := by
          refine hid ?_
          have hp := HP.out
          unfold Pl.pairL at hp
          rw [HA.out, HB.out] at hp
          have h1 := HIA.out
          have h2 := HIB.out
          unfold Pl.numI at h1 h2
          rw [HA.out] at h1
          rw [HB.out] at h2
          have r1 := fun n => Pl.numL_range (l := (Pl.cutL m s.data.toList).1) (n := n)
          have r2 := fun n => Pl.numL_range (l := Pl.behind (Pl.cutL m s.data.toList).2) (n := n)
          rw [HA.out] at r1
          rw [HB.out] at r2
          cases na <;> cases nb <;> simp at hp h1 h2 r1 r2 <;> subst hp <;> subst h1 <;> subst h2 <;> simp [r1, r2]
        by_cases p1 : 0 ≤ ia
        all_goals
          go_wp2_with fail
          refine (numOf_any (s.extract 0 k) _ (Nat.le_trans HSZ.out.1 HS.out)).mono ?_
          rw [HE1.out, HIA.out]
          rintro e w' ⟨rfl, rfl⟩
          go_wp2_with fail
          refine (numOf_any (s.extract (k + 1) s.size) _ (Nat.le_trans HSZ.out.2 HS.out)).mono ?_
          rw [HE2.out, HIB.out]
          rintro e w' ⟨rfl, rfl⟩
          go_wp2_with fail
          go_ret3
          exact ⟨ia, ib, by rw [← HC.out.1]; first | (rw [decide_eq_true (p := 0 ≤ ia) (by omega)]; rfl) | (rw [decide_eq_false (p := 0 ≤ ia) (by omega)]; rfl), by first | exact HC.out.2 | (intro a b h; have := HC.out.2 _ h; simpa using this), rfl⟩
      · have hen : s[k] ≠ m := by rintro rfl; exact he rfl
        go_wp2
        go_round
        case rel => exact ⟨k + 1, by omega, by go_num, hid (by rw [Pl.take_snoc s k hlt]; simp only [List.mem_append, List.mem_singleton, not_or]; exact ⟨HM.out, fun e => hen e.symm⟩)⟩
        case measure => simp [intOf]; omega
    · obtain rfl : k = s.size := by omega
      have HCUT : Hid (np = none) := by
        refine hid ?_
        have h := HM.out
        rw [take_all] at h
        rw [← HP.out, Pl.pairL_right]
        rw [Pl.cutL_none h]; rfl
      go_wp2
      go_ret3
      exact ⟨0, 0, by rw [HCUT.out]; rfl, by rw [HCUT.out]; simp, rfl⟩
end Go.Proofs.Ytcdobhdbafpkiac
