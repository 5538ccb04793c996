/-
  Contracts: a pair of numbers that a text tells: readPair and the document's pairOf.
-/
import Derived.Test.YtcdobhdbafpkiadDoorNum
import Derived.Test.YtcdobhdbafpkiadDoorPair
namespace Go.Proofs.YtcdobhdbafpkiadDoor
open Go.RowKit
set_option maxRecDepth 20000

theorem Pl.cut_size {m : UInt8} {s a b : ByteArray} (ha : a.data.toList = (Pl.cutL m s.data.toList).1) (hb : b.data.toList = Pl.behind (Pl.cutL m s.data.toList).2) : a.size ≤ s.size ∧ b.size ≤ s.size := by
  rw [← sz_list a, ← sz_list b, ← sz_list s, ha, hb]
  obtain ⟨h1, h2⟩ := Pl.cutL_len m s.data.toList
  refine ⟨h1, ?_⟩
  cases h : (Pl.cutL m s.data.toList).2
  · simp [Pl.behind]
  · have := h2 _ h; simp only [Pl.behind, Option.getD_some]; omega

set_option maxHeartbeats 1000000 in
theorem readPair_any (s : ByteArray) (m : UInt8) (w : World) (hs : s.size ≤ maxLen) :
    Calls Tryd.prog 38 #[.string s, .string ⟨#[m]⟩] w fun e w' => ∃ x y : Int, e = .returned (.tuple #[.agg #[.int .i64 x, .int .i64 y], .bool (Pl.pairL m s.data.toList).isSome]) ∧
      (∀ p, Pl.pairL m s.data.toList = some p → (x, y) = p) ∧ Below w.heap.size w w' := by
  have HS := hid hs
  clear hs
  obtain ⟨na, HA⟩ : ∃ x, Hid (Pl.numL (Pl.cutL m s.data.toList).1 = x) := ⟨_, rfl⟩
  obtain ⟨nb, HB⟩ : ∃ x, Hid (Pl.numL (Pl.behind (Pl.cutL m s.data.toList).2) = x) := ⟨_, rfl⟩
  obtain ⟨np, HP⟩ : ∃ x, Hid (Pl.pairL m s.data.toList = x) := ⟨_, rfl⟩
  have HC : Hid (∀ x y : Int, (∀ n, na = some n → x = n) → (∀ n, nb = some n → y = n) → (na.isSome && nb.isSome) = np.isSome ∧ (∀ p, np = some p → (x, y) = p)) := by
    refine hid fun x y hx hy => ?_
    have hp := HP.out
    unfold Pl.pairL at hp
    rw [HA.out, HB.out] at hp
    cases na <;> cases nb <;> simp at hp hx hy <;> subst hp <;> simp [hx, hy]
  rw [HP.out]
  go_enter Tryd.func38, Tryd.ntmps38
  go_wp2_with (go_at_call 37; refine (Cut_any _ _ _ HS.out).mono ?_; rintro e w1 ⟨a, b, rfl, ha, hb, n, rfl⟩)
  have HSZ := hid (Pl.cut_size ha hb)
  have HA1 := hid ha
  have HB1 := hid hb
  clear ha hb
  refine (readNumber_any a _ (Nat.le_trans HSZ.out.1 HS.out)).mono ?_
  rw [HA1.out, HA.out]
  rintro e w2 ⟨x, rfl, hx, rfl⟩
  have HX := hid hx
  clear hx
  go_wp2_with (go_at_call 59; refine (readNumber_any b _ (Nat.le_trans HSZ.out.2 HS.out)).mono ?_; rw [HB1.out, HB.out]; rintro e w3 ⟨y, rfl, hy, rfl⟩; have HY := hid hy; clear hy)
  all_goals
    refine bodyPost_ret (v := .tuple #[.agg #[.int .i64 x, .int .i64 y], .bool np.isSome]) (by rw [← (HC.out x y HX.out HY.out).1]; simp_all [results, Tryd.results38, go_sem]) rfl ⟨x, y, rfl, (HC.out x y HX.out HY.out).2, ((below_drew ((Below.refl _ _).alloc (Nat.le_refl _) _) n).setCell (Nat.le_refl _) _).setCell (Nat.le_refl _) _⟩

end Go.Proofs.YtcdobhdbafpkiadDoor
