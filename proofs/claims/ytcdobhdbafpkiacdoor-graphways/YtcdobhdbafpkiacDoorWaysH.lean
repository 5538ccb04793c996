/-
  Contracts: two lists of the same numbers (sameInts), of the same ways (sameWays), are told the same.
-/
import Derived.Test.YtcdobhdbafpkiacDoorWaysW
import Derived.Test.YtcdobhdbafpkiacDoorQuiet
namespace Go.Proofs.YtcdobhdbafpkiacDoor
open Go.RowKit
set_option maxRecDepth 20000

theorem OwnI.cells {w : World} {base : Nat} {v : Value} {xs : List Int} (h : OwnI w base v xs) :
    ∃ a cap, v = .slice a xs.length cap ∧ xs.length ≤ cap ∧ cap ≤ maxLen ∧ (xs = [] ∨ ∃ g, a = some ⟨g, 0, none⟩ ∧ g < w.heap.size ∧ ∀ i, i < xs.length → w.cell? ⟨g, i, none⟩ = some (.int .i64 (xs.getD i 0))) := by
  obtain ⟨_, ⟨h, h1⟩ | ⟨g, cap, cur, rfl, hb, hh, hn, hm, hs, hx⟩⟩ := h
  · have e : xs = [] := List.length_eq_zero_iff.1 h1
    subst e
    exact ⟨none, 0, h, Nat.le_refl _, by simp, .inl rfl⟩
  · refine ⟨_, cap, rfl, hn, hm, .inr ⟨g, rfl, blockLt hh, fun i hi => ?_⟩⟩
    have hj : (cellsI xs)[i]? = some (.int .i64 (xs.getD i 0)) := by
      simp [cellsI, List.getD_eq_getElem?_getD, List.getElem?_eq_getElem hi]
    rw [← hx] at hj
    have hj' : cur[i]? = some (.int .i64 (xs.getD i 0)) := by
      rw [List.getElem?_take] at hj
      split at hj
      · rw [← Array.getElem?_toList]; exact hj
      · cases hj
    simp [World.cell?, hh, hj']
theorem cellsW_get : ∀ (ts : List (Int × Value × List Int)) (i : Nat) (hi : i < ts.length), (cellsW ts)[i * 2]? = some (.int .i64 ts[i].1) ∧ (cellsW ts)[i * 2 + 1]? = some ts[i].2.1
  | [], i, h => by simp at h
  | p :: r, 0, _ => by simp [cellsW]
  | p :: r, i + 1, h => by
    have := cellsW_get r i (by simpa using h)
    rw [show (i + 1) * 2 = i * 2 + 2 by omega]
    simpa [cellsW] using this
theorem OwnW.cells {w : World} {base : Nat} {v : Value} {ts : List (Int × Value × List Int)} (h : OwnW w base v ts) :
    ∃ a cap, v = .slice a ts.length cap ∧ ts.length ≤ cap ∧ cap ≤ maxLen ∧ (ts = [] ∨ ∃ g, a = some ⟨g, 0, none⟩ ∧ g < w.heap.size ∧ ∀ i (hi : i < ts.length), w.cell? ⟨g, i * 2, none⟩ = some (.int .i64 ts[i].1) ∧ w.cell? ⟨g, i * 2 + 1, none⟩ = some ts[i].2.1) := by
  obtain ⟨⟨_, ⟨h, h1⟩ | ⟨g, cap, cur, rfl, hb, hh, hn, hm, hs, hx⟩⟩, _⟩ := h
  · have e : ts = [] := List.length_eq_zero_iff.1 h1
    subst e
    exact ⟨none, 0, h, Nat.le_refl _, by simp, .inl rfl⟩
  · refine ⟨_, cap, rfl, hn, hm, .inr ⟨g, rfl, blockLt hh, fun i hi => ?_⟩⟩
    have hcell : ∀ j u, (cellsW ts)[j]? = some u → w.cell? ⟨g, j, none⟩ = some u := by
      intro j u hj
      rw [← hx] at hj
      have hj' : cur[j]? = some u := by
        rw [List.getElem?_take] at hj
        split at hj
        · rw [← Array.getElem?_toList]; exact hj
        · cases hj
      simp [World.cell?, hh, hj']
    obtain ⟨h0, h1⟩ := cellsW_get ts i hi
    exact ⟨hcell _ _ h0, hcell _ _ h1⟩

set_option maxHeartbeats 1000000 in
theorem sameInts_eq (v1 v2 : Value) (xs : List Int) (w : World) (h1 : OwnI w 0 v1 xs) (h2 : OwnI w 0 v2 xs) :
    Calls Tryd.prog 23 #[v1, v2] w fun e w' => e = .returned (.bool true) ∧ Below w.heap.size w w' := by
  obtain ⟨a, cap, rfl, hc, hm, hrow⟩ := h1.cells
  obtain ⟨b, capb, rfl, hcb, hmb, hrowb⟩ := h2.cells
  unfold maxLen at hm hmb
  have HR := hid hrow
  have HRB := hid hrowb
  clear hrow hrowb h1 h2
  obtain ⟨len, HL⟩ : ∃ n, Hid (xs.length = n) := ⟨_, rfl⟩
  rw [HL.out] at hc hcb ⊢
  go_enter Tryd.func23, Tryd.ntmps23
  go_wp2_with fail
  go_loopw [5] (fun i wr => ∃ k : Nat, k ≤ len ∧ i = .int .i64 k ∧ Hid (Below w.heap.size w wr)) (fun i _ => len - (intOf i).toNat)
  case atStart => exact ⟨0, Nat.zero_le _, rfl, Below.refl _ _⟩
  case round =>
    obtain ⟨k, hk, rfl, HB⟩ := hrel
    by_cases hlt : k < len
    · obtain ⟨g1, rfl, hg1, hr1⟩ : ∃ g, a = some ⟨g, 0, none⟩ ∧ g < w.heap.size ∧ ∀ i, i < xs.length → w.cell? ⟨g, i, none⟩ = some (.int .i64 (xs.getD i 0)) := by
        rcases HR.out with h | h
        · have := HL.out; rw [h] at this; simp at this; omega
        · exact h
      obtain ⟨g2, rfl, hg2, hr2⟩ : ∃ g, b = some ⟨g, 0, none⟩ ∧ g < w.heap.size ∧ ∀ i, i < xs.length → w.cell? ⟨g, i, none⟩ = some (.int .i64 (xs.getD i 0)) := by
        rcases HRB.out with h | h
        · have := HL.out; rw [h] at this; simp at this; omega
        · exact h
      have c1 := (HB.out.cell (p := ⟨g1, k, none⟩) hg1).trans (hr1 k (by have := HL.out; omega))
      have c2 := (HB.out.cell (p := ⟨g2, k, none⟩) hg2).trans (hr2 k (by have := HL.out; omega))
      generalize xs.getD k 0 = y at *
      clear hr1 hr2
      have hz := HB.out.size
      have l1 : g1 < wr.heap.size := by omega
      have l2 : g2 < wr.heap.size := by omega
      have hlt' : (k : Int) < (len : Int) := by omega
      go_wp2_with fail
      go_region
      go_wp2_with fail
      go_roundw
      case rel => exact ⟨k + 1, by omega, by go_num, HB.out.drew⟩
      case measure => simp [intOf]; omega
    · obtain rfl : k = len := by omega
      go_wp2_with fail
      go_ret
      exact ⟨rfl, HB.out⟩

set_option maxHeartbeats 2000000 in
theorem sameWays_eq (v1 v2 : Value) (ts us : List (Int × Value × List Int)) (b1 b2 : Nat) (w : World) (h1 : OwnW w b1 v1 ts) (h2 : OwnW w b2 v2 us) (he : Pl.flat ts = Pl.flat us) :
    Calls Tryd.prog 9 #[v1, v2] w fun e w' => e = .returned (.bool true) ∧ Below w.heap.size w w' := by
  obtain ⟨a, cap, rfl, hc, hm, hrow⟩ := h1.cells
  obtain ⟨b, capb, rfl, hcb, hmb, hrowb⟩ := h2.cells
  unfold maxLen at hm hmb
  have hle : ts.length = us.length := by
    have := congrArg List.length he
    simpa [Pl.flat] using this
  rw [← hle] at hcb ⊢
  have HI : Hid (∀ i (h : i < ts.length) (h' : i < us.length), ts[i].1 = us[i].1 ∧ OwnI w 0 ts[i].2.1 ts[i].2.2 ∧ OwnI w 0 us[i].2.1 ts[i].2.2) := hid fun i h h' => by
    have e : (Pl.flat ts)[i]? = (Pl.flat us)[i]? := by rw [he]
    simp only [Pl.flat, List.getElem?_map, List.getElem?_eq_getElem h, List.getElem?_eq_getElem h', Option.map_some, Option.some.injEq, Prod.mk.injEq] at e
    refine ⟨e.1, h1.2 _ (List.getElem_mem _), ?_⟩
    rw [e.2]
    exact h2.2 _ (List.getElem_mem _)
  have HR := hid hrow
  have HRB := hid hrowb
  have HLE := hid hle
  clear hrow hrowb h1 h2 he hle
  obtain ⟨len, HL⟩ : ∃ n, Hid (ts.length = n) := ⟨_, rfl⟩
  rw [HL.out] at hc hcb ⊢
  go_enter Tryd.func9, Tryd.ntmps9
  go_wp2_with fail
  go_loopw [5] (fun i wr => ∃ k : Nat, k ≤ len ∧ i = .int .i64 k ∧ Hid (Below w.heap.size w wr)) (fun i _ => len - (intOf i).toNat)
  case atStart => exact ⟨0, Nat.zero_le _, rfl, Below.refl _ _⟩
  case round =>
    obtain ⟨k, hk, rfl, HB⟩ := hrel
    by_cases hlt : k < len
    · have hkt : k < ts.length := by have := HL.out; omega
      have hku : k < us.length := by have := HL.out; have := HLE.out; omega
      obtain ⟨g1, rfl, hg1, hr1⟩ := HR.out.resolve_left (fun e => by rw [e] at hkt; simp at hkt)
      obtain ⟨g2, rfl, hg2, hr2⟩ := HRB.out.resolve_left (fun e => by rw [e] at hku; simp at hku)
      obtain ⟨e1, o1, o2⟩ := HI.out k hkt hku
      obtain ⟨p1, p2⟩ := hr1 k hkt
      obtain ⟨q1, q2⟩ := hr2 k hku
      rw [← e1] at q1
      have c1 := (HB.out.cell (p := ⟨g1, k * 2, none⟩) hg1).trans p1
      have c2 := (HB.out.cell (p := ⟨g1, k * 2 + 1, none⟩) hg1).trans p2
      have c3 := (HB.out.cell (p := ⟨g2, k * 2, none⟩) hg2).trans q1
      have c4 := (HB.out.cell (p := ⟨g2, k * 2 + 1, none⟩) hg2).trans q2
      have O1 := hid (o1.below HB.out)
      have O2 := hid (o2.below HB.out)
      clear hr1 hr2 e1 o1 o2 p1 p2 q1 q2
      generalize ts[k].1 = y at *
      generalize ts[k].2.1 = v1 at *
      generalize ts[k].2.2 = xs at *
      generalize us[k].2.1 = v2 at *
      clear hkt hku
      have hz := HB.out.size
      have l1 : g1 < wr.heap.size := by omega
      have l2 : g2 < wr.heap.size := by omega
      have hlt' : (k : Int) < (len : Int) := by omega
      go_wp2_with fail
      have i1 := in_cell l1 c1
      have i2 := in_cell l1 c2
      have i3 := in_cell l2 c3
      have i4 := in_cell l2 c4
      have HAA := hid (fun x : WIn wr => sameInts_eq v1 v2 xs x.w (O1.out.below x.h) (O2.out.below x.h))
      have hne := in_some wr
      clear c1 c2 c3 c4
      refine wp_region_in (by kernel_rfl) (by kernel_rfl) ?_
      repeat (go_big_quiet_step ((go_at_call 23; exact in_call (HAA.out _))))
      refine wpQuiet_nil ?_
      intro w5 hw'
      have hb5 := in_out hw'
      clear hw'
      clear i1 i2 i3 i4 hne
      go_wp2_with fail
      go_roundw
      case rel => exact ⟨k + 1, by omega, by go_num, HB.out.trans (hb5.mono hz)⟩
      case measure => simp [intOf]; omega
    · obtain rfl : k = len := by omega
      go_wp2_with fail
      go_ret
      exact ⟨rfl, HB.out⟩
end Go.Proofs.YtcdobhdbafpkiacDoor
