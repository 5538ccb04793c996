/-
  Contracts and facts that the proof rests on, put together out of several texts.
-/
import Derived.Test.YtcdobhdbafpkiafGreatDoorAll10
import Derived.Test.YtcdobhdbafpkiafGreatDoorAll12
import Derived.Test.YtcdobhdbafpkiafGreatDoorAll1
import Derived.Test.YtcdobhdbafpkiafGreatDoorAll2
import Derived.Test.YtcdobhdbafpkiafGreatDoorAll8
import Derived.Test.YtcdobhdbafpkiafGreatDoorAll5
import Derived.Test.YtcdobhdbafpkiafGreatDoorAll9
import Derived.Test.YtcdobhdbafpkiafGreatDoorAll6
import Derived.Test.YtcdobhdbafpkiafGreatDoorProg
import Derived.ProofKit
import Derived.OpenShut
import Derived.ShutString
import Derived.ChangeOld
import Derived.Lib.SmallJoins
import Derived.Deep.Slices
import Derived.SizedLaws
import Derived.Test.YtcdobhdbafpkiafGreatDoorAll3
/-
  Contract: slices.Insert of one route into a row of one's own: at a place within it.
-/
namespace Go.Proofs.YtcdobhdbafpkiafGreatDoor
open Go.RowKit
set_option maxRecDepth 20000

theorem cellsR_cut (hs : List Pl.RH) (i : Nat) : cellsR hs = cellsR (hs.take i) ++ cellsR (hs.drop i) := by rw [← cellsR_append, List.take_append_drop]
theorem cellsH_src (w : World) (x : Pl.RH) {j : Nat} {u : Value} (h : (cellsH x)[j]? = some u) : (w.alloc (rtObj x)).cell? ⟨w.heap.size, j, none⟩ = some u := by
  match j, h with
  | 0, h => simp [cellsH] at h; subst h; unfold rtObj; simp
  | 1, h => simp [cellsH] at h; subst h; unfold rtObj; simp
  | 2, h => simp [cellsH] at h; subst h; unfold rtObj; simp
  | 3, h => simp [cellsH] at h; subst h; unfold rtObj; simp
  | 4, h => simp [cellsH] at h; subst h; unfold rtObj; simp
  | j + 5, h => simp [cellsH] at h

set_option maxHeartbeats 4000000 in
theorem Insert_room (base : Nat) (hs : List Pl.RH) (i : Nat) (x : Pl.RH) (w : World) (g cap : Nat) (L : List Value) (hi : i < hs.length) (hb : base ≤ g) (hg : w.heap[g]? = some (.cells L.toArray 88 (0, 0))) (hroom : hs.length + 1 ≤ cap) (hm : cap ≤ maxLen) (hL : L.length = cap * 5) (hx : L.take (hs.length * 5) = cellsR hs) :
    Calls Tryz.prog 65 #[.slice (some ⟨g, 0, none⟩) hs.length cap, .int .i64 i, .slice (some ⟨w.heap.size, 0, none⟩) 1 1] (w.alloc (rtObj x)) fun e w' =>
      ∃ v', e = .returned v' ∧ OwnR w' base v' (hs.take i ++ x :: hs.drop i) ∧ (w.alloc (rtObj x)).grownBy w' (some g) := by
  have hm0 := hm
  unfold maxLen at hm
  have hlt := blockLt hg
  obtain ⟨W, HW⟩ : ∃ W, Hid (W = w.alloc (rtObj x)) := ⟨_, rfl⟩
  have HG : Hid (W.heap[g]? = some (.cells L.toArray 88 (0, 0))) := hid (by rw [HW.out, Below.heap_alloc _ _ _ hlt]; exact hg)
  have HOV : Hid (∀ o lb cb, (callFunc 103 #[.slice (some ⟨w.heap.size, 0, none⟩) 1 1, .slice (some ⟨g, o, none⟩) lb cb]).run Tryz.prog W = .ok (.value (.bool false)) W) := hid fun o lb cb => by
    rw [HW.out]; exact overlapsNo w g o lb cb L x hg (by omega)
  have HXS : Hid (∀ j u, (cellsH x)[j]? = some u → W.cell? ⟨w.heap.size, j, none⟩ = some u) := hid fun j u h => by rw [HW.out]; exact cellsH_src w x h
  have HSZ : Hid (W.heap.size = w.heap.size + 1) := hid (by rw [HW.out]; simp)
  have HFIN := hid (laid_twice L (cellsR (hs.take i)) (cellsR (hs.drop i)) (cellsH x) hs.length i (by rw [cellsR_len]; simp; omega) (by rw [cellsR_len]; simp) rfl hi (by omega) (by rw [hx]; exact cellsR_cut hs i))
  have HBL : Hid ((cellsR (hs.drop i)).length = (hs.length - i) * 5) := hid (by rw [cellsR_len]; simp)
  have HBS : Hid (∀ j u, (cellsR (hs.drop i))[j]? = some u → L[i * 5 + j]? = some u) := hid fun j u hj => by
    have h1 : (cellsR hs)[i * 5 + j]? = some u := by
      rw [cellsR_cut hs i, List.getElem?_append_right (by rw [cellsR_len]; simp; omega), cellsR_len]
      simpa [show min i hs.length = i by omega] using hj
    rw [← hx, List.getElem?_take] at h1
    split at h1
    · exact h1
    · cases h1
  have HB1 := hid (cellsR_one (hs.drop i))
  have HX1 : Hid (∀ u ∈ cellsH x, u.oneCell' = true) := hid (by have := cellsR_one [x]; simpa [cellsR] using this)
  rw [← HW.out]
  have HLEN : Hid ((hs.take i ++ x :: hs.drop i).length = hs.length + 1) := hid (by simp; omega)
  have HCEL : Hid (cellsR (hs.take i ++ x :: hs.drop i) = cellsR (hs.take i) ++ (cellsH x ++ cellsR (hs.drop i))) := hid (by rw [cellsR_append]; rfl)
  obtain ⟨ns, HNS⟩ : ∃ l, Hid (hs.take i ++ x :: hs.drop i = l) := ⟨_, rfl⟩
  rw [HNS.out] at HLEN HCEL ⊢
  obtain ⟨B, HBB⟩ : ∃ l, Hid (cellsR (hs.drop i) = l) := ⟨_, rfl⟩
  rw [HBB.out] at HFIN HBL HBS HB1 HCEL
  obtain ⟨A, HAA⟩ : ∃ l, Hid (cellsR (hs.take i) = l) := ⟨_, rfl⟩
  rw [HAA.out] at HFIN HCEL
  obtain ⟨X, HXX⟩ : ∃ l, Hid (cellsH x = l) := ⟨_, rfl⟩
  have HXL : Hid (X.length = 5) := hid (by rw [← HXX.out]; rfl)
  rw [HXX.out] at HFIN HXS HX1 HCEL
  obtain ⟨VB, HVB⟩ : ∃ n, Hid (w.heap.size = n) := ⟨_, rfl⟩
  rw [HVB.out] at HOV HXS hlt ⊢
  clear hg hx HBB HAA HXX HNS
  obtain ⟨n, HN⟩ : ∃ n, Hid (hs.length = n) := ⟨_, rfl⟩
  rw [HN.out] at hi hroom HFIN HBL HLEN ⊢
  have hi1 : ¬ ((i : Int) = (n : Int)) := by omega
  have hi2 : (i : Int) ≤ (n : Int) := by omega
  have hi3 : ¬ (cap = i) := by omega
  have hi4 : ¬ (cap = i + 1) := by omega
  have hrm : ¬ ((cap : Int) < (n : Int) + 1) := by omega
  have hie : ((i : Int) == (n : Int)) = false := by simpa using hi1
  have hw1 : IntKind.i64.wrap ((n : Int) + 1) = (n : Int) + 1 := by rw [IntKind.wrap_i64]; omega
  have hw2 : IntKind.i64.wrap ((i : Int) + 1) = (i : Int) + 1 := by rw [IntKind.wrap_i64]; omega
  have hov := HOV.out
  go_enter Tryz.func65, Tryz.ntmps65
  go_wp2_with (simp only [hov])
  have hw3 : ((i : Int) + 1).toNat = i + 1 := by omega
  have hw4 : (0 : Int) ≤ (i : Int) + 1 := by omega
  have hw5 : (i : Int) ≤ (n : Int) + 1 := by omega
  have HLL : Hid ((laid L ((i + 1) * 5) B).length = cap * 5) := hid (by rw [laid_len _ _ _ (by rw [HBL.out]; omega), hL])
  go_region_law (refine step_copyR rfl (.tmp 73) (.tmp 76) rfl g ((i + 1) * 5) (n - i) (cap - (i + 1)) ⟨g, i * 5, none⟩ (n + 1 - i) (cap - i) (by simp [Act.eval, Act.put]) (by simp [Act.eval, Act.put]) L B HG.out (by rw [HBL.out]; congr 1; simp only [Nat.min_def]; split <;> omega) (fun j u hj => by rw [add_none]; exact row_cell HG.out (HBS.out j u hj)) (by rw [HBL.out]; omega) HB1.out ?_; intro w1 v1 hg1 hb1; have HG1 := hid hg1; have HB1' := hid hb1; clear hg1 hb1)
  all_goals
    have HX2 : Hid (∀ j u, X[j]? = some u → w1.cell? ⟨VB, j, none⟩ = some u) := hid fun j u hj => (HB1'.out.cell (p := ⟨VB, j, none⟩) (by show VB < W.heap.size; rw [HSZ.out, HVB.out]; omega) (by show VB ≠ g; omega)).trans (HXS.out j u hj)
    go_wp2_with (refine wpList_copyR rfl (.tmp 80) (.tmp 81) rfl g (i * 5) (n + 1 - i) (cap - i) ⟨VB, 0, none⟩ 1 1 rfl rfl (laid L ((i + 1) * 5) B) X HG1.out (by rw [HXL.out]; simp only [Nat.min_def]; split <;> omega) (fun j u hj => by rw [add_none, Nat.zero_add]; exact HX2.out j u hj) (by rw [HXL.out, HLL.out]; omega) HX1.out ?_; intro w2 v2 hg2 hb2; have HG2 := hid hg2; have HB2 := hid hb2; clear hg2 hb2)
    go_ret
    refine ⟨_, rfl, ownR_row hb HG2.out HLEN.out hroom hm0 ?_ ?_, ?_⟩
    · rw [laid_len _ _ _ (by rw [HXL.out, HLL.out]; omega), HLL.out]
    · rw [HFIN.out, HCEL.out]
    · exact ((((But.refl g W).drawn 1).trans HB1'.out).trans HB2.out).grown

set_option maxHeartbeats 4000000 in
theorem Insert_grow (base : Nat) (hs : List Pl.RH) (i : Nat) (x : Pl.RH) (w : World) (g cap : Nat) (L : List Value) (hi : i < hs.length) (hbase : base ≤ w.heap.size) (hg : w.heap[g]? = some (.cells L.toArray 88 (0, 0))) (hcap : hs.length ≤ cap) (hroom : cap < hs.length + 1) (hbig : hs.length ≤ 2000000) (hx : L.take (hs.length * 5) = cellsR hs) :
    Calls Tryz.prog 65 #[.slice (some ⟨g, 0, none⟩) hs.length cap, .int .i64 i, .slice (some ⟨w.heap.size, 0, none⟩) 1 1] (w.alloc (rtObj x)) fun e w' =>
      ∃ v', e = .returned v' ∧ OwnR w' base v' (hs.take i ++ x :: hs.drop i) ∧ (w.alloc (rtObj x)).grownBy w' (some g) := by
  have hlt := blockLt hg
  obtain ⟨W, HW⟩ : ∃ W, Hid (W = w.alloc (rtObj x)) := ⟨_, rfl⟩
  have HG : Hid (W.heap[g]? = some (.cells L.toArray 88 (0, 0))) := hid (by rw [HW.out, Below.heap_alloc _ _ _ hlt]; exact hg)
  have HXS : Hid (∀ j u, (cellsH x)[j]? = some u → W.cell? ⟨w.heap.size, j, none⟩ = some u) := hid fun j u h => by rw [HW.out]; exact cellsH_src w x h
  have HSZ : Hid (W.heap.size = w.heap.size + 1) := hid (by rw [HW.out]; simp)
  have HFIN : Hid (∀ Z, (laid (laid (cellsR (hs.take i) ++ Z) (i * 5) (cellsH x)) ((i + 1) * 5) (cellsR (hs.drop i))).take ((hs.length + 1) * 5) = cellsR (hs.take i) ++ (cellsH x ++ cellsR (hs.drop i))) := hid fun Z => laid_new Z (cellsR (hs.take i)) (cellsR (hs.drop i)) (cellsH x) hs.length i (by rw [cellsR_len]; simp; omega) (by rw [cellsR_len]; simp) rfl hi
  have HBL : Hid ((cellsR (hs.drop i)).length = (hs.length - i) * 5) := hid (by rw [cellsR_len]; simp)
  have HAL : Hid ((cellsR (hs.take i)).length = i * 5) := hid (by rw [cellsR_len]; simp; omega)
  have HBS : Hid (∀ j u, (cellsR (hs.drop i))[j]? = some u → L[i * 5 + j]? = some u) := hid fun j u hj => by
    have h1 : (cellsR hs)[i * 5 + j]? = some u := by
      rw [cellsR_cut hs i, List.getElem?_append_right (by rw [cellsR_len]; simp; omega), cellsR_len]
      simpa [show min i hs.length = i by omega] using hj
    rw [← hx, List.getElem?_take] at h1
    split at h1
    · exact h1
    · cases h1
  have HAS : Hid (∀ j u, (cellsR (hs.take i))[j]? = some u → L[j]? = some u) := hid fun j u hj => by
    have h0 : j < (cellsR (hs.take i)).length := (List.getElem?_eq_some_iff.1 hj).1
    have h1 : (cellsR hs)[j]? = some u := by
      rw [cellsR_cut hs i, List.getElem?_append_left h0]
      exact hj
    rw [← hx, List.getElem?_take] at h1
    split at h1
    · exact h1
    · cases h1
  have HB1 := hid (cellsR_one (hs.drop i))
  have HX1 : Hid (∀ u ∈ cellsH x, u.oneCell' = true) := hid (by have := cellsR_one [x]; simpa [cellsR] using this)
  rw [← HW.out]
  have HLEN : Hid ((hs.take i ++ x :: hs.drop i).length = hs.length + 1) := hid (by simp; omega)
  have HCEL : Hid (cellsR (hs.take i ++ x :: hs.drop i) = cellsR (hs.take i) ++ (cellsH x ++ cellsR (hs.drop i))) := hid (by rw [cellsR_append]; rfl)
  obtain ⟨ns, HNS⟩ : ∃ l, Hid (hs.take i ++ x :: hs.drop i = l) := ⟨_, rfl⟩
  rw [HNS.out] at HLEN HCEL ⊢
  obtain ⟨B, HBB⟩ : ∃ l, Hid (cellsR (hs.drop i) = l) := ⟨_, rfl⟩
  rw [HBB.out] at HFIN HBL HBS HB1 HCEL
  obtain ⟨A, HAA⟩ : ∃ l, Hid (cellsR (hs.take i) = l) := ⟨_, rfl⟩
  rw [HAA.out] at HFIN HCEL HAL HAS
  obtain ⟨X, HXX⟩ : ∃ l, Hid (cellsH x = l) := ⟨_, rfl⟩
  have HXL : Hid (X.length = 5) := hid (by rw [← HXX.out]; rfl)
  rw [HXX.out] at HFIN HXS HX1 HCEL
  obtain ⟨VB, HVB⟩ : ∃ n, Hid (w.heap.size = n) := ⟨_, rfl⟩
  rw [HVB.out] at HXS hlt HSZ hbase ⊢
  clear hg hx HBB HAA HXX HNS
  obtain ⟨n, HN⟩ : ∃ n, Hid (hs.length = n) := ⟨_, rfl⟩
  rw [HN.out] at hi hroom hcap hbig HFIN HBL HLEN ⊢
  have hi1 : ¬ ((i : Int) = (n : Int)) := by omega
  have hi2 : (i : Int) ≤ (n : Int) := by omega
  have hi3 : ¬ (cap = i) := by omega
  have hrm : (cap : Int) < (n : Int) + 1 := by omega
  have hie : ((i : Int) == (n : Int)) = false := by simpa using hi1
  have hw1 : IntKind.i64.wrap ((n : Int) + 1) = (n : Int) + 1 := by rw [IntKind.wrap_i64]; omega
  have hw2 : IntKind.i64.wrap ((i : Int) + 1) = (i : Int) + 1 := by rw [IntKind.wrap_i64]; omega
  have hwk : (n : Int) + 1 - (i : Int) = ((n + 1 - i : Nat) : Int) := by omega
  go_enter Tryz.func65, Tryz.ntmps65
  go_wp2_with (first
    | (at_builtin; refine wpList_zeros rfl (.tmp 34) (.tmp 39) rfl g i cap (n + 1 - i) rfl _ rfl rfl A HAL.out (fun j u hj => row_cell HG.out (HAS.out j u hj)) (by omega) (by omega) (by omega) ?_; intro w1 G Z hg1 hz1 hG1 hG2 hb1; rw [show i + (n + 1 - i) = n + 1 by omega] at hG1 ⊢; have HG1 := hid hg1; have HZ1 := hid hz1; have HGM := hid hG2; have HB1' := hid hb1; have HX2 : Hid (∀ j u, X[j]? = some u → w1.cell? ⟨VB, j, none⟩ = some u) := hid (fun j u hj => (hb1.cell (p := ⟨VB, j, none⟩) (by show VB < W.heap.size; rw [HSZ.out]; omega)).trans (HXS.out j u hj)); have hgi : ¬ G = i := (by omega); have hgi1 : ¬ G = i + 1 := (by omega); clear hg1 hz1 hG2 hb1)
    | (refine wpList_copyR rfl (.tmp 43) (.tmp 44) rfl W.heap.size (i * 5) (n + 1 - i) (G - i) ⟨VB, 0, none⟩ 1 1 rfl rfl (A ++ Z) X HG1.out (by rw [HXL.out]; simp only [Nat.min_def]; split <;> omega) (fun j u hj => by rw [add_none, Nat.zero_add]; exact HX2.out j u hj) (by rw [HXL.out, List.length_append, HZ1.out]; omega) HX1.out ?_; intro w2 v2 hg2 hb2; have HG2 := hid hg2; have HB2 := hid hb2; clear hg2 hb2))
  have hw3 : ((i : Int) + 1).toNat = i + 1 := by omega
  have hw4 : (0 : Int) ≤ (i : Int) + 1 := by omega
  have hw6 : (i : Int) ≤ (n : Int) := by omega
  have HL2 : Hid ((laid (A ++ Z) (i * 5) X).length = G * 5) := hid (by rw [laid_len _ _ _ (by rw [HXL.out, List.length_append, HZ1.out]; omega), List.length_append, HZ1.out])
  have HGG : Hid (w2.heap[g]? = some (.cells L.toArray 88 (0, 0))) := hid (by
    have e1 := HB2.out.block g (by have := HB1'.out.size; rw [HSZ.out] at this; omega) (by rw [HSZ.out]; omega)
    have e2 := HB1'.out.block g (by rw [HSZ.out]; omega)
    rw [e1, e2]; exact HG.out)
  go_region_law (refine step_copyR rfl (.tmp 50) (.tmp 53) rfl W.heap.size ((i + 1) * 5) (n - i) (G - (i + 1)) ⟨g, i * 5, none⟩ (n - i) (cap - i) (by simp [Act.eval, Act.put]) (by simp [Act.eval, Act.put]) (laid (A ++ Z) (i * 5) X) B HG2.out (by rw [HBL.out]; congr 1; simp only [Nat.min_def]; split <;> omega) (fun j u hj => by rw [add_none]; exact row_cell HGG.out (HBS.out j u hj)) (by rw [HBL.out, HL2.out]; omega) HB1.out ?_; intro w3 v3 hg3 hb3; have HG3 := hid hg3; have HB3 := hid hb3; clear hg3 hb3)
  all_goals
    go_wp2_with fail
    go_ret
    refine ⟨_, rfl, ownR_row (by rw [HSZ.out]; omega) HG3.out HLEN.out hG1 HGM.out ?_ ?_, ?_⟩
    · rw [laid_len _ _ _ (by rw [HBL.out, HL2.out]; omega), HL2.out]
    · rw [HFIN.out, HCEL.out]
    · refine grown_below ?_
      exact (HB1'.out.trans (HB2.out.below (Nat.le_refl _) HB1'.out.size)).trans (((((But.refl W.heap.size w2).drawn 1).trans HB3.out)).below (Nat.le_refl _) (Nat.le_trans HB1'.out.size HB2.out.size))

theorem Insert_any (base : Nat) (v : Value) (hs : List Pl.RH) (i : Nat) (x : Pl.RH) (w : World) (hown : OwnR w base v hs) (hbase : base ≤ w.heap.size) (hb : hs.length ≤ 2000000) (hi : i ≤ hs.length) :
    Calls Tryz.prog 65 #[v, .int .i64 i, .slice (some ⟨w.heap.size, 0, none⟩) 1 1] (w.alloc (rtObj x)) fun e w' =>
      ∃ v', e = .returned v' ∧ OwnR w' base v' (hs.take i ++ x :: hs.drop i) ∧ (w.alloc (rtObj x)).grownBy w' v.ownBlock := by
  rcases Nat.lt_or_ge i hs.length with h | h
  · obtain ⟨g, cap, L, rfl, hbg, hg, hn, hm, hL, hx⟩ := hown.row (by omega)
    rcases Nat.lt_or_ge cap (hs.length + 1) with hc | hc
    · exact Insert_grow base hs i x w g cap L h hbase hg hn hc hb hx
    · exact Insert_room base hs i x w g cap L h hbg hg hc hm hL hx
  · obtain rfl : i = hs.length := by omega
    rw [List.take_of_length_le (Nat.le_refl _), List.drop_of_length_le (Nat.le_refl _)]
    exact (Insert_end base v hs x w hown hbase hb).mono fun e w' ⟨v', h1, h2, h3, _⟩ => ⟨v', h1, h2, h3⟩
end Go.Proofs.YtcdobhdbafpkiafGreatDoor
/-
  Contract: slices.Delete of one route of a row of one's own.
-/
namespace Go.Proofs.YtcdobhdbafpkiafGreatDoor
open Go.RowKit
set_option maxRecDepth 20000

theorem OwnR.head {w : World} {base g cap : Nat} {hs : List Pl.RH} (h : OwnR w base (.slice (some ⟨g, 0, none⟩) hs.length cap) hs) (i : Nat) (hi : i ≤ hs.length) : OwnR w base (.slice (some ⟨g, 0, none⟩) i cap) (hs.take i) := by
  obtain ⟨_, h | ⟨g', cap', cur, e, hb, hh, hn, hm, hs', hx⟩⟩ := h
  · simp at h
  · simp only [Value.slice.injEq, Option.some.injEq, Addr.mk.injEq, and_true] at e
    obtain ⟨rfl, _, rfl⟩ := e
    have hl : (hs.take i).length = i := by simp; omega
    refine ⟨cellsR_len _, .inr ⟨g, cap, cur, by rw [hl], hb, hh, by omega, hm, hs', ?_⟩⟩
    rw [hl]
    have : cur.toList.take (i * 5) = (cur.toList.take (hs.length * 5)).take (i * 5) := by rw [List.take_take]; congr 1; omega
    rw [this, hx, cellsR_cut hs i, List.take_append_of_le_length (by rw [cellsR_len, hl]; exact Nat.le_refl _), List.take_of_length_le (by rw [cellsR_len, hl]; exact Nat.le_refl _)]

theorem step_appendR {w : World} {ops : Array Oper} {o : Oper} {a : Act} {K : Act → World → Prop} {Q : Exit → Act → World → Prop} {E : Prop} (hgd : o.guard = none) (s x : Operand)
    (ho : o.op = .call { callee := .builtin .append, args := #[s, x], argTypes := #[24, 24] })
    (base g k cap : Nat) (hs : List Pl.RH) (hk : hs.length = k) (hs' : a.eval s = .slice (some ⟨g, 0, none⟩) k cap) (hown : OwnR w base (.slice (some ⟨g, 0, none⟩) k cap) hs) (ad : Addr) (m c : Nat) (ns : List Pl.RH) (hx : a.eval x = .slice (some ad) m c) (hn : ns.length = m)
    (hsrc : ∀ j u, (cellsR ns)[j]? = some u → w.cell? (ad.add j) = some u) (hroom : k + m ≤ cap)
    (h : ∀ w', OwnR w' base (.slice (some ⟨g, 0, none⟩) (k + m) cap) (hs ++ ns) → w.grownBy w' (some g) → K (a.put o.dst (.slice (some ⟨g, 0, none⟩) (k + m) cap)) w') : if Region.wanted o (yielded ops a.tmps) = true then Oper.wp Tryz.prog o a w K Q else E := by
  have hw : Region.wanted o (yielded ops a.tmps) = true := by simp [Region.wanted, hgd]
  rw [if_pos hw]
  subst hk
  obtain ⟨i0, hi0, hz0, hz1, hz2⟩ := partsOf infoRoute
  obtain ⟨w', hrun, r1, r2⟩ := run_append_fits (P := Tryz.prog) w base 24 o.type 88 i0 5 Tryz.underlying24 hi0 hz1 g hs.length cap (cellsR hs) hown ad m c (cellsR ns) (by rw [cellsR_len, hn]) hsrc (cellsR_one _) hroom
  unfold Oper.wp
  simp [execOp, ho, resolve, invoke, builtin, hs', hx, hrun, Result.andThen]
  exact h w' (ownR_of r1 (by rw [cellsR_append])) r2

theorem run_clearR (w : World) (g o c : Nat) (L : List Value) (hg : w.heap[g]? = some (.cells L.toArray 88 (0, 0))) (hfit : o + 5 ≤ L.length) (ty : TypeId) :
    (Builtin.clear_ #[24] ty #[.slice (some ⟨g, o, none⟩) 1 c]).run Tryz.prog w = .ok (.tuple #[]) (w.setRow g (laid L o [.int .i64 0, .int .i64 0, .bool false, .int .i64 0, .slice none 0 0]).toArray) := by
  have hv : ∀ w, (zeroValue 88).run Tryz.prog w = .ok (.agg #[.int .i64 0, .int .i64 0, .bool false, .int .i64 0, .slice none 0 0]) w := Tryz.zeroValue88
  have hz : (Builtin.zeroCells (Value.agg #[.int .i64 0, .int .i64 0, .bool false, .int .i64 0, .slice none 0 0]).cells 1).toList = [.int .i64 0, .int .i64 0, .bool false, .int .i64 0, .slice none 0 0] := by kernel_rfl
  have hst := run_storeCells_at Tryz.prog g o 88 [.int .i64 0, .int .i64 0, .bool false, .int .i64 0, .slice none 0 0] 0 L.toArray w hg (by simpa using hfit) (by intro v hv; simp at hv; rcases hv with rfl | rfl | rfl | rfl | rfl <;> rfl)
  simp only [Nat.add_zero] at hst
  simp only [Builtin.clear_]
  simp [run_underlying Tryz.underlying24, hv, hz, hst, laid]

theorem wpList_clearR {w : World} {ops : Array Oper} {rest : List Oper} {o : Oper} {a : Act} {Q : Exit → Act → World → Prop} (hgd : o.guard = none) (s : Operand)
    (ho : o.op = .call { callee := .builtin .clear, args := #[s], argTypes := #[24] })
    (base g n cap off c : Nat) (hs' : a.eval s = .slice (some ⟨g, off, none⟩) 1 c) (hs : List Pl.RH) (hown : OwnR w base (.slice (some ⟨g, 0, none⟩) n cap) hs) (hn : hs.length = n) (hoff : off = n * 5) (hfit : n + 1 ≤ cap)
    (h : ∀ w' v', OwnR w' base (.slice (some ⟨g, 0, none⟩) n cap) hs → But g w w' → wpList Tryz.prog ops Q rest (a.put o.dst v') w') : wpList Tryz.prog ops Q (o :: rest) a w := by
  subst hn
  obtain ⟨_, h0 | ⟨g', cap', cur, e, hb, hh, hn, hm, hsz, hx⟩⟩ := hown
  · simp at h0
  · simp only [Value.slice.injEq, Option.some.injEq, Addr.mk.injEq, and_true] at e
    obtain ⟨rfl, _, rfl⟩ := e
    have hgL : w.heap[g]? = some (.cells cur.toList.toArray 88 (0, 0)) := by simpa using hh
    have hfit2 : off + 5 ≤ cur.toList.length := by simp; omega
    have hrun := run_clearR w g off c cur.toList hgL hfit2 o.type
    refine wpList_plain hgd fun K hK => ?_
    unfold Oper.wp
    simp [execOp, ho, resolve, invoke, builtin, hs', hrun, Result.andThen]
    refine hK _ _ (h _ _ (ownR_row hb (setRow_heap w g _ _ _ _ hgL) rfl hn hm ?_ ?_) (But.row w g _))
    · rw [laid_len _ _ _ (by simpa using hfit2)]
      simpa using hsz
    · unfold laid
      rw [List.append_assoc, List.take_append_of_le_length (by simp; omega), List.take_take, show min (hs.length * 5) off = hs.length * 5 by omega, hx]

set_option maxHeartbeats 4000000 in
theorem Delete_any (base : Nat) (v : Value) (hs : List Pl.RH) (i : Nat) (w : World) (hown : OwnR w base v hs) (hi : i < hs.length) (hbig : hs.length ≤ 2000000) :
    Calls Tryz.prog 76 #[v, .int .i64 i, .int .i64 ((i : Int) + 1)] w fun e w' =>
      ∃ v', e = .returned v' ∧ OwnR w' base v' (hs.take i ++ hs.drop (i + 1)) ∧ w.grownBy w' v.ownBlock := by
  obtain ⟨g, cap, L, rfl, hbg, hg, hnc, hm, hL, hx⟩ := hown.row (by omega)
  have HO1 := hid (hown.head i (by omega))
  have hm0 := hm
  unfold maxLen at hm
  obtain ⟨n, HN⟩ : ∃ n, Hid (hs.length = n) := ⟨_, rfl⟩
  have HG := hid hg
  have HSRC : Hid (∀ j u, (cellsR (hs.drop (i + 1)))[j]? = some u → L[(i + 1) * 5 + j]? = some u) := hid fun j u hj => by
    have h1 : (cellsR hs)[(i + 1) * 5 + j]? = some u := by
      rw [cellsR_cut hs (i + 1), List.getElem?_append_right (by rw [cellsR_len]; simp; omega), cellsR_len]
      simpa [show min (i + 1) hs.length = i + 1 by omega] using hj
    rw [← hx, List.getElem?_take] at h1
    split at h1
    · exact h1
    · cases h1
  have HLT : Hid ((hs.take i).length = i) := hid (by simp; omega)
  have HLD : Hid ((hs.drop (i + 1)).length = hs.length - (i + 1)) := hid (by simp)
  have HLA : Hid ((hs.take i ++ hs.drop (i + 1)).length = hs.length - 1) := hid (by simp; omega)
  rw [HN.out] at hi hbig hnc HLD HLA ⊢
  obtain ⟨T, HT⟩ : ∃ l, Hid (hs.take i = l) := ⟨_, rfl⟩
  obtain ⟨D, HD⟩ : ∃ l, Hid (hs.drop (i + 1) = l) := ⟨_, rfl⟩
  rw [HT.out] at HO1 HLT
  rw [HD.out] at HSRC HLD
  rw [HT.out, HD.out] at HLA ⊢
  clear hg hx hown
  have hi2 : (i : Int) ≤ (n : Int) := by omega
  have hi3 : (i : Int) + 1 ≤ (n : Int) := by omega
  have hi4 : ¬ (n = i) := by omega
  have hi5 : ((i : Int) == (i : Int) + 1) = false := by rw [beq_eq_false_iff_ne]; omega
  have hi9 : i ≤ cap := by omega
  have hi6 : (0 : Int) ≤ (i : Int) + 1 := by omega
  have hi7 : ((i : Int) + 1).toNat = i + 1 := by omega
  have hi8 : ¬ (cap = i) := by omega
  by_cases hc : cap = i + 1
  · obtain rfl : n = i + 1 := by omega
    subst hc
    have HD0 : Hid (D.length = 0) := hid (by rw [HLD.out]; omega)
    clear hi4 hi8
    have hq1 : (i : Int) ≤ (i : Int) + 1 := by omega
    have hq2 : i ≤ i + 1 := by omega
    go_enter Tryz.func76, Tryz.ntmps76
    go_wp2_with fail
    go_region_law (refine step_appendR rfl (.tmp 22) (.tmp 25) rfl base g i (i + 1) T HLT.out (by simp [Act.eval, Act.put]) HO1.out ⟨g, 0, none⟩ 0 0 D (by simp [Act.eval, Act.put]) HD0.out (fun j u hj => by have e : D = [] := List.length_eq_zero_iff.1 HD0.out; rw [e] at hj; simp [cellsR] at hj) (by omega) ?_; intro w1 ho1 hg1; rw [Nat.add_zero] at ho1 ⊢; have HO2 := hid ho1; have HG1 := hid hg1; clear ho1 hg1)
    all_goals
      go_wp2_with (refine wpList_clearR rfl (.tmp 31) rfl base g i (i + 1) (i * 5) 1 (by simp [Act.eval]) (T ++ D) HO2.out HLA.out rfl (by omega) ?_; intro w2 v2 ho2 hb2; have HO3 := hid ho2; have HB2 := hid hb2; clear ho2 hb2)
      go_ret
      exact ⟨_, rfl, HO3.out, grown_trans (grown_trans (grown_below ((Below.refl _ _).drew)) HG1.out) HB2.out.grown⟩
  · have hgo : i + (n - (i + 1)) = n - 1 := by omega
    have hcn : ¬ (cap = n - 1) := by omega
    go_enter Tryz.func76, Tryz.ntmps76
    go_wp2_with fail
    go_region_law (refine step_appendR rfl (.tmp 22) (.tmp 25) rfl base g i cap T HLT.out (by simp [Act.eval, Act.put]) HO1.out ⟨g, (i + 1) * 5, none⟩ (n - (i + 1)) (cap - (i + 1)) D (by simp [Act.eval, Act.put]) HLD.out (fun j u hj => by rw [add_none]; exact row_cell HG.out (HSRC.out j u hj)) (by omega) ?_; intro w1 ho1 hg1; rw [hgo] at ho1 ⊢; have HO2 := hid ho1; have HG1 := hid hg1; clear ho1 hg1)
    all_goals
      go_wp2_with (refine wpList_clearR rfl (.tmp 31) rfl base g (n - 1) cap ((n - 1) * 5) (cap - (n - 1)) (by simp [Act.eval]; try omega) (T ++ D) HO2.out HLA.out rfl (by omega) ?_; intro w2 v2 ho2 hb2; have HO3 := hid ho2; have HB2 := hid hb2; clear ho2 hb2)
      go_ret
      exact ⟨_, rfl, HO3.out, grown_trans (grown_trans (grown_below ((Below.refl _ _).drew)) HG1.out) HB2.out.grown⟩
end Go.Proofs.YtcdobhdbafpkiafGreatDoor
/-
  Contracts: a route laid at its place (rib.lay); a table without some prefixes (rib.without).
-/
namespace Go.Proofs.YtcdobhdbafpkiafGreatDoor
open Go.RowKit
set_option maxRecDepth 20000

/-- one route of a row laid anew -/
def set5 (w : World) (g o : Nat) (x : Pl.RH) : World := ((((w.setCell ⟨g, o, none⟩ (.int .i64 x.p.1)).setCell ⟨g, o + 1, none⟩ (.int .i64 x.p.2)).setCell ⟨g, o + 2, none⟩ (.bool x.here)).setCell ⟨g, o + 3, none⟩ (.int .i64 x.cost)).setCell ⟨g, o + 4, none⟩ (.slice x.ha x.hl x.hc)
theorem cellsR_set : ∀ (hs : List Pl.RH) (i : Nat) (x : Pl.RH), cellsR (hs.set i x) = (((((cellsR hs).set (i * 5) (.int .i64 x.p.1)).set (i * 5 + 1) (.int .i64 x.p.2)).set (i * 5 + 2) (.bool x.here)).set (i * 5 + 3) (.int .i64 x.cost)).set (i * 5 + 4) (.slice x.ha x.hl x.hc)
  | [], i, x => by simp [cellsR]
  | e :: r, 0, x => by simp [cellsR, cellsH]
  | e :: r, i + 1, x => by
    rw [List.set_cons_succ, cellsR, cellsR_set r i x, show (i + 1) * 5 = i * 5 + 5 by omega]
    simp [cellsR, cellsH]
theorem blk_setR {w : World} {g o : Nat} {cur : Array Value} {T : TypeId} {v : Value} (h : w.heap[g]? = some (.cells cur T (0, 0))) : (w.setCell ⟨g, o, none⟩ v).heap[g]? = some (.cells (cur.setIfInBounds o v) T (0, 0)) := by
  rw [setCell_eq_setRow w g o cur T (0, 0) v h]
  exact setRow_heap w g _ _ _ _ h
theorem OwnR.set {w : World} {base g cap : Nat} {hs : List Pl.RH} (h : OwnR w base (.slice (some ⟨g, 0, none⟩) hs.length cap) hs) (i : Nat) (x : Pl.RH) : OwnR (set5 w g (i * 5) x) base (.slice (some ⟨g, 0, none⟩) hs.length cap) (hs.set i x) := by
  obtain ⟨_, h | ⟨g', cap', cur, e, hb, hh, hn, hm, hs', hx⟩⟩ := h
  · simp at h
  · simp only [Value.slice.injEq, Option.some.injEq, Addr.mk.injEq, and_true] at e
    obtain ⟨rfl, _, rfl⟩ := e
    refine ⟨by simp [cellsR_len], .inr ⟨g, cap, _, by simp, hb, blk_setR (blk_setR (blk_setR (blk_setR (blk_setR hh)))), by simpa using hn, hm, by simpa using hs', ?_⟩⟩
    simp only [Array.toList_setIfInBounds, List.take_set, List.length_set]
    rw [hx, cellsR_set]
theorem But.set5 (w : World) (g o : Nat) (x : Pl.RH) : But g w (set5 w g o x) := (((((But.refl g w).setCell _ _).setCell _ _).setCell _ _).setCell _ _).setCell _ _
theorem OwnR.opened {w : World} {base : Nat} {v : Value} {hs : List Pl.RH} (h : OwnR w base v hs) (hne : 0 < hs.length) :
    ∃ g cap, v = .slice (some ⟨g, 0, none⟩) hs.length cap ∧ base ≤ g ∧ g < w.heap.size ∧ hs.length ≤ cap ∧ cap ≤ maxLen ∧ RowsAt w g 0 hs ∧ (∀ o, w.frozen? ⟨g, o, none⟩ = false) := by
  obtain ⟨a, cap, rfl, hr, hb⟩ := h.rows
  obtain ⟨b, off, rfl, hlt, hra⟩ := hr.at (k := 0) (by omega)
  obtain ⟨g, cap', L, e, hbg, hg, _⟩ := h.row hne
  simp only [Value.slice.injEq, Option.some.injEq, Addr.mk.injEq, and_true] at e
  obtain ⟨⟨rfl, rfl⟩, _⟩ := e
  exact ⟨b, cap, rfl, hbg, hlt, hr.2.1, hr.2.2.1, hra, fun o => by simp [World.frozen?, hg]⟩
theorem Pl.set_eq (hs : List Pl.RH) (i : Nat) (x : Pl.RH) (h : i < hs.length) : hs.set i x = hs.take i ++ x :: hs.drop (i + 1) := List.set_eq_take_append_cons_drop .. |>.trans (by rw [if_pos h])

/-- what is laid at a place, as it lies in memory -/
def Pl.layH (hs : List Pl.RH) (i : Nat) (instead : Bool) (x : Pl.RH) : List Pl.RH := hs.take i ++ x :: hs.drop (if instead then i + 1 else i)

set_option maxHeartbeats 2000000 in
theorem lay_rib (base : Nat) (v : Value) (hs : List Pl.RH) (x : Pl.RH) (w : World) (hown : OwnR w base v hs) (hbase : base ≤ w.heap.size) (has : Pl.AscP (Pl.hp hs)) (hb : hs.length ≤ 2000000) :
    Calls Tryz.prog 43 #[v, .agg #[.int .i64 x.p.1, .int .i64 x.p.2, .bool x.here, .int .i64 x.cost, .slice x.ha x.hl x.hc]] w fun e w' =>
      ∃ v', e = .returned v' ∧ OwnR w' base v' (Pl.layH hs (Pl.posP (Pl.hp hs) x.p) (Pl.thereP (Pl.hp hs) x.p) x) ∧ w.grownBy w' v.ownBlock := by
  have HO := hid hown
  obtain ⟨⟨p1, p2⟩, here, cost, ha, hl, hc⟩ := x
  simp only
  obtain ⟨tt, HT⟩ : ∃ t, Hid (Pl.thereP (Pl.hp hs) (p1, p2) = t) := ⟨_, rfl⟩
  obtain ⟨ix, HX⟩ : ∃ t, Hid (Pl.posP (Pl.hp hs) (p1, p2) = t) := ⟨_, rfl⟩
  have HIX : Hid (ix ≤ hs.length) := hid (by rw [← HX.out]; have := Pl.posP_le (Pl.hp hs) (p1, p2); rwa [Pl.hp_len] at this)
  have HLT : Hid (tt = true → ix < hs.length) := hid fun e => by rw [← HX.out]; have := Pl.thereP_lt (by rw [HT.out]; exact e : Pl.thereP (Pl.hp hs) (p1, p2) = true); rwa [Pl.hp_len] at this
  have HF : Hid (∀ W, Below w.heap.size w W → Calls Tryz.prog 39 #[v, .agg #[.int .i64 p1, .int .i64 p2]] W fun e w' => e = .returned (.tuple #[.int .i64 ix, .bool tt]) ∧ Below W.heap.size W w') := hid fun W hW => by
    obtain ⟨a, cap, rfl, hr, _⟩ := (HO.out.below hW).rows
    have := find_rib a hs.length cap hs p1 p2 W hr has hb
    rwa [HT.out, HX.out] at this
  rw [HT.out, HX.out]
  obtain ⟨rw1, HRW⟩ : ∃ r, Hid (v.ownBlock = r) := ⟨_, rfl⟩
  rw [HRW.out]
  clear hown has
  cases tt
  · go_enter Tryz.func43, Tryz.ntmps43
    go_wp2_with fail
    refine (HF.out _ ((Below.refl _ _).alloc (Nat.le_refl _) _)).mono ?_
    rintro e w1 ⟨rfl, hb1⟩
    obtain ⟨⟨y0, y1, y2, y3, y4⟩, hbx, hbw⟩ := box5 (by simpa using hb1)
    have HBW := hid hbw
    have HO1 := hid (HO.out.below hbw)
    have hz := hbw.size
    clear hb1 hbw
    go_wp2_with fail
    refine (Insert_any base v hs ix ⟨(p1, p2), here, cost, ha, hl, hc⟩ w1 HO1.out (by omega) hb HIX.out).mono ?_
    rintro e w2 ⟨v', rfl, ho2, hg2⟩
    have HO2 := hid ho2
    have HG2 := hid hg2
    clear ho2 hg2
    go_wp2_with fail
    go_ret
    refine ⟨_, rfl, HO2.out, ?_⟩
    have e1 := HG2.out
    rw [HRW.out] at e1
    exact grown_trans (grown_below HBW.out) (grown_trans (grown_below ((Below.refl _ _).alloc (Nat.le_refl _) _)) e1)
  · have hix := HLT.out rfl
    obtain ⟨g, cap, rfl, hbg, hgl, hnc, hm, hra, hsf⟩ := HO.out.opened (by omega)
    unfold maxLen at hm
    obtain ⟨c0, c1, c2, c3, c4⟩ := hra ix hix
    obtain ⟨n, HN⟩ : ∃ n, Hid (hs.length = n) := ⟨_, rfl⟩
    rw [HN.out] at HF hix hnc ⊢
    clear hra
    have hix' : (ix : Int) < (n : Int) := by omega
    go_enter Tryz.func43, Tryz.ntmps43
    go_wp2_with fail
    refine (HF.out _ ((Below.refl _ _).alloc (Nat.le_refl _) _)).mono ?_
    rintro e w1 ⟨rfl, hb1⟩
    obtain ⟨⟨y0, y1, y2, y3, y4⟩, hbx, hbw⟩ := box5 (by simpa using hb1)
    have HBW := hid hbw
    have HO1 := hid (HO.out.below hbw)
    have d0 := (hbw.cell (p := ⟨g, 0 + ix * 5, none⟩) hgl).trans c0
    have d1 := (hbw.cell (p := ⟨g, 0 + ix * 5 + 1, none⟩) hgl).trans c1
    have d2 := (hbw.cell (p := ⟨g, 0 + ix * 5 + 2, none⟩) hgl).trans c2
    have d3 := (hbw.cell (p := ⟨g, 0 + ix * 5 + 3, none⟩) hgl).trans c3
    have d4 := (hbw.cell (p := ⟨g, 0 + ix * 5 + 4, none⟩) hgl).trans c4
    have df : ∀ o, w1.frozen? ⟨g, o, none⟩ = false := fun o => (hbw.frozen (p := ⟨g, o, none⟩) hgl).trans (hsf o)
    simp only [Nat.zero_add] at d0 d1 d2 d3 d4
    clear hb1 hbw c0 c1 c2 c3 c4 hsf
    go_wp2_with fail
    go_ret
    refine ⟨_, rfl, ?_, ?_⟩
    · have := HO1.out.set ix ⟨(p1, p2), here, cost, ha, hl, hc⟩
      rw [Pl.set_eq hs ix _ (by rw [HN.out]; exact hix), HN.out] at this
      exact this
    · have e1 : rw1 = some g := HRW.out.symm
      rw [e1]
      exact grown_trans (grown_below HBW.out) (But.set5 w1 g (ix * 5) ⟨(p1, p2), here, cost, ha, hl, hc⟩).grown

theorem ReadsAll.take {w : World} {hs : List Pl.RH} {rs : List Pl.Rt} (h : ReadsAll w hs rs) (n : Nat) : ReadsAll w (hs.take n) (rs.take n) := by
  refine ⟨by simp [h.1], fun i hi => ?_⟩
  simp only [List.length_take] at hi
  rw [Pl.rh_take hs n i (by omega) (by omega)]
  have : Pl.rt (rs.take n) i = Pl.rt rs i := by
    have := h.1
    rw [Pl.rt_eq _ _ (by simp; omega), Pl.rt_eq _ _ (by omega)]; simp
  rw [this]
  exact h.2 i (by omega)
theorem ReadsAll.drop {w : World} {hs : List Pl.RH} {rs : List Pl.Rt} (h : ReadsAll w hs rs) (n : Nat) : ReadsAll w (hs.drop n) (rs.drop n) := by
  refine ⟨by simp [h.1], fun i hi => ?_⟩
  simp only [List.length_drop] at hi
  rw [Pl.rh_drop hs n i (by omega)]
  have : Pl.rt (rs.drop n) i = Pl.rt rs (n + i) := by
    have := h.1
    rw [Pl.rt_eq _ _ (by simp; omega), Pl.rt_eq _ _ (by omega)]; simp
  rw [this]
  exact h.2 (n + i) (by omega)
theorem ReadsAll.append {w : World} {hs gs : List Pl.RH} {rs ss : List Pl.Rt} (h : ReadsAll w hs rs) (k : ReadsAll w gs ss) : ReadsAll w (hs ++ gs) (rs ++ ss) := by
  refine ⟨by simp [h.1, k.1], fun i hi => ?_⟩
  simp only [List.length_append] at hi
  rcases Nat.lt_or_ge i hs.length with q | q
  · rw [Pl.rh_app_lt _ _ _ q, Pl.rt_app_lt _ _ _ (by rw [← h.1]; exact q)]
    exact h.2 i q
  · have e1 : Pl.rh (hs ++ gs) i = Pl.rh gs (i - hs.length) := by
      rw [Pl.rh_eq _ _ (by simp; omega), Pl.rh_eq _ _ (by omega), List.getElem_append_right q]
    have e2 : Pl.rt (rs ++ ss) i = Pl.rt ss (i - hs.length) := by
      have h1 := h.1
      have h2 := k.1
      rw [Pl.rt_eq _ _ (by simp; omega), Pl.rt_eq _ _ (by omega), List.getElem_append_right (by omega)]
      simp [h1]
    rw [e1, e2]
    exact k.2 _ (by omega)
theorem ReadsAll.one {w : World} {x : Pl.RH} {r : Pl.Rt} (h : Reads w x r) : ReadsAll w [x] [r] := ⟨rfl, fun i hi => by simp at hi; subst hi; exact h⟩
theorem ReadsAll.lay {w : World} {hs : List Pl.RH} {rs : List Pl.Rt} {x : Pl.RH} {r : Pl.Rt} (h : ReadsAll w hs rs) (hr : Reads w x r) : ReadsAll w (Pl.layH hs (Pl.posP (Pl.hp hs) x.p) (Pl.thereP (Pl.hp hs) x.p) x) (Pl.insR rs r) := by
  rw [← Pl.lay_insR]
  have e : Pl.hp hs = rs.map Pl.Rt.p := h.map_p
  rw [e, hr.1]
  unfold Pl.layH Pl.layR
  exact (h.take _).append ((ReadsAll.one hr).append (h.drop _))
theorem ReadsAll.del {w : World} {hs : List Pl.RH} {rs : List Pl.Rt} {p : Int × Int} (h : ReadsAll w hs rs) (ht : Pl.thereP (Pl.hp hs) p = true) : ReadsAll w (hs.take (Pl.posP (Pl.hp hs) p) ++ hs.drop (Pl.posP (Pl.hp hs) p + 1)) (Pl.delR rs p) := by
  have e : Pl.hp hs = rs.map Pl.Rt.p := h.map_p
  rw [e] at ht ⊢
  unfold Pl.delR
  rw [if_pos ht]
  exact (h.take _).append (h.drop _)
theorem ReadsAll.asc {w : World} {hs : List Pl.RH} {rs : List Pl.Rt} (h : ReadsAll w hs rs) (hs' : Pl.SrtR rs) : Pl.AscP (Pl.hp hs) := by
  show Pl.AscP (hs.map Pl.RH.p)
  rw [h.map_p]
  exact (Pl.ascP_srt rs).2 hs'

theorem append_copyR {w : World} {ops : Array Oper} {rest : List Oper} {o : Oper} {a : Act} {Q : Exit → Act → World → Prop} (hgd : o.guard = none) (s x : Operand)
    (ho : o.op = .call { callee := .builtin .append, args := #[s, x], argTypes := #[24, 24] })
    (ao : Option Addr) (len cap : Nat) (hs : List Pl.RH) (hs' : a.eval s = .slice none 0 0) (hx : a.eval x = .slice ao len cap) (hE : IsRows w ao len cap hs) (hb : len ≤ 2000000)
    (h : ∀ v' w', OwnR w' w.heap.size v' hs → Below w.heap.size w w' → wpList Tryz.prog ops Q rest (a.put o.dst v') w') : wpList Tryz.prog ops Q (o :: rest) a w := by
  obtain ⟨i0, hi0, hz0, hz1, hz2⟩ := partsOf infoRoute
  obtain ⟨hl, hc, hm, hnil, hrow⟩ := hE
  rcases ao with _ | ad
  · obtain rfl := hnil rfl
    obtain rfl : len = 0 := by omega
    obtain rfl : hs = [] := List.length_eq_zero_iff.1 hl
    exact wpList_append_own_none hgd s x 24 ho w.heap.size 88 i0 5 Tryz.underlying24 hi0 _ 0 [] hs' (World.ownsRow_nil _ _ _ _) hx (h _ _ (OwnR.nil _ _) (Below.refl _ _))
  · refine wpList_append_own (w := w) hgd s x 24 ho w.heap.size 88 i0 _ 5 56 Tryz.underlying24 hi0 hz0 hz1 hz2 rfl (by decide) _ 0 [] hs' (World.ownsRow_nil _ _ _ _) ad len cap (cellsR hs) hx (by rw [cellsR_len, hl]) ?_ (cellsR_one _) (by unfold maxLen; omega) (by omega) (Nat.le_refl _) ?_
    · intro j u hj
      rcases hrow with rfl | ⟨b, off, hba, _, hr⟩
      · simp [cellsR] at hj
      · cases hba
        rw [add_none]
        exact (rowsAt_cells _ _).1 hr j u hj
    · intro v' w' hown hg _
      rw [List.nil_append] at hown
      exact h v' w' (ownR_of hown rfl) ((Below.refl _ _).grown hg (Nat.le_refl _) (by intro k hk; cases hk))

theorem Pl.take_prR (ps : List (Int × Int)) (k : Nat) (h : k < ps.length) : ps.take (k + 1) = ps.take k ++ [Pl.pr ps k] := by
  rw [List.take_succ_eq_append_getElem h, Pl.pr_eq ps k h]
theorem Pl.delsR_succ (rs : List Pl.Rt) (ps : List (Int × Int)) (k : Nat) (h : k < ps.length) : Pl.delsR rs (ps.take (k + 1)) = Pl.delR (Pl.delsR rs (ps.take k)) (Pl.pr ps k) := by
  unfold Pl.delsR
  rw [Pl.take_prR ps k h, List.foldl_append]; rfl
theorem OwnR.block {w : World} {base : Nat} {v : Value} {hs : List Pl.RH} (h : OwnR w base v hs) : ∀ k, v.ownBlock = some k → base ≤ k := fun k hk => (World.ownsRow.lt h k hk).1

set_option maxHeartbeats 2000000 in
theorem without_any (a : Option Addr) (len cap : Nat) (hs : List Pl.RH) (rs : List Pl.Rt) (b : Option Addr) (gl gc : Nat) (ps : List (Int × Int)) (w : World) (h : IsRows w a len cap hs) (hrd : ReadsAll w hs rs) (hsrt : Pl.SrtR rs) (hb : len ≤ 200) (hp : IsPairs w b gl gc ps) :
    Calls Tryz.prog 42 #[.slice a len cap, .slice b gl gc] w fun e w' =>
      ∃ v' hs', e = .returned v' ∧ OwnR w' w.heap.size v' hs' ∧ ReadsAll w hs' (Pl.delsR rs ps) ∧ Below w.heap.size w w' := by
  have HH := hid h
  have HD := hid hrd
  have HS := hid hsrt
  have HLR : Hid (rs.length = len) := hid (by rw [← hrd.1]; exact h.1)
  obtain ⟨hpl, hpc, hpm, _, hrow⟩ := hp
  have HPL := hid hpl
  have HPR := hid hrow
  unfold maxLen at hpm
  clear h hrd hsrt hpl hrow
  go_enter Tryz.func42, Tryz.ntmps42
  go_wp2_with (at_builtin; refine append_copyR rfl _ (.tmp 10) rfl a len cap hs rfl rfl HH.out (by omega) ?_; intro v1 w1 ho1 hb1; have HO1 := hid ho1; have HB1 := hid hb1; clear ho1 hb1)
  go_loopw [5, 14] (fun v i wr => ∃ (k : Nat) (hs' : List Pl.RH), k ≤ gl ∧ i = .int .i64 k ∧ Hid (OwnR wr w.heap.size v hs') ∧ Hid (ReadsAll w hs' (Pl.delsR rs (ps.take k))) ∧ Hid (Below w.heap.size w wr)) (fun _ i _ => gl - (intOf i).toNat)
  case atStart => exact ⟨0, hs, Nat.zero_le _, rfl, HO1, HD, HB1⟩
  case round =>
    obtain ⟨k, hs', hk, rfl, HO, HR, HB⟩ := hrel
    by_cases hlt : k < gl
    · obtain ⟨b1, o1, rfl, hb1, hr1⟩ : ∃ b' off, b = some ⟨b', off, none⟩ ∧ b' < w.heap.size ∧ PairsAt w b' off ps := by
        rcases HPR.out with rfl | h
        · have := HPL.out; simp at this; omega
        · exact h
      obtain ⟨c0, c1⟩ := hr1.below hb1 HB.out k (by rw [HPL.out]; exact hlt)
      have HST := hid (Pl.delsR_succ rs ps k (by rw [HPL.out]; exact hlt))
      generalize Pl.pr ps k = pp at *
      obtain ⟨p1, p2⟩ := pp
      simp only at c0 c1
      have hz := HB.out.size
      have HSR : Hid (Pl.SrtR (Pl.delsR rs (ps.take k))) := hid (Pl.delsR_srt HS.out)
      have HLE : Hid (hs'.length ≤ 200) := hid (by
        rw [HR.out.1]
        have := Pl.delsR_len (ps := ps.take k) HS.out
        have := HLR.out
        omega)
      obtain ⟨tt, HT⟩ : ∃ t, Hid (Pl.thereP (Pl.hp hs') (p1, p2) = t) := ⟨_, rfl⟩
      obtain ⟨ix, HX⟩ : ∃ t, Hid (Pl.posP (Pl.hp hs') (p1, p2) = t) := ⟨_, rfl⟩
      have HLT : Hid (tt = true → ix < hs'.length) := hid fun e => by rw [← HX.out]; have := Pl.thereP_lt (by rw [HT.out]; exact e : Pl.thereP (Pl.hp hs') (p1, p2) = true); rwa [Pl.hp_len] at this
      have HF : Hid (∀ W, Below wr.heap.size wr W → Calls Tryz.prog 39 #[u5, .agg #[.int .i64 p1, .int .i64 p2]] W fun e w' => e = .returned (.tuple #[.int .i64 ix, .bool tt]) ∧ Below W.heap.size W w') := hid fun W hW => by
        obtain ⟨a', cap', e, hr, _⟩ := (HO.out.below hW).rows
        rw [e]
        have := find_rib a' hs'.length cap' hs' p1 p2 W hr (HR.out.asc HSR.out) (by have := HLE.out; omega)
        rwa [HT.out, HX.out] at this
      cases tt
      · have HNO : Hid (Pl.delR (Pl.delsR rs (ps.take k)) (p1, p2) = Pl.delsR rs (ps.take k)) := hid (by
          unfold Pl.delR
          rw [show (Pl.delsR rs (ps.take k)).map Pl.Rt.p = Pl.hp hs' from HR.out.map_p.symm, HT.out]; rfl)
        go_wp2_with fail
        refine (HF.out _ ((Below.refl _ _).alloc (Nat.le_refl _) _)).mono ?_
        rintro e w2 ⟨rfl, hb2⟩
        have HB2 := hid (((Below.refl wr.heap.size wr).alloc (Nat.le_refl _) (.cells #[.int .i64 p1, .int .i64 p2] 58)).trans (hb2.mono (by simp)))
        clear hb2
        go_wp2_with fail
        go_roundw
        case rel => exact ⟨k + 1, hs', by omega, by go_num, hid (HO.out.below HB2.out), hid (by rw [HST.out, HNO.out]; exact HR.out), hid (HB.out.trans (HB2.out.mono hz))⟩
        case measure => simp [intOf]; omega
      · have hix := HLT.out rfl
        have HDL := hid (HR.out.del HT.out)
        rw [HX.out] at HDL
        go_wp2_with fail
        refine (HF.out _ ((Below.refl _ _).alloc (Nat.le_refl _) _)).mono ?_
        rintro e w2 ⟨rfl, hb2⟩
        have HB2 := hid (((Below.refl wr.heap.size wr).alloc (Nat.le_refl _) (.cells #[.int .i64 p1, .int .i64 p2] 58)).trans (hb2.mono (by simp)))
        clear hb2
        have hixb : ix ≤ 200 := by have := HLE.out; omega
        go_wp2_with fail
        refine (Delete_any w.heap.size u5 hs' ix w2 (HO.out.below HB2.out) hix (by have := HLE.out; omega)).mono ?_
        rintro e w3 ⟨v3, rfl, ho3, hg3⟩
        have HO3 := hid ho3
        have HB3 := hid ((HB.out.trans (HB2.out.mono hz)).grown hg3 (Nat.le_trans hz HB2.out.size) (fun k hk => HO.out.block k hk))
        clear ho3 hg3
        go_wp2_with fail
        go_roundw
        case rel => exact ⟨k + 1, _, by omega, by go_num, HO3, hid (by rw [HST.out]; exact HDL.out), HB3⟩
        case measure => simp [intOf]; omega
    · have hnl : ¬ ((k : Int) < (gl : Int)) := by omega
      have HE : Hid (ReadsAll w hs' (Pl.delsR rs ps)) := hid (by
        have := HR.out
        rwa [List.take_of_length_le (by rw [HPL.out]; omega)] at this)
      go_wp2_with fail
      go_ret
      first | exact ⟨_, hs', rfl, HO.out, HE.out, HB.out⟩ | exact ⟨_, rfl, hs', HO.out, HE.out, HB.out⟩
end Go.Proofs.YtcdobhdbafpkiafGreatDoor
/-
  Contract: a table that is patched (rib.Patch).
-/
namespace Go.Proofs.YtcdobhdbafpkiafGreatDoor
open Go.RowKit
set_option maxRecDepth 20000

theorem Pl.inssR_cut (rs ss : List Pl.Rt) (k : Nat) : Pl.inssR rs ss = Pl.inssR (Pl.inssR rs (ss.take k)) (ss.drop k) := by
  unfold Pl.inssR
  rw [← List.foldl_append, List.take_append_drop]
theorem Pl.inssR_succ (rs ss : List Pl.Rt) (k : Nat) (h : k < ss.length) : Pl.inssR rs (ss.take (k + 1)) = Pl.insR (Pl.inssR rs (ss.take k)) (Pl.rt ss k) := by
  unfold Pl.inssR
  rw [Pl.take_rt ss k h, List.foldl_append]; rfl
theorem Pl.pat_size {a set : List Pl.Rt} {gone : List (Int × Int)} {k : Nat} (ha : Pl.tabF a = 0) (h : 200 < (Pl.inssR (Pl.delsR a gone) (set.take k)).length) : Pl.patC a set gone = 1 ∧ Pl.patL a set gone = [] := by
  have h1 : 200 < (Pl.patR a set gone).length := by
    unfold Pl.patR
    rw [Pl.inssR_cut _ set k]
    exact Nat.lt_of_lt_of_le h (Pl.inssR_len_ge _ _)
  have h2 := Pl.tabF_size h1
  unfold Pl.patC Pl.patL
  rw [if_pos ha, if_pos ha, h2]
  exact ⟨rfl, by rw [if_neg (by decide)]⟩
theorem Pl.rh_set_ne (hs : List Pl.RH) (k j : Nat) (x : Pl.RH) (h : j ≠ k) : Pl.rh (hs.set k x) j = Pl.rh hs j := by
  unfold Pl.rh
  rw [List.getD_eq_getElem?_getD, List.getD_eq_getElem?_getD, List.getElem?_set_ne (Ne.symm h)]
theorem Pl.rh_set_at (hs : List Pl.RH) (k : Nat) (x : Pl.RH) (h : k < hs.length) : Pl.rh (hs.set k x) k = x := by
  rw [Pl.rh_eq _ _ (by simpa using h)]; simp
/-- what a row of routes bears that one route of it is laid anew -/
theorem ReadsZ.set {w : World} {base b2 g o cap : Nat} {h x : Pl.RH} {r : Pl.Rt} {es : List Pl.RH} (hz : ReadsZ w base h r) (ho : OwnR w b2 (.slice (some ⟨g, 0, none⟩) es.length cap) es) : ReadsZ (set5 w g o x) base h r := by
  obtain ⟨q1, q2, q3, q4, q5⟩ := hz
  refine ⟨q1, q2, q3, q4.but (But.set5 w g o x) ?_, q5⟩
  rcases apartZR q4 ho with h | h
  · exact .inr (by rw [h]; simp)
  · exact .inr h

set_option maxRecDepth 20000 in
set_option maxHeartbeats 4000000 in
theorem Patch_any (a : Option Addr) (la ca : Nat) (hs : List Pl.RH) (rs : List Pl.Rt) (b : Option Addr) (lb cb : Nat) (gs : List Pl.RH) (ss : List Pl.Rt) (d : Option Addr) (gl gc : Nat) (ps : List (Int × Int)) (w : World) (h1 : IsRows w a la ca hs) (d1 : ReadsAll w hs rs) (h2 : IsRows w b lb cb gs) (d2 : ReadsAll w gs ss) (h3 : IsPairs w d gl gc ps) :
    Calls Tryz.prog 13 #[.slice a la ca, .slice b lb cb, .slice d gl gc] w fun e w' =>
      ∃ v es, e = .returned (.tuple #[v, .int .i64 (Pl.patC rs ss ps)]) ∧ OwnTb w' w.heap.size v es (Pl.patL rs ss ps) ∧ Below w.heap.size w w' := by
  have H1 := hid h1
  have D1 := hid d1
  have H2 := hid h2
  have D2 := hid d2
  have H3 := hid h3
  have HL2 : Hid (gs.length = lb) := hid h2.1
  have HR1 : Hid (rs.length = la) := hid (by rw [← d1.1]; exact h1.1)
  have HR2 : Hid (ss.length = lb) := hid (by rw [← d2.1]; exact h2.1)
  have hc2 := h2.2.1
  have hm2 := h2.2.2.1
  unfold maxLen at hm2
  clear h1 d1 h2 d2 h3
  obtain ⟨PC, HPC⟩ : ∃ x, Hid (Pl.patC rs ss ps = x) := ⟨_, rfl⟩
  obtain ⟨PL, HPL⟩ : ∃ x, Hid (Pl.patL rs ss ps = x) := ⟨_, rfl⟩
  rw [HPC.out, HPL.out]
  obtain ⟨c1, HC1⟩ : ∃ c, Hid (Pl.tabF rs = c) := ⟨_, rfl⟩
  by_cases hz1 : c1 = 0
  · subst hz1
    have hg1 := Pl.good_of_tabF HC1.out
    have HSRT : Hid (Pl.SrtR rs) := hid ((Pl.ascP_srt rs).1 hg1.2.2)
    have hla : la ≤ 200 := by have := hg1.1; rw [HR1.out] at this; exact this
    clear hg1
    go_enter Tryz.func13, Tryz.ntmps13
    go_wp2_with fail
    refine (Check_rib _ _ _ hs rs _ H1.out D1.out).mono ?_
    rw [HC1.out]
    rintro e w1 ⟨rfl, hbA⟩
    have HBA := hid hbA
    clear hbA
    go_wp2_with fail
    refine (without_any _ _ _ hs rs _ _ _ ps _ (H1.out.below HBA.out) (D1.out.below HBA.out) HSRT.out hla (H3.out.below HBA.out)).mono ?_
    rintro e w2 ⟨v2, hs2, rfl, ho2, hr2, hb2⟩
    have HO2 := hid ho2
    have HR2' := hid hr2
    have HB2 := hid hb2
    have HLE2 : Hid (hs2.length ≤ 200) := hid (by
      rw [hr2.1]
      have := Pl.delsR_len (ps := ps) HSRT.out
      rw [HR1.out] at this
      omega)
    have HSD : Hid (Pl.SrtR (Pl.delsR rs ps)) := hid (Pl.delsR_srt HSRT.out)
    clear ho2 hr2 hb2
    have hzA := HBA.out.size
    go_wp2_with fail
    go_loopw [9, 25] (fun v i wr => ∃ (k : Nat) (hs' : List Pl.RH), k ≤ lb ∧ i = .int .i64 k ∧ Hid (OwnR wr w1.heap.size v hs') ∧ Hid (ReadsAll w1 hs' (Pl.inssR (Pl.delsR rs ps) (ss.take k))) ∧ Hid (hs'.length ≤ 200) ∧ Hid (Below w1.heap.size w1 wr)) (fun _ i _ => lb - (intOf i).toNat)
    case atStart => exact ⟨0, hs2, Nat.zero_le _, rfl, HO2, HR2', HLE2, HB2⟩
    case round =>
      obtain ⟨k, hs', hk, rfl, HO, HR, HLE, HB⟩ := hrel
      have hzB := HB.out.size
      have HBW := hid (HBA.out.trans (HB.out.mono hzA))
      by_cases hlt : k < lb
      · obtain ⟨bb, off, rfl, hbw, hr⟩ := H2.out.at hlt
        obtain ⟨x0, x1, x2, x3, x4⟩ := hr.below hbw HBW.out k (by rw [HL2.out]; exact hlt)
        have HRD := hid ((D2.out.2 k (by rw [HL2.out]; exact hlt)).below HBA.out)
        have HST := hid (Pl.inssR_succ (Pl.delsR rs ps) ss k (by rw [HR2.out]; exact hlt))
        have HSK : Hid (Pl.SrtR (Pl.inssR (Pl.delsR rs ps) (ss.take k))) := hid (Pl.inssR_srt _ _ HSD.out)
        generalize Pl.rh gs k = hh at *
        generalize Pl.rt ss k = rr at *
        have HLY : Hid (∀ W, Below wr.heap.size wr W → Calls Tryz.prog 43 #[u9, .agg #[.int .i64 hh.p.1, .int .i64 hh.p.2, .bool hh.here, .int .i64 hh.cost, .slice hh.ha hh.hl hh.hc]] W fun e w' => ∃ v' hs3, e = .returned v' ∧ OwnR w' w1.heap.size v' hs3 ∧ ReadsAll w1 hs3 (Pl.insR (Pl.inssR (Pl.delsR rs ps) (ss.take k)) rr) ∧ Below w1.heap.size w1 w') := hid fun W hW => by
          have hBW := HB.out.trans (hW.mono hzB)
          refine (lay_rib w1.heap.size u9 hs' hh W (HO.out.below hW) hBW.size (HR.out.asc HSK.out) (by have := HLE.out; omega)).mono fun e w' ⟨v', e1, e2, e3⟩ => ⟨v', _, e1, e2, HR.out.lay HRD.out, hBW.grown e3 hBW.size (fun k hk => HO.out.block k hk)⟩
        have hlt' : (k : Int) < (lb : Int) := by omega
        obtain ⟨⟨hp1, hp2⟩, hhere, hcost, hha, hhl, hhc⟩ := hh
        simp only at x0 x1 x2 x3 x4 HLY
        go_wp2_with fail
        refine (HLY.out _ ((Below.refl _ _).alloc (Nat.le_refl _) _)).mono ?_
        rintro e w3 ⟨v3, hs3, rfl, ho3, hr3, hb3⟩
        obtain ⟨a3, cap3, rfl, hrow3, _⟩ := ho3.rows
        have HO3 := hid ho3
        have HR3 := hid hr3
        have HB3 := hid hb3
        obtain ⟨n3, HN3⟩ : ∃ n, Hid (hs3.length = n) := ⟨_, rfl⟩
        rw [HN3.out] at HO3 ⊢
        clear ho3 hr3 hb3 hrow3 x0 x1 x2 x3 x4
        by_cases hbig : 200 < n3
        · have HSZ : Hid (PC = 1 ∧ PL = []) := hid (by
            have := Pl.pat_size (set := ss) (gone := ps) (k := k + 1) HC1.out (by rw [HST.out, ← HR3.out.1, HN3.out]; exact hbig)
            rwa [HPC.out, HPL.out] at this)
          go_wp2_with fail
          go_ret2
          exact ⟨_, [], by rw [HSZ.out.1]; rfl, by rw [HSZ.out.2]; exact OwnTb.nil _ _, HBA.out.trans (HB3.out.mono hzA)⟩
        · go_wp2_with fail
          go_roundw
          case rel => exact ⟨k + 1, hs3, by omega, by go_num, HO3, hid (by rw [HST.out]; exact HR3.out), hid (by rw [HN3.out]; omega), HB3⟩
          case measure => simp [intOf]; omega
      · have hnl : ¬ ((k : Int) < (lb : Int)) := by omega
        have HRE : Hid (ReadsAll w1 hs' (Pl.patR rs ss ps)) := hid (by
          have := HR.out
          rwa [List.take_of_length_le (by rw [HR2.out]; omega)] at this)
        obtain ⟨a9, cap9, rfl, hrow9, _⟩ := HO.out.rows
        obtain ⟨c2, HC2⟩ : ∃ c, Hid (Pl.tabF (Pl.patR rs ss ps) = c) := ⟨_, rfl⟩
        have HCK : Hid (Calls Tryz.prog 38 #[.slice a9 hs'.length cap9] wr fun e w' => e = .returned (.int .i64 c2) ∧ Below wr.heap.size wr w') := hid (by
          have := Check_rib a9 hs'.length cap9 hs' (Pl.patR rs ss ps) wr hrow9 (HRE.out.below HB.out)
          rwa [HC2.out] at this)
        have hc9 := hrow9.2.1
        have hm9 := hrow9.2.2.1
        unfold maxLen at hm9
        clear hrow9
        obtain ⟨n9, HN9⟩ : ∃ n, Hid (hs'.length = n) := ⟨_, rfl⟩
        rw [HN9.out] at HCK HO HLE hc9 ⊢
        by_cases hz2 : c2 = 0
        · subst hz2
          have HE : Hid (PC = 0 ∧ PL = Pl.patR rs ss ps) := hid (by
            rw [← HPC.out, ← HPL.out]
            unfold Pl.patC Pl.patL
            rw [HC1.out, if_pos rfl, if_pos rfl, HC2.out, if_pos rfl]
            exact ⟨rfl, rfl⟩)
          have HRB : Hid (∀ i, i < n9 → Pl.routeB (Pl.rt (Pl.patR rs ss ps) i) = true) := hid fun i hi => (Pl.good_of_tabF HC2.out).2.1 i (by rw [← HRE.out.1, HN9.out]; exact hi)
          generalize Pl.patR rs ss ps = qs at *
          generalize wr = W8 at *
          go_wp2_with fail
          refine HCK.out.mono ?_
          rintro e W9 ⟨rfl, hb9⟩
          have HB9 := hid (HB.out.trans (hb9.mono hzB))
          have HO9 := hid (HO.out.below hb9)
          clear hb9
          go_wp2_with fail
          go_loopw [43] (fun i wq => ∃ (j : Nat) (es : List Pl.RH), j ≤ n9 ∧ i = .int .i64 j ∧ Hid (OwnR wq w1.heap.size (.slice a9 n9 cap9) es) ∧ Hid (es.length = n9) ∧ Hid (∀ t, t < j → ReadsZ wq w1.heap.size (Pl.rh es t) (Pl.rt qs t)) ∧ Hid (∀ t, j ≤ t → Pl.rh es t = Pl.rh hs' t) ∧ Hid (Below w1.heap.size w1 wq)) (fun i _ => n9 - (intOf i).toNat)
          case atStart => exact ⟨0, hs', Nat.zero_le _, rfl, HO9, HN9, hid (fun t ht => by omega), hid (fun t _ => rfl), HB9⟩
          case round =>
            obtain ⟨j, es, hj, rfl, HOJ, HNJ, HZJ, HHJ, HBJ⟩ := hrel
            have hzJ := HBJ.out.size
            by_cases hltj : j < n9
            · obtain ⟨g, cap', e9, hbg, hgl, hnc, hm', hra, hsf⟩ := HOJ.out.opened (by rw [HNJ.out]; omega)
              simp only [Value.slice.injEq] at e9
              obtain ⟨rfl, hn', rfl⟩ := e9
              clear hn'
              obtain ⟨c0, c1, c2, c3, c4⟩ := hra j (by rw [HNJ.out]; exact hltj)
              rw [HHJ.out j (Nat.le_refl _)] at c0 c1 c2 c3 c4
              simp only [Nat.zero_add] at c0 c1 c2 c3 c4
              clear hra
              have HRD := hid (HRE.out.2 j (by rw [HN9.out]; exact hltj))
              have hhl : (Pl.rh hs' j).hl ≤ 1000 := by
                have e1 := HRD.out.2.2.2.1.1
                have e2 := Pl.routeB_hops (HRB.out j hltj)
                omega
              obtain ⟨rr, HRR⟩ : ∃ x, Hid (Pl.rt qs j = x) := ⟨_, rfl⟩
              rw [HRR.out] at HRD
              generalize Pl.rh hs' j = hh at *
              have HFR : Hid (∀ W, Below wr.heap.size wr W → Calls Tryz.prog 41 #[.agg #[.int .i64 hh.p.1, .int .i64 hh.p.2, .bool hh.here, .int .i64 hh.cost, .slice hh.ha hh.hl hh.hc]] W fun e w' => ∃ g : Pl.RH, e = .returned (.agg #[.int .i64 g.p.1, .int .i64 g.p.2, .bool g.here, .int .i64 g.cost, .slice g.ha g.hl g.hc]) ∧ ReadsZ w' W.heap.size g rr ∧ Below W.heap.size W w') := hid fun W hW => fresh_own hh rr W (HRD.out.below (HBJ.out.trans (hW.mono hzJ))) hhl
              have hltj' : (j : Int) < (n9 : Int) := by omega
              have hA : Below wr.heap.size wr (wr.alloc (.cells #[.int .i64 hh.p.1, .int .i64 hh.p.2, .bool hh.here, .int .i64 hh.cost, .slice hh.ha hh.hl hh.hc] 88)) := (Below.refl _ _).alloc (Nat.le_refl _) _
              have HA := hid hA
              clear hA
              go_wp2_with fail
              refine (HFR.out _ HA.out).mono ?_
              rintro e w5 ⟨gg, rfl, hz5, hb5⟩
              have HB5 := hid (HA.out.trans (hb5.mono (by simp)))
              have HZ5 := hid (hz5.mono (show w1.heap.size ≤ _ by simp; omega))
              have f0 := (HB5.out.cell (p := ⟨g, j * 5, none⟩) hgl).trans c0
              have f1 := (HB5.out.cell (p := ⟨g, j * 5 + 1, none⟩) hgl).trans c1
              have f2 := (HB5.out.cell (p := ⟨g, j * 5 + 2, none⟩) hgl).trans c2
              have f3 := (HB5.out.cell (p := ⟨g, j * 5 + 3, none⟩) hgl).trans c3
              have f4 := (HB5.out.cell (p := ⟨g, j * 5 + 4, none⟩) hgl).trans c4
              have ff : ∀ o, w5.frozen? ⟨g, o, none⟩ = false := fun o => (HB5.out.frozen (p := ⟨g, o, none⟩) hgl).trans (hsf o)
              have HO5 := hid (HOJ.out.below HB5.out)
              rw [← HNJ.out] at HO5
              clear hz5 hb5 c0 c1 c2 c3 c4 hsf
              go_wp2_with fail
              go_roundw
              case rel =>
                refine ⟨j + 1, es.set j gg, by omega, by go_num, hid ?_, hid (by rw [List.length_set]; exact HNJ.out), hid (fun t ht => ?_), hid (fun t ht => ?_), hid ?_⟩
                · have := HO5.out.set j gg
                  rw [HNJ.out] at this
                  exact this
                · by_cases e : t = j
                  · subst e
                    rw [Pl.rh_set_at es t gg (by rw [HNJ.out]; exact hltj), HRR.out]
                    exact HZ5.out.set HO5.out
                  · rw [Pl.rh_set_ne es j t gg e]
                    exact ((HZJ.out t (by omega)).below HB5.out).set HO5.out
                · rw [Pl.rh_set_ne es j t gg (by omega)]
                  exact HHJ.out t (by omega)
                · exact (HBJ.out.trans (HB5.out.mono hzJ)).trans ((But.set5 w5 g (j * 5) gg).below hbg (Nat.le_trans hzJ HB5.out.size))
              case measure => simp [intOf]; omega
            · have hnlj : ¬ ((j : Int) < (n9 : Int)) := by omega
              have HFT : Hid (OwnTb wr w1.heap.size (.slice a9 n9 cap9) es qs) := hid ⟨HOJ.out, by rw [HNJ.out, ← HRE.out.1, HN9.out], fun t ht => HZJ.out t (by rw [HNJ.out] at ht; omega)⟩
              go_wp2_with fail
              go_ret2
              first | exact ⟨_, es, by rw [HE.out.1]; rfl, by rw [HE.out.2]; exact HFT.out.mono hzA, HBA.out.trans (HBJ.out.mono hzA)⟩ | exact ⟨_, by rw [HE.out.1]; rfl, ⟨es, by rw [HE.out.2]; exact HFT.out.mono hzA⟩, HBA.out.trans (HBJ.out.mono hzA)⟩
        · have HE : Hid (PC = c2 ∧ PL = []) := hid (by
            rw [← HPC.out, ← HPL.out]
            unfold Pl.patC Pl.patL
            rw [HC1.out, if_pos rfl, if_pos rfl, HC2.out, if_neg hz2]
            exact ⟨rfl, rfl⟩)
          have hd0 : (c2 != 0) = true := by simpa using hz2
          clear hz2
          go_wp2_with fail
          refine HCK.out.mono ?_
          rintro e w9 ⟨rfl, hb9⟩
          go_wp2_with fail
          go_ret2
          exact ⟨_, [], by rw [HE.out.1]; rfl, by rw [HE.out.2]; exact OwnTb.nil _ _, HBW.out.trans (hb9.mono HBW.out.size)⟩
  · have HE : Hid (PC = c1 ∧ PL = []) := hid (by
      rw [← HPC.out, ← HPL.out]
      unfold Pl.patC Pl.patL
      rw [HC1.out, if_neg hz1, if_neg hz1]
      exact ⟨rfl, rfl⟩)
    have hd0 : (c1 != 0) = true := by simpa using hz1
    clear hz1
    go_enter Tryz.func13, Tryz.ntmps13
    go_wp2_with fail
    refine (Check_rib _ _ _ hs rs _ H1.out D1.out).mono ?_
    rw [HC1.out]
    rintro e w1 ⟨rfl, hbA⟩
    go_wp2_with fail
    go_ret2
    exact ⟨_, [], by rw [HE.out.1]; rfl, by rw [HE.out.2]; exact OwnTb.nil _ _, hbA⟩
end Go.Proofs.YtcdobhdbafpkiafGreatDoor
/-
  Contract: a route is offered to a table (offer).
-/
namespace Go.Proofs.YtcdobhdbafpkiafGreatDoor
open Go.RowKit
set_option maxRecDepth 20000

/-- routes in memory, each with hops of its own -/
def ZAll (w : World) (base : Nat) (hs : List Pl.RH) (rs : List Pl.Rt) : Prop := hs.length = rs.length ∧ ∀ i, i < hs.length → ReadsZ w base (Pl.rh hs i) (Pl.rt rs i)
theorem ZAll.take {w : World} {base : Nat} {hs : List Pl.RH} {rs : List Pl.Rt} (h : ZAll w base hs rs) (n : Nat) : ZAll w base (hs.take n) (rs.take n) := by
  refine ⟨by simp [h.1], fun i hi => ?_⟩
  simp only [List.length_take] at hi
  rw [Pl.rh_take hs n i (by omega) (by omega)]
  have : Pl.rt (rs.take n) i = Pl.rt rs i := by
    have := h.1
    rw [Pl.rt_eq _ _ (by simp; omega), Pl.rt_eq _ _ (by omega)]; simp
  rw [this]
  exact h.2 i (by omega)
theorem ZAll.drop {w : World} {base : Nat} {hs : List Pl.RH} {rs : List Pl.Rt} (h : ZAll w base hs rs) (n : Nat) : ZAll w base (hs.drop n) (rs.drop n) := by
  refine ⟨by simp [h.1], fun i hi => ?_⟩
  simp only [List.length_drop] at hi
  rw [Pl.rh_drop hs n i (by omega)]
  have : Pl.rt (rs.drop n) i = Pl.rt rs (n + i) := by
    have := h.1
    rw [Pl.rt_eq _ _ (by simp; omega), Pl.rt_eq _ _ (by omega)]; simp
  rw [this]
  exact h.2 (n + i) (by omega)
theorem ZAll.append {w : World} {base : Nat} {hs gs : List Pl.RH} {rs ss : List Pl.Rt} (h : ZAll w base hs rs) (k : ZAll w base gs ss) : ZAll w base (hs ++ gs) (rs ++ ss) := by
  refine ⟨by simp [h.1, k.1], fun i hi => ?_⟩
  simp only [List.length_append] at hi
  rcases Nat.lt_or_ge i hs.length with q | q
  · rw [Pl.rh_app_lt _ _ _ q, Pl.rt_app_lt _ _ _ (by rw [← h.1]; exact q)]
    exact h.2 i q
  · have e1 : Pl.rh (hs ++ gs) i = Pl.rh gs (i - hs.length) := by
      rw [Pl.rh_eq _ _ (by simp; omega), Pl.rh_eq _ _ (by omega), List.getElem_append_right q]
    have e2 : Pl.rt (rs ++ ss) i = Pl.rt ss (i - hs.length) := by
      have h1 := h.1
      have h2 := k.1
      rw [Pl.rt_eq _ _ (by simp; omega), Pl.rt_eq _ _ (by omega), List.getElem_append_right (by omega)]
      simp [h1]
    rw [e1, e2]
    exact k.2 _ (by omega)
theorem ZAll.one {w : World} {base : Nat} {x : Pl.RH} {r : Pl.Rt} (h : ReadsZ w base x r) : ZAll w base [x] [r] := ⟨rfl, fun i hi => by simp at hi; subst hi; exact h⟩
theorem DInv.revalue {a0 : Act} {s n m : Nat} {off : Nat → Option Nat} {V V' : Nat → Value} {C : World → Prop} {listed : Array Bool} {a : Act} {w : World}
    (h : DInv a0 s n m off V C listed a w) (hV : ∀ k j, off k = some j → listed.getD k false = true → V j = V' j) : DInv a0 s n m off V' C listed a w := by
  obtain ⟨xs, hl, e, hf⟩ := h.fr
  exact ⟨h.ls, ⟨xs, hl, e, fun k j h1 h2 => (hf k j h1 h2).trans (hV k j h1 h2)⟩, h.cw⟩
theorem DInv.world {a0 : Act} {s n m : Nat} {off : Nat → Option Nat} {V : Nat → Value} {listed : Array Bool} {a : Act} {w w' : World}
    (h : DInv a0 s n m off V (fun _ => True) listed a w) : DInv a0 s n m off V (fun _ => True) listed a w' := ⟨h.ls, h.fr, trivial⟩
theorem list10 (xs : List Value) (h : xs.length = 10) : ∃ x0 x1 x2 x3 x4 x5 x6 x7 x8 x9, xs = [x0, x1, x2, x3, x4, x5, x6, x7, x8, x9] := by
  match xs, h with
  | [x0, x1, x2, x3, x4, x5, x6, x7, x8, x9], _ => exact ⟨x0, x1, x2, x3, x4, x5, x6, x7, x8, x9, rfl⟩

/-- the world while a route of a table is laid anew -/
def OffW (w1 : World) (base g o : Nat) (r B : Pl.Rt) (listed : Array Bool) (x y : Value) (W : World) : Prop :=
  (listed.getD 10 false = false ∧ Below w1.heap.size w1 W ∧ (listed.getD 7 false = true → ∃ k : Pl.RH, x = .agg #[.int .i64 k.p.1, .int .i64 k.p.2, .bool k.here, .int .i64 k.cost, .slice k.ha k.hl k.hc] ∧ ReadsZ W base k r) ∧
    (listed.getD 8 false = true → ∃ k : Pl.RH, y = .agg #[.int .i64 k.p.1, .int .i64 k.p.2, .bool k.here, .int .i64 k.cost, .slice k.ha k.hl k.hc] ∧ ReadsZ W base k B)) ∨
  (listed.getD 10 false = true ∧ ∃ (k : Pl.RH) (W0 : World), ReadsZ W0 base k B ∧ Below w1.heap.size w1 W0 ∧ W = set5 W0 g o k)
theorem OffW.quiet {w1 base g o r B listed x y W} {i : Nat} (h : OffW w1 base g o r B listed x y W) (h7 : i ≠ 7) (h8 : i ≠ 8) (h10 : i ≠ 10) : OffW w1 base g o r B (listed.setIfInBounds i true) x y W := by
  unfold OffW at h ⊢
  rw [getD_set_ne false h7, getD_set_ne false h8, getD_set_ne false h10]
  exact h

set_option maxHeartbeats 8000000 in
theorem offer_any (base : Nat) (v : Value) (hs : List Pl.RH) (rs : List Pl.Rt) (x : Pl.RH) (r : Pl.Rt) (w : World) (hown : OwnTb w base v hs rs) (hbase : base ≤ w.heap.size) (hsrt : Pl.SrtR rs) (hlen : hs.length ≤ 1000) (hx : Reads w x r) (hrB : Pl.hopsB r.hops = true) (hall : ∀ q ∈ rs, Pl.hopsB q.hops = true) (hne : ∀ q ∈ rs, q.p = r.p → r.cost = q.cost → q.hops ≠ []) :
    Calls Tryz.prog 33 #[v, .agg #[.int .i64 x.p.1, .int .i64 x.p.2, .bool x.here, .int .i64 x.cost, .slice x.ha x.hl x.hc]] w fun e w' =>
      ∃ v' hs', e = .returned v' ∧ OwnTb w' base v' hs' (Pl.offR rs r) ∧ w.grownBy w' v.ownBlock := by
  have HO := hid hown
  have HX := hid hx
  have HZ : Hid (ZAll w base hs rs) := hid hown.2
  have HHP : Hid (Pl.hp hs = rs.map Pl.Rt.p) := hid hown.reads.map_p
  have has : Pl.AscP (Pl.hp hs) := hown.reads.asc hsrt
  have HXL : Hid (x.hl ≤ 1000) := hid (by have h1 := hx.2.2.2.1.1; have h2 := Pl.hopsB_le12 hrB; omega)
  have HXP : Hid (x.p = r.p) := hid hx.1
  have HOX : Hid (Pl.offR rs r = Pl.layR rs (Pl.posP (Pl.hp hs) x.p) (Pl.thereP (Pl.hp hs) x.p) (Pl.offX rs r)) := hid (by
    unfold Pl.offR
    rw [← Pl.lay_insR, Pl.offX_p, HHP.out, HXP.out])
  have HOR := hid hrB
  have HRS : Hid (hs.length = rs.length) := hid hown.2.1
  obtain ⟨⟨p1, p2⟩, here, cost, ha, hl, hc⟩ := x
  simp only at HX HXL HXP HOX ⊢
  obtain ⟨tt, HT⟩ : ∃ t, Hid (Pl.thereP (Pl.hp hs) (p1, p2) = t) := ⟨_, hid rfl⟩
  obtain ⟨ix, HI⟩ : ∃ t, Hid (Pl.posP (Pl.hp hs) (p1, p2) = t) := ⟨_, hid rfl⟩
  have HIX : Hid (ix ≤ hs.length) := hid (by rw [← HI.out]; have := Pl.posP_le (Pl.hp hs) (p1, p2); rwa [Pl.hp_len] at this)
  have HLT : Hid (tt = true → ix < hs.length) := hid fun e => by rw [← HI.out]; have := Pl.thereP_lt (by rw [HT.out]; exact e : Pl.thereP (Pl.hp hs) (p1, p2) = true); rwa [Pl.hp_len] at this
  have HF : Hid (∀ W, Below w.heap.size w W → Calls Tryz.prog 39 #[v, .agg #[.int .i64 p1, .int .i64 p2]] W fun e w' => e = .returned (.tuple #[.int .i64 ix, .bool tt]) ∧ Below W.heap.size W w') := hid fun W hW => by
    obtain ⟨a, cap, rfl, hr, _⟩ := (HO.out.1.below hW).rows
    have := find_rib a hs.length cap hs p1 p2 W hr has (by omega)
    rwa [HT.out, HI.out] at this
  have HOE : Hid (Pl.offX rs r = if tt then Pl.bestR (Pl.rt rs ix) r else r) := hid (by
    unfold Pl.offX
    rw [← HHP.out, ← HXP.out, HT.out, HI.out])
  have HNB : Hid (tt = true → Pl.hopsB (Pl.rt rs ix).hops = true ∧ (r.cost = (Pl.rt rs ix).cost → (Pl.rt rs ix).hops ≠ [])) := hid fun e => by
    have hm := Pl.rt_mem rs ix (by have := HLT.out e; have := HRS.out; omega)
    refine ⟨hall _ hm, hne _ hm ?_⟩
    have ht : Pl.thereP (Pl.hp hs) (p1, p2) = true := by rw [HT.out]; exact e
    have h1 := Pl.thereP_eq ht
    rw [HHP.out] at h1
    rw [← HHP.out, HI.out, HHP.out, Pl.pr_map rs ix (by have := HLT.out e; have := HRS.out; omega)] at h1
    rw [h1, HXP.out]
  rw [HT.out, HI.out] at HOX
  rw [HOX.out]
  clear hown has hx hrB hall hne hsrt HT HI
  cases tt
  · have HE : Hid (Pl.layR rs ix false (Pl.offX rs r) = rs.take ix ++ ([r] ++ rs.drop ix)) := hid (by rw [HOE.out]; rfl)
    rw [HE.out]
    clear HE HOE HOX HNB
    have HFR : Hid (∀ W, Below w.heap.size w W → Calls Tryz.prog 41 #[.agg #[.int .i64 p1, .int .i64 p2, .bool here, .int .i64 cost, .slice ha hl hc]] W fun e w' => ∃ g : Pl.RH, e = .returned (.agg #[.int .i64 g.p.1, .int .i64 g.p.2, .bool g.here, .int .i64 g.cost, .slice g.ha g.hl g.hc]) ∧ ReadsZ w' W.heap.size g r ∧ Below W.heap.size W w') := hid fun W hW => fresh_own ⟨(p1, p2), here, cost, ha, hl, hc⟩ r W (HX.out.below hW) HXL.out
    go_enter Tryz.func33, Tryz.ntmps33
    go_wp2_with fail
    refine (HF.out _ ((Below.refl _ _).alloc (Nat.le_refl _) _)).mono ?_
    rintro e w1 ⟨rfl, hb1⟩
    obtain ⟨⟨y0, y1, y2, y3, y4⟩, hbx, hbw⟩ := box5 (by simpa using hb1)
    have HBW := hid hbw
    clear hb1 hbw
    go_wp2_with fail
    refine (HFR.out _ HBW.out).mono ?_
    rintro e w2 ⟨k, rfl, hz2, hb2⟩
    have HZ2 := hid (hz2.mono (Nat.le_trans hbase HBW.out.size))
    have HB2 : Hid (Below w.heap.size w w2) := hid (HBW.out.trans (hb2.mono HBW.out.size))
    have HO2 := hid (HO.out.below HB2.out)
    have hz := HB2.out.size
    clear hz2 hb2
    go_wp2_with fail
    refine (Insert_any base v hs ix k w2 HO2.out.1 (by omega) (by omega) HIX.out).mono ?_
    rintro e w3 ⟨v', rfl, ho3, hg3⟩
    have HO3 := hid ho3
    have HG3 := hid hg3
    clear ho3 hg3
    go_wp2_with fail
    go_ret
    have key : ∀ x y, ReadsZ w2 base x y → ReadsZ w3 base x y := by
      intro x y ⟨q1, q2, q3, q4, q5⟩
      exact ⟨q1, q2, q3, World.ownsRow.kept (World.ownsRow.alloc q4 _) HG3.out (apartZR q4 HO2.out.1), q5⟩
    have hzz : ZAll w2 base (hs.take ix ++ ([k] ++ hs.drop ix)) (rs.take ix ++ ([r] ++ rs.drop ix)) := (ZAll.take HO2.out.2 ix).append ((ZAll.one HZ2.out).append (ZAll.drop HO2.out.2 ix))
    refine ⟨_, hs.take ix ++ ([k] ++ hs.drop ix), rfl, ⟨HO3.out, hzz.1, fun i hi => key _ _ (hzz.2 i hi)⟩, ?_⟩
    exact grown_trans (grown_below HB2.out) (grown_trans (grown_below ((Below.refl _ _).alloc (Nat.le_refl _) _)) HG3.out)
  · have hix := HLT.out rfl
    have HNB2 := hid (HNB.out rfl)
    obtain ⟨g, cap, rfl, hbg, hgl, hnc, hm, hra, hsf⟩ := HO.out.1.opened (by omega)
    unfold maxLen at hm
    obtain ⟨c0, c1, c2, c3, c4⟩ := hra ix hix
    have HZX := hid (HZ.out.2 ix hix)
    obtain ⟨n, HN⟩ : ∃ n, Hid (hs.length = n) := ⟨_, hid rfl⟩
    rw [HN.out] at HF hix hnc hlen ⊢
    obtain ⟨B, HB⟩ : ∃ B, Hid (Pl.bestR (Pl.rt rs ix) r = B) := ⟨_, hid rfl⟩
    have HE : Hid (Pl.layR rs ix true (Pl.offX rs r) = rs.set ix B) := hid (by
      rw [HOE.out]
      show rs.take ix ++ Pl.bestR (Pl.rt rs ix) r :: rs.drop (ix + 1) = _
      rw [HB.out, List.set_eq_take_append_cons_drop, if_pos (by have := HRS.out; have := HN.out; omega)])
    rw [HE.out]
    obtain ⟨old, HOLD⟩ : ∃ x, Hid (Pl.rh hs ix = x) := ⟨_, hid rfl⟩
    obtain ⟨ro, HRO⟩ : ∃ x, Hid (Pl.rt rs ix = x) := ⟨_, hid rfl⟩
    rw [HOLD.out] at c0 c1 c2 c3 c4 HZX
    rw [HRO.out] at HZX HNB2 HB
    clear hra HE HOE HOX HNB
    have HFR : Hid (∀ W, Below w.heap.size w W → Calls Tryz.prog 41 #[.agg #[.int .i64 p1, .int .i64 p2, .bool here, .int .i64 cost, .slice ha hl hc]] W fun e w' => ∃ g : Pl.RH, e = .returned (.agg #[.int .i64 g.p.1, .int .i64 g.p.2, .bool g.here, .int .i64 g.cost, .slice g.ha g.hl g.hc]) ∧ ReadsZ w' W.heap.size g r ∧ Below W.heap.size W w') := hid fun W hW => fresh_own ⟨(p1, p2), here, cost, ha, hl, hc⟩ r W (HX.out.below hW) HXL.out
    have hix' : (ix : Int) < (n : Int) := by omega
    go_enter Tryz.func33, Tryz.ntmps33
    go_wp2_with fail
    refine (HF.out _ ((Below.refl _ _).alloc (Nat.le_refl _) _)).mono ?_
    rintro e w1 ⟨rfl, hb1⟩
    obtain ⟨⟨y0, y1, y2, y3, y4⟩, hbx, hbw⟩ := box5 (by simpa using hb1)
    have HBW := hid hbw
    have HO1 := hid (HO.out.below hbw)
    have hz := hbw.size
    have D0 := hid ((hbw.cell (p := ⟨g, 0 + ix * 5, none⟩) hgl).trans c0)
    have D1 := hid ((hbw.cell (p := ⟨g, 0 + ix * 5 + 1, none⟩) hgl).trans c1)
    have D2 := hid ((hbw.cell (p := ⟨g, 0 + ix * 5 + 2, none⟩) hgl).trans c2)
    have D3 := hid ((hbw.cell (p := ⟨g, 0 + ix * 5 + 3, none⟩) hgl).trans c3)
    have D4 := hid ((hbw.cell (p := ⟨g, 0 + ix * 5 + 4, none⟩) hgl).trans c4)
    have DF : Hid (∀ o, w1.frozen? ⟨g, o, none⟩ = false) := hid fun o => (hbw.frozen (p := ⟨g, o, none⟩) hgl).trans (hsf o)
    rw [Nat.zero_add] at D0 D1 D2 D3 D4
    have HZX1 := hid (HZX.out.below hbw)
    have Y := hid (And.intro y0 (And.intro y1 (And.intro y2 (And.intro y3 y4))))
    clear hb1 hbw c0 c1 c2 c3 c4 hsf y0 y1 y2 y3 y4
    have hbxl : w.heap.size < w1.heap.size := by omega
    have hg1 : g < w1.heap.size := by omega
    go_wp2_with fail
    generalize ha0 : Act.mk _ _ = a0
    have hsz : 22 + 10 ≤ a0.tmps.size := by
      have : a0.tmps.size = 33 := by rw [← ha0]; rfl
      omega
    have q0 : a0.tmps[0]?.getD undef = .slice (some ⟨g, 0, none⟩) n cap := by rw [← ha0]; rfl
    have q3 : a0.tmps[3]?.getD undef = .pointer (some ⟨w.heap.size, 0, none⟩) := by rw [← ha0]; rfl
    have q5 : a0.tmps[5]?.getD undef = .int .i64 ix := by rw [← ha0]; rfl
    refine wp_region_any (by kernel_rfl) ?_
    refine wpAny_inv2 (fun listed a W => ∃ x y, DInv a0 22 10 11 (fun k => if k < 10 then some k else none)
      (fun j => ([.slice (some ⟨g, 0, none⟩) n cap, .int .i64 ix, .slice (some ⟨g, 0, none⟩) n cap, .int .i64 ix, .pointer (some ⟨g, ix * 5, none⟩), .agg #[.int .i64 old.p.1, .int .i64 old.p.2, .bool old.here, .int .i64 old.cost, .slice old.ha old.hl old.hc], .agg #[.int .i64 p1, .int .i64 p2, .bool here, .int .i64 cost, .slice ha hl hc], x, y, .pointer (some ⟨g, ix * 5, none⟩)] : List Value).getD j undef)
      (fun _ => True) listed a W ∧ OffW w1 base g (ix * 5) r B listed x y W) ?_ ?_ _ _ _ _ (by decide +kernel) ?_ (closed_start _ _ _)
    · rintro i listed a W hi hCl ⟨x, y, hI, hW⟩
      rw [mem_ready] at hi
      obtain ⟨hl0, o, ho, hall⟩ := hi
      have hlt11 : i < 11 := (Array.getElem?_eq_some_iff.1 ho).1
      have o0 := (hI.out (k := 0) (by omega)).trans q0
      have o3 := (hI.out (k := 3) (by omega)).trans q3
      have o5 := (hI.out (k := 5) (by omega)).trans q5
      have hnl : listed.getD i false = false := by
        have hlt : i < listed.size := by rw [hI.ls]; exact hlt11
        simp [hlt] at hl0 ⊢
        exact hl0
      have h10 : listed.getD 10 false = false := by
        cases h : listed.getD 10 false with
        | false => rfl
        | true =>
          exfalso
          have e8 := hCl 10 _ rfl h ⟨8, .data⟩ (by simp) rfl
          have e9 := hCl 10 _ rfl h ⟨9, .data⟩ (by simp) rfl
          have e5 := hCl 8 _ rfl e8 ⟨5, .data⟩ (by simp) rfl
          have e7 := hCl 8 _ rfl e8 ⟨7, .data⟩ (by simp) rfl
          have e6 := hCl 7 _ rfl e7 ⟨6, .data⟩ (by simp) rfl
          have e4 := hCl 5 _ rfl e5 ⟨4, .data⟩ (by simp) rfl
          have e2 := hCl 4 _ rfl e4 ⟨2, .data⟩ (by simp) rfl
          have e3 := hCl 4 _ rfl e4 ⟨3, .data⟩ (by simp) rfl
          have e0 := hCl 9 _ rfl e9 ⟨0, .data⟩ (by simp) rfl
          have e1 := hCl 9 _ rfl e9 ⟨1, .data⟩ (by simp) rfl
          have hcs : i = 0 ∨ i = 1 ∨ i = 2 ∨ i = 3 ∨ i = 4 ∨ i = 5 ∨ i = 6 ∨ i = 7 ∨ i = 8 ∨ i = 9 ∨ i = 10 := by omega
          rcases hcs with rfl | rfl | rfl | rfl | rfl | rfl | rfl | rfl | rfl | rfl | rfl <;> simp_all
      obtain ⟨hbW, h7, h8⟩ : Below w1.heap.size w1 W ∧ (listed.getD 7 false = true → ∃ k : Pl.RH, x = .agg #[.int .i64 k.p.1, .int .i64 k.p.2, .bool k.here, .int .i64 k.cost, .slice k.ha k.hl k.hc] ∧ ReadsZ W base k r) ∧ (listed.getD 8 false = true → ∃ k : Pl.RH, y = .agg #[.int .i64 k.p.1, .int .i64 k.p.2, .bool k.here, .int .i64 k.cost, .slice k.ha k.hl k.hc] ∧ ReadsZ W base k B) := by
        rcases hW with ⟨_, h⟩ | ⟨h, _⟩
        · exact h
        · rw [h10] at h; cases h
      have hcs : i = 0 ∨ i = 1 ∨ i = 2 ∨ i = 3 ∨ i = 4 ∨ i = 5 ∨ i = 6 ∨ i = 7 ∨ i = 8 ∨ i = 9 ∨ i = 10 := by omega
      rcases hcs with rfl | rfl | rfl | rfl | rfl | rfl | rfl | rfl | rfl | rfl | rfl
      all_goals
        simp at ho
        subst ho
        refine wpOp_of rfl rfl ?_
      · simp [Oper.wp, go_sem, o0]
        exact ⟨x, y, hI.put (i := 0) (j := 0) rfl (by omega) rfl trivial, hW.quiet (by omega) (by omega) (by omega)⟩
      · simp [Oper.wp, go_sem, o5]
        exact ⟨x, y, hI.put (i := 1) (j := 1) rfl (by omega) rfl trivial, hW.quiet (by omega) (by omega) (by omega)⟩
      · simp [Oper.wp, go_sem, o0]
        exact ⟨x, y, hI.put (i := 2) (j := 2) rfl (by omega) rfl trivial, hW.quiet (by omega) (by omega) (by omega)⟩
      · simp [Oper.wp, go_sem, o5]
        exact ⟨x, y, hI.put (i := 3) (j := 3) rfl (by omega) rfl trivial, hW.quiet (by omega) (by omega) (by omega)⟩
      · have e1 : a.tmps[24]?.getD undef = .slice (some ⟨g, 0, none⟩) n cap := hI.at (k := 2) (j := 2) hsz rfl (by omega) (hall ⟨2, .data⟩ (by simp) rfl)
        have e2 : a.tmps[25]?.getD undef = .int .i64 ix := hI.at (k := 3) (j := 3) hsz rfl (by omega) (hall ⟨3, .data⟩ (by simp) rfl)
        simp [Oper.wp, go_sem, e1, e2, hix']
        exact ⟨x, y, hI.put (i := 4) (j := 4) rfl (by omega) rfl trivial, hW.quiet (by omega) (by omega) (by omega)⟩
      · have e1 : a.tmps[26]?.getD undef = .pointer (some ⟨g, ix * 5, none⟩) := hI.at (k := 4) (j := 4) hsz rfl (by omega) (hall ⟨4, .data⟩ (by simp) rfl)
        have f0 := (hbW.cell (p := ⟨g, ix * 5, none⟩) hg1).trans D0.out
        have f1 := (hbW.cell (p := ⟨g, ix * 5 + 1, none⟩) hg1).trans D1.out
        have f2 := (hbW.cell (p := ⟨g, ix * 5 + 2, none⟩) hg1).trans D2.out
        have f3 := (hbW.cell (p := ⟨g, ix * 5 + 3, none⟩) hg1).trans D3.out
        have f4 := (hbW.cell (p := ⟨g, ix * 5 + 4, none⟩) hg1).trans D4.out
        simp [Oper.wp, go_sem, e1, f0, f1, f2, f3, f4]
        exact ⟨x, y, hI.put (i := 5) (j := 5) rfl (by omega) rfl trivial, hW.quiet (by omega) (by omega) (by omega)⟩
      · have f0 := (hbW.cell (p := ⟨w.heap.size, 0, none⟩) hbxl).trans Y.out.1
        have f1 := (hbW.cell (p := ⟨w.heap.size, 1, none⟩) hbxl).trans Y.out.2.1
        have f2 := (hbW.cell (p := ⟨w.heap.size, 2, none⟩) hbxl).trans Y.out.2.2.1
        have f3 := (hbW.cell (p := ⟨w.heap.size, 3, none⟩) hbxl).trans Y.out.2.2.2.1
        have f4 := (hbW.cell (p := ⟨w.heap.size, 4, none⟩) hbxl).trans Y.out.2.2.2.2
        simp [Oper.wp, go_sem, o3, f0, f1, f2, f3, f4]
        exact ⟨x, y, hI.put (i := 6) (j := 6) rfl (by omega) rfl trivial, hW.quiet (by omega) (by omega) (by omega)⟩
      · have e1 : a.tmps[28]?.getD undef = .agg #[.int .i64 p1, .int .i64 p2, .bool here, .int .i64 cost, .slice ha hl hc] := hI.at (k := 6) (j := 6) hsz rfl (by omega) (hall ⟨6, .data⟩ (by simp) rfl)
        simp [Oper.wp, go_sem, e1]
        refine (HFR.out W (HBW.out.trans (hbW.mono hz))).mono ?_
        rintro e W' ⟨k, rfl, hzk, hbk⟩
        refine ⟨.agg #[.int .i64 k.p.1, .int .i64 k.p.2, .bool k.here, .int .i64 k.cost, .slice k.ha k.hl k.hc], y, DInv.put (i := 7) (j := 7) (w' := W') (DInv.revalue hI fun k' j hk' hlk => ?_) rfl (by omega) rfl trivial, .inl ⟨?_, hbW.trans (hbk.mono hbW.size), fun _ => ⟨k, rfl, hzk.mono (by have := hbW.size; omega)⟩, fun h => ?_⟩⟩
        · by_cases e7 : k' = 7
          · subst e7; rw [hnl] at hlk; cases hlk
          · by_cases hk10 : k' < 10
            · rw [if_pos hk10] at hk'
              cases hk'
              have hcs : k' = 0 ∨ k' = 1 ∨ k' = 2 ∨ k' = 3 ∨ k' = 4 ∨ k' = 5 ∨ k' = 6 ∨ k' = 8 ∨ k' = 9 := by omega
              rcases hcs with rfl | rfl | rfl | rfl | rfl | rfl | rfl | rfl | rfl <;> rfl
            · rw [if_neg hk10] at hk'; cases hk'
        · rw [getD_set_ne false (by omega)]; exact h10
        · rw [getD_set_ne false (by omega)] at h
          obtain ⟨k2, e2, z2⟩ := h8 h
          exact ⟨k2, e2, z2.below hbk⟩
      · obtain ⟨k1, rfl, z1⟩ := h7 (hall ⟨7, .data⟩ (by simp) rfl)
        have e1 : a.tmps[27]?.getD undef = .agg #[.int .i64 old.p.1, .int .i64 old.p.2, .bool old.here, .int .i64 old.cost, .slice old.ha old.hl old.hc] := hI.at (k := 5) (j := 5) hsz rfl (by omega) (hall ⟨5, .data⟩ (by simp) rfl)
        have e2 : a.tmps[29]?.getD undef = .agg #[.int .i64 k1.p.1, .int .i64 k1.p.2, .bool k1.here, .int .i64 k1.cost, .slice k1.ha k1.hl k1.hc] := hI.at (k := 7) (j := 7) hsz rfl (by omega) (hall ⟨7, .data⟩ (by simp) rfl)
        simp [Oper.wp, go_sem, e1, e2]
        have hbest := best_any base old k1 ro r W (HZX1.out.below hbW) z1 (by have := hbW.size; omega) HNB2.out.1 HOR.out HNB2.out.2
        rw [HB.out] at hbest
        refine hbest.mono ?_
        rintro e W' ⟨k, rfl, hzk, hbk⟩
        refine ⟨_, .agg #[.int .i64 k.p.1, .int .i64 k.p.2, .bool k.here, .int .i64 k.cost, .slice k.ha k.hl k.hc], DInv.put (i := 8) (j := 8) (w' := W') (DInv.revalue hI fun k' j hk' hlk => ?_) rfl (by omega) rfl trivial, .inl ⟨?_, hbW.trans (hbk.mono hbW.size), fun _ => ⟨k1, rfl, z1.below hbk⟩, fun _ => ⟨k, rfl, hzk⟩⟩⟩
        · by_cases e8 : k' = 8
          · subst e8; rw [hnl] at hlk; cases hlk
          · by_cases hk10 : k' < 10
            · rw [if_pos hk10] at hk'
              cases hk'
              have hcs : k' = 0 ∨ k' = 1 ∨ k' = 2 ∨ k' = 3 ∨ k' = 4 ∨ k' = 5 ∨ k' = 6 ∨ k' = 7 ∨ k' = 9 := by omega
              rcases hcs with rfl | rfl | rfl | rfl | rfl | rfl | rfl | rfl | rfl <;> rfl
            · rw [if_neg hk10] at hk'; cases hk'
        · rw [getD_set_ne false (by omega)]; exact h10
      · have e1 : a.tmps[22]?.getD undef = .slice (some ⟨g, 0, none⟩) n cap := hI.at (k := 0) (j := 0) hsz rfl (by omega) (hall ⟨0, .data⟩ (by simp) rfl)
        have e2 : a.tmps[23]?.getD undef = .int .i64 ix := hI.at (k := 1) (j := 1) hsz rfl (by omega) (hall ⟨1, .data⟩ (by simp) rfl)
        simp [Oper.wp, go_sem, e1, e2, hix']
        exact ⟨x, y, hI.put (i := 9) (j := 9) rfl (by omega) rfl trivial, hW.quiet (by omega) (by omega) (by omega)⟩
      · obtain ⟨k1, rfl, z1⟩ := h8 (hall ⟨8, .data⟩ (by simp) rfl)
        have e1 : a.tmps[31]?.getD undef = .pointer (some ⟨g, ix * 5, none⟩) := hI.at (k := 9) (j := 9) hsz rfl (by omega) (hall ⟨9, .data⟩ (by simp) rfl)
        have e2 : a.tmps[30]?.getD undef = .agg #[.int .i64 k1.p.1, .int .i64 k1.p.2, .bool k1.here, .int .i64 k1.cost, .slice k1.ha k1.hl k1.hc] := hI.at (k := 8) (j := 8) hsz rfl (by omega) (hall ⟨8, .data⟩ (by simp) rfl)
        have f0 := (hbW.cell (p := ⟨g, ix * 5, none⟩) hg1).trans D0.out
        have f1 := (hbW.cell (p := ⟨g, ix * 5 + 1, none⟩) hg1).trans D1.out
        have f2 := (hbW.cell (p := ⟨g, ix * 5 + 2, none⟩) hg1).trans D2.out
        have f3 := (hbW.cell (p := ⟨g, ix * 5 + 3, none⟩) hg1).trans D3.out
        have f4 := (hbW.cell (p := ⟨g, ix * 5 + 4, none⟩) hg1).trans D4.out
        have ff : ∀ o, W.frozen? ⟨g, o, none⟩ = false := fun o => (hbW.frozen (p := ⟨g, o, none⟩) hg1).trans (DF.out o)
        simp [Oper.wp, go_sem, e1, e2, f0, f1, f2, f3, f4, ff]
        refine ⟨x, _, hI.skip (i := 10) rfl trivial, .inr ⟨?_, k1, W, z1, hbW, rfl⟩⟩
        have : 10 < listed.size := by rw [hI.ls]; omega
        simp [this]
    · rintro listed a W hr ⟨x, y, hI, hW⟩
      rename_i K hK
      have h10 := all_listed (by decide +kernel) hI.ls hr 10 (by decide)
      obtain ⟨xs, hxl, rfl, _⟩ := hI.fr
      obtain ⟨x0, x1, x2, x3, x4, x5, x6, x7, x8, x9, rfl⟩ := list10 xs hxl
      rcases hW with ⟨h, _⟩ | ⟨_, k, W0, hzk, hb0, hW⟩
      · rw [h10] at h; cases h
      have HZK := hid hzk
      have HB0 := hid hb0
      have HWW := hid hW
      clear hI hr hxl q0 q3 q5 hsz hzk hb0 hW h10
      rw [← ha0]
      simp only [setFrom]
      refine hK _ W ?_
      go_wp2_with fail
      go_ret
      have hO0 := HO1.out.below HB0.out
      have hOR0 := hO0.1
      refine ⟨_, hs.set ix k, rfl, ?_, ?_⟩
      · rw [HWW.out]
        have h1 := hOR0.set ix k
        rw [HN.out] at h1
        refine ⟨h1, by rw [List.length_set, List.length_set]; exact HRS.out, fun t ht => ?_⟩
        rw [List.length_set] at ht
        by_cases e : t = ix
        · subst e
          rw [Pl.rh_set_at hs t k ht, Pl.rt_eq _ _ (by rw [List.length_set, ← HRS.out]; exact ht)]
          rw [List.getElem_set_self]
          exact HZK.out.set hOR0
        · rw [Pl.rh_set_ne hs ix t k e, Pl.rt_eq _ _ (by rw [List.length_set, ← HRS.out]; exact ht), List.getElem_set_ne (Ne.symm e), ← Pl.rt_eq rs t (by rw [← HRS.out]; exact ht)]
          exact (hO0.2.2 t ht).set hOR0
      · rw [HWW.out]
        have h1 := HBW.out.trans (HB0.out.mono hz)
        exact grown_trans (grown_below h1) (But.set5 W0 g (ix * 5) k).grown
    · exact ⟨undef, undef, DInv.start hsz trivial, .inl ⟨by simp, (Below.refl _ _).drew, fun h => by simp at h, fun h => by simp at h⟩⟩
end Go.Proofs.YtcdobhdbafpkiafGreatDoor
/-
  Contracts: what Get and the document's GotOf answer at every list of entries and every key.
-/
namespace Go.Proofs.YtcdobhdbafpkiafGreatDoor
open Go.RowKit
set_option maxRecDepth 20000

/-- the entry that is told -/
def Pl.gotE (es : List Pl.Ent) (key : ByteArray) : Pl.Ent := if Pl.fault es = 0 then (if Pl.there es key then Pl.ent es (Pl.pos es key) else Pl.Ent.none) else Pl.Ent.none
def Pl.gotC (es : List Pl.Ent) (key : ByteArray) : Int := if Pl.fault es = 0 then (if Pl.there es key then 0 else 6) else Pl.fault es

set_option maxHeartbeats 400000 in
theorem Get_any (a : Option Addr) (len cap : Nat) (es : List Pl.Ent) (key : ByteArray) (w : World) (h : IsEnts w a len cap es) :
    Calls Tryz.prog 62 #[.slice a len cap, .string key] w fun e w' =>
      e = .returned (.tuple #[.agg #[.string (Pl.gotE es key).key, .int .i64 (Pl.gotE es key).ver, .int .i64 (Pl.gotE es key).org, .string (Pl.gotE es key).val], .int .i64 (Pl.gotC es key)]) ∧ Below w.heap.size w w' := by
  have HH : Hid (IsEnts w a len cap es) := h
  clear h
  obtain ⟨c, HC⟩ : ∃ c, Hid (Pl.fault es = c) := ⟨_, rfl⟩
  by_cases hc0 : c = 0
  · subst hc0
    obtain ⟨g1, g2, g3⟩ := Pl.good_of_fault HC.out
    have hlen : es.length = len := HH.out.1
    have HL : Hid (len ≤ 60) := by show _ ≤ _; omega
    have HA : Hid (Pl.Asc es) := g3
    clear g1 g2 g3
    obtain ⟨t, HT⟩ : ∃ t, Hid (Pl.there es key = t) := ⟨_, rfl⟩
    cases t
    · have HE : Hid (Pl.gotE es key = Pl.Ent.none ∧ Pl.gotC es key = 6) := by unfold Pl.gotE Pl.gotC; rw [HC.out, HT.out]; exact ⟨rfl, rfl⟩
      go_enter Tryz.func62, Tryz.ntmps62
      go_wp2_with fail
      refine (Check_any _ _ _ es _ (HH.out.below ((Below.refl _ _).alloc (Nat.le_refl _) _))).mono ?_
      rw [HC.out]
      rintro e w1 ⟨rfl, hb1⟩
      have hz := hb1.size
      simp at hz
      go_wp2_with fail
      refine (find_any _ _ _ es key _ (HH.out.below (((Below.refl _ _).alloc (Nat.le_refl _) _).trans (hb1.mono (by simp)))) HA.out HL.out).mono ?_
      rw [HT.out]
      rintro e w2 ⟨rfl, hb2⟩
      have hb12 := hb1.trans (hb2.mono (by simp; omega))
      obtain ⟨hcc, hff⟩ := bcell hb12
      go_wp2_with fail
      refine bodyPost_ret (v := .tuple #[.agg #[.string (Pl.gotE es key).key, .int .i64 (Pl.gotE es key).ver, .int .i64 (Pl.gotE es key).org, .string (Pl.gotE es key).val], .int .i64 (Pl.gotC es key)]) (by rw [HE.out.1, HE.out.2]; simp [results, Tryz.results62, go_sem, hcc, Pl.Ent.none]) rfl ⟨rfl, ((((((Below.refl _ _).alloc (Nat.le_refl _) _).trans (hb12.mono (by simp))).setCell (Nat.le_refl _) _).setCell (Nat.le_refl _) _).setCell (Nat.le_refl _) _).setCell (Nat.le_refl _) _⟩
    · have hlt : Pl.pos es key < len := by
        have := HT.out
        unfold Pl.there at this
        simp only [Bool.and_eq_true, decide_eq_true_eq] at this
        omega
      have HE : Hid (Pl.gotE es key = Pl.ent es (Pl.pos es key) ∧ Pl.gotC es key = 0) := by unfold Pl.gotE Pl.gotC; rw [HC.out, HT.out]; exact ⟨rfl, rfl⟩
      obtain ⟨p, HP⟩ : ∃ p, Hid (Pl.pos es key = p) := ⟨_, rfl⟩
      rw [HP.out] at hlt HE
      obtain ⟨b, off, rfl, hbw, hr⟩ : ∃ b off, a = some ⟨b, off, none⟩ ∧ b < w.heap.size ∧ RowAt w b off es := by
        rcases HH.out.2.2.2.2 with h | h
        · rw [h] at hlen; simp at hlen; omega
        · exact h
      have hcap := HH.out.2.1
      have hm := HH.out.2.2.1
      unfold maxLen at hm
      obtain ⟨q0, q1, q2, q3⟩ := hr p (by omega)
      have hlt' : (p : Int) < (len : Int) := by omega
      go_enter Tryz.func62, Tryz.ntmps62
      go_wp2_with fail
      refine (Check_any _ _ _ es _ (HH.out.below ((Below.refl _ _).alloc (Nat.le_refl _) _))).mono ?_
      rw [HC.out]
      rintro e w1 ⟨rfl, hb1⟩
      have hz := hb1.size
      simp at hz
      go_wp2_with fail
      refine (find_any _ _ _ es key _ (HH.out.below (((Below.refl _ _).alloc (Nat.le_refl _) _).trans (hb1.mono (by simp)))) HA.out HL.out).mono ?_
      rw [HT.out, HP.out]
      rintro e w2 ⟨rfl, hb2⟩
      have hb12 := hb1.trans (hb2.mono (by simp; omega))
      obtain ⟨hcc, hff⟩ := bcell hb12
      go_wp2_with fail
      refine bodyPost_ret (v := .tuple #[.agg #[.string (Pl.gotE es key).key, .int .i64 (Pl.gotE es key).ver, .int .i64 (Pl.gotE es key).org, .string (Pl.gotE es key).val], .int .i64 (Pl.gotC es key)]) (by rw [HE.out.1, HE.out.2]; simp [results, Tryz.results62, go_sem, hcc]) rfl ⟨rfl, ((((((Below.refl _ _).alloc (Nat.le_refl _) _).trans (hb12.mono (by simp))).setCell (Nat.le_refl _) _).setCell (Nat.le_refl _) _).setCell (Nat.le_refl _) _).setCell (Nat.le_refl _) _⟩
  · have hcn : (c != 0) = true := by simp [hc0]
    have HE : Hid (Pl.gotE es key = Pl.Ent.none ∧ Pl.gotC es key = c) := by unfold Pl.gotE Pl.gotC; rw [HC.out, if_neg hc0, if_neg hc0]; exact ⟨rfl, rfl⟩
    clear hc0
    go_enter Tryz.func62, Tryz.ntmps62
    go_wp2_with fail
    refine (Check_any _ _ _ es _ (HH.out.below ((Below.refl _ _).alloc (Nat.le_refl _) _))).mono ?_
    rw [HC.out]
    rintro e w1 ⟨rfl, hb12⟩
    obtain ⟨hcc, hff⟩ := bcell hb12
    go_wp2_with fail
    refine bodyPost_ret (v := .tuple #[.agg #[.string (Pl.gotE es key).key, .int .i64 (Pl.gotE es key).ver, .int .i64 (Pl.gotE es key).org, .string (Pl.gotE es key).val], .int .i64 (Pl.gotC es key)]) (by rw [HE.out.1, HE.out.2]; simp [results, Tryz.results62, go_sem, hcc, Pl.Ent.none]) rfl ⟨rfl, ((((((Below.refl _ _).alloc (Nat.le_refl _) _).trans (hb12.mono (by simp))).setCell (Nat.le_refl _) _).setCell (Nat.le_refl _) _).setCell (Nat.le_refl _) _).setCell (Nat.le_refl _) _⟩

end Go.Proofs.YtcdobhdbafpkiafGreatDoor
/-
  Contracts: where a node tells of its links (AdjKey), and what it tells (toldAdj).
-/
namespace Go.Proofs.YtcdobhdbafpkiafGreatDoor
open Go.RowKit
set_option maxRecDepth 20000

def Pl.adjKey (n : Int) : ByteArray := ⟨#[97, 58]⟩ ++ Pl.dec n
def Pl.pfxKey (n : Int) : ByteArray := ⟨#[112, 58]⟩ ++ Pl.dec n
theorem Pl.adjKey_size (n : Int) (h0 : 0 ≤ n) (h1 : n ≤ 1000) : (Pl.adjKey n).size ≤ 23 := by
  unfold Pl.adjKey
  rw [ByteArray.size_append]
  have := Pl.dec_le n h0 h1
  show 2 + _ ≤ 23
  omega
/-- what a node's entry says -/
def Pl.toldV (es : List Pl.Ent) (n : Int) : ByteArray := (Pl.gotE es (Pl.adjKey n)).val
theorem Pl.gotE_val (es : List Pl.Ent) (k : ByteArray) : (Pl.gotE es k).val.size ≤ 120 := by
  unfold Pl.gotE
  split
  · rename_i hf
    split
    · rename_i ht
      obtain ⟨h1, h2, h3⟩ := Pl.good_of_fault hf
      have hp : Pl.pos es k < es.length := by unfold Pl.there at ht; simp only [Bool.and_eq_true, decide_eq_true_eq] at ht; exact ht.1
      have := h2 _ hp
      unfold Pl.Ent.may Pl.entB at this
      simp only [Bool.and_eq_true, decide_eq_true_eq] at this
      exact this.2
    · simp [Pl.Ent.none, ByteArray.size]
  · simp [Pl.Ent.none, ByteArray.size]

theorem adjAt_set0 {w : World} {B : Nat} {c0 c1 : Value} {T : TypeId} (h : w.heap[B]? = some (.cells #[c0, c1] T)) (v : Value) : (w.setCell ⟨B, 0, none⟩ v).heap[B]? = some (.cells #[v, c1] T) := by
  have := blockLt h
  simp [World.setCell, Array.getElem?_modify, h]

set_option maxHeartbeats 1000000 in
theorem AdjKey_any (n : Int) (w : World) (h0 : 0 ≤ n) (h1 : n ≤ 1000) (hT : Tab w) :
    Calls Tryz.prog 97 #[.int .i64 n] w fun e w' => e = .returned (.string (Pl.adjKey n)) ∧ Below w.heap.size w w' := by
  have HT := hid hT
  have hz := Pl.dec_le n h0 h1
  clear hT
  have HIT := hid (Itoa_any n w h0 (by omega) HT.out)
  have HK : Hid (Pl.adjKey n = ⟨#[97, 58]⟩ ++ Pl.dec n) := hid rfl
  generalize Pl.dec n = s at *
  go_enter Tryz.func97, Tryz.ntmps97
  go_wp2_with fail
  refine HIT.out.mono ?_
  rintro e w1 ⟨rfl, hb1⟩
  go_wp2_with fail
  go_ret
  exact ⟨by rw [HK.out]; rfl, hb1⟩

set_option maxHeartbeats 1000000 in
theorem toldAdj_any (a : Option Addr) (len cap : Nat) (es : List Pl.Ent) (n : Int) (w : World) (h : IsEnts w a len cap es) (h0 : 0 ≤ n) (h1 : n ≤ 1000) (hT : Tab w) :
    Calls Tryz.prog 58 #[.slice a len cap, .int .i64 n] w fun e w' => ∃ vl : Value, e = .returned (.agg #[.bool (Pl.adjD (Pl.toldV es n).data.toList), vl]) ∧
      OwnP 97 w' w.heap.size vl (Pl.adjS (Pl.toldV es n).data.toList) ∧ Below w.heap.size w w' := by
  have HH := hid h
  have HT := hid hT
  clear h hT
  have hvz : (Pl.toldV es n).size ≤ 120 := Pl.gotE_val _ _
  obtain ⟨g, HG⟩ : ∃ g, Hid (Pl.gotE es (Pl.adjKey n) = g) := ⟨_, hid rfl⟩
  have HV : Hid (Pl.toldV es n = g.val) := hid (by unfold Pl.toldV; rw [HG.out])
  rw [HV.out] at hvz
  rw [HV.out]
  obtain ⟨gk, gv, go, gx⟩ := g
  simp only at hvz ⊢
  obtain ⟨rc, HRC⟩ : ∃ x, Hid (Pl.adjC gx.data.toList = x) := ⟨_, hid rfl⟩
  obtain ⟨rd, HRD⟩ : ∃ x, Hid (Pl.adjD gx.data.toList = x) := ⟨_, hid rfl⟩
  obtain ⟨rs, HRS⟩ : ∃ x, Hid (Pl.adjS gx.data.toList = x) := ⟨_, hid rfl⟩
  rw [HRD.out, HRS.out]
  have b1 : Below w.heap.size w (w.alloc (.cells #[.bool false, .slice none 0 0] 92)) := (Below.refl _ _).alloc (Nat.le_refl _) _
  go_enter Tryz.func58, Tryz.ntmps58
  go_wp2_with fail
  refine (AdjKey_any n _ h0 h1 (HT.out.below b1)).mono ?_
  rintro e w1 ⟨rfl, hb1⟩
  have hbA : Below (w.heap.size + 1) (w.alloc (.cells #[.bool false, .slice none 0 0] 92)) w1 := by simpa using hb1
  have hw1 : Below w.heap.size w w1 := b1.trans (hb1.mono b1.size)
  clear hb1
  go_wp2_with fail
  refine (Get_any _ _ _ es (Pl.adjKey n) _ (HH.out.below hw1)).mono ?_
  rw [HG.out]
  rintro e w2 ⟨rfl, hb2⟩
  have hbA2 := hbA.trans (hb2.mono (by have := hbA.size; simp at this; omega))
  clear hb2
  go_wp2_with fail
  refine (ReadAdj_any gx _ (by omega)).mono ?_
  rw [HRC.out, HRD.out, HRS.out]
  rintro e w3 ⟨v3, rfl, ho3, hb3⟩
  have hz2 := hbA2.size
  simp at hz2
  have hbA3 : Below (w.heap.size + 1) (w.alloc (.cells #[.bool false, .slice none 0 0] 92)) w3 := (hbA2.alloc (by omega) _).trans (hb3.mono (by simp; omega))
  obtain ⟨a3, n3, cap3, rfl⟩ := ho3.slice
  have HO3 := hid ho3
  obtain ⟨x0, x1, xs, hbb⟩ := box2 hbA3
  obtain ⟨f0, f1⟩ := box2f hbA3
  have hz3 := hb3.size
  simp at hz3
  clear ho3 hb3
  go_wp2_with fail
  have hblk : w3.heap[w.heap.size]? = some (.cells #[.bool false, .slice none 0 0] 92) := (hbA3.block _ (Nat.lt_succ_self _)).trans (heapNew w _)
  have hfin := heapOld (adjAt_set (adjAt_set0 hblk (.bool rd)) (.slice a3 n3 cap3)) (.cells #[.bool rd, .slice a3 n3 cap3] 92)
  obtain ⟨z0, z1, _, _⟩ := adjAt_cells hfin
  refine bodyPost_ret (v := .agg #[.bool rd, .slice a3 n3 cap3]) (by simp [results, Tryz.results58, go_sem, z0, z1]) rfl ⟨_, rfl, ?_, ?_⟩
  · exact OwnP.mono (World.ownsRow.alloc (ownsRow_setCell_below (ownsRow_setCell_below HO3.out (by simp; omega) _) (by simp; omega) _) _) (by simp; omega)
  · exact ((hbb.setCell (Nat.le_refl _) _).setCell (Nat.le_refl _) _).alloc (by simp [World.setCell]; omega) _
end Go.Proofs.YtcdobhdbafpkiafGreatDoor
/-
  Contract: what graph.Ways answers at every list of entries and every number.
-/
namespace Go.Proofs.YtcdobhdbafpkiafGreatDoor
open Go.RowKit
set_option maxRecDepth 20000

/-- sides, each with a node and a cost, the nodes rising -/
def Pl.sidesUp (ps : List (Int × Int)) : Prop := ∀ j, j < ps.length → (0 ≤ (Pl.pr ps j).1 ∧ (Pl.pr ps j).1 ≤ 11 ∧ 1 ≤ (Pl.pr ps j).2 ∧ (Pl.pr ps j).2 ≤ 1000) ∧ (0 < j → (Pl.pr ps (j - 1)).1 < (Pl.pr ps j).1)
theorem Pl.adjN_up (ps : List (Int × Int)) : ∀ (n i : Nat), i + n = ps.length → Pl.adjN ps n i = 0 → ∀ j, i ≤ j → j < ps.length → Pl.sideB (Pl.pr ps j).1 (Pl.pr ps j).2 = true ∧ (0 < j → (Pl.pr ps (j - 1)).1 < (Pl.pr ps j).1)
  | 0, i, h, _, j, h1, h2 => by omega
  | n + 1, i, h, h0, j, h1, h2 => by
    rw [Pl.adjN] at h0
    by_cases g1 : Pl.sideB (Pl.pr ps i).1 (Pl.pr ps i).2 = true
    · rw [if_pos g1] at h0
      by_cases g2 : 0 < i ∧ (Pl.pr ps i).1 ≤ (Pl.pr ps (i - 1)).1
      · rw [if_pos g2] at h0; cases h0
      · rw [if_neg g2] at h0
        rcases Nat.eq_or_lt_of_le h1 with e | h1
        · subst e
          exact ⟨g1, fun hp => by omega⟩
        · exact Pl.adjN_up ps n (i + 1) (by omega) h0 j h1 h2
    · rw [if_neg g1] at h0; cases h0
theorem Pl.adjF_up {ps : List (Int × Int)} (h : Pl.adjF ps = 0) : Pl.sidesUp ps := by
  intro j hj
  obtain ⟨h1, h2⟩ := Pl.adjN_up ps ps.length 0 (by omega) h j (by omega) hj
  unfold Pl.sideB at h1
  simp at h1
  exact ⟨by omega, h2⟩
theorem Pl.adjS_up (l : List UInt8) : Pl.sidesUp (Pl.adjS l) := by
  unfold Pl.adjS
  by_cases h : Pl.adjC l = 0
  · rw [if_pos h]
    unfold Pl.adjC at h
    cases hs : Pl.sidesL l with
    | none => rw [hs] at h; cases h
    | some ps => rw [hs] at h; exact Pl.adjF_up h
  · rw [if_neg h]
    intro j hj; simp at hj
theorem Pl.sidesUp.ok {ps : List (Int × Int)} (h : Pl.sidesUp ps) : Pl.sidesOk ps := by
  intro p hp
  obtain ⟨i, hi, rfl⟩ := List.getElem_of_mem hp
  have := (h i hi).1
  rw [Pl.pr_eq ps i hi] at this
  exact this
theorem Pl.sidesOk.pairs {ps : List (Int × Int)} (h : Pl.sidesOk ps) : ∀ p ∈ ps, Pl.pairOk p := fun p hp => by
  have := h p hp
  exact Pl.pairOk_of ⟨by omega, by omega, by omega, by omega⟩

theorem IsPairs.but {w w' : World} {A : Nat} {a : Option Addr} {len cap : Nat} {ps : List (Int × Int)} (h : IsPairs w a len cap ps) (hx : ∀ x, a = some x → x.block ≠ A) (k : But A w w') : IsPairs w' a len cap ps := by
  obtain ⟨h1, h2, h3, h4, h5⟩ := h
  refine ⟨h1, h2, h3, h4, ?_⟩
  rcases h5 with h5 | ⟨b, off, rfl, hb, hr⟩
  · exact .inl h5
  · refine .inr ⟨b, off, rfl, Nat.lt_of_lt_of_le hb k.size, fun i hi => ?_⟩
    obtain ⟨c0, c1⟩ := hr i hi
    have e : w'.heap[b]? = w.heap[b]? := k.block b hb (hx _ rfl)
    exact ⟨(World.cell?_of_block (w := w) e).trans c0, (World.cell?_of_block (w := w) e).trans c1⟩
theorem ToldAt.set {w A D ps} (h : ToldAt w A D ps) (k : Nat) (d : Bool) (a : Option Addr) (len cap : Nat) (q : List (Int × Int)) (hx : ∀ x, a = some x → x.block ≠ A) (hp : IsPairs w a len cap q) :
    ToldAt ((w.setCell ⟨A, k * 2, none⟩ (.bool d)).setCell ⟨A, k * 2 + 1, none⟩ (.slice a len cap)) A (Pl.upd D k d) (Pl.upd ps k q) := by
  obtain ⟨V, h1, h2⟩ := h
  have hb : But A w ((w.setCell ⟨A, k * 2, none⟩ (.bool d)).setCell ⟨A, k * 2 + 1, none⟩ (.slice a len cap)) := ((But.refl A w).setCell _ _).setCell _ _
  refine ⟨Pl.upd V k (.slice a len cap), ?_, fun i hi => ?_⟩
  · refine ((h1.set _ _).set _ _).ext fun o ho => ?_
    unfold Pl.upd toldCell
    by_cases g1 : o = k * 2 + 1
    · subst g1; rw [if_pos rfl, if_neg (by omega)]; simp only; rw [if_pos (by omega)]
    · rw [if_neg g1]
      by_cases g2 : o = k * 2
      · subst g2; rw [if_pos rfl, if_pos (by omega)]; simp only; rw [if_pos (by omega)]
      · rw [if_neg g2]
        by_cases g3 : o % 2 = 0
        · rw [if_pos g3, if_pos g3]; simp only; rw [if_neg (by omega)]
        · rw [if_neg g3, if_neg g3]; simp only; rw [if_neg (by omega)]
  · by_cases hik : i = k
    · subst hik
      refine ⟨a, len, cap, Pl.upd_same _ _ _, hx, ?_⟩
      rw [Pl.upd_same]
      exact hp.but hx hb
    · obtain ⟨a', len', cap', e, hx', hp'⟩ := h2 i hi
      refine ⟨a', len', cap', by rw [Pl.upd_ne _ _ hik]; exact e, hx', ?_⟩
      rw [Pl.upd_ne _ _ hik]
      exact hp'.but hx' hb
theorem ToldAt.ext {w A D ps D' ps'} (h : ToldAt w A D ps) (h1 : ∀ i, i < 12 → D i = D' i) (h2 : ∀ i, i < 12 → ps i = ps' i) : ToldAt w A D' ps' := by
  obtain ⟨V, g1, g2⟩ := h
  refine ⟨V, g1.ext fun o ho => ?_, fun i hi => ?_⟩
  · unfold toldCell; split
    · rw [h1 _ (by omega)]
    · rfl
  · rw [← h2 i hi]; exact g2 i hi
theorem ToldAt.new (w : World) (cs : Array Value) (e : cs = Array.ofFn (n := 24) fun i => toldCell (fun _ => false) (fun _ => .slice none 0 0) i.1) : ToldAt (w.alloc (.cells cs 128)) w.heap.size (fun _ => false) (fun _ => []) := by
  refine ⟨fun _ => .slice none 0 0, CellsAt.new w _ _ _ _ (by rw [e]; simp) fun i hi => ?_, fun i hi => ⟨none, 0, 0, rfl, by simp, rfl, Nat.le_refl _, by simp, by simp, .inl rfl⟩⟩
  simp only [e, Array.getElem_ofFn]

/-- what a store tells of each node's links -/
def Pl.tD (es : List Pl.Ent) (i : Nat) : Bool := Pl.adjD (Pl.toldV es i).data.toList
def Pl.tS (es : List Pl.Ent) (i : Nat) : List (Int × Int) := Pl.adjS (Pl.toldV es i).data.toList
def Pl.wayC (es : List Pl.Ent) (f : Int) : Int := if Pl.fault es ≠ 0 then Pl.fault es else if 0 ≤ f ∧ f ≤ 11 then 0 else 2
def Pl.wayA (es : List Pl.Ent) (f : Int) : List (Int × List Int) := if Pl.wayC es f = 0 then Pl.wayL (Pl.dIter (Pl.lnk (Pl.tS es)) (Pl.tD es) f.toNat 12) 12 else []

theorem ret_two {v u : Value} {a b : Int} (h : v = u) (e : a = b) : Ending.returned (.tuple #[v, .int .i64 a]) = .returned (.tuple #[u, .int .i64 b]) := by rw [h, e]
theorem World.ownsRow_mono {w : World} {base base' : Nat} {e : TypeId} {sz : Nat} {v : Value} {n : Nat} {xs : List Value} (h : w.ownsRow base e sz v n xs) (k : base' ≤ base) : w.ownsRow base' e sz v n xs := by
  obtain ⟨h0, h1⟩ := h
  refine ⟨h0, ?_⟩
  rcases h1 with h1 | ⟨g, cap, cur, rfl, hb, hr⟩
  · exact .inl h1
  · exact .inr ⟨g, cap, cur, rfl, by omega, hr⟩

set_option maxHeartbeats 2000000 in
theorem Ways_any (a : Option Addr) (len cap : Nat) (es : List Pl.Ent) (f : Int) (w : World) (h : IsEnts w a len cap es) (hT : Tab w) :
    Calls Tryz.prog 31 #[.slice a len cap, .int .i64 f] w fun e w' => ∃ v ts, e = .returned (.tuple #[v, .int .i64 (Pl.wayC es f)]) ∧ OwnW w' w.heap.size v ts ∧ Pl.flat ts = Pl.wayA es f ∧ Below w.heap.size w w' := by
  have HE := hid h
  have HTab := hid hT
  clear h hT
  obtain ⟨cd, HCD⟩ : ∃ x, Hid (Pl.fault es = x) := ⟨_, rfl⟩
  go_enter Tryz.func31, Tryz.ntmps31
  go_wp2_with fail
  refine (Check_any a len cap es w HE.out).mono ?_
  rw [HCD.out]
  rintro e w1 ⟨rfl, hb1⟩
  have HB1 := hid hb1
  clear hb1
  by_cases hcd : cd = 0
  · subst hcd
    by_cases hfr : 0 ≤ f ∧ f ≤ 11
    · obtain ⟨n, rfl⟩ : ∃ n : Nat, f = n := ⟨f.toNat, by omega⟩
      have hn : n < 12 := by omega
      have hdec : decide (0 ≤ (n : Int) ∧ (n : Int) ≤ 11) = true := by simp; omega
      have HWC : Hid (Pl.wayC es n = 0) := hid (by unfold Pl.wayC; rw [HCD.out, if_neg (by simp), if_pos (by omega)])
      go_wp2_with (go_at_call 57; refine (isNode_any _ _).mono ?_; rw [hdec]; rintro e w' ⟨rfl, hw'⟩; rw [hw']; clear hw' w')
      go_loopw [18] (fun i wr => ∃ k : Nat, k ≤ 12 ∧ i = .int .i64 k ∧ Hid (ToldAt wr w1.heap.size (fun i => decide (i < k) && Pl.tD es i) (fun i => if i < k then Pl.tS es i else [])) ∧ Hid (Below w1.heap.size w1 wr)) (fun i _ => 12 - (intOf i).toNat)
      case atStart => exact ⟨0, by omega, rfl, (ToldAt.new w1 _ (by kernel_rfl)).ext (fun i _ => by simp) (fun i _ => by simp), (Below.refl _ _).alloc (Nat.le_refl _) _⟩
      case round =>
        obtain ⟨k, hk, rfl, HT, HB⟩ := hrel
        have HBW := hid (HB1.out.trans (HB.out.mono HB1.out.size))
        have hAr := HT.out.lt
        by_cases hlt : k < 12
        · go_wp2_with fail
          refine (toldAdj_any a len cap es k wr (HE.out.below HBW.out) (by omega) (by omega) (HTab.out.below HBW.out)).mono ?_
          rintro e w2 ⟨vl, rfl, ho2, hb2⟩
          obtain ⟨a2, cap2, rfl, hp2, _, hx2⟩ := OwnP.shape ho2 (Pl.adjS_up _).ok.pairs
          have HP2 := hid hp2
          have HX2 := hid hx2
          have HB2 := hid hb2
          have HT2 := hid (HT.out.below hb2)
          clear ho2 hp2 hx2 hb2
          obtain ⟨V2, g1, _⟩ := HT2.out
          have c0 := g1.cell (k * 2) (by omega)
          have c1 := g1.cell (k * 2 + 1) (by omega)
          have f0 := g1.soft (k * 2)
          have f1 := g1.soft (k * 2 + 1)
          have hA2 := g1.lt
          clear g1
          go_wp2_with fail
          go_roundw
          case rel =>
            refine ⟨k + 1, by omega, by go_num, (HT2.out.set k _ a2 _ cap2 _ (fun x hx => ?_) HP2.out).ext (fun i hi => ?_) (fun i hi => ?_), hid (((HB.out.trans (HB2.out.mono (by omega))).setCell (Nat.le_refl _) _).setCell (Nat.le_refl _) _)⟩
            · have := HX2.out x hx; omega
            · by_cases hik : i = k
              · subst hik; rw [Pl.upd_same]; simp [Pl.tD]
              · rw [Pl.upd_ne _ _ hik, show decide (i < k + 1) = decide (i < k) from decide_eq_decide.2 (by omega)]
            · by_cases hik : i = k
              · subst hik; rw [Pl.upd_same, if_pos (by omega)]; rfl
              · rw [Pl.upd_ne _ _ hik]
                by_cases h1 : i < k
                · rw [if_pos h1, if_pos (by omega)]
                · rw [if_neg h1, if_neg (by omega)]
          case measure => simp [intOf]; omega
        · obtain rfl : k = 12 := by omega
          have HTA := hid (HT.out.ext (D' := Pl.tD es) (ps' := Pl.tS es) (fun i hi => by simp [hi]) (fun i hi => by rw [if_pos hi]))
          have HOK : Hid (∀ i, i < 12 → Pl.sidesOk (Pl.tS es i)) := hid fun i _ => (Pl.adjS_up _).ok
          have HL : Hid (∀ a b, Pl.lnk (Pl.tS es) a b ≤ 1000) := hid fun x y => by
            unfold Pl.lnk
            split
            · exact (Pl.say_le (Pl.adjS_up _).ok y).2
            · omega
          go_wp2_with fail
          refine (newSearch_any n hn wr).mono ?_
          rintro e w2 ⟨rfl, hs2, hb2⟩
          have HS2 := hid hs2
          have HB2 := hid hb2
          have HT2 := hid (HTA.out.below hb2)
          clear hs2 hb2
          go_wp2_with fail
          refine (run_any wr.heap.size w1.heap.size n (Pl.tD es) (Pl.tS es) w2 HS2.out HT2.out (by omega) hn HOK.out HL.out).mono ?_
          rintro e w3 ⟨rfl, hs3, hu3⟩
          have HS3 := hid hs3
          have HU3 := hid hu3
          clear hs3 hu3
          go_wp2_with fail
          refine (ways_any wr.heap.size n _ w3 HS3.out).mono ?_
          rintro e w4 ⟨v, ts, rfl, ho4, hf4, hb4⟩
          have HO4 := hid ho4
          have HF4 := hid hf4
          have HB4 := hid hb4
          clear ho4 hf4 hb4
          go_wp2_with fail
          have hz := HBW.out.size
          have HBF : Hid (Below w.heap.size w w3) := hid ((HBW.out.trans (HB2.out.mono hz)).trans (HU3.out.below hz (Nat.le_trans hz HB2.out.size)))
          refine bodyPost_ret (results_tmp2 rfl _ _ _) rfl ⟨v, ts, ret_two rfl HWC.out.symm, ?_, ?_, HBF.out.trans (HB4.out.mono HBF.out.size)⟩
          · exact ⟨World.ownsRow_mono HO4.out.1 HBF.out.size, HO4.out.2⟩
          · rw [HF4.out]; unfold Pl.wayA; rw [HWC.out, if_pos rfl, Int.toNat_natCast]
    · have hdec : decide (0 ≤ f ∧ f ≤ 11) = false := by simp; omega
      have HWC : Hid (Pl.wayC es f = 2) := hid (by unfold Pl.wayC; rw [HCD.out, if_neg (by simp), if_neg hfr])
      go_wp2_with (go_at_call 57; refine (isNode_any _ _).mono ?_; rw [hdec]; rintro e w' ⟨rfl, hw'⟩; rw [hw']; clear hw' w')
      refine bodyPost_ret (results_tmp2 rfl _ _ _) rfl ⟨_, [], ret_two rfl HWC.out.symm, OwnW.nil _ _, ?_, HB1.out⟩
      unfold Pl.wayA; rw [HWC.out, if_neg (by decide)]; rfl
  · have HWC : Hid (Pl.wayC es f = cd) := hid (by unfold Pl.wayC; rw [HCD.out, if_pos hcd])
    go_wp2_with fail
    refine bodyPost_ret (results_tmp2 rfl _ _ _) rfl ⟨_, [], ret_two rfl HWC.out.symm, OwnW.nil _ _, ?_, HB1.out⟩
    unfold Pl.wayA; rw [HWC.out, if_neg hcd]; rfl
end Go.Proofs.YtcdobhdbafpkiafGreatDoor
/-
  Contracts: where a node tells of its prefixes (PrefixesKey), and what it tells (ToldPrefixes).
-/
namespace Go.Proofs.YtcdobhdbafpkiafGreatDoor
open Go.RowKit
set_option maxRecDepth 20000

/-- the prefixes that a node tells -/
def Pl.tP (es : List Pl.Ent) (n : Nat) : List (Int × Int) := Pl.rpS (Pl.gotE es (Pl.pfxKey n)).val.data.toList
theorem Pl.tP_none {es : List Pl.Ent} {n : Nat} (h : Pl.gotC es (Pl.pfxKey n) ≠ 0) : Pl.tP es n = [] := by
  have e : Pl.gotE es (Pl.pfxKey n) = Pl.Ent.none := by
    unfold Pl.gotC at h
    unfold Pl.gotE
    by_cases hf : Pl.fault es = 0
    · rw [if_pos hf] at h ⊢
      by_cases ht : Pl.there es (Pl.pfxKey n)
      · rw [if_pos ht] at h; exact absurd rfl h
      · rw [if_neg ht]
    · rw [if_neg hf]
  unfold Pl.tP
  rw [e]
  decide

set_option maxHeartbeats 1000000 in
theorem PrefixesKey_any (n : Int) (w : World) (h0 : 0 ≤ n) (h1 : n ≤ 1000) (hT : Tab w) :
    Calls Tryz.prog 63 #[.int .i64 n] w fun e w' => e = .returned (.string (Pl.pfxKey n)) ∧ Below w.heap.size w w' := by
  have HT := hid hT
  have hz := Pl.dec_le n h0 h1
  clear hT
  have HIT := hid (Itoa_any n w h0 (by omega) HT.out)
  have HK : Hid (Pl.pfxKey n = ⟨#[112, 58]⟩ ++ Pl.dec n) := hid rfl
  generalize Pl.dec n = s at *
  go_enter Tryz.func63, Tryz.ntmps63
  go_wp2_with fail
  refine HIT.out.mono ?_
  rintro e w1 ⟨rfl, hb1⟩
  go_wp2_with fail
  go_ret
  exact ⟨by rw [HK.out]; rfl, hb1⟩

set_option maxHeartbeats 1000000 in
theorem ToldPrefixes_any (a : Option Addr) (len cap : Nat) (es : List Pl.Ent) (n : Nat) (w : World) (h : IsEnts w a len cap es) (h1 : n < 12) (hT : Tab w) :
    Calls Tryz.prog 32 #[.slice a len cap, .int .i64 (n : Int)] w fun e w' => ∃ vl : Value, e = .returned vl ∧
      OwnP 58 w' w.heap.size vl (Pl.tP es n) ∧ Below w.heap.size w w' := by
  have HH := hid h
  have HT := hid hT
  clear h hT
  have hvz : (Pl.gotE es (Pl.pfxKey n)).val.size ≤ 120 := Pl.gotE_val _ _
  obtain ⟨g, HG⟩ : ∃ g, Hid (Pl.gotE es (Pl.pfxKey n) = g) := ⟨_, hid rfl⟩
  have HV : Hid (Pl.tP es n = Pl.rpS g.val.data.toList) := hid (by unfold Pl.tP; rw [HG.out])
  rw [HG.out] at hvz
  rw [HV.out]
  obtain ⟨gk, gv, go, gx⟩ := g
  simp only at hvz ⊢
  have hdec : decide (0 ≤ (n : Int) ∧ (n : Int) ≤ 11) = true := by simp; omega
  obtain ⟨rc, HRC⟩ : ∃ x, Hid (Pl.rpC gx.data.toList = x) := ⟨_, hid rfl⟩
  obtain ⟨rs, HRS⟩ : ∃ x, Hid (Pl.rpS gx.data.toList = x) := ⟨_, hid rfl⟩
  rw [HRS.out]
  go_enter Tryz.func32, Tryz.ntmps32
  go_wp2_with (go_at_call 57; refine (isNode_any _ _).mono ?_; rw [hdec]; rintro e w' ⟨rfl, hw'⟩; rw [hw']; clear hw' w')
  refine (PrefixesKey_any n _ (by omega) (by omega) HT.out).mono ?_
  rintro e w1 ⟨rfl, hb1⟩
  go_wp2_with fail
  refine (Get_any _ _ _ es (Pl.pfxKey n) _ (HH.out.below hb1)).mono ?_
  rw [HG.out]
  rintro e w2 ⟨rfl, hb2⟩
  have HB2 : Hid (Below w.heap.size w w2) := hid (hb1.trans (hb2.mono hb1.size))
  have HBA : Hid (Below w.heap.size w (w2.alloc (.cells #[.string gk, .int .i64 gv, .int .i64 go, .string gx] 63))) := hid (HB2.out.alloc HB2.out.size _)
  clear hb1 hb2
  go_wp2_with fail
  refine (ReadPrefixes_any gx _ (by omega)).mono ?_
  rw [HRC.out, HRS.out]
  rintro e w3 ⟨v3, rfl, ho3, hb3⟩
  go_wp2_with fail
  go_ret
  exact ⟨v3, rfl, ho3.mono HBA.out.size, HBA.out.trans (hb3.mono HBA.out.size)⟩
end Go.Proofs.YtcdobhdbafpkiafGreatDoor
/-
  Plain: the table of a node, of a store: it may be, and what stands at each prefix of it; no program in sight.
-/
namespace Go.Proofs.YtcdobhdbafpkiafGreatDoor
open Go.RowKit
set_option maxRecDepth 20000

theorem Pl.pfxN_good (ps : List (Int × Int)) : ∀ n i, i + n = ps.length → Pl.pfxN ps n i = 0 → ∀ j, i ≤ j → j < ps.length → Pl.pfx1 (Pl.pr ps j) = 0 ∧ (0 < j → Pl.pfxLow (Pl.pr ps (j - 1)) (Pl.pr ps j) = false)
  | 0, i, h, _, j, h1, h2 => by omega
  | n + 1, i, h, h0, j, h1, h2 => by
    by_cases g : Pl.pfx1 (Pl.pr ps i) = 0
    · cases i with
      | zero =>
        rw [Pl.pfxN_first g] at h0
        rcases Nat.eq_or_lt_of_le h1 with e | h1
        · subst e; exact ⟨g, fun h => by omega⟩
        · exact Pl.pfxN_good ps n 1 (by omega) h0 j h1 h2
      | succ m =>
        cases k : Pl.pfxLow (Pl.pr ps m) (Pl.pr ps (m + 1))
        · rw [Pl.pfxN_on g k] at h0
          rcases Nat.eq_or_lt_of_le h1 with e | h1
          · subst e; exact ⟨g, fun _ => k⟩
          · exact Pl.pfxN_good ps n (m + 1 + 1) (by omega) h0 j h1 h2
        · rw [Pl.pfxN_low g k] at h0; cases h0
    · rw [Pl.pfxN_bad g] at h0; exact absurd h0 g
theorem Pl.pfxF_good {ps : List (Int × Int)} (h : Pl.pfxF ps = 0) : ps.length ≤ 6 ∧ (∀ p ∈ ps, Pl.pfx1 p = 0) ∧ ps.Pairwise (fun p q => Pl.pltB p q = true) := by
  by_cases hl : ps.length ≤ 6
  · rw [Pl.pfxF_from hl] at h
    have g := Pl.pfxN_good ps ps.length 0 (by omega) h
    have h1 : ∀ p ∈ ps, Pl.pfx1 p = 0 := fun p hp => by
      obtain ⟨i, hi, rfl⟩ := List.getElem_of_mem hp
      rw [← Pl.pr_eq ps i hi]; exact (g i (by omega) hi).1
    refine ⟨hl, h1, List.pairwise_iff_getElem.2 fun i j hi hj hij => ?_⟩
    rw [← Pl.pr_eq ps i hi, ← Pl.pr_eq ps j hj]
    induction j with
    | zero => omega
    | succ m ih =>
      have hs : Pl.pltB (Pl.pr ps m) (Pl.pr ps (m + 1)) = true := by
        have g1 := (g (m + 1) (by omega) hj).2 (by omega)
        have a1 := Pl.pfx1_zero (g m (by omega) (by omega)).1
        have a2 := Pl.pfx1_zero (g (m + 1) (by omega) hj).1
        unfold Pl.pfxLow at g1
        rw [Pl.pltB_iff]
        simp at g1
        omega
      rcases Nat.lt_or_ge i m with q | q
      · exact Pl.pltB_trans (ih (by omega) q) hs
      · obtain rfl : i = m := by omega
        exact hs
  · rw [Pl.pfxF_size (by omega)] at h; cases h
theorem Pl.rpS_good (l : List UInt8) : (Pl.rpS l).length ≤ 6 ∧ (∀ p ∈ Pl.rpS l, Pl.pfx1 p = 0) ∧ (Pl.rpS l).Pairwise (fun p q => Pl.pltB p q = true) := by
  unfold Pl.rpS
  split
  · rename_i h
    unfold Pl.rpC at h
    cases hq : Pl.pairsL 47 l with
    | none => simp
    | some ps => rw [hq] at h; exact Pl.pfxF_good h
  · simp
theorem Pl.rpS_nodup (l : List UInt8) : (Pl.rpS l).Nodup := (Pl.rpS_good l).2.2.imp fun h => Pl.pltB_ne h
/-- links, none from a node to itself -/
def Pl.lnkX (ps : Nat → List (Int × Int)) (a b : Nat) : Int := if a = b then 0 else Pl.lnk ps a b
theorem Pl.lnk_le (es : List Pl.Ent) (a b : Nat) : 0 ≤ Pl.lnk (Pl.tS es) a b ∧ Pl.lnk (Pl.tS es) a b ≤ 1000 := by
  unfold Pl.lnk
  split
  · exact Pl.say_le (Pl.adjS_up _).ok b
  · omega
/-- what it costs to go to each node, and over which hops -/
def Pl.wC (es : List Pl.Ent) (f n : Nat) : Int := (Pl.dIter (Pl.lnk (Pl.tS es)) (Pl.tD es) f 12).cost n
def Pl.wH (es : List Pl.Ent) (f n : Nat) : List Int := Pl.hopsL ((Pl.dIter (Pl.lnk (Pl.tS es)) (Pl.tD es) f 12).hops n) 12
/-- what ways are -/
theorem Pl.wC_self (es : List Pl.Ent) {f : Nat} (hf : f < 12) : Pl.wC es f f = 0 :=
  Pl.from_cost (L := Pl.lnkX (Pl.tS es)) (fun a b h => by unfold Pl.lnkX; rw [if_neg h]) (fun a => by unfold Pl.lnkX; rw [if_pos rfl]) hf
theorem Pl.wC_min (es : List Pl.Ent) {f n : Nat} (hf : f < 12) (hn : n ≠ f) : Pl.IsMin (fun c => ∃ k, Pl.Way (Pl.lnkX (Pl.tS es)) (Pl.tD es) f k n c) (Pl.wC es f n) :=
  Pl.found_min (fun a b h => by unfold Pl.lnkX; rw [if_neg h]) (fun a => by unfold Pl.lnkX; rw [if_pos rfl]) hf hn
theorem Pl.mem_wH (es : List Pl.Ent) {f : Nat} (n : Nat) (hf : f < 12) (x : Int) : x ∈ Pl.wH es f n ↔ ∃ k : Nat, x = (k : Int) ∧ Pl.Way (Pl.lnkX (Pl.tS es)) (Pl.tD es) f k n (Pl.wC es f n) := by
  unfold Pl.wH
  rw [Pl.mem_hopsL]
  have key := fun k => Pl.found_hops (L := Pl.lnkX (Pl.tS es)) (M := Pl.lnk (Pl.tS es)) (D := Pl.tD es) (f := f) (fun a b h => by unfold Pl.lnkX; rw [if_neg h]) (fun a => by unfold Pl.lnkX; rw [if_pos rfl]) hf n k
  constructor
  · rintro ⟨j, _, h2, h3⟩; exact ⟨j, h2, (key j).1 h3⟩
  · rintro ⟨j, h2, h3⟩; exact ⟨j, h3.klt.1, h2, (key j).2 h3⟩
theorem Pl.wC_bound (es : List Pl.Ent) (f n : Nat) : -1 ≤ Pl.wC es f n ∧ Pl.wC es f n ≤ 12000 := by
  have := Pl.CB.iter (L := Pl.lnk (Pl.tS es)) (D := Pl.tD es) (f := f) (fun a b => (Pl.lnk_le es a b).2) 12 n
  unfold Pl.wC; omega
theorem Pl.wH_self (es : List Pl.Ent) {f : Nat} (hf : f < 12) : Pl.wH es f f = [] := by
  cases h : Pl.wH es f f with
  | nil => rfl
  | cons x xs =>
    have hx : x ∈ Pl.wH es f f := by rw [h]; simp
    obtain ⟨k, _, hw⟩ := (Pl.mem_wH es f hf x).1 hx
    exact absurd rfl hw.ne
theorem Pl.wC_pos (es : List Pl.Ent) {f n : Nat} (hf : f < 12) (hn : n ≠ f) (h : 0 ≤ Pl.wC es f n) : 0 < Pl.wC es f n ∧ Pl.wH es f n ≠ [] := by
  rcases Pl.wC_min es hf hn with ⟨e, _⟩ | ⟨_, ⟨k, hk⟩, _⟩
  · omega
  · refine ⟨hk.pos, fun e => ?_⟩
    have := (Pl.mem_wH es n hf (k : Int)).2 ⟨k, rfl, hk⟩
    rw [e] at this; simp at this
/-- the table of a node, of a store that may be -/
def Pl.tabL (es : List Pl.Ent) (f : Nat) : List Pl.Rt := Pl.tabK (Pl.wC es f) (Pl.wH es f) (Pl.tP es) f 12
theorem Pl.tab_WP (es : List Pl.Ent) {f : Nat} (hf : f < 12) : Pl.WP (Pl.wC es f) (Pl.wH es f) (Pl.tP es) f := by
  intro n hn hc p hp
  have hp1 := (Pl.rpS_good _).2.1 p hp
  have hb := Pl.wC_bound es f n
  by_cases e : n = f
  · subst e
    have h1 := Pl.wC_self es hf
    have h2 := Pl.wH_self es hf
    refine ⟨(Pl.routeB_iff _).2 ⟨hp1, ?_, ?_, ?_⟩, ?_⟩
    · show 0 ≤ Pl.wC es n n ∧ _; simp [Pl.mkR, h1]
    · simp [Pl.mkR, h1, h2]
    · show Pl.hopsB (Pl.wH es n n) = true; rw [h2]; rfl
    · simp [Pl.mkR, h1]
  · obtain ⟨h1, h2⟩ := Pl.wC_pos es hf e hc
    have hne : decide ((n : Int) = (f : Int)) = false := by simp; omega
    refine ⟨(Pl.routeB_iff _).2 ⟨hp1, ?_, ?_, ?_⟩, ?_⟩
    · show 0 ≤ Pl.wC es f n ∧ Pl.wC es f n ≤ 1048576; omega
    · simp only [Pl.mkR, hne]; simpa using h2
    · exact Pl.hopsL_B _ (Nat.le_refl _)
    · simp only [Pl.mkR, hne]
      symm; simp; omega
theorem Pl.tabL_good (es : List Pl.Ent) {f : Nat} (hf : f < 12) : Pl.GoodT (Pl.tabL es f) ∧ ∀ r ∈ Pl.tabL es f, Pl.okR r :=
  Pl.tabK_good (Pl.tab_WP es hf) (fun _ => Pl.rpS_nodup _) (fun _ => (Pl.rpS_good _).1) 12 (Nat.le_refl _)
theorem Pl.tabL_fault (es : List Pl.Ent) {f : Nat} (hf : f < 12) : Pl.tabF (Pl.tabL es f) = 0 := (Pl.goodT_iff _).2 (Pl.tabL_good es hf).1
theorem Pl.tabL_get (es : List Pl.Ent) (f : Nat) (q : Int × Int) : Pl.getR (Pl.tabL es f) q = Pl.getT (Pl.wC es f) (Pl.wH es f) (Pl.tP es) f q 12 :=
  Pl.tabK_get (fun _ => Pl.rpS_nodup _) q 12
end Go.Proofs.YtcdobhdbafpkiafGreatDoor
/-
  Plain: a table while the prefixes of one node are offered; no program in sight.
-/
namespace Go.Proofs.YtcdobhdbafpkiafGreatDoor
open Go.RowKit
set_option maxRecDepth 20000

theorem Pl.offs_take_succ (C H node n) (rs : List Pl.Rt) (ps : List (Int × Int)) (j : Nat) (h : j < ps.length) : Pl.offs C H node n rs (ps.take (j + 1)) = Pl.offR (Pl.offs C H node n rs (ps.take j)) (Pl.mkR C H node n (Pl.pr ps j)) := by
  unfold Pl.offs
  rw [List.take_add_one, List.getElem?_eq_getElem h, List.foldl_append, Pl.pr_eq ps j h]
  rfl
theorem Pl.mem_take_pr {ps : List (Int × Int)} (hn : ps.Nodup) {j : Nat} (h : j < ps.length) : ¬ Pl.pr ps j ∈ ps.take j := by
  intro hm
  rw [Pl.pr_eq ps j h] at hm
  obtain ⟨i, hi, e⟩ := List.getElem_of_mem hm
  have hi' : i < j := by simp at hi; omega
  rw [List.getElem_take] at e
  have := (List.nodup_iff_pairwise_ne.1 hn)
  exact (List.pairwise_iff_getElem.1 this i j (by omega) h hi') e
/-- a route that costs nothing comes of the node itself -/
theorem Pl.getT_zero {C H P node} (hC : ∀ n, n < 12 → C n = 0 → n = node) (q : Int × Int) : ∀ k, k ≤ 12 → ∀ a, Pl.getT C H P node q k = some a → a.cost = 0 → node < k
  | 0, _, a, e, _ => by cases e
  | k + 1, hk, a, e, h0 => by
    have ih := Pl.getT_zero (H := H) (P := P) hC q k (by omega)
    unfold Pl.getT at e
    split at e
    · have := ih a e h0; omega
    · cases e
      cases ho : Pl.getT C H P node q k with
      | none =>
        rw [ho] at h0
        have := hC k (by omega) h0; omega
      | some b =>
        rw [ho] at h0
        have h1 : (Pl.bestR b (Pl.mkR C H node k q)).cost = 0 := h0
        unfold Pl.bestR at h1
        split at h1
        · have := hC k (by omega) h1; omega
        · split at h1
          · have := ih b ho h1; omega
          · have := ih b ho h1; omega
/-- what is wanted of a table to which one more prefix of a node is offered -/
theorem Pl.offs_ready (es : List Pl.Ent) {f k : Nat} (hf : f < 12) (hk : k < 12) (hc : 0 ≤ Pl.wC es f k) {j : Nat} (hj : j < (Pl.tP es k).length) :
    let rs := Pl.offs (Pl.wC es f) (Pl.wH es f) f k (Pl.tabK (Pl.wC es f) (Pl.wH es f) (Pl.tP es) f k) ((Pl.tP es k).take j)
    Pl.SrtR rs ∧ rs.length ≤ 78 ∧ (∀ q ∈ rs, Pl.hopsB q.hops = true) ∧ (∀ q ∈ rs, q.p = Pl.pr (Pl.tP es k) j → Pl.wC es f k = q.cost → q.hops ≠ []) := by
  intro rs
  have hn : ∀ i, (Pl.tP es i).Nodup := fun _ => Pl.rpS_nodup _
  have hl : ∀ i, (Pl.tP es i).length ≤ 6 := fun _ => (Pl.rpS_good _).1
  have hs0 := Pl.tabK_srt (Pl.wC es f) (Pl.wH es f) (Pl.tP es) f k
  have hs : Pl.SrtR rs := Pl.offs_srt _ _ _ _ _ _ hs0
  have hnt : ((Pl.tP es k).take j).Nodup := (List.take_sublist _ _).nodup (hn k)
  have hok : ∀ q ∈ rs, Pl.okR q := by
    intro q hq
    have h1 := Pl.getR_mem hs hq
    rw [Pl.offs_get _ _ _ _ _ _ _ hs0 hnt, Pl.tabK_get hn] at h1
    have ih := Pl.getT_ok (Pl.tab_WP es hf) q.p k (by omega)
    split at h1
    · rename_i hm
      rw [← Option.some.inj h1]
      exact Pl.more_ok (fun a ha => (ih a ha).1) (Pl.tab_WP es hf k hk hc _ (List.mem_of_mem_take hm))
    · exact (ih q h1).1
  refine ⟨hs, ?_, fun q hq => ((Pl.routeB_iff q).1 (hok q hq).1).2.2.2, fun q hq hp hce hh => ?_⟩
  · have h1 := Pl.offs_len (Pl.wC es f) (Pl.wH es f) f k ((Pl.tP es k).take j) (Pl.tabK (Pl.wC es f) (Pl.wH es f) (Pl.tP es) f k)
    have h2 := Pl.tabK_len (C := Pl.wC es f) (H := Pl.wH es f) (node := f) hl k
    have h3 := hl k
    have h4 : ((Pl.tP es k).take j).length ≤ 6 := by simp; omega
    show (Pl.offs _ _ _ _ _ _).length ≤ 78
    omega
  · have h1 := Pl.getR_mem hs hq
    rw [Pl.offs_get _ _ _ _ _ _ _ hs0 hnt, Pl.tabK_get hn, hp, if_neg (Pl.mem_take_pr (hn k) hj)] at h1
    obtain ⟨g1, g2⟩ := hok q hq
    have g3 := ((Pl.routeB_iff q).1 g1).2.2.1
    have hz : q.cost = 0 := by
      cases e : q.here
      · rw [e] at g3; simp only [Bool.false_eq_true, if_false] at g3; exact absurd hh g3
      · rw [e] at g3; simp only [if_true] at g3; exact g3.1
    have hC : ∀ n, n < 12 → Pl.wC es f n = 0 → n = f := fun n _ h => by
      rcases Nat.decEq n f with e | e
      · have := (Pl.wC_pos es hf e (by omega)).1; omega
      · exact e
    have a1 := Pl.getT_zero hC _ k (by omega) q h1 hz
    have a2 := hC k hk (by omega)
    omega
theorem Pl.tabK_next (es : List Pl.Ent) (f k : Nat) (h : 0 ≤ Pl.wC es f k) : Pl.tabK (Pl.wC es f) (Pl.wH es f) (Pl.tP es) f (k + 1) = Pl.offs (Pl.wC es f) (Pl.wH es f) f k (Pl.tabK (Pl.wC es f) (Pl.wH es f) (Pl.tP es) f k) (Pl.tP es k) := by
  show (if _ then _ else _) = _
  rw [if_neg (by omega)]
theorem Pl.tabK_skip (es : List Pl.Ent) (f k : Nat) (h : Pl.wC es f k < 0) : Pl.tabK (Pl.wC es f) (Pl.wH es f) (Pl.tP es) f (k + 1) = Pl.tabK (Pl.wC es f) (Pl.wH es f) (Pl.tP es) f k := by
  show (if _ then _ else _) = _
  rw [if_pos h]
end Go.Proofs.YtcdobhdbafpkiafGreatDoor
/-
  Contracts: two lists of the same numbers (sameInts), of the same ways (sameWays), are told the same.
-/
namespace Go.Proofs.YtcdobhdbafpkiafGreatDoor
open Go.RowKit
set_option maxRecDepth 20000

theorem OwnI.cells {w : World} {base : Nat} {v : Value} {xs : List Int} (h : OwnI w base v xs) :
    ∃ a cap, v = .slice a xs.length cap ∧ xs.length ≤ cap ∧ cap ≤ maxLen ∧ (xs = [] ∨ ∃ g, a = some ⟨g, 0, none⟩ ∧ g < w.heap.size ∧ ∀ i, i < xs.length → w.cell? ⟨g, i, none⟩ = some (.int .i64 (xs.getD i 0))) := by
  obtain ⟨_, ⟨h, h1⟩ | ⟨g, cap, cur, rfl, hb, hh, hn, hm, hs, hx⟩⟩ := h
  · have e : xs = [] := List.length_eq_zero_iff.1 h1
    subst e
    exact ⟨none, 0, h, Nat.le_refl _, by simp, .inl rfl⟩
  · refine ⟨_, cap, rfl, hn, hm, .inr ⟨g, rfl, blockLt hh, fun i hi => ?_⟩⟩
    have hj : (cellsI xs)[i]? = some (.int .i64 (xs.getD i 0)) := by
      simp [cellsI, List.getD_eq_getElem?_getD, List.getElem?_eq_getElem hi]
    rw [← hx] at hj
    have hj' : cur[i]? = some (.int .i64 (xs.getD i 0)) := by
      rw [List.getElem?_take] at hj
      split at hj
      · rw [← Array.getElem?_toList]; exact hj
      · cases hj
    simp [World.cell?, hh, hj']
theorem cellsW_get : ∀ (ts : List (Int × Value × List Int)) (i : Nat) (hi : i < ts.length), (cellsW ts)[i * 2]? = some (.int .i64 ts[i].1) ∧ (cellsW ts)[i * 2 + 1]? = some ts[i].2.1
  | [], i, h => by simp at h
  | p :: r, 0, _ => by simp [cellsW]
  | p :: r, i + 1, h => by
    have := cellsW_get r i (by simpa using h)
    rw [show (i + 1) * 2 = i * 2 + 2 by omega]
    simpa [cellsW] using this
theorem OwnW.cells {w : World} {base : Nat} {v : Value} {ts : List (Int × Value × List Int)} (h : OwnW w base v ts) :
    ∃ a cap, v = .slice a ts.length cap ∧ ts.length ≤ cap ∧ cap ≤ maxLen ∧ (ts = [] ∨ ∃ g, a = some ⟨g, 0, none⟩ ∧ g < w.heap.size ∧ ∀ i (hi : i < ts.length), w.cell? ⟨g, i * 2, none⟩ = some (.int .i64 ts[i].1) ∧ w.cell? ⟨g, i * 2 + 1, none⟩ = some ts[i].2.1) := by
  obtain ⟨⟨_, ⟨h, h1⟩ | ⟨g, cap, cur, rfl, hb, hh, hn, hm, hs, hx⟩⟩, _⟩ := h
  · have e : ts = [] := List.length_eq_zero_iff.1 h1
    subst e
    exact ⟨none, 0, h, Nat.le_refl _, by simp, .inl rfl⟩
  · refine ⟨_, cap, rfl, hn, hm, .inr ⟨g, rfl, blockLt hh, fun i hi => ?_⟩⟩
    have hcell : ∀ j u, (cellsW ts)[j]? = some u → w.cell? ⟨g, j, none⟩ = some u := by
      intro j u hj
      rw [← hx] at hj
      have hj' : cur[j]? = some u := by
        rw [List.getElem?_take] at hj
        split at hj
        · rw [← Array.getElem?_toList]; exact hj
        · cases hj
      simp [World.cell?, hh, hj']
    obtain ⟨h0, h1⟩ := cellsW_get ts i hi
    exact ⟨hcell _ _ h0, hcell _ _ h1⟩

set_option maxHeartbeats 1000000 in
theorem sameInts_eq (v1 v2 : Value) (xs : List Int) (w : World) (h1 : OwnI w 0 v1 xs) (h2 : OwnI w 0 v2 xs) :
    Calls Tryz.prog 16 #[v1, v2] w fun e w' => e = .returned (.bool true) ∧ Below w.heap.size w w' := by
  obtain ⟨a, cap, rfl, hc, hm, hrow⟩ := h1.cells
  obtain ⟨b, capb, rfl, hcb, hmb, hrowb⟩ := h2.cells
  unfold maxLen at hm hmb
  have HR := hid hrow
  have HRB := hid hrowb
  clear hrow hrowb h1 h2
  obtain ⟨len, HL⟩ : ∃ n, Hid (xs.length = n) := ⟨_, rfl⟩
  rw [HL.out] at hc hcb ⊢
  go_enter Tryz.func16, Tryz.ntmps16
  go_wp2_with fail
  go_loopw [5] (fun i wr => ∃ k : Nat, k ≤ len ∧ i = .int .i64 k ∧ Hid (Below w.heap.size w wr)) (fun i _ => len - (intOf i).toNat)
  case atStart => exact ⟨0, Nat.zero_le _, rfl, Below.refl _ _⟩
  case round =>
    obtain ⟨k, hk, rfl, HB⟩ := hrel
    by_cases hlt : k < len
    · obtain ⟨g1, rfl, hg1, hr1⟩ : ∃ g, a = some ⟨g, 0, none⟩ ∧ g < w.heap.size ∧ ∀ i, i < xs.length → w.cell? ⟨g, i, none⟩ = some (.int .i64 (xs.getD i 0)) := by
        rcases HR.out with h | h
        · have := HL.out; rw [h] at this; simp at this; omega
        · exact h
      obtain ⟨g2, rfl, hg2, hr2⟩ : ∃ g, b = some ⟨g, 0, none⟩ ∧ g < w.heap.size ∧ ∀ i, i < xs.length → w.cell? ⟨g, i, none⟩ = some (.int .i64 (xs.getD i 0)) := by
        rcases HRB.out with h | h
        · have := HL.out; rw [h] at this; simp at this; omega
        · exact h
      have c1 := (HB.out.cell (p := ⟨g1, k, none⟩) hg1).trans (hr1 k (by have := HL.out; omega))
      have c2 := (HB.out.cell (p := ⟨g2, k, none⟩) hg2).trans (hr2 k (by have := HL.out; omega))
      generalize xs.getD k 0 = y at *
      clear hr1 hr2
      have hz := HB.out.size
      have l1 : g1 < wr.heap.size := by omega
      have l2 : g2 < wr.heap.size := by omega
      have hlt' : (k : Int) < (len : Int) := by omega
      go_wp2_with fail
      go_region
      go_wp2_with fail
      go_roundw
      case rel => exact ⟨k + 1, by omega, by go_num, HB.out.drew⟩
      case measure => simp [intOf]; omega
    · obtain rfl : k = len := by omega
      go_wp2_with fail
      go_ret
      exact ⟨rfl, HB.out⟩

end Go.Proofs.YtcdobhdbafpkiafGreatDoor
/-
  Plain: a way is a step to a hop, and a way from there.
-/
namespace Go.Proofs.YtcdobhdbafpkiafGreatDoor
open Go.RowKit
set_option maxRecDepth 20000

/-- a way from a node's neighbor is a way from the node, or there is a cheaper one -/
theorem Pl.way_join {L : Nat → Nat → Int} {D : Nat → Bool} {a k j v : Nat} {c : Int} (hk : k < 12) (hka : k ≠ a) (hd : D k = false) (hl : 0 < L a k) (h : Pl.Way L D k j v c) :
    v = a ∨ ∃ k' c', Pl.Way L D a k' v c' ∧ ((k' = k ∧ c' = L a k + c) ∨ c' < L a k + c) := by
  induction h with
  | base h1 h2 h3 =>
    by_cases e : j = a
    · exact .inl e
    · exact .inr ⟨k, _, (Pl.Way.base hk hka hl).step hd h1 e h3, .inl ⟨rfl, rfl⟩⟩
  | @step u b c h1 h2 h3 h4 h5 ih =>
    by_cases e : b = a
    · exact .inl e
    · right
      rcases ih with rfl | ⟨k', c', hw, hc⟩
      · have hp := h1.pos
        exact ⟨b, _, .base h3 e h5, .inr (by omega)⟩
      · refine ⟨k', _, hw.step h2 h3 e h5, ?_⟩
        rcases hc with ⟨e1, e2⟩ | e2
        · exact .inl ⟨e1, by omega⟩
        · exact .inr (by omega)
/-- and the other way round -/
theorem Pl.way_part {L : Nat → Nat → Int} {D : Nat → Bool} {a k v : Nat} {c : Int} (h : Pl.Way L D a k v c) :
    (v = k ∧ L a k ≤ c) ∨ (v ≠ k ∧ D k = false ∧ ∃ j c', Pl.Way L D k j v c' ∧ L a k + c' ≤ c) := by
  induction h with
  | base h1 h2 h3 => exact .inl ⟨rfl, Int.le_refl _⟩
  | @step u b c h1 h2 h3 h4 h5 ih =>
    by_cases e : b = k
    · left
      refine ⟨e, ?_⟩
      rcases ih with ⟨_, h⟩ | ⟨_, _, j, c', hw, hc⟩
      · omega
      · have := hw.pos; omega
    · right
      rcases ih with ⟨rfl, h⟩ | ⟨_, hd, j, c', hw, hc⟩
      · exact ⟨e, h2, b, _, .base h3 e h5, by omega⟩
      · exact ⟨e, hd, j, _, hw.step h2 h3 e h5, by omega⟩

theorem Pl.way_first {L : Nat → Nat → Int} {D : Nat → Bool} {a k v : Nat} {c : Int} (h : Pl.Way L D a k v c) : 0 < L a k := by
  induction h with
  | base _ _ h => exact h
  | step _ _ _ _ _ ih => exact ih
/-- what it costs to go over a neighbor; -1: no way leads over it -/
def Pl.over (L : Nat → Nat → Int) (D : Nat → Bool) (C : Nat → Nat → Int) (a to k : Nat) : Int :=
  if L a k = 0 then -1 else if k = to then L a k else if C k to < 0 ∨ D k = true then -1 else C k to + L a k
def Pl.ovB (o : Nat → Int) : Nat → Int
  | 0 => -1
  | k + 1 => if o k < 0 then Pl.ovB o k else if Pl.ovB o k < 0 ∨ o k < Pl.ovB o k then o k else Pl.ovB o k
def Pl.ovH (o : Nat → Int) : Nat → List Int
  | 0 => []
  | k + 1 => if o k < 0 then Pl.ovH o k else if Pl.ovB o k < 0 ∨ o k < Pl.ovB o k then [(k : Int)] else if o k = Pl.ovB o k then Pl.ovH o k ++ [(k : Int)] else Pl.ovH o k
theorem Pl.hopsL_none {h : Nat → Bool} (k : Nat) (e : ∀ i, i < k → h i = false) : Pl.hopsL h k = [] := by
  induction k with
  | zero => rfl
  | succ k ih => rw [Pl.hopsL_off (e k (by omega))]; exact ih fun i hi => e i (by omega)
theorem Pl.hopsL_ext {h g : Nat → Bool} (k : Nat) (e : ∀ i, i < k → h i = g i) : Pl.hopsL h k = Pl.hopsL g k := by
  induction k with
  | zero => rfl
  | succ k ih =>
    unfold Pl.hopsL
    rw [e k (by omega), ih fun i hi => e i (by omega)]
theorem Pl.ov_inv (o : Nat → Int) (k : Nat) :
    (Pl.ovB o k = -1 ∧ Pl.ovH o k = [] ∧ ∀ j, j < k → o j < 0) ∨
    (0 ≤ Pl.ovB o k ∧ (∃ j, j < k ∧ o j = Pl.ovB o k) ∧ (∀ j, j < k → 0 ≤ o j → Pl.ovB o k ≤ o j) ∧ Pl.ovH o k = Pl.hopsL (fun j => decide (o j = Pl.ovB o k)) k) := by
  induction k with
  | zero => exact .inl ⟨rfl, rfl, by omega⟩
  | succ k ih =>
    by_cases h0 : o k < 0
    · have eB : Pl.ovB o (k + 1) = Pl.ovB o k := by show (if o k < 0 then _ else _) = _; rw [if_pos h0]
      have eH : Pl.ovH o (k + 1) = Pl.ovH o k := by show (if o k < 0 then _ else _) = _; rw [if_pos h0]
      rw [eB, eH]
      rcases ih with ⟨h1, h2, h3⟩ | ⟨h1, ⟨j, h2, h2'⟩, h3, h4⟩
      · refine .inl ⟨h1, h2, fun j hj => ?_⟩
        by_cases e : j = k
        · subst e; exact h0
        · exact h3 j (by omega)
      · refine .inr ⟨h1, ⟨j, by omega, h2'⟩, fun i hi g => ?_, ?_⟩
        · by_cases e : i = k
          · subst e; omega
          · exact h3 i (by omega) g
        · rw [Pl.hopsL_off (by simp; omega)]; exact h4
    · by_cases h5 : Pl.ovB o k < 0 ∨ o k < Pl.ovB o k
      · have eB : Pl.ovB o (k + 1) = o k := by show (if o k < 0 then _ else _) = _; rw [if_neg h0, if_pos h5]
        have eH : Pl.ovH o (k + 1) = [(k : Int)] := by show (if o k < 0 then _ else _) = _; rw [if_neg h0, if_pos h5]
        rw [eB, eH]
        refine .inr ⟨by omega, ⟨k, by omega, rfl⟩, fun i hi g => ?_, ?_⟩
        · by_cases e : i = k
          · subst e; omega
          · rcases ih with ⟨h1, h2, h3⟩ | ⟨h1, _, h3, h4⟩
            · have := h3 i (by omega); omega
            · have := h3 i (by omega) g; omega
        · rw [Pl.hopsL_on (by simp), Pl.hopsL_none k (fun i hi => ?_)]
          · rfl
          · simp only [decide_eq_false_iff_not]
            intro e
            rcases ih with ⟨h1, h2, h3⟩ | ⟨h1, _, h3, h4⟩
            · have := h3 i hi; omega
            · have := h3 i hi (by omega); omega
      · have eB : Pl.ovB o (k + 1) = Pl.ovB o k := by show (if o k < 0 then _ else _) = _; rw [if_neg h0, if_neg h5]
        rw [eB]
        rcases ih with ⟨h1, h2, h3⟩ | ⟨h1, ⟨j, h2, h2'⟩, h3, h4⟩
        · omega
        · refine .inr ⟨h1, ⟨j, by omega, h2'⟩, fun i hi g => ?_, ?_⟩
          · by_cases e : i = k
            · subst e; omega
            · exact h3 i (by omega) g
          · by_cases e : o k = Pl.ovB o k
            · have eH : Pl.ovH o (k + 1) = Pl.ovH o k ++ [(k : Int)] := by show (if o k < 0 then _ else _) = _; rw [if_neg h0, if_neg h5, if_pos e]
              rw [eH, h4, Pl.hopsL_on (by simpa using e)]
            · have eH : Pl.ovH o (k + 1) = Pl.ovH o k := by show (if o k < 0 then _ else _) = _; rw [if_neg h0, if_neg h5, if_neg e]
              rw [eH, h4, Pl.hopsL_off (by simpa using e)]

/-- A WAY IS A STEP TO A HOP, AND A WAY FROM THERE -/
theorem Pl.step_same {L M : Nat → Nat → Int} {D : Nat → Bool} (hM : ∀ a b, a ≠ b → M a b = L a b) (hL : ∀ a, L a a = 0) (h0 : ∀ a b, 0 ≤ L a b) {a to : Nat} (ha : a < 12) (ht : to < 12) (hta : to ≠ a) :
    Pl.ovB (Pl.over L D (fun k => (Pl.dIter M D k 12).cost) a to) 12 = (Pl.dIter M D a 12).cost to ∧
    Pl.ovH (Pl.over L D (fun k => (Pl.dIter M D k 12).cost) a to) 12 = Pl.hopsL ((Pl.dIter M D a 12).hops to) 12 := by
  have hmin := Pl.found_min (D := D) hM hL ha hta
  have hh := fun k => Pl.found_hops (D := D) hM hL ha to k
  -- what is over k is no less, and as much only if k is a hop
  have one : ∀ k, k < 12 → 0 ≤ Pl.over L D (fun k => (Pl.dIter M D k 12).cost) a to k →
      0 ≤ (Pl.dIter M D a 12).cost to ∧ (Pl.dIter M D a 12).cost to ≤ Pl.over L D (fun k => (Pl.dIter M D k 12).cost) a to k ∧
      (Pl.over L D (fun k => (Pl.dIter M D k 12).cost) a to k = (Pl.dIter M D a 12).cost to → (Pl.dIter M D a 12).hops to k = true) := by
    intro k hk hv
    have key : ∀ c, (∃ k' c', Pl.Way L D a k' to c' ∧ ((k' = k ∧ c' = c) ∨ c' < c)) →
        0 ≤ (Pl.dIter M D a 12).cost to ∧ (Pl.dIter M D a 12).cost to ≤ c ∧ (c = (Pl.dIter M D a 12).cost to → (Pl.dIter M D a 12).hops to k = true) := by
      rintro c ⟨k', c', hw, hc⟩
      rcases hmin with ⟨_, hx⟩ | ⟨m0, _, m2⟩
      · exact absurd ⟨k', hw⟩ (hx c')
      · have hm := m2 c' ⟨k', hw⟩
        refine ⟨m0, ?_, fun e => ?_⟩
        · rcases hc with ⟨_, e⟩ | e <;> omega
        · rcases hc with ⟨e1, e2⟩ | e2
          · subst e1; subst e2; rw [hh]; rw [e] at hw; exact hw
          · omega
    unfold Pl.over at hv ⊢
    by_cases hl : L a k = 0
    · rw [if_pos hl] at hv; omega
    · have hl' : 0 < L a k := by have := h0 a k; omega
      have hka : k ≠ a := fun e => by rw [e, hL] at hl; exact hl rfl
      rw [if_neg hl] at hv ⊢
      by_cases hkt : k = to
      · rw [if_pos hkt] at hv ⊢
        subst hkt
        exact key _ ⟨k, _, .base hk hka hl', .inl ⟨rfl, rfl⟩⟩
      · rw [if_neg hkt] at hv ⊢
        by_cases hx : (Pl.dIter M D k 12).cost to < 0 ∨ D k = true
        · rw [if_pos hx] at hv; omega
        · rw [if_neg hx] at hv ⊢
          have hd : D k = false := Pl.bfalse fun g => hx (.inr g)
          rcases Pl.found_min (D := D) hM hL hk (v := to) (fun e => hkt e.symm) with ⟨h, _⟩ | ⟨_, ⟨j, hw⟩, _⟩
          · omega
          · rcases Pl.way_join hk hka hd hl' hw with e | ⟨k', c', hw', hc⟩
            · exact absurd e hta
            · rw [Int.add_comm]
              exact key _ ⟨k', c', hw', hc⟩
  have two : ∀ k, (Pl.dIter M D a 12).hops to k = true → k < 12 ∧ 0 ≤ Pl.over L D (fun k => (Pl.dIter M D k 12).cost) a to k ∧ Pl.over L D (fun k => (Pl.dIter M D k 12).cost) a to k = (Pl.dIter M D a 12).cost to := by
    intro k hk
    have hw := (hh k).1 hk
    have hkl := hw.klt
    have hp := hw.pos
    have hl' : 0 < L a k := Pl.way_first hw
    have lo : 0 ≤ Pl.over L D (fun k => (Pl.dIter M D k 12).cost) a to k ∧ Pl.over L D (fun k => (Pl.dIter M D k 12).cost) a to k ≤ (Pl.dIter M D a 12).cost to := by
      unfold Pl.over
      rw [if_neg (by omega)]
      rcases Pl.way_part hw with ⟨e, h⟩ | ⟨e, hd, j, c', hw', hc⟩
      · rw [if_pos e.symm]; omega
      · rw [if_neg (Ne.symm e)]
        rcases Pl.found_min (D := D) hM hL hkl.1 (v := to) e with ⟨_, hx⟩ | ⟨m0, _, m2⟩
        · exact absurd ⟨j, hw'⟩ (hx c')
        · have := m2 c' ⟨j, hw'⟩
          have hng : ¬ ((Pl.dIter M D k 12).cost to < 0 ∨ D k = true) := by
            rintro (g | g)
            · omega
            · rw [hd] at g; cases g
          simp only [if_neg hng]
          have := h0 a k
          omega
    have := one k hkl.1 lo.1
    exact ⟨hkl.1, lo.1, by omega⟩
  rcases Pl.ov_inv (Pl.over L D (fun k => (Pl.dIter M D k 12).cost) a to) 12 with ⟨h1, h2, h3⟩ | ⟨h1, ⟨j, h2, h2'⟩, h3, h4⟩
  · have hc : (Pl.dIter M D a 12).cost to = -1 := by
      rcases hmin with ⟨h, _⟩ | ⟨m0, ⟨k, hw⟩, _⟩
      · exact h
      · obtain ⟨g1, g2, _⟩ := two k ((hh k).2 hw)
        have := h3 k g1; omega
    refine ⟨by rw [h1, hc], ?_⟩
    rw [h2, Pl.hopsL_none 12 fun i hi => ?_]
    cases e : (Pl.dIter M D a 12).hops to i with
    | false => rfl
    | true => obtain ⟨g1, g2, _⟩ := two i e; have := h3 i g1; omega
  · have ho := one j h2 (by omega)
    have hc : Pl.ovB (Pl.over L D (fun k => (Pl.dIter M D k 12).cost) a to) 12 = (Pl.dIter M D a 12).cost to := by
      rcases hmin with ⟨h, _⟩ | ⟨m0, ⟨k, hw⟩, _⟩
      · omega
      · obtain ⟨g1, g2, g3⟩ := two k ((hh k).2 hw)
        have := h3 k g1 g2; omega
    refine ⟨hc, ?_⟩
    rw [h4, hc]
    refine Pl.hopsL_ext 12 fun i hi => ?_
    cases e : (Pl.dIter M D a 12).hops to i with
    | false =>
      simp only [decide_eq_false_iff_not]
      intro g
      have := (one i hi (by omega)).2.2 g
      rw [e] at this; cases this
    | true => exact decide_eq_true (two i e).2.2
end Go.Proofs.YtcdobhdbafpkiafGreatDoor
/-
  Ways in memory, node by node: what each costs, and its hops as a slice of numbers.
-/
namespace Go.Proofs.YtcdobhdbafpkiafGreatDoor
open Go.RowKit
set_option maxRecDepth 20000

theorem Pl.wayL_len (s : Pl.DS) : ∀ k, (Pl.wayL s k).length = k
  | 0 => rfl
  | k + 1 => by simp [Pl.wayL, Pl.wayL_len s k]
theorem Pl.wayL_at (s : Pl.DS) : ∀ k i, i < k → (Pl.wayL s k)[i]? = some (s.cost i, Pl.hopsL (s.hops i) 12)
  | 0, i, h => by omega
  | k + 1, i, h => by
    unfold Pl.wayL
    rcases Nat.lt_or_ge i k with g | g
    · rw [List.getElem?_append_left (by rw [Pl.wayL_len]; exact g)]; exact Pl.wayL_at s k i g
    · obtain rfl : i = k := by omega
      rw [List.getElem?_append_right (by rw [Pl.wayL_len]; exact Nat.le_refl _), Pl.wayL_len]
      simp
/-- the ways from a node in their block -/
def WAt (w : World) (es : List Pl.Ent) (f g : Nat) : Prop := g < w.heap.size ∧ ∀ i, i < 12 → w.cell? ⟨g, i * 2, none⟩ = some (.int .i64 (Pl.wC es f i)) ∧
  ∃ ah ch, w.cell? ⟨g, i * 2 + 1, none⟩ = some (.slice ah (Pl.wH es f i).length ch) ∧ IsInts w ah (Pl.wH es f i).length ch (Pl.wH es f i)
theorem WAt.below {w w' : World} {es f g} (h : WAt w es f g) (k : Below w.heap.size w w') : WAt w' es f g := by
  refine ⟨Nat.lt_of_lt_of_le h.1 k.size, fun i hi => ?_⟩
  obtain ⟨h1, ah, ch, h2, h3⟩ := h.2 i hi
  exact ⟨(k.cell (p := ⟨g, _, none⟩) h.1).trans h1, ah, ch, (k.cell (p := ⟨g, _, none⟩) h.1).trans h2, h3.below k⟩
theorem OwnW.at12 {w : World} {base : Nat} {v : Value} {ts : List (Int × Value × List Int)} {es : List Pl.Ent} {f : Nat} (h : OwnW w base v ts) (e : Pl.flat ts = Pl.wayA es (f : Int)) (hc : Pl.wayC es (f : Int) = 0) :
    ∃ g cap, v = .slice (some ⟨g, 0, none⟩) 12 cap ∧ 12 ≤ cap ∧ cap ≤ maxLen ∧ WAt w es f g := by
  have e2 : Pl.wayA es (f : Int) = Pl.wayL (Pl.dIter (Pl.lnk (Pl.tS es)) (Pl.tD es) f 12) 12 := by
    unfold Pl.wayA; rw [if_pos hc, Int.toNat_natCast]
  rw [e2] at e
  have hl : ts.length = 12 := by
    have := congrArg List.length e
    rw [Pl.wayL_len] at this
    simpa [Pl.flat] using this
  obtain ⟨a, cap, rfl, hc1, hm, hr⟩ := h.cells
  rcases hr with rfl | ⟨g, rfl, hg, hr⟩
  · simp at hl
  · rw [hl] at hc1 ⊢
    refine ⟨g, cap, rfl, hc1, hm, hg, fun i hi => ?_⟩
    have hi' : i < ts.length := by omega
    obtain ⟨r1, r2⟩ := hr i hi'
    have q : (Pl.flat ts)[i]? = some (Pl.wC es f i, Pl.wH es f i) := by rw [e]; exact Pl.wayL_at _ 12 i hi
    simp only [Pl.flat, List.getElem?_map, List.getElem?_eq_getElem hi', Option.map_some, Option.some.injEq, Prod.mk.injEq] at q
    have ho : OwnZ w 0 ts[i].2.1 ts[i].2.2 := h.2 _ (List.getElem_mem hi')
    obtain ⟨ah, ch, ev, hi2, _⟩ := ho.ints
    refine ⟨by rw [r1, q.1], ah, ch, ?_, ?_⟩
    · rw [r2, ev, q.2]
    · rw [q.2] at hi2; exact hi2
theorem Pl.wayC_ok {es : List Pl.Ent} {f : Nat} (hf : Pl.fault es = 0) (h : f < 12) : Pl.wayC es (f : Int) = 0 := by
  unfold Pl.wayC; rw [if_neg (by simp [hf]), if_pos (by omega)]
theorem Pl.ovH_len (o : Nat → Int) : ∀ k, (Pl.ovH o k).length ≤ k
  | 0 => Nat.le_refl _
  | k + 1 => by
    have := Pl.ovH_len o k
    unfold Pl.ovH
    split
    · omega
    · split
      · simp
      · split
        · simp; omega
        · omega
theorem Pl.ov_skip (o : Nat → Int) (k : Nat) (h : o k < 0) : Pl.ovB o (k + 1) = Pl.ovB o k ∧ Pl.ovH o (k + 1) = Pl.ovH o k := by
  constructor
  · show (if _ then _ else _) = _; rw [if_pos h]
  · show (if _ then _ else _) = _; rw [if_pos h]
theorem Pl.ov_new (o : Nat → Int) (k : Nat) (h : 0 ≤ o k) (g : Pl.ovB o k < 0 ∨ o k < Pl.ovB o k) : Pl.ovB o (k + 1) = o k ∧ Pl.ovH o (k + 1) = [(k : Int)] := by
  constructor
  · show (if _ then _ else _) = _; rw [if_neg (by omega), if_pos g]
  · show (if _ then _ else _) = _; rw [if_neg (by omega), if_pos g]
theorem Pl.ov_same (o : Nat → Int) (k : Nat) (h : 0 ≤ o k) (g : ¬ (Pl.ovB o k < 0 ∨ o k < Pl.ovB o k)) (e : o k = Pl.ovB o k) : Pl.ovB o (k + 1) = Pl.ovB o k ∧ Pl.ovH o (k + 1) = Pl.ovH o k ++ [(k : Int)] := by
  constructor
  · show (if _ then _ else _) = _; rw [if_neg (by omega), if_neg g]
  · show (if _ then _ else _) = _; rw [if_neg (by omega), if_neg g, if_pos e]
theorem Pl.ov_more (o : Nat → Int) (k : Nat) (h : 0 ≤ o k) (g : ¬ (Pl.ovB o k < 0 ∨ o k < Pl.ovB o k)) (e : ¬ o k = Pl.ovB o k) : Pl.ovB o (k + 1) = Pl.ovB o k ∧ Pl.ovH o (k + 1) = Pl.ovH o k := by
  constructor
  · show (if _ then _ else _) = _; rw [if_neg (by omega), if_neg g]
  · show (if _ then _ else _) = _; rw [if_neg (by omega), if_neg g, if_neg e]
end Go.Proofs.YtcdobhdbafpkiafGreatDoor
/-
  Contract: the table of a node, of a store (Table).
-/
namespace Go.Proofs.YtcdobhdbafpkiafGreatDoor
open Go.RowKit
set_option maxRecDepth 20000

/-- what rib.Table answers -/
def Pl.tabA (es : List Pl.Ent) (f : Int) : List Pl.Rt := if Pl.wayC es f = 0 then Pl.tabL es f.toNat else []
theorem apartPR {w : World} {b1 b2 : Nat} {u v : Value} {ps : List (Int × Int)} {hs : List Pl.RH} (h1 : OwnP 58 w b1 u ps) (h2 : OwnR w b2 v hs) : u.ownBlock = none ∨ u.ownBlock ≠ v.ownBlock := by
  obtain ⟨_, ⟨rfl, _⟩ | ⟨g, cap, cur, rfl, _, hh, _⟩⟩ := h1
  · exact .inl rfl
  · right
    obtain ⟨_, ⟨rfl, _⟩ | ⟨g2, cap2, cur2, rfl, _, hh2, _⟩⟩ := h2
    · simp [Value.ownBlock]
    · simp only [Value.ownBlock, ne_eq, Option.some.injEq]
      intro e
      subst e
      rw [hh] at hh2
      simp at hh2
theorem apartBR {w : World} {b2 b : Nat} {v : Value} {hs : List Pl.RH} {cs : Array Value} {T : TypeId} (h1 : w.heap[b]? = some (.cells cs T)) (hT : T ≠ 88) (h2 : OwnR w b2 v hs) : some b ≠ v.ownBlock := by
  obtain ⟨_, ⟨rfl, _⟩ | ⟨g2, cap2, cur2, rfl, _, hh2, _⟩⟩ := h2
  · simp [Value.ownBlock]
  · simp only [Value.ownBlock, ne_eq, Option.some.injEq]
    intro e
    subst e
    rw [h1] at hh2
    simp at hh2
    exact hT hh2.2

set_option maxHeartbeats 8000000 in
theorem Table_any (a : Option Addr) (len cap : Nat) (es : List Pl.Ent) (f : Int) (w : World) (h : IsEnts w a len cap es) (hT : Tab w) :
    Calls Tryz.prog 9 #[.slice a len cap, .int .i64 f] w fun e w' => ∃ v hs, e = .returned (.tuple #[v, .int .i64 (Pl.wayC es f)]) ∧ OwnTb w' w.heap.size v hs (Pl.tabA es f) ∧ Below w.heap.size w w' := by
  have HE := hid h
  have HTab := hid hT
  clear h hT
  obtain ⟨cd, HCD⟩ : ∃ x, Hid (Pl.wayC es f = x) := ⟨_, hid rfl⟩
  rw [HCD.out]
  go_enter Tryz.func9, Tryz.ntmps9
  go_wp2_with fail
  refine (Ways_any a len cap es f w HE.out HTab.out).mono ?_
  rw [HCD.out]
  rintro e w2 ⟨v2, ts, rfl, ho2, hf2, hb2⟩
  have HB2 := hid hb2
  by_cases hcd : cd = 0
  · subst hcd
    have hfr : 0 ≤ f ∧ f ≤ 11 := by
      have := HCD.out
      unfold Pl.wayC at this
      split at this
      · rename_i h; exact absurd this h
      · split at this
        · assumption
        · cases this
    obtain ⟨n, rfl⟩ : ∃ n : Nat, f = n := ⟨f.toNat, by omega⟩
    have hn : n < 12 := by omega
    have HTA : Hid (Pl.tabA es (n : Int) = Pl.tabK (Pl.wC es n) (Pl.wH es n) (Pl.tP es) n 12) := hid (by unfold Pl.tabA; rw [HCD.out, if_pos rfl, Int.toNat_natCast]; rfl)
    obtain ⟨g2, c2, rfl, hc2, hm2, ha2⟩ := ho2.at12 hf2 HCD.out
    unfold maxLen at hm2
    have HW2 := hid ha2
    have HE2 := hid (HE.out.below hb2)
    have HT2 := hid (HTab.out.below hb2)
    have hg2 := ha2.1
    clear ho2 hf2 hb2 ha2 hfr
    go_wp2_with fail
    go_loopw [8, 24] (fun v i wr => ∃ (k : Nat) (hs : List Pl.RH), k ≤ 12 ∧ i = .int .i64 k ∧ Hid (OwnTb wr w2.heap.size v hs (Pl.tabK (Pl.wC es n) (Pl.wH es n) (Pl.tP es) n k)) ∧ Hid (Below w2.heap.size w2 wr)) (fun _ i _ => 12 - (intOf i).toNat)
    case atStart => exact ⟨0, [], by omega, rfl, hid (OwnTb.nil _ _), hid (Below.refl _ _)⟩
    case round =>
      obtain ⟨k, hs, hk, rfl, HO, HB⟩ := hrel
      have hzr := HB.out.size
      by_cases hlt : k < 12
      · obtain ⟨z0, ah, ch, z1, z2⟩ := HW2.out.2 k hlt
        have HZI := hid z2
        have z0 := (HB.out.cell (p := ⟨g2, k * 2, none⟩) hg2).trans z0
        have z1 := (HB.out.cell (p := ⟨g2, k * 2 + 1, none⟩) hg2).trans z1
        have hgr : g2 < wr.heap.size := by omega
        have hbd := Pl.wC_bound es n k
        have HNEXT := hid (fun h => Pl.tabK_next es n k h)
        have HSKIP := hid (fun h => Pl.tabK_skip es n k h)
        have HREADY := hid (fun h j hj => Pl.offs_ready es (j := j) hn hlt h hj)
        have HHB : Hid (Pl.hopsB (Pl.wH es n k) = true) := hid (Pl.hopsL_B _ (Nat.le_refl _))
        have HMK : Hid (∀ p, Pl.mkR (Pl.wC es n) (Pl.wH es n) n k p = ⟨p, ((k : Int) == (n : Int)), Pl.wC es n k, Pl.wH es n k⟩) := hid fun p => rfl
        obtain ⟨bb, hbb⟩ : ∃ b, ((k : Int) == (n : Int)) = b := ⟨_, rfl⟩
        rw [hbb] at HMK
        obtain ⟨hl, HHL⟩ : ∃ m, Hid ((Pl.wH es n k).length = m) := ⟨_, hid rfl⟩
        rw [HHL.out] at z1 HZI
        obtain ⟨c, HC⟩ : ∃ c, Hid (Pl.wC es n k = c) := ⟨_, hid rfl⟩
        rw [HC.out] at z0 hbd HNEXT HSKIP HREADY HMK
        clear z2
        obtain ⟨W1, HW1⟩ : ∃ W1, Hid (W1 = wr.alloc (.cells #[.int .i64 c, .slice ah hl ch] 84)) := ⟨_, hid rfl⟩
        have HBX : Hid (W1.heap[wr.heap.size]? = some (.cells #[.int .i64 c, .slice ah hl ch] 84)) := hid (by rw [HW1.out]; exact heapNewZ wr _)
        have HB1 : Hid (Below wr.heap.size wr W1) := hid (by rw [HW1.out]; exact (Below.refl _ _).alloc (Nat.le_refl _) _)
        have HB21 : Hid (Below w2.heap.size w2 W1) := hid (HB.out.trans (HB1.out.mono hzr))
        by_cases hneg : c < 0
        · have hneg' : decide (c < 0) = true := by simpa using hneg
          have HSK := hid (HSKIP.out hneg)
          clear hneg
          go_wp2_with fail
          rw [← HW1.out]
          go_roundw
          case rel => exact ⟨k + 1, hs, by omega, by go_num, hid (by rw [HSK.out]; exact HO.out.below HB1.out), HB21⟩
          case measure => simp [intOf]; omega
        · have hneg' : decide (c < 0) = false := by simpa using hneg
          have HNX := hid (HNEXT.out (by omega))
          have HRD := hid (HREADY.out (by omega))
          clear hneg HNEXT HSKIP HREADY
          go_wp2_with fail
          rw [← HW1.out]
          refine (ToldPrefixes_any a len cap es k W1 (HE2.out.below HB21.out) hlt (HT2.out.below HB21.out)).mono ?_
          rintro e w4 ⟨vl, rfl, ho4, hb4⟩
          obtain ⟨pa, pc, rfl, hp4, _, hx4⟩ := OwnP.shape ho4 (Pl.rpS_ok _)
          have HB4 : Hid (Below w2.heap.size w2 w4) := hid (HB21.out.trans (hb4.mono HB21.out.size))
          have HBX4 : Hid (w4.heap[wr.heap.size]? = some (.cells #[.int .i64 c, .slice ah hl ch] 84)) := hid ((hb4.block _ (by rw [HW1.out]; simp)).trans HBX.out)
          have HO4 := hid ((HO.out.below HB1.out).below hb4)
          have HP4 := hid (OwnP.mono ho4 (Nat.le_trans hzr HB1.out.size))
          have hpc := hp4.2.1
          have hpm := hp4.2.2.1
          unfold maxLen at hpm
          obtain ⟨m, HM⟩ : ∃ m, Hid ((Pl.tP es k).length = m) := ⟨_, hid rfl⟩
          rw [HM.out] at HRD HP4 hpc ⊢
          clear ho4 hb4 hp4 hx4
          go_wp2_with fail
          go_loopw [8, 36] (fun v i wq => ∃ (j : Nat) (hs : List Pl.RH), j ≤ m ∧ i = .int .i64 j ∧ Hid (OwnTb wq w2.heap.size v hs (Pl.offs (Pl.wC es n) (Pl.wH es n) n k (Pl.tabK (Pl.wC es n) (Pl.wH es n) (Pl.tP es) n k) ((Pl.tP es k).take j))) ∧ Hid (OwnP 58 wq w2.heap.size (.slice pa m pc) (Pl.tP es k)) ∧ Hid (wq.heap[wr.heap.size]? = some (.cells #[.int .i64 c, .slice ah hl ch] 84)) ∧ Hid (Below w2.heap.size w2 wq)) (fun _ i _ => m - (intOf i).toNat)
          case atStart => exact ⟨0, hs, Nat.zero_le _, rfl, HO4, HP4, HBX4, HB4⟩
          case round =>
            obtain ⟨j, hs', hj, rfl, HOj, HPj, HBXj, HBj⟩ := hrel
            rename World => wq
            obtain ⟨x0, x1, xf0, xf1, hxl⟩ := adjAt_cells HBXj.out
            by_cases hjm : j < m
            · obtain ⟨pa', pc', e1, hpj, _, _⟩ := HPj.out.shape (Pl.rpS_ok _)
              have HIP : Hid (IsPairs wq pa m pc (Pl.tP es k)) := hid (by
                simp only [Value.slice.injEq] at e1
                obtain ⟨u1, u2, u3⟩ := e1
                rw [u1, u2, u3]; exact hpj)
              clear e1 hpj
              have HPO : Hid (Pl.pairOk (Pl.pr (Pl.tP es k) j)) := hid (Pl.rpS_ok _ _ (Pl.pr_mem (Pl.tP es k) j (by rw [HM.out]; exact hjm)))
              obtain ⟨b, off, rfl, hbw, hr⟩ : ∃ b off, pa = some ⟨b, off, none⟩ ∧ b < wq.heap.size ∧ PairsAt wq b off (Pl.tP es k) := by
                rcases HIP.out.2.2.2.2 with h | h
                · have := HM.out; rw [h] at this; simp at this; omega
                · exact h
              obtain ⟨p0, p1⟩ := hr j (by rw [HM.out]; exact hjm)
              obtain ⟨r1, r2, r3, r4⟩ := HRD.out j hjm
              have HRR := hid (And.intro r1 (And.intro r2 (And.intro r3 r4)))
              have HSU := hid (Pl.offs_take_succ (Pl.wC es n) (Pl.wH es n) n k (Pl.tabK (Pl.wC es n) (Pl.wH es n) (Pl.tP es) n k) (Pl.tP es k) j (by rw [HM.out]; exact hjm))
              obtain ⟨q1, q2, hpq⟩ : ∃ x y, Pl.pr (Pl.tP es k) j = (x, y) := ⟨_, _, rfl⟩
              rw [hpq] at p0 p1 HPO HRR HSU
              rw [HMK.out] at HSU
              simp only at p0 p1
              clear hr hpq r1 r2 r3 r4 HIP
              obtain ⟨rs, HRS⟩ : ∃ rs, Hid (Pl.offs (Pl.wC es n) (Pl.wH es n) n k (Pl.tabK (Pl.wC es n) (Pl.wH es n) (Pl.tP es) n k) ((Pl.tP es k).take j) = rs) := ⟨_, hid rfl⟩
              rw [HRS.out] at HOj HRR HSU
              obtain ⟨W2, HW2'⟩ : ∃ W2, Hid (W2 = wq.alloc (.cells #[.int .i64 q1, .int .i64 q2] 58)) := ⟨_, hid rfl⟩
              have HBq : Hid (Below wq.heap.size wq W2) := hid (by rw [HW2'.out]; exact (Below.refl _ _).alloc (Nat.le_refl _) _)
              have HBq2 : Hid (Below w2.heap.size w2 W2) := hid (HBj.out.trans (HBq.out.mono HBj.out.size))
              have HOq := hid (HOj.out.below HBq.out)
              have HPq := hid (HPj.out.below HBq.out)
              have HXq : Hid (W2.heap[wr.heap.size]? = some (.cells #[.int .i64 c, .slice ah hl ch] 84)) := hid ((HBq.out.block _ hxl).trans HBXj.out)
              have hjm' : (j : Int) < (m : Int) := by omega
              have HOF : Hid (∀ vv, OwnTb W2 w2.heap.size vv hs' rs → Calls Tryz.prog 33 #[vv, .agg #[.int .i64 q1, .int .i64 q2, .bool bb, .int .i64 c, .slice ah hl ch]] W2 fun e w' => ∃ v' hs', e = .returned v' ∧ OwnTb w' w2.heap.size v' hs' (Pl.offR rs ⟨(q1, q2), bb, c, Pl.wH es n k⟩) ∧ W2.grownBy w' vv.ownBlock) := hid fun vv hvv =>
                offer_any w2.heap.size vv hs' rs ⟨(q1, q2), bb, c, ah, hl, ch⟩ ⟨(q1, q2), bb, c, Pl.wH es n k⟩ W2 hvv HBq2.out.size HRR.out.1 (by have := HRR.out.2.1; have := hvv.2.1; omega) ⟨rfl, rfl, rfl, HZI.out.below HBq2.out, HPO.out⟩ HHB.out HRR.out.2.2.1 HRR.out.2.2.2
              go_wp2_with fail
              rw [← HW2'.out]
              refine (HOF.out _ HOq.out).mono ?_
              rintro e w6 ⟨v6, hs6, rfl, ho6, hg6⟩
              have HO6 := hid ho6
              have HP6 : Hid (OwnP 58 w6 w2.heap.size (.slice (some ⟨b, off, none⟩) m pc) (Pl.tP es k)) := hid (World.ownsRow.kept HPq.out hg6 (apartPR HPq.out HOq.out.1))
              have HX6 : Hid (w6.heap[wr.heap.size]? = some (.cells #[.int .i64 c, .slice ah hl ch] 84)) := hid ((hg6.block _ (blockLt HXq.out) (apartBR HXq.out (by decide) HOq.out.1)).trans HXq.out)
              have HB6 : Hid (Below w2.heap.size w2 w6) := hid (HBq2.out.grown hg6 HBq2.out.size (fun i hi => (World.ownsRow.lt HOq.out.1 i hi).1))
              clear ho6 hg6
              go_wp2_with fail
              go_roundw
              case rel => exact ⟨j + 1, hs6, by omega, by go_num, hid (by rw [HSU.out]; exact HO6.out), HP6, HX6, HB6⟩
              case measure => simp [intOf]; omega
            · obtain rfl : j = m := by omega
              have HTK : Hid ((Pl.tP es k).take j = Pl.tP es k) := hid (List.take_of_length_le (by rw [HM.out]; exact Nat.le_refl _))
              go_wp2_with fail
              go_roundw
              case rel => exact ⟨k + 1, hs', by omega, by go_num, hid (by have := HOj.out; rw [HTK.out] at this; rw [HNX.out]; exact this), HBj⟩
              case measure => simp [intOf]; omega
      · obtain rfl : k = 12 := by omega
        go_wp2_with fail
        refine bodyPost_ret (results_tmp2 rfl _ _ _) rfl ⟨_, hs, ret_two rfl rfl, by rw [HTA.out]; exact HO.out.mono HB2.out.size, HB2.out.trans (HB.out.mono HB2.out.size)⟩
  · have HTA : Hid (Pl.tabA es f = []) := hid (by unfold Pl.tabA; rw [HCD.out, if_neg hcd])
    have hcd' : (cd != 0) = true := by simpa using hcd
    clear ho2 hf2 hb2 hcd
    go_wp2_with fail
    refine bodyPost_ret (results_tmp2 rfl _ _ _) rfl ⟨_, [], ret_two rfl rfl, by rw [HTA.out]; exact OwnTb.nil _ _, HB2.out⟩
end Go.Proofs.YtcdobhdbafpkiafGreatDoor
/-
  Plain: a table that is patched by a difference is the one that was wanted; no program in sight.
-/
namespace Go.Proofs.YtcdobhdbafpkiafGreatDoor
open Go.RowKit
set_option maxRecDepth 20000

theorem Pl.getR_filter {rs : List Pl.Rt} (hs : Pl.SrtR rs) (f : Pl.Rt → Bool) (q : Int × Int) : Pl.getR (rs.filter f) q = match Pl.getR rs q with | none => none | some r => if f r then some r else none := by
  cases h : Pl.getR rs q with
  | none =>
    refine Pl.getR_none fun r hr e => ?_
    have := Pl.getR_mem hs (List.mem_filter.1 hr).1
    rw [e, h] at this; cases this
  | some r =>
    obtain ⟨h1, h2⟩ := Pl.getR_some h
    show _ = if f r then some r else none
    split
    · rename_i g
      rw [← h2]
      exact Pl.getR_mem (Pl.filter_srt f hs) (List.mem_filter.2 ⟨h1, g⟩)
    · rename_i g
      refine Pl.getR_none fun x hx e => ?_
      obtain ⟨hx1, hx2⟩ := List.mem_filter.1 hx
      have := Pl.getR_mem hs hx1
      rw [e, h] at this
      cases this
      exact g hx2
theorem Pl.getR_inss : ∀ (ss rs : List Pl.Rt) (q : Int × Int), Pl.SrtR rs → Pl.SrtR ss → Pl.getR (Pl.inssR rs ss) q = match Pl.getR ss q with | none => Pl.getR rs q | some r => some r
  | [], rs, q, _, _ => rfl
  | x :: ss, rs, q, h, hs => by
    have hs' := hs
    unfold Pl.SrtR at hs
    rw [List.pairwise_cons] at hs
    show Pl.getR (Pl.inssR (Pl.insR rs x) ss) q = _
    rw [Pl.getR_inss ss _ q (Pl.insR_srt h) hs.2, Pl.getR_ins h]
    by_cases g : x.p = q
    · have e : Pl.getR ss q = none := Pl.getR_none fun r hr e => by
        have := hs.1 r hr
        rw [e, g, Pl.pltB_irrefl] at this; cases this
      rw [e]
      simp [Pl.getR, g]
    · simp only [Pl.getR, if_neg g]
theorem Pl.there_get {rs : List Pl.Rt} (hs : Pl.SrtR rs) (q : Int × Int) : Pl.thereP (rs.map Pl.Rt.p) q = (Pl.getR rs q).isSome := by
  rw [Pl.getR_there hs]
  cases Pl.thereP (rs.map Pl.Rt.p) q <;> simp
theorem Pl.kept_iff {a : List Pl.Rt} (hs : Pl.SrtR a) (r : Pl.Rt) : Pl.keptB a r = true ↔ Pl.getR a r.p = some r := by
  unfold Pl.keptB
  rw [Pl.getR_there hs]
  cases h : Pl.thereP (a.map Pl.Rt.p) r.p
  · simp
  · have h1 := Pl.thereP_eq h
    have h2 := Pl.thereP_lt h
    rw [Pl.pr_map a _ (by simpa using h2)] at h1
    generalize Pl.rt a (Pl.posP (a.map Pl.Rt.p) r.p) = x at *
    obtain ⟨xp, xh, xc, xl⟩ := x
    obtain ⟨rp, rh, rc, rl⟩ := r
    simp only at h1
    subst h1
    simp [Pl.sameR, and_assoc]
theorem Pl.setL_srt {a b : List Pl.Rt} (hb : Pl.SrtR b) : Pl.SrtR (Pl.setL a b) := Pl.filter_srt _ hb
/-- the patched table is the wanted one -/
theorem Pl.patR_diff {a b : List Pl.Rt} (ha : Pl.SrtR a) (hb : Pl.SrtR b) : Pl.patR a (Pl.setL a b) (Pl.goneL a b) = b := by
  unfold Pl.patR
  refine Pl.srtR_ext (Pl.inssR_srt _ _ (Pl.delsR_srt ha)) hb fun q => ?_
  rw [Pl.getR_inss _ _ q (Pl.delsR_srt ha) (Pl.setL_srt hb), Pl.delsR_filter _ _ ha, Pl.getR_filter ha]
  unfold Pl.setL
  rw [Pl.getR_filter hb]
  cases hy : Pl.getR b q with
  | none =>
    simp only
    cases hx : Pl.getR a q with
    | none => rfl
    | some r =>
      simp only
      rw [if_neg]
      simp only [decide_not, Bool.not_eq_true', decide_eq_false_iff_not, Decidable.not_not]
      obtain ⟨h1, h2⟩ := Pl.getR_some hx
      unfold Pl.goneL
      refine List.mem_map.2 ⟨r, List.mem_filter.2 ⟨h1, ?_⟩, rfl⟩
      rw [Pl.there_get hb, h2, hy]; rfl
  | some r =>
    obtain ⟨h1, h2⟩ := Pl.getR_some hy
    simp only
    cases hk : Pl.keptB a r
    · simp
    · have hx := (Pl.kept_iff ha r).1 hk
      rw [h2] at hx
      rw [hx]
      simp only [Bool.not_true, Bool.false_eq_true, if_false]
      rw [if_pos]
      simp only [decide_not, Bool.not_eq_true', decide_eq_false_iff_not]
      intro hm
      unfold Pl.goneL at hm
      obtain ⟨x, hx1, hx2⟩ := List.mem_map.1 hm
      obtain ⟨_, hx3⟩ := List.mem_filter.1 hx1
      rw [hx2, h2, Pl.there_get hb, hy] at hx3
      cases hx3
theorem Pl.setL_self {a : List Pl.Rt} (ha : Pl.SrtR a) : Pl.setL a a = [] := by
  unfold Pl.setL
  rw [List.filter_eq_nil_iff]
  intro r hr
  rw [(Pl.kept_iff ha r).2 (Pl.getR_mem ha hr)]; decide
theorem Pl.goneL_self {a : List Pl.Rt} (ha : Pl.SrtR a) : Pl.goneL a a = [] := by
  unfold Pl.goneL
  rw [List.map_eq_nil_iff, List.filter_eq_nil_iff]
  intro r hr
  rw [Pl.there_get ha, Pl.getR_mem ha hr]; simp
theorem Pl.patL_diff {a b : List Pl.Rt} (ha : Pl.tabF a = 0) (hb : Pl.tabF b = 0) : Pl.patC a (Pl.setL a b) (Pl.goneL a b) = 0 ∧ Pl.patL a (Pl.setL a b) (Pl.goneL a b) = b := by
  have e := Pl.patR_diff ((Pl.goodT_iff a).1 ha).2.2 ((Pl.goodT_iff b).1 hb).2.2
  unfold Pl.patC Pl.patL
  rw [if_pos ha, if_pos ha, e, hb]
  exact ⟨rfl, if_pos rfl⟩
end Go.Proofs.YtcdobhdbafpkiafGreatDoor
/-
  Small facts that the opening of parameters needs.
-/
namespace Go.Proofs.YtcdobhdbafpkiafGreatDoor
open Go.ChangeShapes Go.WideShapes Go.ChangeAt Go.RowKit
set_option maxRecDepth 20000

theorem cell_lt {W : World} {x : Addr} {v : Value} (h : W.cell? x = some v) : x.block < W.heap.size := by
  rcases Nat.lt_or_ge x.block W.heap.size with h' | h'
  · exact h'
  · simp [World.cell?, Array.getElem?_eq_none h'] at h

theorem own : ownKnob Tryz.prog.godebug = none := by kernel_rfl
theorem laidOut : laidOutB Tryz.prog = true := by kernel_rfl
end Go.Proofs.YtcdobhdbafpkiafGreatDoor
/-
  What a parameter holds when it is read as data: an entry, a slice of entries.
-/
namespace Go.Proofs.YtcdobhdbafpkiafGreatDoor
open Go.ChangeShapes Go.WideShapes Go.ChangeAt Go.RowKit
set_option maxRecDepth 20000

theorem cellsEntry : Tryz.prog.cellsOf 63 = 4 := by kernel_rfl

theorem entry_of_trod {H : Type} {enc : TypeId × Value → H} {w : World} {base : Nat} {spare : Nat → Bool} {held : Bool} {n : Nat} {cs : List Value} {x : DataW H × List MemPlace}
    (h : DataW.trod enc Tryz.prog w base spare held n 63 cs = some x) : ∃ e : Pl.Ent, cs = [.string e.key, .int .i64 e.ver, .int .i64 e.org, .string e.val] ∧ e.ok := by
  obtain ⟨y0, y1, y2, y3, m, _, hl, h0, h1, h2, h3⟩ := Go.Joins.trod_struct4 Tryz.underlying63 h
  rw [cellsEntry] at hl
  match cs, hl with
  | [c0, c1, c2, c3], _ =>
    have e9 : Tryz.prog.cellsOf 9 = 1 := by kernel_rfl
    have e3 : Tryz.prog.cellsOf 3 = 1 := by kernel_rfl
    simp only [e9, e3] at h0 h1 h2 h3
    obtain ⟨s0, a0, _, b0⟩ := DataW.trod_string Tryz.underlying9 h0
    obtain ⟨s1, a1, _, b1⟩ := DataW.trod_int Tryz.underlying3 h1
    obtain ⟨s2, a2, _, b2⟩ := DataW.trod_int Tryz.underlying3 h2
    obtain ⟨s3, a3, _, b3⟩ := DataW.trod_string Tryz.underlying9 h3
    simp at a0 a1 a2 a3
    subst a0 a1 a2 a3
    exact ⟨⟨s0, s1, s2, s3⟩, rfl, b0, b1, b2, b3⟩

theorem open_ent {H : Type} {enc : TypeId × Value → H} {w : World} {r : Reach} {b0 base : Nat} {spare : Nat → Bool} {held : Bool} {v : Value} {d : DataW H} {p : List MemPlace}
    (hv : Value.okWide Tryz.prog w r b0 63 v) (h : DataW.Trod enc Tryz.prog w base spare held 63 v d p) :
    ∃ e : Pl.Ent, v = .agg #[.string e.key, .int .i64 e.ver, .int .i64 e.org, .string e.val] ∧ e.ok := by
  obtain ⟨fuel, hf⟩ := h
  obtain ⟨cs, rfl, hsz⟩ := okWide_struct Tryz.underlying63 hv
  obtain ⟨e, he, hok⟩ := entry_of_trod hf
  refine ⟨e, ?_, hok⟩
  simp [Value.cells] at he
  rw [← he]

theorem open_ents {H : Type} {enc : TypeId × Value → H} {w : World} {r : Reach} {b0 : Nat} {held : Bool} {v : Value} {d : DataW H} {p : List MemPlace}
    (hv : Value.okWide Tryz.prog w r b0 28 v) (h : DataW.Trod enc Tryz.prog w 0 (fun _ => true) held 28 v d p) :
    ∃ a len cap es, v = .slice a len cap ∧ IsEnts w a len cap es := by
  obtain ⟨a, len, cap, rfl⟩ := okWide_slice Tryz.underlying28 hv
  obtain ⟨fuel, hf⟩ := h
  rcases Go.Deep.open_slice Tryz.underlying28 hf with ⟨hcs, _⟩ | ⟨x, l, c, m, n, D, Q, hcs, _, hl, hm, hmm, _, hx⟩
  · simp [Value.cells] at hcs
    obtain ⟨rfl, rfl, rfl⟩ := hcs
    exact ⟨_, _, _, [], rfl, rfl, Nat.le_refl _, by simp, by simp, .inl rfl⟩
  · simp [Value.cells] at hcs
    obtain ⟨rfl, rfl, rfl⟩ := hcs
    simp only [if_true] at hmm
    subst hmm
    rw [cellsEntry] at hx
    have hx' : ∀ i, i < len → ∃ e : Pl.Ent, w.cells? 0 (x.add (i * 4)) 4 = some [.string e.key, .int .i64 e.ver, .int .i64 e.org, .string e.val] ∧ e.ok := by
      intro i hi
      obtain ⟨cs', h1, h2⟩ := hx i (by omega)
      obtain ⟨e, rfl, hok⟩ := entry_of_trod h2
      exact ⟨e, h1, hok⟩
    obtain ⟨F, hF⟩ := @Go.Deep.choose_lt Pl.Ent ⟨Pl.Ent.none⟩ len _ hx'
    have hlen : ((List.range len).map F).length = len := by simp
    have hent : ∀ i, i < len → Pl.ent ((List.range len).map F) i = F i := by
      intro i hi
      rw [Pl.ent_eq _ _ (by simpa using hi)]; simp
    refine ⟨_, _, _, (List.range len).map F, rfl, hlen, hl, hm, ?_, ?_⟩
    · intro e he
      simp only [List.mem_map, List.mem_range] at he
      obtain ⟨i, hi, rfl⟩ := he
      exact (hF i hi).2
    · rcases Nat.eq_zero_or_pos len with h0 | hpos
      · subst h0; exact .inl rfl
      · right
        obtain ⟨b, off, spot⟩ := x
        have hc0 := (World.cells?_some (hF 0 hpos).1).2.2 0 (by omega)
        simp only [List.getElem?_cons_zero] at hc0
        have hsp : spot = none := by simpa [Addr.add] using World.cell?_spot hc0
        subst hsp
        refine ⟨b, off, rfl, ?_, ?_⟩
        · have := cell_lt hc0; simpa [Addr.add] using this
        · intro i hi
          rw [hlen] at hi
          rw [hent i hi]
          have hc := (World.cells?_some (hF i hi).1).2.2
          have c0 := hc 0 (by omega)
          have c1 := hc 1 (by omega)
          have c2 := hc 2 (by omega)
          have c3 := hc 3 (by omega)
          simp only [add_none, List.getElem?_cons_zero, List.getElem?_cons_succ, Nat.add_zero] at c0 c1 c2 c3
          exact ⟨c0, c1, c2, c3⟩

theorem open_ents_sized {H : Type} {enc : TypeId × Value → H} {w : World} {r : Reach} {b0 : Nat} {held : Bool} {v : Value} {d : DataW H} {p : List MemPlace}
    (hv : Value.okWide Tryz.prog w r b0 28 v) (h : DataW.Trod enc Tryz.prog w 0 (fun _ => true) held 28 v d p) :
    ∃ a len cap es, v = .slice a len cap ∧ IsEnts w a len cap es ∧ (a = none → cap = 0) ∧ ((d = .nil ∧ len = 0) ∨ ∃ el sp, d = .slice el sp ∧ el.length = len) := by
  obtain ⟨a, len, cap, es, rfl, hE⟩ := open_ents hv h
  refine ⟨a, len, cap, es, rfl, hE, ?_⟩
  obtain ⟨fuel, hf⟩ := h
  rcases Go.Deep.open_slice Tryz.underlying28 hf with ⟨hcs, hx⟩ | ⟨x, l, c, m, n, D, Q, hcs, _, hl, hm, hmm, hx, _⟩
  · simp [Value.cells] at hcs
    obtain ⟨rfl, rfl, rfl⟩ := hcs
    simp only [Prod.mk.injEq] at hx
    exact ⟨fun _ => rfl, .inl ⟨hx.1, rfl⟩⟩
  · simp [Value.cells] at hcs
    obtain ⟨rfl, rfl, rfl⟩ := hcs
    simp only [Prod.mk.injEq] at hx
    exact ⟨by simp, .inr ⟨_, _, hx.1, by simp⟩⟩
end Go.Proofs.YtcdobhdbafpkiafGreatDoor
/-
  What a parameter holds when it is read as data: a slice of raw things.
-/
namespace Go.Proofs.YtcdobhdbafpkiafGreatDoor
open Go.ChangeShapes Go.WideShapes Go.ChangeAt Go.RowKit
set_option maxRecDepth 20000

theorem cellsRaw : Tryz.prog.cellsOf 74 = 4 := by kernel_rfl
theorem raw_of_trod {H : Type} {enc : TypeId × Value → H} {w : World} {base : Nat} {spare : Nat → Bool} {held : Bool} {n : Nat} {cs : List Value} {x : DataW H × List MemPlace}
    (h : DataW.trod enc Tryz.prog w base spare held n 74 cs = some x) : ∃ k0 k1 k2 k3 : Int, cs = [.int .i64 k0, .int .i64 k1, .int .i64 k2, .int .i64 k3] ∧
      (Lit.int .i64 k0).wf = true ∧ (Lit.int .i64 k1).wf = true ∧ (Lit.int .i64 k2).wf = true ∧ (Lit.int .i64 k3).wf = true := by
  obtain ⟨y0, y1, y2, y3, m, _, hl, h0, h1, h2, h3⟩ := Go.Joins.trod_struct4 Tryz.underlying74 h
  rw [cellsRaw] at hl
  match cs, hl with
  | [c0, c1, c2, c3], _ =>
    have e3 : Tryz.prog.cellsOf 3 = 1 := by kernel_rfl
    simp only [e3] at h0 h1 h2 h3
    obtain ⟨s0, a0, _, b0⟩ := DataW.trod_int Tryz.underlying3 h0
    obtain ⟨s1, a1, _, b1⟩ := DataW.trod_int Tryz.underlying3 h1
    obtain ⟨s2, a2, _, b2⟩ := DataW.trod_int Tryz.underlying3 h2
    obtain ⟨s3, a3, _, b3⟩ := DataW.trod_int Tryz.underlying3 h3
    simp at a0 a1 a2 a3
    subst a0 a1 a2 a3
    exact ⟨s0, s1, s2, s3, rfl, b0, b1, b2, b3⟩

theorem open_raw {H : Type} {enc : TypeId × Value → H} {w : World} {r : Reach} {b0 base : Nat} {spare : Nat → Bool} {held : Bool} {v : Value} {d : DataW H} {p : List MemPlace}
    (hv : Value.okWide Tryz.prog w r b0 74 v) (h : DataW.Trod enc Tryz.prog w base spare held 74 v d p) :
    ∃ k0 k1 k2 k3 : Int, v = .agg #[.int .i64 k0, .int .i64 k1, .int .i64 k2, .int .i64 k3] ∧
      ((Lit.int .i64 k0).wf = true ∧ (Lit.int .i64 k1).wf = true ∧ (Lit.int .i64 k2).wf = true ∧ (Lit.int .i64 k3).wf = true) := by
  obtain ⟨fuel, hf⟩ := h
  obtain ⟨cs, rfl, hsz⟩ := okWide_struct Tryz.underlying74 hv
  obtain ⟨k0, k1, k2, k3, he, hw⟩ := raw_of_trod hf
  refine ⟨k0, k1, k2, k3, ?_, hw⟩
  simp [Value.cells] at he
  rw [← he]

theorem open_raws {H : Type} {enc : TypeId × Value → H} {w : World} {r : Reach} {b0 : Nat} {held : Bool} {v : Value} {d : DataW H} {p : List MemPlace}
    (hv : Value.okWide Tryz.prog w r b0 22 v) (h : DataW.Trod enc Tryz.prog w 0 (fun _ => true) held 22 v d p) :
    ∃ a len cap, v = .slice a len cap ∧ IsRaws w a len cap := by
  obtain ⟨a, len, cap, rfl⟩ := okWide_slice Tryz.underlying22 hv
  obtain ⟨fuel, hf⟩ := h
  rcases Go.Deep.open_slice Tryz.underlying22 hf with ⟨hcs, _⟩ | ⟨x, l, c, m, n, D, Q, hcs, _, hl, hm, hmm, _, hx⟩
  · simp [Value.cells] at hcs
    obtain ⟨rfl, rfl, rfl⟩ := hcs
    exact ⟨_, _, _, rfl, Nat.le_refl _, by simp, .inl rfl⟩
  · simp [Value.cells] at hcs
    obtain ⟨rfl, rfl, rfl⟩ := hcs
    simp only [if_true] at hmm
    subst hmm
    rw [cellsRaw] at hx
    refine ⟨_, _, _, rfl, hl, hm, ?_⟩
    rcases Nat.eq_zero_or_pos len with h0 | hpos
    · exact .inl h0
    · right
      obtain ⟨b, off, spot⟩ := x
      obtain ⟨cs0, g1, g2⟩ := hx 0 (by omega)
      obtain ⟨k0, k1, k2, k3, rfl, _⟩ := raw_of_trod g2
      have hc0 := (World.cells?_some g1).2.2 0 (by omega)
      simp only [List.getElem?_cons_zero] at hc0
      have hsp : spot = none := by simpa [Addr.add] using World.cell?_spot hc0
      subst hsp
      refine ⟨b, off, rfl, ?_, ?_⟩
      · have := cell_lt hc0; simpa [Addr.add] using this
      · intro i hi
        obtain ⟨cs1, f1, f2⟩ := hx i (by omega)
        obtain ⟨k0, k1, k2, k3, rfl, hw⟩ := raw_of_trod f2
        have hc := (World.cells?_some f1).2.2
        have c0 := hc 0 (by omega)
        have c1 := hc 1 (by omega)
        have c2 := hc 2 (by omega)
        have c3 := hc 3 (by omega)
        simp only [add_none, List.getElem?_cons_zero, List.getElem?_cons_succ, Nat.add_zero] at c0 c1 c2 c3
        exact ⟨k0, k1, k2, k3, ⟨c0, c1, c2, c3⟩, hw⟩
end Go.Proofs.YtcdobhdbafpkiafGreatDoor
