/-
  Contract: slices.Insert of one route into a row of one's own: at a place within it.
-/
import Derived.Test.YtcdobhdbafpkiaeRib17
namespace Go.Proofs.Ytcdobhdbafpkiae
open Go.RowKit

theorem cellsR_cut (hs : List Pl.RH) (i : Nat) : cellsR hs = cellsR (hs.take i) ++ cellsR (hs.drop i) := by rw [← cellsR_append, List.take_append_drop]
theorem cellsH_src (w : World) (x : Pl.RH) {j : Nat} {u : Value} (h : (cellsH x)[j]? = some u) : (w.alloc (rtObj x)).cell? ⟨w.heap.size, j, none⟩ = some u := by
  match j, h with
  | 0, h => simp [cellsH] at h; subst h; unfold rtObj; simp
  | 1, h => simp [cellsH] at h; subst h; unfold rtObj; simp
  | 2, h => simp [cellsH] at h; subst h; unfold rtObj; simp
  | 3, h => simp [cellsH] at h; subst h; unfold rtObj; simp
  | 4, h => simp [cellsH] at h; subst h; unfold rtObj; simp
  | j + 5, h => simp [cellsH] at h

set_option maxHeartbeats 4000000 in
theorem Insert_room (base : Nat) (hs : List Pl.RH) (i : Nat) (x : Pl.RH) (w : World) (g cap : Nat) (L : List Value) (hi : i < hs.length) (hb : base ≤ g) (hg : w.heap[g]? = some (.cells L.toArray 30 (0, 0))) (hroom : hs.length + 1 ≤ cap) (hm : cap ≤ maxLen) (hL : L.length = cap * 5) (hx : L.take (hs.length * 5) = cellsR hs) :
    Calls Try.prog 42 #[.slice (some ⟨g, 0, none⟩) hs.length cap, .int .i64 i, .slice (some ⟨w.heap.size, 0, none⟩) 1 1] (w.alloc (rtObj x)) fun e w' =>
      ∃ v', e = .returned v' ∧ OwnR w' base v' (hs.take i ++ x :: hs.drop i) ∧ (w.alloc (rtObj x)).grownBy w' (some g) := by
  have hm0 := hm
  unfold maxLen at hm
  have hlt := blockLt hg
  obtain ⟨W, HW⟩ : ∃ W, Hid (W = w.alloc (rtObj x)) := ⟨_, rfl⟩
  have HG : Hid (W.heap[g]? = some (.cells L.toArray 30 (0, 0))) := hid (by rw [HW.out, Below.heap_alloc _ _ _ hlt]; exact hg)
  have HOV : Hid (∀ o lb cb, (callFunc 46 #[.slice (some ⟨w.heap.size, 0, none⟩) 1 1, .slice (some ⟨g, o, none⟩) lb cb]).run Try.prog W = .ok (.value (.bool false)) W) := hid fun o lb cb => by
    rw [HW.out]; exact overlapsNo w g o lb cb L x hg (by omega)
  have HXS : Hid (∀ j u, (cellsH x)[j]? = some u → W.cell? ⟨w.heap.size, j, none⟩ = some u) := hid fun j u h => by rw [HW.out]; exact cellsH_src w x h
  have HSZ : Hid (W.heap.size = w.heap.size + 1) := hid (by rw [HW.out]; simp)
  have HFIN := hid (laid_twice L (cellsR (hs.take i)) (cellsR (hs.drop i)) (cellsH x) hs.length i (by rw [cellsR_len]; simp; omega) (by rw [cellsR_len]; simp) rfl hi (by omega) (by rw [hx]; exact cellsR_cut hs i))
  have HBL : Hid ((cellsR (hs.drop i)).length = (hs.length - i) * 5) := hid (by rw [cellsR_len]; simp)
  have HBS : Hid (∀ j u, (cellsR (hs.drop i))[j]? = some u → L[i * 5 + j]? = some u) := hid fun j u hj => by
    have h1 : (cellsR hs)[i * 5 + j]? = some u := by
      rw [cellsR_cut hs i, List.getElem?_append_right (by rw [cellsR_len]; simp; omega), cellsR_len]
      simpa [show min i hs.length = i by omega] using hj
    rw [← hx, List.getElem?_take] at h1
    split at h1
    · exact h1
    · cases h1
  have HB1 := hid (cellsR_one (hs.drop i))
  have HX1 : Hid (∀ u ∈ cellsH x, u.oneCell' = true) := hid (by have := cellsR_one [x]; simpa [cellsR] using this)
  rw [← HW.out]
  have HLEN : Hid ((hs.take i ++ x :: hs.drop i).length = hs.length + 1) := hid (by simp; omega)
  have HCEL : Hid (cellsR (hs.take i ++ x :: hs.drop i) = cellsR (hs.take i) ++ (cellsH x ++ cellsR (hs.drop i))) := hid (by rw [cellsR_append]; rfl)
  obtain ⟨ns, HNS⟩ : ∃ l, Hid (hs.take i ++ x :: hs.drop i = l) := ⟨_, rfl⟩
  rw [HNS.out] at HLEN HCEL ⊢
  obtain ⟨B, HBB⟩ : ∃ l, Hid (cellsR (hs.drop i) = l) := ⟨_, rfl⟩
  rw [HBB.out] at HFIN HBL HBS HB1 HCEL
  obtain ⟨A, HAA⟩ : ∃ l, Hid (cellsR (hs.take i) = l) := ⟨_, rfl⟩
  rw [HAA.out] at HFIN HCEL
  obtain ⟨X, HXX⟩ : ∃ l, Hid (cellsH x = l) := ⟨_, rfl⟩
  have HXL : Hid (X.length = 5) := hid (by rw [← HXX.out]; rfl)
  rw [HXX.out] at HFIN HXS HX1 HCEL
  obtain ⟨VB, HVB⟩ : ∃ n, Hid (w.heap.size = n) := ⟨_, rfl⟩
  rw [HVB.out] at HOV HXS hlt ⊢
  clear hg hx HBB HAA HXX HNS
  obtain ⟨n, HN⟩ : ∃ n, Hid (hs.length = n) := ⟨_, rfl⟩
  rw [HN.out] at hi hroom HFIN HBL HLEN ⊢
  have hi1 : ¬ ((i : Int) = (n : Int)) := by omega
  have hi2 : (i : Int) ≤ (n : Int) := by omega
  have hi3 : ¬ (cap = i) := by omega
  have hi4 : ¬ (cap = i + 1) := by omega
  have hrm : ¬ ((cap : Int) < (n : Int) + 1) := by omega
  have hie : ((i : Int) == (n : Int)) = false := by simpa using hi1
  have hw1 : IntKind.i64.wrap ((n : Int) + 1) = (n : Int) + 1 := by rw [IntKind.wrap_i64]; omega
  have hw2 : IntKind.i64.wrap ((i : Int) + 1) = (i : Int) + 1 := by rw [IntKind.wrap_i64]; omega
  have hov := HOV.out
  go_enter Try.func42, Try.ntmps42
  go_wp2_with (simp only [hov])
  have hw3 : ((i : Int) + 1).toNat = i + 1 := by omega
  have hw4 : (0 : Int) ≤ (i : Int) + 1 := by omega
  have hw5 : (i : Int) ≤ (n : Int) + 1 := by omega
  have HLL : Hid ((laid L ((i + 1) * 5) B).length = cap * 5) := hid (by rw [laid_len _ _ _ (by rw [HBL.out]; omega), hL])
  go_region_law (refine step_copyR rfl (.tmp 73) (.tmp 76) rfl g ((i + 1) * 5) (n - i) (cap - (i + 1)) ⟨g, i * 5, none⟩ (n + 1 - i) (cap - i) (by simp [Act.eval, Act.put]) (by simp [Act.eval, Act.put]) L B HG.out (by rw [HBL.out]; congr 1; simp only [Nat.min_def]; split <;> omega) (fun j u hj => by rw [add_none]; exact row_cell HG.out (HBS.out j u hj)) (by rw [HBL.out]; omega) HB1.out ?_; intro w1 v1 hg1 hb1; have HG1 := hid hg1; have HB1' := hid hb1; clear hg1 hb1)
  all_goals
    have HX2 : Hid (∀ j u, X[j]? = some u → w1.cell? ⟨VB, j, none⟩ = some u) := hid fun j u hj => (HB1'.out.cell (p := ⟨VB, j, none⟩) (by show VB < W.heap.size; rw [HSZ.out, HVB.out]; omega) (by show VB ≠ g; omega)).trans (HXS.out j u hj)
    go_wp2_with (refine wpList_copyR rfl (.tmp 80) (.tmp 81) rfl g (i * 5) (n + 1 - i) (cap - i) ⟨VB, 0, none⟩ 1 1 rfl rfl (laid L ((i + 1) * 5) B) X HG1.out (by rw [HXL.out]; simp only [Nat.min_def]; split <;> omega) (fun j u hj => by rw [add_none, Nat.zero_add]; exact HX2.out j u hj) (by rw [HXL.out, HLL.out]; omega) HX1.out ?_; intro w2 v2 hg2 hb2; have HG2 := hid hg2; have HB2 := hid hb2; clear hg2 hb2)
    go_ret
    refine ⟨_, rfl, ownR_row hb HG2.out HLEN.out hroom hm0 ?_ ?_, ?_⟩
    · rw [laid_len _ _ _ (by rw [HXL.out, HLL.out]; omega), HLL.out]
    · rw [HFIN.out, HCEL.out]
    · exact ((((But.refl g W).drawn 1).trans HB1'.out).trans HB2.out).grown

set_option maxHeartbeats 4000000 in
theorem Insert_grow (base : Nat) (hs : List Pl.RH) (i : Nat) (x : Pl.RH) (w : World) (g cap : Nat) (L : List Value) (hi : i < hs.length) (hbase : base ≤ w.heap.size) (hg : w.heap[g]? = some (.cells L.toArray 30 (0, 0))) (hcap : hs.length ≤ cap) (hroom : cap < hs.length + 1) (hbig : hs.length ≤ 2000000) (hx : L.take (hs.length * 5) = cellsR hs) :
    Calls Try.prog 42 #[.slice (some ⟨g, 0, none⟩) hs.length cap, .int .i64 i, .slice (some ⟨w.heap.size, 0, none⟩) 1 1] (w.alloc (rtObj x)) fun e w' =>
      ∃ v', e = .returned v' ∧ OwnR w' base v' (hs.take i ++ x :: hs.drop i) ∧ (w.alloc (rtObj x)).grownBy w' (some g) := by
  have hlt := blockLt hg
  obtain ⟨W, HW⟩ : ∃ W, Hid (W = w.alloc (rtObj x)) := ⟨_, rfl⟩
  have HG : Hid (W.heap[g]? = some (.cells L.toArray 30 (0, 0))) := hid (by rw [HW.out, Below.heap_alloc _ _ _ hlt]; exact hg)
  have HXS : Hid (∀ j u, (cellsH x)[j]? = some u → W.cell? ⟨w.heap.size, j, none⟩ = some u) := hid fun j u h => by rw [HW.out]; exact cellsH_src w x h
  have HSZ : Hid (W.heap.size = w.heap.size + 1) := hid (by rw [HW.out]; simp)
  have HFIN : Hid (∀ Z, (laid (laid (cellsR (hs.take i) ++ Z) (i * 5) (cellsH x)) ((i + 1) * 5) (cellsR (hs.drop i))).take ((hs.length + 1) * 5) = cellsR (hs.take i) ++ (cellsH x ++ cellsR (hs.drop i))) := hid fun Z => laid_new Z (cellsR (hs.take i)) (cellsR (hs.drop i)) (cellsH x) hs.length i (by rw [cellsR_len]; simp; omega) (by rw [cellsR_len]; simp) rfl hi
  have HBL : Hid ((cellsR (hs.drop i)).length = (hs.length - i) * 5) := hid (by rw [cellsR_len]; simp)
  have HAL : Hid ((cellsR (hs.take i)).length = i * 5) := hid (by rw [cellsR_len]; simp; omega)
  have HBS : Hid (∀ j u, (cellsR (hs.drop i))[j]? = some u → L[i * 5 + j]? = some u) := hid fun j u hj => by
    have h1 : (cellsR hs)[i * 5 + j]? = some u := by
      rw [cellsR_cut hs i, List.getElem?_append_right (by rw [cellsR_len]; simp; omega), cellsR_len]
      simpa [show min i hs.length = i by omega] using hj
    rw [← hx, List.getElem?_take] at h1
    split at h1
    · exact h1
    · cases h1
  have HAS : Hid (∀ j u, (cellsR (hs.take i))[j]? = some u → L[j]? = some u) := hid fun j u hj => by
    have h0 : j < (cellsR (hs.take i)).length := (List.getElem?_eq_some_iff.1 hj).1
    have h1 : (cellsR hs)[j]? = some u := by
      rw [cellsR_cut hs i, List.getElem?_append_left h0]
      exact hj
    rw [← hx, List.getElem?_take] at h1
    split at h1
    · exact h1
    · cases h1
  have HB1 := hid (cellsR_one (hs.drop i))
  have HX1 : Hid (∀ u ∈ cellsH x, u.oneCell' = true) := hid (by have := cellsR_one [x]; simpa [cellsR] using this)
  rw [← HW.out]
  have HLEN : Hid ((hs.take i ++ x :: hs.drop i).length = hs.length + 1) := hid (by simp; omega)
  have HCEL : Hid (cellsR (hs.take i ++ x :: hs.drop i) = cellsR (hs.take i) ++ (cellsH x ++ cellsR (hs.drop i))) := hid (by rw [cellsR_append]; rfl)
  obtain ⟨ns, HNS⟩ : ∃ l, Hid (hs.take i ++ x :: hs.drop i = l) := ⟨_, rfl⟩
  rw [HNS.out] at HLEN HCEL ⊢
  obtain ⟨B, HBB⟩ : ∃ l, Hid (cellsR (hs.drop i) = l) := ⟨_, rfl⟩
  rw [HBB.out] at HFIN HBL HBS HB1 HCEL
  obtain ⟨A, HAA⟩ : ∃ l, Hid (cellsR (hs.take i) = l) := ⟨_, rfl⟩
  rw [HAA.out] at HFIN HCEL HAL HAS
  obtain ⟨X, HXX⟩ : ∃ l, Hid (cellsH x = l) := ⟨_, rfl⟩
  have HXL : Hid (X.length = 5) := hid (by rw [← HXX.out]; rfl)
  rw [HXX.out] at HFIN HXS HX1 HCEL
  obtain ⟨VB, HVB⟩ : ∃ n, Hid (w.heap.size = n) := ⟨_, rfl⟩
  rw [HVB.out] at HXS hlt HSZ hbase ⊢
  clear hg hx HBB HAA HXX HNS
  obtain ⟨n, HN⟩ : ∃ n, Hid (hs.length = n) := ⟨_, rfl⟩
  rw [HN.out] at hi hroom hcap hbig HFIN HBL HLEN ⊢
  have hi1 : ¬ ((i : Int) = (n : Int)) := by omega
  have hi2 : (i : Int) ≤ (n : Int) := by omega
  have hi3 : ¬ (cap = i) := by omega
  have hrm : (cap : Int) < (n : Int) + 1 := by omega
  have hie : ((i : Int) == (n : Int)) = false := by simpa using hi1
  have hw1 : IntKind.i64.wrap ((n : Int) + 1) = (n : Int) + 1 := by rw [IntKind.wrap_i64]; omega
  have hw2 : IntKind.i64.wrap ((i : Int) + 1) = (i : Int) + 1 := by rw [IntKind.wrap_i64]; omega
  have hwk : (n : Int) + 1 - (i : Int) = ((n + 1 - i : Nat) : Int) := by omega
  go_enter Try.func42, Try.ntmps42
  go_wp2_with (first
    | (at_builtin; refine wpList_zeros rfl (.tmp 34) (.tmp 39) rfl g i cap (n + 1 - i) rfl _ rfl rfl A HAL.out (fun j u hj => row_cell HG.out (HAS.out j u hj)) (by omega) (by omega) (by omega) ?_; intro w1 G Z hg1 hz1 hG1 hG2 hb1; rw [show i + (n + 1 - i) = n + 1 by omega] at hG1 ⊢; have HG1 := hid hg1; have HZ1 := hid hz1; have HGM := hid hG2; have HB1' := hid hb1; have HX2 : Hid (∀ j u, X[j]? = some u → w1.cell? ⟨VB, j, none⟩ = some u) := hid (fun j u hj => (hb1.cell (p := ⟨VB, j, none⟩) (by show VB < W.heap.size; rw [HSZ.out]; omega)).trans (HXS.out j u hj)); have hgi : ¬ G = i := (by omega); have hgi1 : ¬ G = i + 1 := (by omega); clear hg1 hz1 hG2 hb1)
    | (refine wpList_copyR rfl (.tmp 43) (.tmp 44) rfl W.heap.size (i * 5) (n + 1 - i) (G - i) ⟨VB, 0, none⟩ 1 1 rfl rfl (A ++ Z) X HG1.out (by rw [HXL.out]; simp only [Nat.min_def]; split <;> omega) (fun j u hj => by rw [add_none, Nat.zero_add]; exact HX2.out j u hj) (by rw [HXL.out, List.length_append, HZ1.out]; omega) HX1.out ?_; intro w2 v2 hg2 hb2; have HG2 := hid hg2; have HB2 := hid hb2; clear hg2 hb2))
  have hw3 : ((i : Int) + 1).toNat = i + 1 := by omega
  have hw4 : (0 : Int) ≤ (i : Int) + 1 := by omega
  have hw6 : (i : Int) ≤ (n : Int) := by omega
  have HL2 : Hid ((laid (A ++ Z) (i * 5) X).length = G * 5) := hid (by rw [laid_len _ _ _ (by rw [HXL.out, List.length_append, HZ1.out]; omega), List.length_append, HZ1.out])
  have HGG : Hid (w2.heap[g]? = some (.cells L.toArray 30 (0, 0))) := hid (by
    have e1 := HB2.out.block g (by have := HB1'.out.size; rw [HSZ.out] at this; omega) (by rw [HSZ.out]; omega)
    have e2 := HB1'.out.block g (by rw [HSZ.out]; omega)
    rw [e1, e2]; exact HG.out)
  go_region_law (refine step_copyR rfl (.tmp 50) (.tmp 53) rfl W.heap.size ((i + 1) * 5) (n - i) (G - (i + 1)) ⟨g, i * 5, none⟩ (n - i) (cap - i) (by simp [Act.eval, Act.put]) (by simp [Act.eval, Act.put]) (laid (A ++ Z) (i * 5) X) B HG2.out (by rw [HBL.out]; congr 1; simp only [Nat.min_def]; split <;> omega) (fun j u hj => by rw [add_none]; exact row_cell HGG.out (HBS.out j u hj)) (by rw [HBL.out, HL2.out]; omega) HB1.out ?_; intro w3 v3 hg3 hb3; have HG3 := hid hg3; have HB3 := hid hb3; clear hg3 hb3)
  all_goals
    go_wp2_with fail
    go_ret
    refine ⟨_, rfl, ownR_row (by rw [HSZ.out]; omega) HG3.out HLEN.out hG1 HGM.out ?_ ?_, ?_⟩
    · rw [laid_len _ _ _ (by rw [HBL.out, HL2.out]; omega), HL2.out]
    · rw [HFIN.out, HCEL.out]
    · refine grown_below ?_
      exact (HB1'.out.trans (HB2.out.below (Nat.le_refl _) HB1'.out.size)).trans (((((But.refl W.heap.size w2).drawn 1).trans HB3.out)).below (Nat.le_refl _) (Nat.le_trans HB1'.out.size HB2.out.size))

theorem Insert_any (base : Nat) (v : Value) (hs : List Pl.RH) (i : Nat) (x : Pl.RH) (w : World) (hown : OwnR w base v hs) (hbase : base ≤ w.heap.size) (hb : hs.length ≤ 2000000) (hi : i ≤ hs.length) :
    Calls Try.prog 42 #[v, .int .i64 i, .slice (some ⟨w.heap.size, 0, none⟩) 1 1] (w.alloc (rtObj x)) fun e w' =>
      ∃ v', e = .returned v' ∧ OwnR w' base v' (hs.take i ++ x :: hs.drop i) ∧ (w.alloc (rtObj x)).grownBy w' v.ownBlock := by
  rcases Nat.lt_or_ge i hs.length with h | h
  · obtain ⟨g, cap, L, rfl, hbg, hg, hn, hm, hL, hx⟩ := hown.row (by omega)
    rcases Nat.lt_or_ge cap (hs.length + 1) with hc | hc
    · exact Insert_grow base hs i x w g cap L h hbase hg hn hc hb hx
    · exact Insert_room base hs i x w g cap L h hbg hg hc hm hL hx
  · obtain rfl : i = hs.length := by omega
    rw [List.take_of_length_le (Nat.le_refl _), List.drop_of_length_le (Nat.le_refl _)]
    exact (Insert_end base v hs x w hown hbase hb).mono fun e w' ⟨v', h1, h2, h3, _⟩ => ⟨v', h1, h2, h3⟩
end Go.Proofs.Ytcdobhdbafpkiae
