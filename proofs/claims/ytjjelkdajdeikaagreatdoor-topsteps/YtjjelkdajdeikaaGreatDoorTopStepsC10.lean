/-
  Contracts and facts that the proof rests on, put together out of several texts.
-/
import Derived.Test.YtjjelkdajdeikaaGreatDoorTopStepsC8
import Derived.Test.YtjjelkdajdeikaaGreatDoorTopStepsC7
import Derived.Test.YtjjelkdajdeikaaGreatDoorShelfB
import Derived.Lib.SlicesCompact
import Derived.Sort.Grow
import Derived.Test.YtjjelkdajdeikaaGreatDoorTopStepsC1
import Derived.Test.YtjjelkdajdeikaaGreatDoorTopStepsC6
import Derived.Test.YtjjelkdajdeikaaGreatDoorTopStepsC4
import Derived.Test.YtjjelkdajdeikaaGreatDoorTopStepsC3
import Derived.Test.YtjjelkdajdeikaaGreatDoorTopStepsC2
import Derived.Laws.Cover3
/-
  Contracts: slices.Grow and slices.Concat over numbers; hops of two routes put together (unite).
-/
namespace Go.Proofs.YtjjelkdajdeikaaGreatDoor
open Go.RowKit
set_option maxRecDepth 20000

/-! what slices.Sort and slices.Compact leave in a row of one's own -/
theorem put_heap {w : World} {g : Nat} {cur : Array Value} {T : TypeId} (hg : w.heap[g]? = some (.cells cur T (0, 0))) (d : Array Int) (n : Nat) (os : Array Obj) :
    (Go.Sort.grow (Go.Sort.putRow (Value.int .i64) (Go.Sort.ahead w n) g 0 d) os).heap[g]? = some (.cells (Go.Sort.putCells (Value.int .i64) 0 d cur) T (0, 0)) := by
  have hlt := blockLt hg
  unfold Go.Sort.grow Go.Sort.putRow Go.Sort.mapBlock
  show ((w.heap.modify g _) ++ os)[g]? = _
  rw [Array.getElem?_append_left (by simpa using hlt), Array.getElem?_modify, if_pos rfl, hg]
  rfl
theorem put_but {w : World} {g : Nat} (d : Array Int) (n : Nat) (os : Array Obj) : But g w (Go.Sort.grow (Go.Sort.putRow (Value.int .i64) (Go.Sort.ahead w n) g 0 d) os) := by
  refine ⟨rfl, rfl, rfl, ?_, fun k hk hne => ?_⟩
  · show _ ≤ ((w.heap.modify g _) ++ os).size
    simp
  · show ((w.heap.modify g _) ++ os)[k]? = _
    rw [Array.getElem?_append_left (by simpa using hk), Array.getElem?_modify, if_neg (Ne.symm hne)]
theorem put_take (d : Array Int) (cur : Array Value) (h : d.size ≤ cur.size) : (Go.Sort.putCells (Value.int .i64) 0 d cur).toList.take d.size = cellsZ d.toList := by
  apply List.ext_getElem?
  intro i
  rw [List.getElem?_take]
  by_cases hi : i < d.size
  · rw [if_pos hi, Array.getElem?_toList]
    simp [Go.Sort.putCells, cellsZ, hi, show i < cur.size by omega]
  · rw [if_neg hi]
    simp [cellsZ, show d.size ≤ i by omega]
theorem put_size (d : Array Int) (cur : Array Value) : (Go.Sort.putCells (Value.int .i64) 0 d cur).size = cur.size := by simp [Go.Sort.putCells]
theorem ownZ_row {w : World} {base g cap : Nat} {cur : Array Value} {xs : List Int} (hb : base ≤ g) (hg : w.heap[g]? = some (.cells cur 3 (0, 0))) (hc : xs.length ≤ cap) (hm : cap ≤ maxLen) (hs : cur.size = cap) (hx : cur.toList.take xs.length = cellsZ xs) : OwnZ w base (.slice (some ⟨g, 0, none⟩) xs.length cap) xs :=
  ⟨by simp [cellsZ], .inr ⟨g, cap, cur, rfl, hb, hg, hc, hm, by simpa using hs, by simpa using hx⟩⟩
theorem OwnZ.row {w : World} {base : Nat} {v : Value} {xs : List Int} (h : OwnZ w base v xs) (hne : xs ≠ []) :
    ∃ g cap cur, v = .slice (some ⟨g, 0, none⟩) xs.length cap ∧ base ≤ g ∧ w.heap[g]? = some (.cells cur 3 (0, 0)) ∧ xs.length ≤ cap ∧ cap ≤ maxLen ∧ cur.size = cap ∧ cur.toList.take xs.length = cellsZ xs := by
  obtain ⟨_, ⟨h, h1⟩ | ⟨g, cap, cur, rfl, hb, hh, hn, hm, hs, hx⟩⟩ := h
  · exact absurd (List.length_eq_zero_iff.1 h1) hne
  · exact ⟨g, cap, cur, rfl, hb, hh, hn, hm, by simpa using hs, by simpa using hx⟩
theorem holdsZ {w : World} {g : Nat} {cur : Array Value} {xs : List Int} (hg : w.heap[g]? = some (.cells cur 3 (0, 0))) (hx : cur.toList.take xs.length = cellsZ xs) : Go.Sort.Holds (Value.int .i64) w g 0 xs.toArray := by
  intro j hj
  have hj' : j < xs.length := by simpa using hj
  have h1 : (cellsZ xs)[j]? = some (.int .i64 xs[j]) := by simp [cellsZ, hj']
  rw [← hx, List.getElem?_take, if_pos hj', Array.getElem?_toList] at h1
  refine ⟨?_, ?_⟩
  · rw [Nat.zero_add]
    simp [World.cell?, hg, h1, hj']
  · rw [Nat.zero_add]
    simp [World.frozen?, hg]

/-! what compacting a rising list gives -/
theorem Pl.compact_spec (d : Array Int) (hd : ∀ i j, i < j → j < d.size → d[i]! ≤ d[j]!) : ∀ m, m ≤ d.size → (Lib.compactUpTo d m).Pairwise (· < ·) ∧ (∀ x, x ∈ Lib.compactUpTo d m ↔ ∃ j, j < m ∧ d[j]! = x)
  | 0, _ => by
    have e : Lib.compactUpTo d 0 = [] := rfl
    rw [e]; simp
  | m + 1, h => by
    obtain ⟨h1, h2⟩ := Pl.compact_spec d hd m (by omega)
    rw [Lib.compactUpTo_succ]
    by_cases k : Lib.keeps d m = true
    · rw [if_pos k]
      refine ⟨List.pairwise_append.2 ⟨h1, by simp, fun x hx y hy => ?_⟩, fun x => ?_⟩
      · obtain ⟨j, hj, rfl⟩ := (h2 x).1 hx
        simp only [List.mem_singleton] at hy
        subst hy
        have hne : d[m]! ≠ d[m - 1]! := by
          unfold Lib.keeps at k
          simp only [decide_eq_true_eq] at k
          rcases k with k | k
          · omega
          · exact k
        have a1 : d[j]! ≤ d[m - 1]! := by
          rcases Nat.lt_or_ge j (m - 1) with g | g
          · exact hd j (m - 1) g (by omega)
          · rw [show j = m - 1 by omega]; exact Int.le_refl _
        have a2 := hd (m - 1) m (by omega) (by omega)
        omega
      · rw [List.mem_append, h2, List.mem_singleton]
        constructor
        · rintro (⟨j, hj, e⟩ | e)
          · exact ⟨j, by omega, e⟩
          · exact ⟨m, by omega, e.symm⟩
        · rintro ⟨j, hj, e⟩
          rcases Nat.lt_or_ge j m with g | g
          · exact .inl ⟨j, g, e⟩
          · rw [show j = m by omega] at e; exact .inr e.symm
    · rw [if_neg k, List.append_nil]
      refine ⟨h1, fun x => ?_⟩
      rw [h2]
      have hk : ¬ (m = 0 ∨ d[m]! ≠ d[m - 1]!) := by
        unfold Lib.keeps at k
        simpa using k
      constructor
      · rintro ⟨j, hj, e⟩; exact ⟨j, by omega, e⟩
      · rintro ⟨j, hj, e⟩
        rcases Nat.lt_or_ge j m with g | g
        · exact ⟨j, g, e⟩
        · have hm : j = m := by omega
          subst hm
          refine ⟨j - 1, by omega, ?_⟩
          rw [← e]
          exact (Decidable.byContradiction fun q => hk (.inr q)).symm
theorem compact_le (zs : List Int) : (Lib.compact zs).length ≤ zs.length := by
  unfold Lib.compact Lib.compactUpTo
  rw [List.length_map]
  exact Nat.le_trans (List.length_filter_le _ _) (by simp)
theorem Pl.unite_sort (xs ys : List Int) (hx : ∀ x ∈ xs, 0 ≤ x ∧ x ≤ 11) (hy : ∀ y ∈ ys, 0 ≤ y ∧ y ≤ 11) : Lib.compact ((xs ++ ys).mergeSort fun x y => decide (x ≤ y)) = Pl.unite xs ys := by
  have hp : ((xs ++ ys).mergeSort fun x y => decide (x ≤ y)).Perm (xs ++ ys) := List.mergeSort_perm _ _
  have hs : ((xs ++ ys).mergeSort fun x y => decide (x ≤ y)).Pairwise (fun x y => decide (x ≤ y) = true) := by
    refine List.pairwise_mergeSort ?_ ?_ _
    · intro a b c h1 h2; simp only [decide_eq_true_eq] at *; omega
    · intro a b; simp only [Bool.or_eq_true, decide_eq_true_eq]; omega
  generalize ((xs ++ ys).mergeSort fun x y => decide (x ≤ y)) = zs at *
  have hd : ∀ i j, i < j → j < zs.toArray.size → zs.toArray[i]! ≤ zs.toArray[j]! := by
    intro i j hij hj
    have hj' : j < zs.length := by simpa using hj
    have := List.pairwise_iff_getElem.1 hs i j (by omega) hj' hij
    simp only [decide_eq_true_eq] at this
    simpa [getElem!_pos, hj', show i < zs.length by omega] using this
  obtain ⟨h1, h2⟩ := Pl.compact_spec zs.toArray hd zs.length (by simp)
  refine Pl.up_ext h1 (Pl.hopsL_up _ _) fun x => ?_
  rw [show (x ∈ Pl.unite xs ys) = (x ∈ xs ∨ x ∈ ys) from propext (Pl.mem_unite hx hy), ← List.mem_append, ← hp.mem_iff]
  show x ∈ Lib.compactUpTo zs.toArray zs.length ↔ _
  rw [h2]
  constructor
  · rintro ⟨j, hj, e⟩
    rw [← e]
    simp [getElem!_pos, hj]
  · intro hm
    obtain ⟨j, hj, e⟩ := List.getElem_of_mem hm
    exact ⟨j, hj, by simp [getElem!_pos, hj, e]⟩

/-! growing and appending -/
theorem append_moreI {w : World} {ops : Array Oper} {rest : List Oper} {o : Oper} {a : Act} {Q : Exit → Act → World → Prop} (hgd : o.guard = none) (s x : Operand)
    (ho : o.op = .call { callee := .builtin .append, args := #[s, x], argTypes := #[37, 37] })
    (base : Nat) (v : Value) (xs : List Int) (hown : OwnZ w base v xs) (hbase : base ≤ w.heap.size) (ao : Option Addr) (len cap : Nat) (zs : List Int) (hs : a.eval s = v) (hx : a.eval x = .slice ao len cap) (hE : IsInts w ao len cap zs) (hb : len ≤ 1000) (hb2 : xs.length ≤ 1000)
    (h : ∀ v' w', OwnZ w' base v' (xs ++ zs) → Below base w w' → wpList Tryz.prog ops Q rest (a.put o.dst v') w') : wpList Tryz.prog ops Q (o :: rest) a w := by
  obtain ⟨i0, hi0, hz0, hz1, hz2⟩ := info_parts infoZ
  obtain ⟨hl, hc, hm, hnil, hrow⟩ := hE
  have hlt := World.ownsRow.lt hown
  rcases ao with _ | ad
  · obtain rfl := hnil rfl
    obtain rfl : len = 0 := by omega
    obtain rfl : zs = [] := List.length_eq_zero_iff.1 hl
    rw [List.append_nil] at h
    exact wpList_append_own_none hgd s x 37 ho base 3 i0 1 Tryz.underlying37 hi0 _ xs.length (cellsZ xs) hs hown hx (h _ _ hown (Below.refl _ _))
  · refine wpList_append_own (w := w) hgd s x 37 ho base 3 i0 _ 1 8 Tryz.underlying37 hi0 hz0 hz1 hz2 rfl (by decide) _ xs.length (cellsZ xs) hs hown ad len cap (cellsZ zs) hx (by simp [cellsZ, hl]) ?_ (cellsZ_one _) (by unfold maxLen; omega) (by omega) hbase ?_
    · intro j u hj
      obtain ⟨hj1, rfl⟩ := cellsZ_get hj
      rcases hrow with rfl | ⟨b, off, hba, _, hr⟩
      · simp at hj1
      · cases hba
        rw [add_none]
        exact hr j hj1
    · intro v' w' hown' hg _
      refine h v' w' ?_ ((Below.refl _ _).grown hg hbase (fun k hk => (hlt k hk).1))
      unfold OwnZ
      rw [List.length_append, hl]
      simpa [cellsZ] using hown'
theorem wpList_zerosI {w : World} {ops : Array Oper} {rest : List Oper} {o : Oper} {a : Act} {Q : Exit → Act → World → Prop} (hgd : o.guard = none) (s x : Operand)
    (ho : o.op = .call { callee := .builtin .append, args := #[s, x], argTypes := #[37, 3] })
    (k : Nat) (hs : a.eval s = .slice none 0 0) (hx : a.eval x = .int .i64 (k : Int)) (h0 : 0 < k) (hbig : k ≤ 1000)
    (h : ∀ w' G cur, w'.heap[w.heap.size]? = some (.cells cur 3 (0, 0)) → cur.size = G → k ≤ G → G ≤ maxLen → Below w.heap.size w w' → wpList Tryz.prog ops Q rest (a.put o.dst (.slice (some ⟨w.heap.size, 0, none⟩) k G)) w') : wpList Tryz.prog ops Q (o :: rest) a w := by
  obtain ⟨i0, hi0, hz0, hz1, hz2⟩ := info_parts infoZ
  have hold : (Builtin.firstCells i0.size 0 (.slice none 0 0)).run Tryz.prog w.drew = .ok (#[] : Array Value) w.drew := by
    rw [hz1]; rfl
  have hr := Lib.run_append_grow_zeros w 37 3 o.type 3 i0 _ .i64 .i64 Tryz.underlying37 Tryz.underlying3 hi0 hz0 none 0 0 [] hold k h0 (by omega) (by omega) (by omega) (by rw [hz2]; omega) (by rw [hz2]; exact growslice_fits (by omega) (by omega))
  have hGn := grownCap_ge w (0 + k) 0 3
  have hGm := grownCap_le_maxLen w (0 + k) 0 3 (by unfold maxLen; omega)
  generalize grownCap w (0 + k) 0 3 = G at *
  refine Lib.wpList_append_run _ hgd s x _ _ ho _ _ hs hx _ _ hr ?_
  rw [show (0 + k) = k by omega] at *
  refine h _ G _ (heapNewZ w.drew _) ?_ hGn hGm ((Below.refl _ _).drew.alloc (Nat.le_refl _) _)
  simp [Builtin.zeroCells, Value.cells]
  omega

set_option maxHeartbeats 1000000 in
theorem GrowI_nil (k : Nat) (w : World) (h0 : 0 < k) (hk : k ≤ 1000) :
    Calls Tryz.prog 208 #[.slice none 0 0, .int .i64 (k : Int)] w fun e w' => ∃ v, e = .returned v ∧ OwnZ w' w.heap.size v [] ∧ Below w.heap.size w w' := by
  have hwr : IntKind.i64.wrap ((k : Int) - 0) = (k : Int) := by rw [IntKind.wrap_i64]; omega
  have h1 : decide ((k : Int) < 0) = false := by simp
  have h2 : decide ((0 : Int) < (k : Int)) = true := by simp; omega
  go_enter Tryz.func208, Tryz.ntmps208
  go_wp2_with (at_builtin; refine wpList_zerosI rfl (.tmp 20) (.tmp 21) rfl k rfl rfl h0 hk ?_; intro w1 G cur hg1 hc1 hG1 hG2 hb1; have HG := hid hg1; have HB := hid hb1; have HC := hid hc1; clear hg1 hb1 hc1; unfold maxLen at hG2)
  go_ret
  refine ⟨_, rfl, ?_, HB.out⟩
  exact ownZ_row (xs := []) (Nat.le_refl _) HG.out (Nat.zero_le _) (by unfold maxLen; exact hG2) HC.out (by simp [cellsZ])

def Pl.cat2 (xs ys : List Int) : Nat → List Int
  | 0 => []
  | 1 => xs
  | _ => xs ++ ys
set_option maxHeartbeats 2000000 in
theorem ConcatI_any (B : Nat) (a b : Option Addr) (la ca lb cb : Nat) (xs ys : List Int) (w : World) (hB : B < w.heap.size) (c0 : w.cell? ⟨B, 0, none⟩ = some (.slice a la ca)) (c1 : w.cell? ⟨B, 1, none⟩ = some (.slice b lb cb)) (h1 : IsInts w a la ca xs) (h2 : IsInts w b lb cb ys) (hx : 0 < la) (hla : la ≤ 12) (hlb : lb ≤ 12) :
    Calls Tryz.prog 183 #[.slice (some ⟨B, 0, none⟩) 2 2] w fun e w' => ∃ v, e = .returned v ∧ OwnZ w' w.heap.size v (xs ++ ys) ∧ Below w.heap.size w w' := by
  have H1 := hid h1
  have H2 := hid h2
  have C0 := hid c0
  have C1 := hid c1
  have HLX : Hid (xs.length = la) := hid h1.1
  have HLY : Hid (ys.length = lb) := hid h2.1
  have hwa : IntKind.i64.wrap (0 + (la : Int)) = (la : Int) := by rw [IntKind.wrap_i64]; omega
  have hwb : IntKind.i64.wrap ((la : Int) + (lb : Int)) = ((la + lb : Nat) : Int) := by rw [IntKind.wrap_i64]; omega
  obtain ⟨S, hS⟩ : ∃ S, la + lb = S := ⟨_, rfl⟩
  rw [hS] at hwb
  have hna : decide ((la : Int) < 0) = false := by simp
  have hnb : decide ((S : Int) < 0) = false := by simp
  clear h1 h2 c0 c1
  go_enter Tryz.func183, Tryz.ntmps183
  go_wp2_with fail
  go_loopw [3, 11] (fun s i wr => ∃ k : Nat, k ≤ 2 ∧ i = .int .i64 k ∧ s = .int .i64 ((if k = 0 then 0 else if k = 1 then la else S : Nat) : Int) ∧ Hid (Below w.heap.size w wr)) (fun _ i _ => 2 - (intOf i).toNat)
  case atStart => exact ⟨0, by omega, rfl, rfl, hid (Below.refl _ _)⟩
  case round =>
    obtain ⟨k, hk, rfl, rfl, HB⟩ := hrel
    have d0 := (HB.out.cell (p := ⟨B, 0, none⟩) hB).trans C0.out
    have d1 := (HB.out.cell (p := ⟨B, 1, none⟩) hB).trans C1.out
    have hBr : B < wr.heap.size := Nat.lt_of_lt_of_le hB HB.out.size
    have hcs : k = 0 ∨ k = 1 ∨ k = 2 := by omega
    rcases hcs with rfl | rfl | rfl
    · go_wp2_with fail
      go_roundw
      case rel => exact ⟨1, by omega, by go_num, rfl, HB⟩
      case measure => simp [intOf]
    · go_wp2_with fail
      go_roundw
      case rel => exact ⟨2, by omega, by go_num, rfl, HB⟩
      case measure => simp [intOf]
    · go_wp2_with fail
      refine (GrowI_nil S wr (by omega) (by omega)).mono ?_
      rintro e w1 ⟨v1, rfl, ho1, hb1⟩
      have HO1 := hid (ho1.mono HB.out.size)
      have HB1 : Hid (Below w.heap.size w w1) := hid (HB.out.trans (hb1.mono HB.out.size))
      clear ho1 hb1
      go_wp2_with fail
      go_loopw [6, 27] (fun v i wr => ∃ k : Nat, k ≤ 2 ∧ i = .int .i64 k ∧ Hid (OwnZ wr w.heap.size v (Pl.cat2 xs ys k)) ∧ Hid (Below w.heap.size w wr)) (fun _ i _ => 2 - (intOf i).toNat)
      case atStart => exact ⟨0, by omega, rfl, HO1, HB1⟩
      case round =>
        obtain ⟨k, hk, rfl, HO, HBk⟩ := hrel
        rename World => wk
        have d0 := (HBk.out.cell (p := ⟨B, 0, none⟩) hB).trans C0.out
        have d1 := (HBk.out.cell (p := ⟨B, 1, none⟩) hB).trans C1.out
        have hBk : B < wk.heap.size := Nat.lt_of_lt_of_le hB HBk.out.size
        have hcs : k = 0 ∨ k = 1 ∨ k = 2 := by omega
        rcases hcs with rfl | rfl | rfl
        · go_wp2_with (at_builtin; refine append_moreI rfl (.tmp 31) (.tmp 32) rfl w.heap.size _ [] HO.out HBk.out.size a la ca xs rfl rfl (H1.out.below HBk.out) (by omega) (by simp) ?_; intro v2 w2 ho2 hb2; have HO2 := hid ho2; have HB2 := hid hb2; clear ho2 hb2)
          go_roundw
          case rel => exact ⟨1, by omega, by go_num, HO2, hid (HBk.out.trans HB2.out)⟩
          case measure => simp [intOf]
        · go_wp2_with (at_builtin; refine append_moreI rfl (.tmp 31) (.tmp 32) rfl w.heap.size _ xs HO.out HBk.out.size b lb cb ys rfl rfl (H2.out.below HBk.out) (by omega) (by have := HLX.out; omega) ?_; intro v2 w2 ho2 hb2; have HO2 := hid ho2; have HB2 := hid hb2; clear ho2 hb2)
          go_roundw
          case rel => exact ⟨2, by omega, by go_num, HO2, hid (HBk.out.trans HB2.out)⟩
          case measure => simp [intOf]
        · go_wp2_with fail
          go_ret
          exact ⟨_, rfl, HO.out, HBk.out⟩
end Go.Proofs.YtjjelkdajdeikaaGreatDoor
/-
  Contract: hops of two routes put together (unite).
-/
namespace Go.Proofs.YtjjelkdajdeikaaGreatDoor
open Go.RowKit
set_option maxRecDepth 20000

set_option maxHeartbeats 8000000 in
theorem unite_any (a b : Option Addr) (la ca lb cb : Nat) (xs ys : List Int) (w : World) (h1 : IsInts w a la ca xs) (h2 : IsInts w b lb cb ys) (hx : 0 < la) (hla : la ≤ 12) (hlb : lb ≤ 12) (rx : ∀ x ∈ xs, 0 ≤ x ∧ x ≤ 11) (ry : ∀ y ∈ ys, 0 ≤ y ∧ y ≤ 11) :
    Calls Tryz.prog 155 #[.slice a la ca, .slice b lb cb] w fun e w' => ∃ v, e = .returned v ∧ OwnZ w' w.heap.size v (Pl.unite xs ys) ∧ Below w.heap.size w w' := by
  have HAL : Hid (Below w.heap.size w (w.alloc (.cells #[.slice a la ca, .slice b lb cb] 37))) := hid ((Below.refl _ _).alloc (Nat.le_refl _) _)
  have HCC := hid (ConcatI_any w.heap.size a b la ca lb cb xs ys (w.alloc (.cells #[.slice a la ca, .slice b lb cb] 37)) (by simp) (by simp) (by simp) (h1.below HAL.out) (h2.below HAL.out) hx hla hlb)
  have HNE : Hid (xs ++ ys ≠ []) := hid (by intro e; have := h1.1; rw [(List.append_eq_nil_iff.1 e).1] at this; simp at this; omega)
  have HLN : Hid ((xs ++ ys).length = la + lb) := hid (by rw [List.length_append, h1.1, h2.1])
  have HUS := hid (Pl.unite_sort xs ys rx ry)
  obtain ⟨U, HUU⟩ : ∃ U, Hid (Pl.unite xs ys = U) := ⟨_, hid rfl⟩
  rw [HUU.out] at HUS ⊢
  clear h1 h2
  go_enter Tryz.func155, Tryz.ntmps155
  go_wp2_with fail
  refine HCC.out.mono ?_
  rintro e w1 ⟨v1, rfl, ho1, hb1⟩
  obtain ⟨g, cap, cur, rfl, hbg, hg, hn, hm, hs, ht⟩ := ho1.row HNE.out
  have HG := hid hg
  have HT := hid ht
  have HS := hid hs
  have HM := hid hm
  have hgl := blockLt hg
  have HBG : Hid (w.heap.size ≤ g) := hid (by have := hbg; simp at this; omega)
  have HB1 : Hid (Below w.heap.size w w1) := hid (HAL.out.trans (hb1.mono HAL.out.size))
  have HHO := hid (holdsZ hg ht)
  obtain ⟨zs, HZ⟩ : ∃ zs, Hid (xs ++ ys = zs) := ⟨_, hid rfl⟩
  rw [HZ.out] at HLN HNE HHO HT hn HUS ⊢
  clear ho1 hb1 hg ht hs hm hbg
  go_wp2_with fail
  refine (Tryz.slices_Sort_int g 0 cap zs w1 HHO.out hgl (by have := HLN.out; omega)).mono ?_
  rintro e w2 ⟨rfl, n2, os2, hw2⟩
  have HG2 : Hid (w2.heap[g]? = some (.cells (Go.Sort.putCells (Value.int .i64) 0 (zs.mergeSort fun x y => decide (x ≤ y)).toArray cur) 3 (0, 0))) := hid (by rw [hw2]; exact put_heap HG.out _ _ _)
  have HU2 : Hid (But g w1 w2) := hid (by rw [hw2]; exact put_but _ _ _)
  clear hw2
  have hgl2 : g < w2.heap.size := Nat.lt_of_lt_of_le hgl HU2.out.size
  have HL2 : Hid ((zs.mergeSort fun x y => decide (x ≤ y)).length = zs.length) := hid (by simp)
  have HT2 := hid (put_take (zs.mergeSort fun x y => decide (x ≤ y)).toArray cur (by simp only [List.size_toArray]; rw [HL2.out, HS.out]; exact hn))
  have HS2 := hid ((put_size (zs.mergeSort fun x y => decide (x ≤ y)).toArray cur).trans HS.out)
  obtain ⟨ms, HMS⟩ : ∃ ms, Hid ((zs.mergeSort fun x y => decide (x ≤ y)) = ms) := ⟨_, hid rfl⟩
  rw [HMS.out] at HG2 HL2 HT2 HS2 HUS
  obtain ⟨cur2, HC2⟩ : ∃ c, Hid (Go.Sort.putCells (Value.int .i64) 0 ms.toArray cur = c) := ⟨_, hid rfl⟩
  rw [HC2.out] at HG2 HT2 HS2
  have HT2' : Hid (cur2.toList.take ms.length = cellsZ ms) := hid (by simpa using HT2.out)
  have HH2 := hid (holdsZ HG2.out HT2'.out)
  rw [← HL2.out]
  go_wp2_with fail
  refine (Tryz.slices_Compact_int g 0 cap ms w2 HH2.out (by have := HL2.out; have := HLN.out; omega) (by have := HL2.out; omega)).mono ?_
  rw [HUS.out]
  rintro e w3 ⟨rfl, n3, hw3⟩
  have HUL : Hid (U.length ≤ ms.length) := hid (by have := compact_le ms; rwa [HUS.out] at this)
  have HG3 : Hid (w3.heap[g]? = some (.cells (Go.Sort.putCells (Value.int .i64) 0 (U ++ List.replicate (ms.length - (U).length) 0).toArray cur2) 3 (0, 0))) := hid (by
    rw [hw3]
    have := put_heap HG2.out (U ++ List.replicate (ms.length - (U).length) 0).toArray n3 #[]
    rwa [Go.Sort.grow_empty] at this)
  have HU3 : Hid (But g w2 w3) := hid (by
    rw [hw3]
    have := put_but (w := w2) (g := g) (U ++ List.replicate (ms.length - (U).length) 0).toArray n3 #[]
    rwa [Go.Sort.grow_empty] at this)
  have HT3 := hid (put_take (U ++ List.replicate (ms.length - (U).length) 0).toArray cur2 (by have := HUL.out; have := HL2.out; rw [HS2.out]; simp; omega))
  have HS3 := hid ((put_size (U ++ List.replicate (ms.length - (U).length) 0).toArray cur2).trans HS2.out)
  clear hw3
  go_wp2_with fail
  go_ret
  refine ⟨_, rfl, ownZ_row HBG.out HG3.out (by have := HUL.out; have := HL2.out; omega) HM.out HS3.out ?_, ?_⟩
  · have h := HT3.out
    have hsz : (U ++ List.replicate (ms.length - (U).length) 0).toArray.size = ms.length := by have := HUL.out; simp; omega
    rw [hsz] at h
    have h2 := congrArg (List.take (U).length) h
    rw [List.take_take, Nat.min_eq_left HUL.out] at h2
    rw [h2]
    simp [cellsZ]
  · exact HB1.out.trans ((HU2.out.trans HU3.out).below HBG.out HB1.out.size)
end Go.Proofs.YtjjelkdajdeikaaGreatDoor
/-
  Contract: the best of two routes (best).
-/
namespace Go.Proofs.YtjjelkdajdeikaaGreatDoor
open Go.RowKit
set_option maxRecDepth 20000

theorem Pl.hopsB_le12 {l : List Int} (h : Pl.hopsB l = true) : l.length ≤ 12 := by
  have key : ∀ k, k < l.length → (k : Int) ≤ Pl.nm l k := by
    intro k
    induction k with
    | zero => intro hk; have := Pl.hopsB_at h 0 hk; rw [Pl.hopB_zero] at this; simp at this; exact this.1
    | succ k ih =>
      intro hk
      have h1 := ih (by omega)
      have h2 := Pl.hopsB_at h (k + 1) hk
      rw [Pl.hopB_succ] at h2
      simp at h2
      omega
  rcases Nat.lt_or_ge 12 l.length with g | g
  · have h1 := key 12 g
    have h2 := Pl.hopsB_range h _ (List.getElem_mem g)
    rw [← Pl.nm_eq l 12 g] at h2
    omega
  · exact g
theorem bx5 {w : World} {b : Nat} {c0 c1 c2 c3 c4 : Value} {T : TypeId} (h : w.heap[b]? = some (.cells #[c0, c1, c2, c3, c4] T)) :
    (w.cell? ⟨b, 0, none⟩ = some c0 ∧ w.cell? ⟨b, 1, none⟩ = some c1 ∧ w.cell? ⟨b, 2, none⟩ = some c2 ∧ w.cell? ⟨b, 3, none⟩ = some c3 ∧ w.cell? ⟨b, 4, none⟩ = some c4) ∧ (∀ o, w.frozen? ⟨b, o, none⟩ = false) ∧ b < w.heap.size := by
  refine ⟨⟨?_, ?_, ?_, ?_, ?_⟩, fun o => ?_, blockLt h⟩
  iterate 5 simp [World.cell?, h]
  simp [World.frozen?, h]
theorem three {w : World} (A B C : Obj) : ((((w.alloc A).alloc B).alloc C).heap[w.heap.size]? = some A) ∧ ((((w.alloc A).alloc B).alloc C).heap[w.heap.size + 1]? = some B) ∧ ((((w.alloc A).alloc B).alloc C).heap[w.heap.size + 2]? = some C) ∧ (((w.alloc A).alloc B).alloc C).heap.size = w.heap.size + 3 ∧ Below w.heap.size w (((w.alloc A).alloc B).alloc C) := by
  have e1 : (w.alloc A).heap.size = w.heap.size + 1 := by simp
  have e2 : ((w.alloc A).alloc B).heap.size = w.heap.size + 2 := by simp
  refine ⟨?_, ?_, ?_, by simp, (((Below.refl _ _).alloc (Nat.le_refl _) _).alloc (by simp) _).alloc (by simp; omega) _⟩
  · rw [Below.heap_alloc _ _ _ (by simp; omega), Below.heap_alloc _ _ _ (by simp)]; exact heapNewZ w A
  · rw [Below.heap_alloc _ _ _ (by simp)]
    have := heapNewZ (w.alloc A) B
    rwa [e1] at this
  · have := heapNewZ ((w.alloc A).alloc B) C
    rwa [e2] at this

set_option maxHeartbeats 4000000 in
theorem best_any (base : Nat) (g h : Pl.RH) (r s : Pl.Rt) (w : World) (hg : ReadsZ w base g r) (hh : ReadsZ w base h s) (hb : base ≤ w.heap.size) (hr : Pl.hopsB r.hops = true) (hs : Pl.hopsB s.hops = true) (hne : s.cost = r.cost → r.hops ≠ []) :
    Calls Tryz.prog 107 #[.agg #[.int .i64 g.p.1, .int .i64 g.p.2, .bool g.here, .int .i64 g.cost, .slice g.ha g.hl g.hc], .agg #[.int .i64 h.p.1, .int .i64 h.p.2, .bool h.here, .int .i64 h.cost, .slice h.ha h.hl h.hc]] w fun e w' =>
      ∃ k : Pl.RH, e = .returned (.agg #[.int .i64 k.p.1, .int .i64 k.p.2, .bool k.here, .int .i64 k.cost, .slice k.ha k.hl k.hc]) ∧ ReadsZ w' base k (Pl.bestR r s) ∧ Below w.heap.size w w' := by
  have HG := hid hg
  have HH := hid hh
  have HGC : Hid (g.cost = r.cost) := hid hg.2.2.1
  have HHC : Hid (h.cost = s.cost) := hid hh.2.2.1
  have HGL : Hid (g.hl = r.hops.length) := hid (by
    obtain ⟨a, cap, e, _, _⟩ := hg.2.2.2.1.ints
    simp only [Value.slice.injEq] at e; exact e.2.1)
  have HHL : Hid (h.hl = s.hops.length) := hid (by
    obtain ⟨a, cap, e, _, _⟩ := hh.2.2.2.1.ints
    simp only [Value.slice.injEq] at e; exact e.2.1)
  have HR := hid hr
  have HS := hid hs
  have HNE := hid hne
  clear hg hh hr hs hne
  obtain ⟨⟨p1, p2⟩, gh, gc, ga, gl, gcap⟩ := g
  obtain ⟨⟨q1, q2⟩, hhr, hc, ha, hl, hcap⟩ := h
  simp only at HG HH HGC HHC HGL HHL
  simp only
  have H3 := hid (three (w := w) (.cells #[.int .i64 p1, .int .i64 p2, .bool gh, .int .i64 gc, .slice ga gl gcap] 80) (.cells #[.int .i64 q1, .int .i64 q2, .bool hhr, .int .i64 hc, .slice ha hl hcap] 80) (.cells #[.int .i64 0, .int .i64 0, .bool false, .int .i64 0, .slice none 0 0] 80))
  by_cases hlt : hc < gc
  · have hlt' : decide (hc < gc) = true := by simpa using hlt
    have HBR : Hid (Pl.bestR r s = s) := hid (by unfold Pl.bestR; rw [if_pos (by rw [← HHC.out, ← HGC.out]; exact hlt)])
    clear hlt
    go_enter Tryz.func107, Tryz.ntmps107
    go_wp2_with fail
    have HB3 := hid (three (w := w) (.cells #[.int .i64 p1, .int .i64 p2, .bool gh, .int .i64 gc, .slice ga gl gcap] 80) (.cells #[.int .i64 q1, .int .i64 q2, .bool hhr, .int .i64 hc, .slice ha hl hcap] 80) (.cells #[.int .i64 q1, .int .i64 q2, .bool hhr, .int .i64 hc, .slice ha hl hcap] 80)).2.2.2.2
    refine bodyPost_ret (v := .agg #[.int .i64 q1, .int .i64 q2, .bool hhr, .int .i64 hc, .slice ha hl hcap]) (by simp [results, Tryz.results107, go_sem]) rfl ⟨⟨(q1, q2), hhr, hc, ha, hl, hcap⟩, rfl, ?_, HB3.out⟩
    rw [HBR.out]
    exact HH.out.below HB3.out
  · have hlt' : decide (hc < gc) = false := by simpa using hlt
    by_cases heq : hc = gc
    · have heq' : (hc == gc) = true := by simpa using heq
      have HBR : Hid (Pl.bestR r s = ⟨r.p, r.here, r.cost, Pl.unite r.hops s.hops⟩) := hid (by unfold Pl.bestR; rw [if_neg (by rw [← HHC.out, ← HGC.out]; exact hlt), if_pos (by rw [← HHC.out, ← HGC.out]; exact heq)])
      obtain ⟨U, HU⟩ : ∃ U, Hid (Pl.unite r.hops s.hops = U) := ⟨_, hid rfl⟩
      rw [HU.out] at HBR
      have HL1 := hid (Pl.hopsB_le12 HR.out)
      have HL2 := hid (Pl.hopsB_le12 HS.out)
      have HN : Hid (0 < gl) := hid (by
        rw [HGL.out]
        exact List.length_pos_iff.2 (HNE.out (by rw [← HHC.out, ← HGC.out]; exact heq)))
      have HUA := hid (unite_any ga ha gl gcap hl hcap r.hops s.hops _ ((HG.out.below H3.out.2.2.2.2).reads.1.2.2.2.1) ((HH.out.below H3.out.2.2.2.2).reads.1.2.2.2.1) HN.out (by rw [HGL.out]; exact HL1.out) (by rw [HHL.out]; exact HL2.out) (Pl.hopsB_range HR.out) (Pl.hopsB_range HS.out))
      clear heq hlt
      go_enter Tryz.func107, Tryz.ntmps107
      go_wp2_with fail
      refine HUA.out.mono ?_
      rw [HU.out]
      rintro e w4 ⟨v4, rfl, ho4, hb4⟩
      obtain ⟨b0, b1, b2, bz, bb⟩ := H3.out
      rw [bz] at hb4 ho4
      obtain ⟨⟨x0, x1, x2, x3, x4⟩, xf, xl⟩ := bx5 ((hb4.block w.heap.size (by omega)).trans b0)
      obtain ⟨⟨y0, y1, y2, y3, y4⟩, yf, yl⟩ := bx5 ((hb4.block (w.heap.size + 2) (by omega)).trans b2)
      have HB4 : Hid (Below w.heap.size w w4) := hid (bb.trans (hb4.mono (by omega)))
      obtain ⟨a4, c4, rfl, _, _⟩ := ho4.ints
      have HO4 := hid ho4
      clear ho4 hb4 b0 b1 b2 bz bb HUA
      obtain ⟨n4, HN4⟩ : ∃ n, Hid (U.length = n) := ⟨_, hid rfl⟩
      rw [HN4.out] at HO4 ⊢
      go_wp2_with fail
      refine bodyPost_ret (v := .agg #[.int .i64 p1, .int .i64 p2, .bool gh, .int .i64 gc, .slice a4 n4 c4]) (by simp [results, Tryz.results107, go_sem, y0, y1, y2, y3, y4]) rfl ⟨⟨(p1, p2), gh, gc, a4, n4, c4⟩, rfl, ?_, ?_⟩
      · rw [HBR.out]
        refine ⟨HG.out.1, HG.out.2.1, HG.out.2.2.1, ?_, HG.out.2.2.2.2⟩
        refine OwnZ.mono (base := w.heap.size + 3) ?_ (by omega)
        refine OwnZ.but (B := w.heap.size + 2) (w := w4.setCell ⟨w.heap.size, 4, none⟩ (.slice a4 n4 c4)) (OwnZ.but HO4.out ((But.refl w.heap.size w4).setCell _ _) (.inl (by omega))) ?_ (.inl (by omega))
        exact (((((But.refl _ _).setCell _ _).setCell _ _).setCell _ _).setCell _ _).setCell _ _
      · have hle : w.heap.size ≤ w.heap.size + 1 + 1 := by omega
        exact ((((((HB4.out.setCell (Nat.le_refl _) _).setCell hle _).setCell hle _).setCell hle _).setCell hle _).setCell hle _)
    · have heq' : (hc == gc) = false := by simpa using heq
      have HBR : Hid (Pl.bestR r s = r) := hid (by unfold Pl.bestR; rw [if_neg (by rw [← HHC.out, ← HGC.out]; exact hlt), if_neg (by rw [← HHC.out, ← HGC.out]; exact heq)])
      clear heq hlt
      go_enter Tryz.func107, Tryz.ntmps107
      go_wp2_with fail
      have HB3 := hid (three (w := w) (.cells #[.int .i64 p1, .int .i64 p2, .bool gh, .int .i64 gc, .slice ga gl gcap] 80) (.cells #[.int .i64 q1, .int .i64 q2, .bool hhr, .int .i64 hc, .slice ha hl hcap] 80) (.cells #[.int .i64 p1, .int .i64 p2, .bool gh, .int .i64 gc, .slice ga gl gcap] 80)).2.2.2.2
      refine bodyPost_ret (v := .agg #[.int .i64 p1, .int .i64 p2, .bool gh, .int .i64 gc, .slice ga gl gcap]) (by simp [results, Tryz.results107, go_sem]) rfl ⟨⟨(p1, p2), gh, gc, ga, gl, gcap⟩, rfl, ?_, HB3.out⟩
      rw [HBR.out]
      exact HG.out.below HB3.out
end Go.Proofs.YtjjelkdajdeikaaGreatDoor
/-
  Contract: a route is offered to a table (offer).
-/
namespace Go.Proofs.YtjjelkdajdeikaaGreatDoor
open Go.RowKit
set_option maxRecDepth 20000

def ZAll (w : World) (base : Nat) (hs : List Pl.RH) (rs : List Pl.Rt) : Prop := hs.length = rs.length ∧ ∀ i, i < hs.length → ReadsZ w base (Pl.rh hs i) (Pl.rt rs i)
theorem ZAll.take {w : World} {base : Nat} {hs : List Pl.RH} {rs : List Pl.Rt} (h : ZAll w base hs rs) (n : Nat) : ZAll w base (hs.take n) (rs.take n) := by
  refine ⟨by simp [h.1], fun i hi => ?_⟩
  simp only [List.length_take] at hi
  rw [Pl.rh_take hs n i (by omega) (by omega)]
  have : Pl.rt (rs.take n) i = Pl.rt rs i := by
    have := h.1
    rw [Pl.rt_eq _ _ (by simp; omega), Pl.rt_eq _ _ (by omega)]; simp
  rw [this]
  exact h.2 i (by omega)
theorem ZAll.drop {w : World} {base : Nat} {hs : List Pl.RH} {rs : List Pl.Rt} (h : ZAll w base hs rs) (n : Nat) : ZAll w base (hs.drop n) (rs.drop n) := by
  refine ⟨by simp [h.1], fun i hi => ?_⟩
  simp only [List.length_drop] at hi
  rw [Pl.rh_drop hs n i (by omega)]
  have : Pl.rt (rs.drop n) i = Pl.rt rs (n + i) := by
    have := h.1
    rw [Pl.rt_eq _ _ (by simp; omega), Pl.rt_eq _ _ (by omega)]; simp
  rw [this]
  exact h.2 (n + i) (by omega)
theorem ZAll.append {w : World} {base : Nat} {hs gs : List Pl.RH} {rs ss : List Pl.Rt} (h : ZAll w base hs rs) (k : ZAll w base gs ss) : ZAll w base (hs ++ gs) (rs ++ ss) := by
  refine ⟨by simp [h.1, k.1], fun i hi => ?_⟩
  simp only [List.length_append] at hi
  rcases Nat.lt_or_ge i hs.length with q | q
  · rw [Pl.rh_app_lt _ _ _ q, Pl.rt_app_lt _ _ _ (by rw [← h.1]; exact q)]
    exact h.2 i q
  · have e1 : Pl.rh (hs ++ gs) i = Pl.rh gs (i - hs.length) := by
      rw [Pl.rh_eq _ _ (by simp; omega), Pl.rh_eq _ _ (by omega), List.getElem_append_right q]
    have e2 : Pl.rt (rs ++ ss) i = Pl.rt ss (i - hs.length) := by
      have h1 := h.1
      have h2 := k.1
      rw [Pl.rt_eq _ _ (by simp; omega), Pl.rt_eq _ _ (by omega), List.getElem_append_right (by omega)]
      simp [h1]
    rw [e1, e2]
    exact k.2 _ (by omega)
theorem ZAll.one {w : World} {base : Nat} {x : Pl.RH} {r : Pl.Rt} (h : ReadsZ w base x r) : ZAll w base [x] [r] := ⟨rfl, fun i hi => by simp at hi; subst hi; exact h⟩
theorem DInv.revalue {a0 : Act} {s n m : Nat} {off : Nat → Option Nat} {V V' : Nat → Value} {C : World → Prop} {listed : Array Bool} {a : Act} {w : World}
    (h : DInv a0 s n m off V C listed a w) (hV : ∀ k j, off k = some j → listed.getD k false = true → V j = V' j) : DInv a0 s n m off V' C listed a w := by
  obtain ⟨xs, hl, e, hf⟩ := h.fr
  exact ⟨h.ls, ⟨xs, hl, e, fun k j h1 h2 => (hf k j h1 h2).trans (hV k j h1 h2)⟩, h.cw⟩
theorem list10 (xs : List Value) (h : xs.length = 10) : ∃ x0 x1 x2 x3 x4 x5 x6 x7 x8 x9, xs = [x0, x1, x2, x3, x4, x5, x6, x7, x8, x9] := by
  match xs, h with
  | [x0, x1, x2, x3, x4, x5, x6, x7, x8, x9], _ => exact ⟨x0, x1, x2, x3, x4, x5, x6, x7, x8, x9, rfl⟩

def OffW (w1 : World) (base g o : Nat) (r B : Pl.Rt) (listed : Array Bool) (x y : Value) (W : World) : Prop :=
  (listed.getD 10 false = false ∧ Below w1.heap.size w1 W ∧ (listed.getD 7 false = true → ∃ k : Pl.RH, x = .agg #[.int .i64 k.p.1, .int .i64 k.p.2, .bool k.here, .int .i64 k.cost, .slice k.ha k.hl k.hc] ∧ ReadsZ W base k r) ∧
    (listed.getD 8 false = true → ∃ k : Pl.RH, y = .agg #[.int .i64 k.p.1, .int .i64 k.p.2, .bool k.here, .int .i64 k.cost, .slice k.ha k.hl k.hc] ∧ ReadsZ W base k B)) ∨
  (listed.getD 10 false = true ∧ ∃ (k : Pl.RH) (W0 : World), ReadsZ W0 base k B ∧ Below w1.heap.size w1 W0 ∧ W = set5 W0 g o k)
theorem OffW.quiet {w1 base g o r B listed x y W} {i : Nat} (h : OffW w1 base g o r B listed x y W) (h7 : i ≠ 7) (h8 : i ≠ 8) (h10 : i ≠ 10) : OffW w1 base g o r B (listed.setIfInBounds i true) x y W := by
  unfold OffW at h ⊢
  rw [getD_set_ne false h7, getD_set_ne false h8, getD_set_ne false h10]
  exact h

set_option maxHeartbeats 8000000 in
theorem offer_any (base : Nat) (v : Value) (hs : List Pl.RH) (rs : List Pl.Rt) (x : Pl.RH) (r : Pl.Rt) (w : World) (hown : OwnTb w base v hs rs) (hbase : base ≤ w.heap.size) (hsrt : Pl.SrtR rs) (hlen : hs.length ≤ 1000) (hx : Reads w x r) (hrB : Pl.hopsB r.hops = true) (hall : ∀ q ∈ rs, Pl.hopsB q.hops = true) (hne : ∀ q ∈ rs, q.p = r.p → r.cost = q.cost → q.hops ≠ []) :
    Calls Tryz.prog 65 #[v, .agg #[.int .i64 x.p.1, .int .i64 x.p.2, .bool x.here, .int .i64 x.cost, .slice x.ha x.hl x.hc]] w fun e w' =>
      ∃ v' hs', e = .returned v' ∧ OwnTb w' base v' hs' (Pl.offR rs r) ∧ w.grownBy w' v.ownBlock := by
  have HO := hid hown
  have HX := hid hx
  have HZ : Hid (ZAll w base hs rs) := hid hown.2
  have HHP : Hid (Pl.hp hs = rs.map Pl.Rt.p) := hid hown.reads.map_p
  have has : Pl.AscP (Pl.hp hs) := hown.reads.asc hsrt
  have HXL : Hid (x.hl ≤ 1000) := hid (by have h1 := hx.2.2.2.1.1; have h2 := Pl.hopsB_le12 hrB; omega)
  have HXP : Hid (x.p = r.p) := hid hx.1
  have HOX : Hid (Pl.offR rs r = Pl.layR rs (Pl.posP (Pl.hp hs) x.p) (Pl.thereP (Pl.hp hs) x.p) (Pl.offX rs r)) := hid (by
    unfold Pl.offR
    rw [← Pl.lay_insR, Pl.offX_p, HHP.out, HXP.out])
  have HOR := hid hrB
  have HRS : Hid (hs.length = rs.length) := hid hown.2.1
  obtain ⟨⟨p1, p2⟩, here, cost, ha, hl, hc⟩ := x
  simp only at HX HXL HXP HOX ⊢
  obtain ⟨tt, HT⟩ : ∃ t, Hid (Pl.thereP (Pl.hp hs) (p1, p2) = t) := ⟨_, hid rfl⟩
  obtain ⟨ix, HI⟩ : ∃ t, Hid (Pl.posP (Pl.hp hs) (p1, p2) = t) := ⟨_, hid rfl⟩
  have HIX : Hid (ix ≤ hs.length) := hid (by rw [← HI.out]; have := Pl.posP_le (Pl.hp hs) (p1, p2); rwa [Pl.hp_len] at this)
  have HLT : Hid (tt = true → ix < hs.length) := hid fun e => by rw [← HI.out]; have := Pl.thereP_lt (by rw [HT.out]; exact e : Pl.thereP (Pl.hp hs) (p1, p2) = true); rwa [Pl.hp_len] at this
  have HF : Hid (∀ W, Below w.heap.size w W → Calls Tryz.prog 67 #[v, .agg #[.int .i64 p1, .int .i64 p2]] W fun e w' => e = .returned (.tuple #[.int .i64 ix, .bool tt]) ∧ Below W.heap.size W w') := hid fun W hW => by
    obtain ⟨a, cap, rfl, hr, _⟩ := (HO.out.1.below hW).rows
    have := find_rib a hs.length cap hs p1 p2 W hr has (by omega)
    rwa [HT.out, HI.out] at this
  have HOE : Hid (Pl.offX rs r = if tt then Pl.bestR (Pl.rt rs ix) r else r) := hid (by
    unfold Pl.offX
    rw [← HHP.out, ← HXP.out, HT.out, HI.out])
  have HNB : Hid (tt = true → Pl.hopsB (Pl.rt rs ix).hops = true ∧ (r.cost = (Pl.rt rs ix).cost → (Pl.rt rs ix).hops ≠ [])) := hid fun e => by
    have hm := Pl.rt_mem rs ix (by have := HLT.out e; have := HRS.out; omega)
    refine ⟨hall _ hm, hne _ hm ?_⟩
    have ht : Pl.thereP (Pl.hp hs) (p1, p2) = true := by rw [HT.out]; exact e
    have h1 := Pl.thereP_eq ht
    rw [HHP.out] at h1
    rw [← HHP.out, HI.out, HHP.out, Pl.pr_map rs ix (by have := HLT.out e; have := HRS.out; omega)] at h1
    rw [h1, HXP.out]
  rw [HT.out, HI.out] at HOX
  rw [HOX.out]
  clear hown has hx hrB hall hne hsrt HT HI
  cases tt
  · have HE : Hid (Pl.layR rs ix false (Pl.offX rs r) = rs.take ix ++ ([r] ++ rs.drop ix)) := hid (by rw [HOE.out]; rfl)
    rw [HE.out]
    clear HE HOE HOX HNB
    have HFR : Hid (∀ W, Below w.heap.size w W → Calls Tryz.prog 69 #[.agg #[.int .i64 p1, .int .i64 p2, .bool here, .int .i64 cost, .slice ha hl hc]] W fun e w' => ∃ g : Pl.RH, e = .returned (.agg #[.int .i64 g.p.1, .int .i64 g.p.2, .bool g.here, .int .i64 g.cost, .slice g.ha g.hl g.hc]) ∧ ReadsZ w' W.heap.size g r ∧ Below W.heap.size W w') := hid fun W hW => fresh_own ⟨(p1, p2), here, cost, ha, hl, hc⟩ r W (HX.out.below hW) HXL.out
    go_enter Tryz.func65, Tryz.ntmps65
    go_wp2_with fail
    refine (HF.out _ ((Below.refl _ _).alloc (Nat.le_refl _) _)).mono ?_
    rintro e w1 ⟨rfl, hb1⟩
    obtain ⟨⟨y0, y1, y2, y3, y4⟩, hbx, hbw⟩ := box5 (by simpa using hb1)
    have HBW := hid hbw
    clear hb1 hbw
    go_wp2_with fail
    refine (HFR.out _ HBW.out).mono ?_
    rintro e w2 ⟨k, rfl, hz2, hb2⟩
    have HZ2 := hid (hz2.mono (Nat.le_trans hbase HBW.out.size))
    have HB2 : Hid (Below w.heap.size w w2) := hid (HBW.out.trans (hb2.mono HBW.out.size))
    have HO2 := hid (HO.out.below HB2.out)
    have hz := HB2.out.size
    clear hz2 hb2
    go_wp2_with fail
    refine (Insert_any base v hs ix k w2 HO2.out.1 (by omega) (by omega) HIX.out).mono ?_
    rintro e w3 ⟨v', rfl, ho3, hg3⟩
    have HO3 := hid ho3
    have HG3 := hid hg3
    clear ho3 hg3
    go_wp2_with fail
    go_ret
    have key : ∀ x y, ReadsZ w2 base x y → ReadsZ w3 base x y := by
      intro x y ⟨q1, q2, q3, q4, q5⟩
      exact ⟨q1, q2, q3, World.ownsRow.kept (World.ownsRow.alloc q4 _) HG3.out (apartZR q4 HO2.out.1), q5⟩
    have hzz : ZAll w2 base (hs.take ix ++ ([k] ++ hs.drop ix)) (rs.take ix ++ ([r] ++ rs.drop ix)) := (ZAll.take HO2.out.2 ix).append ((ZAll.one HZ2.out).append (ZAll.drop HO2.out.2 ix))
    refine ⟨_, hs.take ix ++ ([k] ++ hs.drop ix), rfl, ⟨HO3.out, hzz.1, fun i hi => key _ _ (hzz.2 i hi)⟩, ?_⟩
    exact grown_trans (grown_below HB2.out) (grown_trans (grown_below ((Below.refl _ _).alloc (Nat.le_refl _) _)) HG3.out)
  · have hix := HLT.out rfl
    have HNB2 := hid (HNB.out rfl)
    obtain ⟨g, cap, rfl, hbg, hgl, hnc, hm, hra, hsf⟩ := HO.out.1.opened (by omega)
    unfold maxLen at hm
    obtain ⟨c0, c1, c2, c3, c4⟩ := hra ix hix
    have HZX := hid (HZ.out.2 ix hix)
    obtain ⟨n, HN⟩ : ∃ n, Hid (hs.length = n) := ⟨_, hid rfl⟩
    rw [HN.out] at HF hix hnc hlen ⊢
    obtain ⟨B, HB⟩ : ∃ B, Hid (Pl.bestR (Pl.rt rs ix) r = B) := ⟨_, hid rfl⟩
    have HE : Hid (Pl.layR rs ix true (Pl.offX rs r) = rs.set ix B) := hid (by
      rw [HOE.out]
      show rs.take ix ++ Pl.bestR (Pl.rt rs ix) r :: rs.drop (ix + 1) = _
      rw [HB.out, List.set_eq_take_append_cons_drop, if_pos (by have := HRS.out; have := HN.out; omega)])
    rw [HE.out]
    obtain ⟨old, HOLD⟩ : ∃ x, Hid (Pl.rh hs ix = x) := ⟨_, hid rfl⟩
    obtain ⟨ro, HRO⟩ : ∃ x, Hid (Pl.rt rs ix = x) := ⟨_, hid rfl⟩
    rw [HOLD.out] at c0 c1 c2 c3 c4 HZX
    rw [HRO.out] at HZX HNB2 HB
    clear hra HE HOE HOX HNB
    have HFR : Hid (∀ W, Below w.heap.size w W → Calls Tryz.prog 69 #[.agg #[.int .i64 p1, .int .i64 p2, .bool here, .int .i64 cost, .slice ha hl hc]] W fun e w' => ∃ g : Pl.RH, e = .returned (.agg #[.int .i64 g.p.1, .int .i64 g.p.2, .bool g.here, .int .i64 g.cost, .slice g.ha g.hl g.hc]) ∧ ReadsZ w' W.heap.size g r ∧ Below W.heap.size W w') := hid fun W hW => fresh_own ⟨(p1, p2), here, cost, ha, hl, hc⟩ r W (HX.out.below hW) HXL.out
    have hix' : (ix : Int) < (n : Int) := by omega
    go_enter Tryz.func65, Tryz.ntmps65
    go_wp2_with fail
    refine (HF.out _ ((Below.refl _ _).alloc (Nat.le_refl _) _)).mono ?_
    rintro e w1 ⟨rfl, hb1⟩
    obtain ⟨⟨y0, y1, y2, y3, y4⟩, hbx, hbw⟩ := box5 (by simpa using hb1)
    have HBW := hid hbw
    have HO1 := hid (HO.out.below hbw)
    have hz := hbw.size
    have D0 := hid ((hbw.cell (p := ⟨g, 0 + ix * 5, none⟩) hgl).trans c0)
    have D1 := hid ((hbw.cell (p := ⟨g, 0 + ix * 5 + 1, none⟩) hgl).trans c1)
    have D2 := hid ((hbw.cell (p := ⟨g, 0 + ix * 5 + 2, none⟩) hgl).trans c2)
    have D3 := hid ((hbw.cell (p := ⟨g, 0 + ix * 5 + 3, none⟩) hgl).trans c3)
    have D4 := hid ((hbw.cell (p := ⟨g, 0 + ix * 5 + 4, none⟩) hgl).trans c4)
    have DF : Hid (∀ o, w1.frozen? ⟨g, o, none⟩ = false) := hid fun o => (hbw.frozen (p := ⟨g, o, none⟩) hgl).trans (hsf o)
    rw [Nat.zero_add] at D0 D1 D2 D3 D4
    have HZX1 := hid (HZX.out.below hbw)
    have Y := hid (And.intro y0 (And.intro y1 (And.intro y2 (And.intro y3 y4))))
    clear hb1 hbw c0 c1 c2 c3 c4 hsf y0 y1 y2 y3 y4
    have hbxl : w.heap.size < w1.heap.size := by omega
    have hg1 : g < w1.heap.size := by omega
    go_wp2_with fail
    generalize ha0 : Act.mk _ _ = a0
    have hsz : 22 + 10 ≤ a0.tmps.size := by
      have : a0.tmps.size = 33 := by rw [← ha0]; rfl
      omega
    have q0 : a0.tmps[0]?.getD undef = .slice (some ⟨g, 0, none⟩) n cap := by rw [← ha0]; rfl
    have q3 : a0.tmps[3]?.getD undef = .pointer (some ⟨w.heap.size, 0, none⟩) := by rw [← ha0]; rfl
    have q5 : a0.tmps[5]?.getD undef = .int .i64 ix := by rw [← ha0]; rfl
    refine wp_region_any (by kernel_rfl) ?_
    refine wpAny_inv2 (fun listed a W => ∃ x y, DInv a0 22 10 11 (fun k => if k < 10 then some k else none)
      (fun j => ([.slice (some ⟨g, 0, none⟩) n cap, .int .i64 ix, .slice (some ⟨g, 0, none⟩) n cap, .int .i64 ix, .pointer (some ⟨g, ix * 5, none⟩), .agg #[.int .i64 old.p.1, .int .i64 old.p.2, .bool old.here, .int .i64 old.cost, .slice old.ha old.hl old.hc], .agg #[.int .i64 p1, .int .i64 p2, .bool here, .int .i64 cost, .slice ha hl hc], x, y, .pointer (some ⟨g, ix * 5, none⟩)] : List Value).getD j undef)
      (fun _ => True) listed a W ∧ OffW w1 base g (ix * 5) r B listed x y W) ?_ ?_ _ _ _ _ (by decide +kernel) ?_ (closed_start _ _ _)
    · rintro i listed a W hi hCl ⟨x, y, hI, hW⟩
      rw [mem_ready] at hi
      obtain ⟨hl0, o, ho, hall⟩ := hi
      have hlt11 : i < 11 := (Array.getElem?_eq_some_iff.1 ho).1
      have o0 := (hI.out (k := 0) (by omega)).trans q0
      have o3 := (hI.out (k := 3) (by omega)).trans q3
      have o5 := (hI.out (k := 5) (by omega)).trans q5
      have hnl : listed.getD i false = false := by
        have hlt : i < listed.size := by rw [hI.ls]; exact hlt11
        simp [hlt] at hl0 ⊢
        exact hl0
      have h10 : listed.getD 10 false = false := by
        cases h : listed.getD 10 false with
        | false => rfl
        | true =>
          exfalso
          have e8 := hCl 10 _ rfl h ⟨8, .data⟩ (by simp) rfl
          have e9 := hCl 10 _ rfl h ⟨9, .data⟩ (by simp) rfl
          have e5 := hCl 8 _ rfl e8 ⟨5, .data⟩ (by simp) rfl
          have e7 := hCl 8 _ rfl e8 ⟨7, .data⟩ (by simp) rfl
          have e6 := hCl 7 _ rfl e7 ⟨6, .data⟩ (by simp) rfl
          have e4 := hCl 5 _ rfl e5 ⟨4, .data⟩ (by simp) rfl
          have e2 := hCl 4 _ rfl e4 ⟨2, .data⟩ (by simp) rfl
          have e3 := hCl 4 _ rfl e4 ⟨3, .data⟩ (by simp) rfl
          have e0 := hCl 9 _ rfl e9 ⟨0, .data⟩ (by simp) rfl
          have e1 := hCl 9 _ rfl e9 ⟨1, .data⟩ (by simp) rfl
          have hcs : i = 0 ∨ i = 1 ∨ i = 2 ∨ i = 3 ∨ i = 4 ∨ i = 5 ∨ i = 6 ∨ i = 7 ∨ i = 8 ∨ i = 9 ∨ i = 10 := by omega
          rcases hcs with rfl | rfl | rfl | rfl | rfl | rfl | rfl | rfl | rfl | rfl | rfl <;> simp_all
      obtain ⟨hbW, h7, h8⟩ : Below w1.heap.size w1 W ∧ (listed.getD 7 false = true → ∃ k : Pl.RH, x = .agg #[.int .i64 k.p.1, .int .i64 k.p.2, .bool k.here, .int .i64 k.cost, .slice k.ha k.hl k.hc] ∧ ReadsZ W base k r) ∧ (listed.getD 8 false = true → ∃ k : Pl.RH, y = .agg #[.int .i64 k.p.1, .int .i64 k.p.2, .bool k.here, .int .i64 k.cost, .slice k.ha k.hl k.hc] ∧ ReadsZ W base k B) := by
        rcases hW with ⟨_, h⟩ | ⟨h, _⟩
        · exact h
        · rw [h10] at h; cases h
      have hcs : i = 0 ∨ i = 1 ∨ i = 2 ∨ i = 3 ∨ i = 4 ∨ i = 5 ∨ i = 6 ∨ i = 7 ∨ i = 8 ∨ i = 9 ∨ i = 10 := by omega
      rcases hcs with rfl | rfl | rfl | rfl | rfl | rfl | rfl | rfl | rfl | rfl | rfl
      all_goals
        simp at ho
        subst ho
        refine wpOp_of rfl rfl ?_
      · simp [Oper.wp, go_sem, o0]
        exact ⟨x, y, hI.put (i := 0) (j := 0) rfl (by omega) rfl trivial, hW.quiet (by omega) (by omega) (by omega)⟩
      · simp [Oper.wp, go_sem, o5]
        exact ⟨x, y, hI.put (i := 1) (j := 1) rfl (by omega) rfl trivial, hW.quiet (by omega) (by omega) (by omega)⟩
      · simp [Oper.wp, go_sem, o0]
        exact ⟨x, y, hI.put (i := 2) (j := 2) rfl (by omega) rfl trivial, hW.quiet (by omega) (by omega) (by omega)⟩
      · simp [Oper.wp, go_sem, o5]
        exact ⟨x, y, hI.put (i := 3) (j := 3) rfl (by omega) rfl trivial, hW.quiet (by omega) (by omega) (by omega)⟩
      · have e1 : a.tmps[24]?.getD undef = .slice (some ⟨g, 0, none⟩) n cap := hI.at (k := 2) (j := 2) hsz rfl (by omega) (hall ⟨2, .data⟩ (by simp) rfl)
        have e2 : a.tmps[25]?.getD undef = .int .i64 ix := hI.at (k := 3) (j := 3) hsz rfl (by omega) (hall ⟨3, .data⟩ (by simp) rfl)
        simp [Oper.wp, go_sem, e1, e2, hix']
        exact ⟨x, y, hI.put (i := 4) (j := 4) rfl (by omega) rfl trivial, hW.quiet (by omega) (by omega) (by omega)⟩
      · have e1 : a.tmps[26]?.getD undef = .pointer (some ⟨g, ix * 5, none⟩) := hI.at (k := 4) (j := 4) hsz rfl (by omega) (hall ⟨4, .data⟩ (by simp) rfl)
        have f0 := (hbW.cell (p := ⟨g, ix * 5, none⟩) hg1).trans D0.out
        have f1 := (hbW.cell (p := ⟨g, ix * 5 + 1, none⟩) hg1).trans D1.out
        have f2 := (hbW.cell (p := ⟨g, ix * 5 + 2, none⟩) hg1).trans D2.out
        have f3 := (hbW.cell (p := ⟨g, ix * 5 + 3, none⟩) hg1).trans D3.out
        have f4 := (hbW.cell (p := ⟨g, ix * 5 + 4, none⟩) hg1).trans D4.out
        simp [Oper.wp, go_sem, e1, f0, f1, f2, f3, f4]
        exact ⟨x, y, hI.put (i := 5) (j := 5) rfl (by omega) rfl trivial, hW.quiet (by omega) (by omega) (by omega)⟩
      · have f0 := (hbW.cell (p := ⟨w.heap.size, 0, none⟩) hbxl).trans Y.out.1
        have f1 := (hbW.cell (p := ⟨w.heap.size, 1, none⟩) hbxl).trans Y.out.2.1
        have f2 := (hbW.cell (p := ⟨w.heap.size, 2, none⟩) hbxl).trans Y.out.2.2.1
        have f3 := (hbW.cell (p := ⟨w.heap.size, 3, none⟩) hbxl).trans Y.out.2.2.2.1
        have f4 := (hbW.cell (p := ⟨w.heap.size, 4, none⟩) hbxl).trans Y.out.2.2.2.2
        simp [Oper.wp, go_sem, o3, f0, f1, f2, f3, f4]
        exact ⟨x, y, hI.put (i := 6) (j := 6) rfl (by omega) rfl trivial, hW.quiet (by omega) (by omega) (by omega)⟩
      · have e1 : a.tmps[28]?.getD undef = .agg #[.int .i64 p1, .int .i64 p2, .bool here, .int .i64 cost, .slice ha hl hc] := hI.at (k := 6) (j := 6) hsz rfl (by omega) (hall ⟨6, .data⟩ (by simp) rfl)
        simp [Oper.wp, go_sem, e1]
        refine (HFR.out W (HBW.out.trans (hbW.mono hz))).mono ?_
        rintro e W' ⟨k, rfl, hzk, hbk⟩
        refine ⟨.agg #[.int .i64 k.p.1, .int .i64 k.p.2, .bool k.here, .int .i64 k.cost, .slice k.ha k.hl k.hc], y, DInv.put (i := 7) (j := 7) (w' := W') (DInv.revalue hI fun k' j hk' hlk => ?_) rfl (by omega) rfl trivial, .inl ⟨?_, hbW.trans (hbk.mono hbW.size), fun _ => ⟨k, rfl, hzk.mono (by have := hbW.size; omega)⟩, fun h => ?_⟩⟩
        · by_cases e7 : k' = 7
          · subst e7; rw [hnl] at hlk; cases hlk
          · by_cases hk10 : k' < 10
            · rw [if_pos hk10] at hk'
              cases hk'
              have hcs : k' = 0 ∨ k' = 1 ∨ k' = 2 ∨ k' = 3 ∨ k' = 4 ∨ k' = 5 ∨ k' = 6 ∨ k' = 8 ∨ k' = 9 := by omega
              rcases hcs with rfl | rfl | rfl | rfl | rfl | rfl | rfl | rfl | rfl <;> rfl
            · rw [if_neg hk10] at hk'; cases hk'
        · rw [getD_set_ne false (by omega)]; exact h10
        · rw [getD_set_ne false (by omega)] at h
          obtain ⟨k2, e2, z2⟩ := h8 h
          exact ⟨k2, e2, z2.below hbk⟩
      · obtain ⟨k1, rfl, z1⟩ := h7 (hall ⟨7, .data⟩ (by simp) rfl)
        have e1 : a.tmps[27]?.getD undef = .agg #[.int .i64 old.p.1, .int .i64 old.p.2, .bool old.here, .int .i64 old.cost, .slice old.ha old.hl old.hc] := hI.at (k := 5) (j := 5) hsz rfl (by omega) (hall ⟨5, .data⟩ (by simp) rfl)
        have e2 : a.tmps[29]?.getD undef = .agg #[.int .i64 k1.p.1, .int .i64 k1.p.2, .bool k1.here, .int .i64 k1.cost, .slice k1.ha k1.hl k1.hc] := hI.at (k := 7) (j := 7) hsz rfl (by omega) (hall ⟨7, .data⟩ (by simp) rfl)
        simp [Oper.wp, go_sem, e1, e2]
        have hbest := best_any base old k1 ro r W (HZX1.out.below hbW) z1 (by have := hbW.size; omega) HNB2.out.1 HOR.out HNB2.out.2
        rw [HB.out] at hbest
        refine hbest.mono ?_
        rintro e W' ⟨k, rfl, hzk, hbk⟩
        refine ⟨_, .agg #[.int .i64 k.p.1, .int .i64 k.p.2, .bool k.here, .int .i64 k.cost, .slice k.ha k.hl k.hc], DInv.put (i := 8) (j := 8) (w' := W') (DInv.revalue hI fun k' j hk' hlk => ?_) rfl (by omega) rfl trivial, .inl ⟨?_, hbW.trans (hbk.mono hbW.size), fun _ => ⟨k1, rfl, z1.below hbk⟩, fun _ => ⟨k, rfl, hzk⟩⟩⟩
        · by_cases e8 : k' = 8
          · subst e8; rw [hnl] at hlk; cases hlk
          · by_cases hk10 : k' < 10
            · rw [if_pos hk10] at hk'
              cases hk'
              have hcs : k' = 0 ∨ k' = 1 ∨ k' = 2 ∨ k' = 3 ∨ k' = 4 ∨ k' = 5 ∨ k' = 6 ∨ k' = 7 ∨ k' = 9 := by omega
              rcases hcs with rfl | rfl | rfl | rfl | rfl | rfl | rfl | rfl | rfl <;> rfl
            · rw [if_neg hk10] at hk'; cases hk'
        · rw [getD_set_ne false (by omega)]; exact h10
      · have e1 : a.tmps[22]?.getD undef = .slice (some ⟨g, 0, none⟩) n cap := hI.at (k := 0) (j := 0) hsz rfl (by omega) (hall ⟨0, .data⟩ (by simp) rfl)
        have e2 : a.tmps[23]?.getD undef = .int .i64 ix := hI.at (k := 1) (j := 1) hsz rfl (by omega) (hall ⟨1, .data⟩ (by simp) rfl)
        simp [Oper.wp, go_sem, e1, e2, hix']
        exact ⟨x, y, hI.put (i := 9) (j := 9) rfl (by omega) rfl trivial, hW.quiet (by omega) (by omega) (by omega)⟩
      · obtain ⟨k1, rfl, z1⟩ := h8 (hall ⟨8, .data⟩ (by simp) rfl)
        have e1 : a.tmps[31]?.getD undef = .pointer (some ⟨g, ix * 5, none⟩) := hI.at (k := 9) (j := 9) hsz rfl (by omega) (hall ⟨9, .data⟩ (by simp) rfl)
        have e2 : a.tmps[30]?.getD undef = .agg #[.int .i64 k1.p.1, .int .i64 k1.p.2, .bool k1.here, .int .i64 k1.cost, .slice k1.ha k1.hl k1.hc] := hI.at (k := 8) (j := 8) hsz rfl (by omega) (hall ⟨8, .data⟩ (by simp) rfl)
        have f0 := (hbW.cell (p := ⟨g, ix * 5, none⟩) hg1).trans D0.out
        have f1 := (hbW.cell (p := ⟨g, ix * 5 + 1, none⟩) hg1).trans D1.out
        have f2 := (hbW.cell (p := ⟨g, ix * 5 + 2, none⟩) hg1).trans D2.out
        have f3 := (hbW.cell (p := ⟨g, ix * 5 + 3, none⟩) hg1).trans D3.out
        have f4 := (hbW.cell (p := ⟨g, ix * 5 + 4, none⟩) hg1).trans D4.out
        have ff : ∀ o, W.frozen? ⟨g, o, none⟩ = false := fun o => (hbW.frozen (p := ⟨g, o, none⟩) hg1).trans (DF.out o)
        simp [Oper.wp, go_sem, e1, e2, f0, f1, f2, f3, f4, ff]
        refine ⟨x, _, hI.skip (i := 10) rfl trivial, .inr ⟨?_, k1, W, z1, hbW, rfl⟩⟩
        have : 10 < listed.size := by rw [hI.ls]; omega
        simp [this]
    · rintro listed a W hr ⟨x, y, hI, hW⟩
      rename_i K hK
      have h10 := all_listed (by decide +kernel) hI.ls hr 10 (by decide)
      obtain ⟨xs, hxl, rfl, _⟩ := hI.fr
      obtain ⟨x0, x1, x2, x3, x4, x5, x6, x7, x8, x9, rfl⟩ := list10 xs hxl
      rcases hW with ⟨h, _⟩ | ⟨_, k, W0, hzk, hb0, hW⟩
      · rw [h10] at h; cases h
      have HZK := hid hzk
      have HB0 := hid hb0
      have HWW := hid hW
      clear hI hr hxl q0 q3 q5 hsz hzk hb0 hW h10
      rw [← ha0]
      simp only [setFrom]
      refine hK _ W ?_
      go_wp2_with fail
      go_ret
      have hO0 := HO1.out.below HB0.out
      have hOR0 := hO0.1
      refine ⟨_, hs.set ix k, rfl, ?_, ?_⟩
      · rw [HWW.out]
        have h1 := hOR0.set ix k
        rw [HN.out] at h1
        refine ⟨h1, by rw [List.length_set, List.length_set]; exact HRS.out, fun t ht => ?_⟩
        rw [List.length_set] at ht
        by_cases e : t = ix
        · subst e
          rw [Pl.rh_set_at hs t k ht, Pl.rt_eq _ _ (by rw [List.length_set, ← HRS.out]; exact ht)]
          rw [List.getElem_set_self]
          exact HZK.out.set hOR0
        · rw [Pl.rh_set_ne hs ix t k e, Pl.rt_eq _ _ (by rw [List.length_set, ← HRS.out]; exact ht), List.getElem_set_ne (Ne.symm e), ← Pl.rt_eq rs t (by rw [← HRS.out]; exact ht)]
          exact (hO0.2.2 t ht).set hOR0
      · rw [HWW.out]
        have h1 := HBW.out.trans (HB0.out.mono hz)
        exact grown_trans (grown_below h1) (But.set5 W0 g (ix * 5) k).grown
    · exact ⟨undef, undef, DInv.start hsz trivial, .inl ⟨by simp, (Below.refl _ _).drew, fun h => by simp at h, fun h => by simp at h⟩⟩
end Go.Proofs.YtjjelkdajdeikaaGreatDoor
/-
  Plain: the table of a node, of a store: it may be, and what stands at each prefix of it; no program in sight.
-/
namespace Go.Proofs.YtjjelkdajdeikaaGreatDoor
open Go.RowKit
set_option maxRecDepth 20000

theorem Pl.pfxN_good (ps : List (Int × Int)) : ∀ n i, i + n = ps.length → Pl.pfxN ps n i = 0 → ∀ j, i ≤ j → j < ps.length → Pl.pfx1 (Pl.pr ps j) = 0 ∧ (0 < j → Pl.pfxLow (Pl.pr ps (j - 1)) (Pl.pr ps j) = false)
  | 0, i, h, _, j, h1, h2 => by omega
  | n + 1, i, h, h0, j, h1, h2 => by
    by_cases g : Pl.pfx1 (Pl.pr ps i) = 0
    · cases i with
      | zero =>
        rw [Pl.pfxN_first g] at h0
        rcases Nat.eq_or_lt_of_le h1 with e | h1
        · subst e; exact ⟨g, fun h => by omega⟩
        · exact Pl.pfxN_good ps n 1 (by omega) h0 j h1 h2
      | succ m =>
        cases k : Pl.pfxLow (Pl.pr ps m) (Pl.pr ps (m + 1))
        · rw [Pl.pfxN_on g k] at h0
          rcases Nat.eq_or_lt_of_le h1 with e | h1
          · subst e; exact ⟨g, fun _ => k⟩
          · exact Pl.pfxN_good ps n (m + 1 + 1) (by omega) h0 j h1 h2
        · rw [Pl.pfxN_low g k] at h0; cases h0
    · rw [Pl.pfxN_bad g] at h0; exact absurd h0 g
theorem Pl.pfxF_good {ps : List (Int × Int)} (h : Pl.pfxF ps = 0) : ps.length ≤ 6 ∧ (∀ p ∈ ps, Pl.pfx1 p = 0) ∧ ps.Pairwise (fun p q => Pl.pltB p q = true) := by
  by_cases hl : ps.length ≤ 6
  · rw [Pl.pfxF_from hl] at h
    have g := Pl.pfxN_good ps ps.length 0 (by omega) h
    have h1 : ∀ p ∈ ps, Pl.pfx1 p = 0 := fun p hp => by
      obtain ⟨i, hi, rfl⟩ := List.getElem_of_mem hp
      rw [← Pl.pr_eq ps i hi]; exact (g i (by omega) hi).1
    refine ⟨hl, h1, List.pairwise_iff_getElem.2 fun i j hi hj hij => ?_⟩
    rw [← Pl.pr_eq ps i hi, ← Pl.pr_eq ps j hj]
    induction j with
    | zero => omega
    | succ m ih =>
      have hs : Pl.pltB (Pl.pr ps m) (Pl.pr ps (m + 1)) = true := by
        have g1 := (g (m + 1) (by omega) hj).2 (by omega)
        have a1 := Pl.pfx1_zero (g m (by omega) (by omega)).1
        have a2 := Pl.pfx1_zero (g (m + 1) (by omega) hj).1
        unfold Pl.pfxLow at g1
        rw [Pl.pltB_iff]
        simp at g1
        omega
      rcases Nat.lt_or_ge i m with q | q
      · exact Pl.pltB_trans (ih (by omega) q) hs
      · obtain rfl : i = m := by omega
        exact hs
  · rw [Pl.pfxF_size (by omega)] at h; cases h
theorem Pl.rpS_good (l : List UInt8) : (Pl.rpS l).length ≤ 6 ∧ (∀ p ∈ Pl.rpS l, Pl.pfx1 p = 0) ∧ (Pl.rpS l).Pairwise (fun p q => Pl.pltB p q = true) := by
  unfold Pl.rpS
  split
  · rename_i h
    unfold Pl.rpC at h
    cases hq : Pl.pairsL 47 l with
    | none => simp
    | some ps => rw [hq] at h; exact Pl.pfxF_good h
  · simp
theorem Pl.rpS_nodup (l : List UInt8) : (Pl.rpS l).Nodup := (Pl.rpS_good l).2.2.imp fun h => Pl.pltB_ne h
def Pl.lnkX (ps : Nat → List (Int × Int)) (a b : Nat) : Int := if a = b then 0 else Pl.lnk ps a b
theorem Pl.lnk_le (es : List Pl.Ent) (a b : Nat) : 0 ≤ Pl.lnk (Pl.tS es) a b ∧ Pl.lnk (Pl.tS es) a b ≤ 1000 := by
  unfold Pl.lnk
  split
  · exact Pl.say_le (Pl.adjS_up _).ok b
  · omega
def Pl.wC (es : List Pl.Ent) (f n : Nat) : Int := (Pl.dIter (Pl.lnk (Pl.tS es)) (Pl.tD es) f 12).cost n
def Pl.wH (es : List Pl.Ent) (f n : Nat) : List Int := Pl.hopsL ((Pl.dIter (Pl.lnk (Pl.tS es)) (Pl.tD es) f 12).hops n) 12
theorem Pl.wC_self (es : List Pl.Ent) {f : Nat} (hf : f < 12) : Pl.wC es f f = 0 :=
  Pl.from_cost (L := Pl.lnkX (Pl.tS es)) (fun a b h => by unfold Pl.lnkX; rw [if_neg h]) (fun a => by unfold Pl.lnkX; rw [if_pos rfl]) hf
theorem Pl.wC_min (es : List Pl.Ent) {f n : Nat} (hf : f < 12) (hn : n ≠ f) : Pl.IsMin (fun c => ∃ k, Pl.Way (Pl.lnkX (Pl.tS es)) (Pl.tD es) f k n c) (Pl.wC es f n) :=
  Pl.found_min (fun a b h => by unfold Pl.lnkX; rw [if_neg h]) (fun a => by unfold Pl.lnkX; rw [if_pos rfl]) hf hn
theorem Pl.mem_wH (es : List Pl.Ent) {f : Nat} (n : Nat) (hf : f < 12) (x : Int) : x ∈ Pl.wH es f n ↔ ∃ k : Nat, x = (k : Int) ∧ Pl.Way (Pl.lnkX (Pl.tS es)) (Pl.tD es) f k n (Pl.wC es f n) := by
  unfold Pl.wH
  rw [Pl.mem_hopsL]
  have key := fun k => Pl.found_hops (L := Pl.lnkX (Pl.tS es)) (M := Pl.lnk (Pl.tS es)) (D := Pl.tD es) (f := f) (fun a b h => by unfold Pl.lnkX; rw [if_neg h]) (fun a => by unfold Pl.lnkX; rw [if_pos rfl]) hf n k
  constructor
  · rintro ⟨j, _, h2, h3⟩; exact ⟨j, h2, (key j).1 h3⟩
  · rintro ⟨j, h2, h3⟩; exact ⟨j, h3.klt.1, h2, (key j).2 h3⟩
theorem Pl.wC_bound (es : List Pl.Ent) (f n : Nat) : -1 ≤ Pl.wC es f n ∧ Pl.wC es f n ≤ 12000 := by
  have := Pl.CB.iter (L := Pl.lnk (Pl.tS es)) (D := Pl.tD es) (f := f) (fun a b => (Pl.lnk_le es a b).2) 12 n
  unfold Pl.wC; omega
theorem Pl.wH_self (es : List Pl.Ent) {f : Nat} (hf : f < 12) : Pl.wH es f f = [] := by
  cases h : Pl.wH es f f with
  | nil => rfl
  | cons x xs =>
    have hx : x ∈ Pl.wH es f f := by rw [h]; simp
    obtain ⟨k, _, hw⟩ := (Pl.mem_wH es f hf x).1 hx
    exact absurd rfl hw.ne
theorem Pl.wC_pos (es : List Pl.Ent) {f n : Nat} (hf : f < 12) (hn : n ≠ f) (h : 0 ≤ Pl.wC es f n) : 0 < Pl.wC es f n ∧ Pl.wH es f n ≠ [] := by
  rcases Pl.wC_min es hf hn with ⟨e, _⟩ | ⟨_, ⟨k, hk⟩, _⟩
  · omega
  · refine ⟨hk.pos, fun e => ?_⟩
    have := (Pl.mem_wH es n hf (k : Int)).2 ⟨k, rfl, hk⟩
    rw [e] at this; simp at this
def Pl.tabL (es : List Pl.Ent) (f : Nat) : List Pl.Rt := Pl.tabK (Pl.wC es f) (Pl.wH es f) (Pl.tP es) f 12
theorem Pl.tab_WP (es : List Pl.Ent) {f : Nat} (hf : f < 12) : Pl.WP (Pl.wC es f) (Pl.wH es f) (Pl.tP es) f := by
  intro n hn hc p hp
  have hp1 := (Pl.rpS_good _).2.1 p hp
  have hb := Pl.wC_bound es f n
  by_cases e : n = f
  · subst e
    have h1 := Pl.wC_self es hf
    have h2 := Pl.wH_self es hf
    refine ⟨(Pl.routeB_iff _).2 ⟨hp1, ?_, ?_, ?_⟩, ?_⟩
    · show 0 ≤ Pl.wC es n n ∧ _; simp [Pl.mkR, h1]
    · simp [Pl.mkR, h1, h2]
    · show Pl.hopsB (Pl.wH es n n) = true; rw [h2]; rfl
    · simp [Pl.mkR, h1]
  · obtain ⟨h1, h2⟩ := Pl.wC_pos es hf e hc
    have hne : decide ((n : Int) = (f : Int)) = false := by simp; omega
    refine ⟨(Pl.routeB_iff _).2 ⟨hp1, ?_, ?_, ?_⟩, ?_⟩
    · show 0 ≤ Pl.wC es f n ∧ Pl.wC es f n ≤ 1048576; omega
    · simp only [Pl.mkR, hne]; simpa using h2
    · exact Pl.hopsL_B _ (Nat.le_refl _)
    · simp only [Pl.mkR, hne]
      symm; simp; omega
theorem Pl.tabL_good (es : List Pl.Ent) {f : Nat} (hf : f < 12) : Pl.GoodT (Pl.tabL es f) ∧ ∀ r ∈ Pl.tabL es f, Pl.okR r :=
  Pl.tabK_good (Pl.tab_WP es hf) (fun _ => Pl.rpS_nodup _) (fun _ => (Pl.rpS_good _).1) 12 (Nat.le_refl _)
theorem Pl.tabL_fault (es : List Pl.Ent) {f : Nat} (hf : f < 12) : Pl.tabF (Pl.tabL es f) = 0 := (Pl.goodT_iff _).2 (Pl.tabL_good es hf).1
end Go.Proofs.YtjjelkdajdeikaaGreatDoor
/-
  Plain: a table while the prefixes of one node are offered; no program in sight.
-/
namespace Go.Proofs.YtjjelkdajdeikaaGreatDoor
open Go.RowKit
set_option maxRecDepth 20000

theorem Pl.offs_take_succ (C H node n) (rs : List Pl.Rt) (ps : List (Int × Int)) (j : Nat) (h : j < ps.length) : Pl.offs C H node n rs (ps.take (j + 1)) = Pl.offR (Pl.offs C H node n rs (ps.take j)) (Pl.mkR C H node n (Pl.pr ps j)) := by
  unfold Pl.offs
  rw [List.take_add_one, List.getElem?_eq_getElem h, List.foldl_append, Pl.pr_eq ps j h]
  rfl
theorem Pl.mem_take_pr {ps : List (Int × Int)} (hn : ps.Nodup) {j : Nat} (h : j < ps.length) : ¬ Pl.pr ps j ∈ ps.take j := by
  intro hm
  rw [Pl.pr_eq ps j h] at hm
  obtain ⟨i, hi, e⟩ := List.getElem_of_mem hm
  have hi' : i < j := by simp at hi; omega
  rw [List.getElem_take] at e
  have := (List.nodup_iff_pairwise_ne.1 hn)
  exact (List.pairwise_iff_getElem.1 this i j (by omega) h hi') e
theorem Pl.getT_zero {C H P node} (hC : ∀ n, n < 12 → C n = 0 → n = node) (q : Int × Int) : ∀ k, k ≤ 12 → ∀ a, Pl.getT C H P node q k = some a → a.cost = 0 → node < k
  | 0, _, a, e, _ => by cases e
  | k + 1, hk, a, e, h0 => by
    have ih := Pl.getT_zero (H := H) (P := P) hC q k (by omega)
    unfold Pl.getT at e
    split at e
    · have := ih a e h0; omega
    · cases e
      cases ho : Pl.getT C H P node q k with
      | none =>
        rw [ho] at h0
        have := hC k (by omega) h0; omega
      | some b =>
        rw [ho] at h0
        have h1 : (Pl.bestR b (Pl.mkR C H node k q)).cost = 0 := h0
        unfold Pl.bestR at h1
        split at h1
        · have := hC k (by omega) h1; omega
        · split at h1
          · have := ih b ho h1; omega
          · have := ih b ho h1; omega
theorem Pl.offs_ready (es : List Pl.Ent) {f k : Nat} (hf : f < 12) (hk : k < 12) (hc : 0 ≤ Pl.wC es f k) {j : Nat} (hj : j < (Pl.tP es k).length) :
    let rs := Pl.offs (Pl.wC es f) (Pl.wH es f) f k (Pl.tabK (Pl.wC es f) (Pl.wH es f) (Pl.tP es) f k) ((Pl.tP es k).take j)
    Pl.SrtR rs ∧ rs.length ≤ 78 ∧ (∀ q ∈ rs, Pl.hopsB q.hops = true) ∧ (∀ q ∈ rs, q.p = Pl.pr (Pl.tP es k) j → Pl.wC es f k = q.cost → q.hops ≠ []) := by
  intro rs
  have hn : ∀ i, (Pl.tP es i).Nodup := fun _ => Pl.rpS_nodup _
  have hl : ∀ i, (Pl.tP es i).length ≤ 6 := fun _ => (Pl.rpS_good _).1
  have hs0 := Pl.tabK_srt (Pl.wC es f) (Pl.wH es f) (Pl.tP es) f k
  have hs : Pl.SrtR rs := Pl.offs_srt _ _ _ _ _ _ hs0
  have hnt : ((Pl.tP es k).take j).Nodup := (List.take_sublist _ _).nodup (hn k)
  have hok : ∀ q ∈ rs, Pl.okR q := by
    intro q hq
    have h1 := Pl.getR_mem hs hq
    rw [Pl.offs_get _ _ _ _ _ _ _ hs0 hnt, Pl.tabK_get hn] at h1
    have ih := Pl.getT_ok (Pl.tab_WP es hf) q.p k (by omega)
    split at h1
    · rename_i hm
      rw [← Option.some.inj h1]
      exact Pl.more_ok (fun a ha => (ih a ha).1) (Pl.tab_WP es hf k hk hc _ (List.mem_of_mem_take hm))
    · exact (ih q h1).1
  refine ⟨hs, ?_, fun q hq => ((Pl.routeB_iff q).1 (hok q hq).1).2.2.2, fun q hq hp hce hh => ?_⟩
  · have h1 := Pl.offs_len (Pl.wC es f) (Pl.wH es f) f k ((Pl.tP es k).take j) (Pl.tabK (Pl.wC es f) (Pl.wH es f) (Pl.tP es) f k)
    have h2 := Pl.tabK_len (C := Pl.wC es f) (H := Pl.wH es f) (node := f) hl k
    have h3 := hl k
    have h4 : ((Pl.tP es k).take j).length ≤ 6 := by simp; omega
    show (Pl.offs _ _ _ _ _ _).length ≤ 78
    omega
  · have h1 := Pl.getR_mem hs hq
    rw [Pl.offs_get _ _ _ _ _ _ _ hs0 hnt, Pl.tabK_get hn, hp, if_neg (Pl.mem_take_pr (hn k) hj)] at h1
    obtain ⟨g1, g2⟩ := hok q hq
    have g3 := ((Pl.routeB_iff q).1 g1).2.2.1
    have hz : q.cost = 0 := by
      cases e : q.here
      · rw [e] at g3; simp only [Bool.false_eq_true, if_false] at g3; exact absurd hh g3
      · rw [e] at g3; simp only [if_true] at g3; exact g3.1
    have hC : ∀ n, n < 12 → Pl.wC es f n = 0 → n = f := fun n _ h => by
      rcases Nat.decEq n f with e | e
      · have := (Pl.wC_pos es hf e (by omega)).1; omega
      · exact e
    have a1 := Pl.getT_zero hC _ k (by omega) q h1 hz
    have a2 := hC k hk (by omega)
    omega
theorem Pl.tabK_next (es : List Pl.Ent) (f k : Nat) (h : 0 ≤ Pl.wC es f k) : Pl.tabK (Pl.wC es f) (Pl.wH es f) (Pl.tP es) f (k + 1) = Pl.offs (Pl.wC es f) (Pl.wH es f) f k (Pl.tabK (Pl.wC es f) (Pl.wH es f) (Pl.tP es) f k) (Pl.tP es k) := by
  show (if _ then _ else _) = _
  rw [if_neg (by omega)]
theorem Pl.tabK_skip (es : List Pl.Ent) (f k : Nat) (h : Pl.wC es f k < 0) : Pl.tabK (Pl.wC es f) (Pl.wH es f) (Pl.tP es) f (k + 1) = Pl.tabK (Pl.wC es f) (Pl.wH es f) (Pl.tP es) f k := by
  show (if _ then _ else _) = _
  rw [if_pos h]
end Go.Proofs.YtjjelkdajdeikaaGreatDoor
/-
  Contracts: two lists of the same numbers (sameInts), of the same ways (sameWays), are told the same.
-/
namespace Go.Proofs.YtjjelkdajdeikaaGreatDoor
open Go.RowKit
set_option maxRecDepth 20000

theorem cellsW_get : ∀ (ts : List (Int × Value × List Int)) (i : Nat) (hi : i < ts.length), (cellsW ts)[i * 2]? = some (.int .i64 ts[i].1) ∧ (cellsW ts)[i * 2 + 1]? = some ts[i].2.1
  | [], i, h => by simp at h
  | p :: r, 0, _ => by simp [cellsW]
  | p :: r, i + 1, h => by
    have := cellsW_get r i (by simpa using h)
    rw [show (i + 1) * 2 = i * 2 + 2 by omega]
    simpa [cellsW] using this
theorem OwnW.cells {w : World} {base : Nat} {v : Value} {ts : List (Int × Value × List Int)} (h : OwnW w base v ts) :
    ∃ a cap, v = .slice a ts.length cap ∧ ts.length ≤ cap ∧ cap ≤ maxLen ∧ (ts = [] ∨ ∃ g, a = some ⟨g, 0, none⟩ ∧ g < w.heap.size ∧ ∀ i (hi : i < ts.length), w.cell? ⟨g, i * 2, none⟩ = some (.int .i64 ts[i].1) ∧ w.cell? ⟨g, i * 2 + 1, none⟩ = some ts[i].2.1) := by
  obtain ⟨⟨_, ⟨h, h1⟩ | ⟨g, cap, cur, rfl, hb, hh, hn, hm, hs, hx⟩⟩, _⟩ := h
  · have e : ts = [] := List.length_eq_zero_iff.1 h1
    subst e
    exact ⟨none, 0, h, Nat.le_refl _, by simp, .inl rfl⟩
  · refine ⟨_, cap, rfl, hn, hm, .inr ⟨g, rfl, blockLt hh, fun i hi => ?_⟩⟩
    have hcell : ∀ j u, (cellsW ts)[j]? = some u → w.cell? ⟨g, j, none⟩ = some u := by
      intro j u hj
      rw [← hx] at hj
      have hj' : cur[j]? = some u := by
        rw [List.getElem?_take] at hj
        split at hj
        · rw [← Array.getElem?_toList]; exact hj
        · cases hj
      simp [World.cell?, hh, hj']
    obtain ⟨h0, h1⟩ := cellsW_get ts i hi
    exact ⟨hcell _ _ h0, hcell _ _ h1⟩

end Go.Proofs.YtjjelkdajdeikaaGreatDoor
/-
  Ways in memory, node by node: what each costs, and its hops as a slice of numbers.
-/
namespace Go.Proofs.YtjjelkdajdeikaaGreatDoor
open Go.RowKit
set_option maxRecDepth 20000

theorem Pl.wayL_len (s : Pl.DS) : ∀ k, (Pl.wayL s k).length = k
  | 0 => rfl
  | k + 1 => by simp [Pl.wayL, Pl.wayL_len s k]
theorem Pl.wayL_at (s : Pl.DS) : ∀ k i, i < k → (Pl.wayL s k)[i]? = some (s.cost i, Pl.hopsL (s.hops i) 12)
  | 0, i, h => by omega
  | k + 1, i, h => by
    unfold Pl.wayL
    rcases Nat.lt_or_ge i k with g | g
    · rw [List.getElem?_append_left (by rw [Pl.wayL_len]; exact g)]; exact Pl.wayL_at s k i g
    · obtain rfl : i = k := by omega
      rw [List.getElem?_append_right (by rw [Pl.wayL_len]; exact Nat.le_refl _), Pl.wayL_len]
      simp
def WAt (w : World) (es : List Pl.Ent) (f g : Nat) : Prop := g < w.heap.size ∧ ∀ i, i < 12 → w.cell? ⟨g, i * 2, none⟩ = some (.int .i64 (Pl.wC es f i)) ∧
  ∃ ah ch, w.cell? ⟨g, i * 2 + 1, none⟩ = some (.slice ah (Pl.wH es f i).length ch) ∧ IsInts w ah (Pl.wH es f i).length ch (Pl.wH es f i)
theorem OwnW.at12 {w : World} {base : Nat} {v : Value} {ts : List (Int × Value × List Int)} {es : List Pl.Ent} {f : Nat} (h : OwnW w base v ts) (e : Pl.flat ts = Pl.wayA es (f : Int)) (hc : Pl.wayC es (f : Int) = 0) :
    ∃ g cap, v = .slice (some ⟨g, 0, none⟩) 12 cap ∧ 12 ≤ cap ∧ cap ≤ maxLen ∧ WAt w es f g := by
  have e2 : Pl.wayA es (f : Int) = Pl.wayL (Pl.dIter (Pl.lnk (Pl.tS es)) (Pl.tD es) f 12) 12 := by
    unfold Pl.wayA; rw [if_pos hc, Int.toNat_natCast]
  rw [e2] at e
  have hl : ts.length = 12 := by
    have := congrArg List.length e
    rw [Pl.wayL_len] at this
    simpa [Pl.flat] using this
  obtain ⟨a, cap, rfl, hc1, hm, hr⟩ := h.cells
  rcases hr with rfl | ⟨g, rfl, hg, hr⟩
  · simp at hl
  · rw [hl] at hc1 ⊢
    refine ⟨g, cap, rfl, hc1, hm, hg, fun i hi => ?_⟩
    have hi' : i < ts.length := by omega
    obtain ⟨r1, r2⟩ := hr i hi'
    have q : (Pl.flat ts)[i]? = some (Pl.wC es f i, Pl.wH es f i) := by rw [e]; exact Pl.wayL_at _ 12 i hi
    simp only [Pl.flat, List.getElem?_map, List.getElem?_eq_getElem hi', Option.map_some, Option.some.injEq, Prod.mk.injEq] at q
    have ho : OwnZ w 0 ts[i].2.1 ts[i].2.2 := h.2 _ (List.getElem_mem hi')
    obtain ⟨ah, ch, ev, hi2, _⟩ := ho.ints
    refine ⟨by rw [r1, q.1], ah, ch, ?_, ?_⟩
    · rw [r2, ev, q.2]
    · rw [q.2] at hi2; exact hi2
theorem Pl.wayC_ok {es : List Pl.Ent} {f : Nat} (hf : Pl.fault es = 0) (h : f < 12) : Pl.wayC es (f : Int) = 0 := by
  unfold Pl.wayC; rw [if_neg (by simp [hf]), if_pos (by omega)]
end Go.Proofs.YtjjelkdajdeikaaGreatDoor
/-
  Contract: the table of a node, of a store (Table).
-/
namespace Go.Proofs.YtjjelkdajdeikaaGreatDoor
open Go.RowKit
set_option maxRecDepth 20000

def Pl.tabA (es : List Pl.Ent) (f : Int) : List Pl.Rt := if Pl.wayC es f = 0 then Pl.tabL es f.toNat else []
theorem apartPR {w : World} {b1 b2 : Nat} {u v : Value} {ps : List (Int × Int)} {hs : List Pl.RH} (h1 : OwnP 49 w b1 u ps) (h2 : OwnR w b2 v hs) : u.ownBlock = none ∨ u.ownBlock ≠ v.ownBlock := by
  obtain ⟨_, ⟨rfl, _⟩ | ⟨g, cap, cur, rfl, _, hh, _⟩⟩ := h1
  · exact .inl rfl
  · right
    obtain ⟨_, ⟨rfl, _⟩ | ⟨g2, cap2, cur2, rfl, _, hh2, _⟩⟩ := h2
    · simp [Value.ownBlock]
    · simp only [Value.ownBlock, ne_eq, Option.some.injEq]
      intro e
      subst e
      rw [hh] at hh2
      simp at hh2
theorem apartBR {w : World} {b2 b : Nat} {v : Value} {hs : List Pl.RH} {cs : Array Value} {T : TypeId} (h1 : w.heap[b]? = some (.cells cs T)) (hT : T ≠ 80) (h2 : OwnR w b2 v hs) : some b ≠ v.ownBlock := by
  obtain ⟨_, ⟨rfl, _⟩ | ⟨g2, cap2, cur2, rfl, _, hh2, _⟩⟩ := h2
  · simp [Value.ownBlock]
  · simp only [Value.ownBlock, ne_eq, Option.some.injEq]
    intro e
    subst e
    rw [h1] at hh2
    simp at hh2
    exact hT hh2.2

set_option maxHeartbeats 8000000 in
theorem Table_any (a : Option Addr) (len cap : Nat) (es : List Pl.Ent) (f : Int) (w : World) (h : IsEnts w a len cap es) (hT : Tab w) :
    Calls Tryz.prog 37 #[.slice a len cap, .int .i64 f] w fun e w' => ∃ v hs, e = .returned (.tuple #[v, .int .i64 (Pl.wayC es f)]) ∧ OwnTb w' w.heap.size v hs (Pl.tabA es f) ∧ Below w.heap.size w w' := by
  have HE := hid h
  have HTab := hid hT
  clear h hT
  obtain ⟨cd, HCD⟩ : ∃ x, Hid (Pl.wayC es f = x) := ⟨_, hid rfl⟩
  rw [HCD.out]
  go_enter Tryz.func37, Tryz.ntmps37
  go_wp2_with fail
  refine (Ways_any a len cap es f w HE.out HTab.out).mono ?_
  rw [HCD.out]
  rintro e w2 ⟨v2, ts, rfl, ho2, hf2, hb2⟩
  have HB2 := hid hb2
  by_cases hcd : cd = 0
  · subst hcd
    have hfr : 0 ≤ f ∧ f ≤ 11 := by
      have := HCD.out
      unfold Pl.wayC at this
      split at this
      · rename_i h; exact absurd this h
      · split at this
        · assumption
        · cases this
    obtain ⟨n, rfl⟩ : ∃ n : Nat, f = n := ⟨f.toNat, by omega⟩
    have hn : n < 12 := by omega
    have HTA : Hid (Pl.tabA es (n : Int) = Pl.tabK (Pl.wC es n) (Pl.wH es n) (Pl.tP es) n 12) := hid (by unfold Pl.tabA; rw [HCD.out, if_pos rfl, Int.toNat_natCast]; rfl)
    obtain ⟨g2, c2, rfl, hc2, hm2, ha2⟩ := ho2.at12 hf2 HCD.out
    unfold maxLen at hm2
    have HW2 := hid ha2
    have HE2 := hid (HE.out.below hb2)
    have HT2 := hid (HTab.out.below hb2)
    have hg2 := ha2.1
    clear ho2 hf2 hb2 ha2 hfr
    go_wp2_with fail
    go_loopw [8, 24] (fun v i wr => ∃ (k : Nat) (hs : List Pl.RH), k ≤ 12 ∧ i = .int .i64 k ∧ Hid (OwnTb wr w2.heap.size v hs (Pl.tabK (Pl.wC es n) (Pl.wH es n) (Pl.tP es) n k)) ∧ Hid (Below w2.heap.size w2 wr)) (fun _ i _ => 12 - (intOf i).toNat)
    case atStart => exact ⟨0, [], by omega, rfl, hid (OwnTb.nil _ _), hid (Below.refl _ _)⟩
    case round =>
      obtain ⟨k, hs, hk, rfl, HO, HB⟩ := hrel
      have hzr := HB.out.size
      by_cases hlt : k < 12
      · obtain ⟨z0, ah, ch, z1, z2⟩ := HW2.out.2 k hlt
        have HZI := hid z2
        have z0 := (HB.out.cell (p := ⟨g2, k * 2, none⟩) hg2).trans z0
        have z1 := (HB.out.cell (p := ⟨g2, k * 2 + 1, none⟩) hg2).trans z1
        have hgr : g2 < wr.heap.size := by omega
        have hbd := Pl.wC_bound es n k
        have HNEXT := hid (fun h => Pl.tabK_next es n k h)
        have HSKIP := hid (fun h => Pl.tabK_skip es n k h)
        have HREADY := hid (fun h j hj => Pl.offs_ready es (j := j) hn hlt h hj)
        have HHB : Hid (Pl.hopsB (Pl.wH es n k) = true) := hid (Pl.hopsL_B _ (Nat.le_refl _))
        have HMK : Hid (∀ p, Pl.mkR (Pl.wC es n) (Pl.wH es n) n k p = ⟨p, ((k : Int) == (n : Int)), Pl.wC es n k, Pl.wH es n k⟩) := hid fun p => rfl
        obtain ⟨bb, hbb⟩ : ∃ b, ((k : Int) == (n : Int)) = b := ⟨_, rfl⟩
        rw [hbb] at HMK
        obtain ⟨hl, HHL⟩ : ∃ m, Hid ((Pl.wH es n k).length = m) := ⟨_, hid rfl⟩
        rw [HHL.out] at z1 HZI
        obtain ⟨c, HC⟩ : ∃ c, Hid (Pl.wC es n k = c) := ⟨_, hid rfl⟩
        rw [HC.out] at z0 hbd HNEXT HSKIP HREADY HMK
        clear z2
        obtain ⟨W1, HW1⟩ : ∃ W1, Hid (W1 = wr.alloc (.cells #[.int .i64 c, .slice ah hl ch] 126)) := ⟨_, hid rfl⟩
        have HBX : Hid (W1.heap[wr.heap.size]? = some (.cells #[.int .i64 c, .slice ah hl ch] 126)) := hid (by rw [HW1.out]; exact heapNewZ wr _)
        have HB1 : Hid (Below wr.heap.size wr W1) := hid (by rw [HW1.out]; exact (Below.refl _ _).alloc (Nat.le_refl _) _)
        have HB21 : Hid (Below w2.heap.size w2 W1) := hid (HB.out.trans (HB1.out.mono hzr))
        by_cases hneg : c < 0
        · have hneg' : decide (c < 0) = true := by simpa using hneg
          have HSK := hid (HSKIP.out hneg)
          clear hneg
          go_wp2_with fail
          rw [← HW1.out]
          go_roundw
          case rel => exact ⟨k + 1, hs, by omega, by go_num, hid (by rw [HSK.out]; exact HO.out.below HB1.out), HB21⟩
          case measure => simp [intOf]; omega
        · have hneg' : decide (c < 0) = false := by simpa using hneg
          have HNX := hid (HNEXT.out (by omega))
          have HRD := hid (HREADY.out (by omega))
          clear hneg HNEXT HSKIP HREADY
          go_wp2_with fail
          rw [← HW1.out]
          refine (ToldPrefixes_any a len cap es k W1 (HE2.out.below HB21.out) hlt (HT2.out.below HB21.out)).mono ?_
          rintro e w4 ⟨vl, rfl, ho4, hb4⟩
          obtain ⟨pa, pc, rfl, hp4, _, hx4⟩ := OwnP.shape ho4 (Pl.rpS_ok _)
          have HB4 : Hid (Below w2.heap.size w2 w4) := hid (HB21.out.trans (hb4.mono HB21.out.size))
          have HBX4 : Hid (w4.heap[wr.heap.size]? = some (.cells #[.int .i64 c, .slice ah hl ch] 126)) := hid ((hb4.block _ (by rw [HW1.out]; simp)).trans HBX.out)
          have HO4 := hid ((HO.out.below HB1.out).below hb4)
          have HP4 := hid (OwnP.mono ho4 (Nat.le_trans hzr HB1.out.size))
          have hpc := hp4.2.1
          have hpm := hp4.2.2.1
          unfold maxLen at hpm
          obtain ⟨m, HM⟩ : ∃ m, Hid ((Pl.tP es k).length = m) := ⟨_, hid rfl⟩
          rw [HM.out] at HRD HP4 hpc ⊢
          clear ho4 hb4 hp4 hx4
          go_wp2_with fail
          go_loopw [8, 36] (fun v i wq => ∃ (j : Nat) (hs : List Pl.RH), j ≤ m ∧ i = .int .i64 j ∧ Hid (OwnTb wq w2.heap.size v hs (Pl.offs (Pl.wC es n) (Pl.wH es n) n k (Pl.tabK (Pl.wC es n) (Pl.wH es n) (Pl.tP es) n k) ((Pl.tP es k).take j))) ∧ Hid (OwnP 49 wq w2.heap.size (.slice pa m pc) (Pl.tP es k)) ∧ Hid (wq.heap[wr.heap.size]? = some (.cells #[.int .i64 c, .slice ah hl ch] 126)) ∧ Hid (Below w2.heap.size w2 wq)) (fun _ i _ => m - (intOf i).toNat)
          case atStart => exact ⟨0, hs, Nat.zero_le _, rfl, HO4, HP4, HBX4, HB4⟩
          case round =>
            obtain ⟨j, hs', hj, rfl, HOj, HPj, HBXj, HBj⟩ := hrel
            rename World => wq
            obtain ⟨x0, x1, xf0, xf1, hxl⟩ := adjAt_cells HBXj.out
            by_cases hjm : j < m
            · obtain ⟨pa', pc', e1, hpj, _, _⟩ := HPj.out.shape (Pl.rpS_ok _)
              have HIP : Hid (IsPairs wq pa m pc (Pl.tP es k)) := hid (by
                simp only [Value.slice.injEq] at e1
                obtain ⟨u1, u2, u3⟩ := e1
                rw [u1, u2, u3]; exact hpj)
              clear e1 hpj
              have HPO : Hid (Pl.pairOk (Pl.pr (Pl.tP es k) j)) := hid (Pl.rpS_ok _ _ (Pl.pr_mem (Pl.tP es k) j (by rw [HM.out]; exact hjm)))
              obtain ⟨b, off, rfl, hbw, hr⟩ : ∃ b off, pa = some ⟨b, off, none⟩ ∧ b < wq.heap.size ∧ PairsAt wq b off (Pl.tP es k) := by
                rcases HIP.out.2.2.2.2 with h | h
                · have := HM.out; rw [h] at this; simp at this; omega
                · exact h
              obtain ⟨p0, p1⟩ := hr j (by rw [HM.out]; exact hjm)
              obtain ⟨r1, r2, r3, r4⟩ := HRD.out j hjm
              have HRR := hid (And.intro r1 (And.intro r2 (And.intro r3 r4)))
              have HSU := hid (Pl.offs_take_succ (Pl.wC es n) (Pl.wH es n) n k (Pl.tabK (Pl.wC es n) (Pl.wH es n) (Pl.tP es) n k) (Pl.tP es k) j (by rw [HM.out]; exact hjm))
              obtain ⟨q1, q2, hpq⟩ : ∃ x y, Pl.pr (Pl.tP es k) j = (x, y) := ⟨_, _, rfl⟩
              rw [hpq] at p0 p1 HPO HRR HSU
              rw [HMK.out] at HSU
              simp only at p0 p1
              clear hr hpq r1 r2 r3 r4 HIP
              obtain ⟨rs, HRS⟩ : ∃ rs, Hid (Pl.offs (Pl.wC es n) (Pl.wH es n) n k (Pl.tabK (Pl.wC es n) (Pl.wH es n) (Pl.tP es) n k) ((Pl.tP es k).take j) = rs) := ⟨_, hid rfl⟩
              rw [HRS.out] at HOj HRR HSU
              obtain ⟨W2, HW2'⟩ : ∃ W2, Hid (W2 = wq.alloc (.cells #[.int .i64 q1, .int .i64 q2] 49)) := ⟨_, hid rfl⟩
              have HBq : Hid (Below wq.heap.size wq W2) := hid (by rw [HW2'.out]; exact (Below.refl _ _).alloc (Nat.le_refl _) _)
              have HBq2 : Hid (Below w2.heap.size w2 W2) := hid (HBj.out.trans (HBq.out.mono HBj.out.size))
              have HOq := hid (HOj.out.below HBq.out)
              have HPq := hid (HPj.out.below HBq.out)
              have HXq : Hid (W2.heap[wr.heap.size]? = some (.cells #[.int .i64 c, .slice ah hl ch] 126)) := hid ((HBq.out.block _ hxl).trans HBXj.out)
              have hjm' : (j : Int) < (m : Int) := by omega
              have HOF : Hid (∀ vv, OwnTb W2 w2.heap.size vv hs' rs → Calls Tryz.prog 65 #[vv, .agg #[.int .i64 q1, .int .i64 q2, .bool bb, .int .i64 c, .slice ah hl ch]] W2 fun e w' => ∃ v' hs', e = .returned v' ∧ OwnTb w' w2.heap.size v' hs' (Pl.offR rs ⟨(q1, q2), bb, c, Pl.wH es n k⟩) ∧ W2.grownBy w' vv.ownBlock) := hid fun vv hvv =>
                offer_any w2.heap.size vv hs' rs ⟨(q1, q2), bb, c, ah, hl, ch⟩ ⟨(q1, q2), bb, c, Pl.wH es n k⟩ W2 hvv HBq2.out.size HRR.out.1 (by have := HRR.out.2.1; have := hvv.2.1; omega) ⟨rfl, rfl, rfl, HZI.out.below HBq2.out, HPO.out⟩ HHB.out HRR.out.2.2.1 HRR.out.2.2.2
              go_wp2_with fail
              rw [← HW2'.out]
              refine (HOF.out _ HOq.out).mono ?_
              rintro e w6 ⟨v6, hs6, rfl, ho6, hg6⟩
              have HO6 := hid ho6
              have HP6 : Hid (OwnP 49 w6 w2.heap.size (.slice (some ⟨b, off, none⟩) m pc) (Pl.tP es k)) := hid (World.ownsRow.kept HPq.out hg6 (apartPR HPq.out HOq.out.1))
              have HX6 : Hid (w6.heap[wr.heap.size]? = some (.cells #[.int .i64 c, .slice ah hl ch] 126)) := hid ((hg6.block _ (blockLt HXq.out) (apartBR HXq.out (by decide) HOq.out.1)).trans HXq.out)
              have HB6 : Hid (Below w2.heap.size w2 w6) := hid (HBq2.out.grown hg6 HBq2.out.size (fun i hi => (World.ownsRow.lt HOq.out.1 i hi).1))
              clear ho6 hg6
              go_wp2_with fail
              go_roundw
              case rel => exact ⟨j + 1, hs6, by omega, by go_num, hid (by rw [HSU.out]; exact HO6.out), HP6, HX6, HB6⟩
              case measure => simp [intOf]; omega
            · obtain rfl : j = m := by omega
              have HTK : Hid ((Pl.tP es k).take j = Pl.tP es k) := hid (List.take_of_length_le (by rw [HM.out]; exact Nat.le_refl _))
              go_wp2_with fail
              go_roundw
              case rel => exact ⟨k + 1, hs', by omega, by go_num, hid (by have := HOj.out; rw [HTK.out] at this; rw [HNX.out]; exact this), HBj⟩
              case measure => simp [intOf]; omega
      · obtain rfl : k = 12 := by omega
        go_wp2_with fail
        refine bodyPost_ret (results_tmp2 rfl _ _ _) rfl ⟨_, hs, ret_two rfl rfl, by rw [HTA.out]; exact HO.out.mono HB2.out.size, HB2.out.trans (HB.out.mono HB2.out.size)⟩
  · have HTA : Hid (Pl.tabA es f = []) := hid (by unfold Pl.tabA; rw [HCD.out, if_neg hcd])
    have hcd' : (cd != 0) = true := by simpa using hcd
    clear ho2 hf2 hb2 hcd
    go_wp2_with fail
    refine bodyPost_ret (results_tmp2 rfl _ _ _) rfl ⟨_, [], ret_two rfl rfl, by rw [HTA.out]; exact OwnTb.nil _ _, HB2.out⟩
end Go.Proofs.YtjjelkdajdeikaaGreatDoor
/-
  Package net: regions that draw their order, with a call whose answer lies in new memory (written by tools/gen_net.py).
-/
namespace Go.Proofs.YtjjelkdajdeikaaGreatDoor
open Go.RowKit
set_option maxRecDepth 20000
def SV.table (base : Nat) (rs : List Pl.Rt) : SV := ⟨fun u W => ∃ hs, OwnTb W base u hs rs, fun _ _ _ hb ⟨hs, h⟩ => ⟨hs, h.below hb⟩⟩
set_option maxHeartbeats 8000000 in
theorem netDecide2 {Q : Exit → Act → World → Prop} {a0 : Act} {w0 : World} {B xb a kl kc : Nat} {ka : Option Addr} {es : List Pl.Ent}
    (hsize : a0.tmps.size = 64)
    (q3 : a0.tmps[3]?.getD undef = .pointer (some ⟨xb, 0, none⟩))
    (q5 : a0.tmps[5]?.getD undef = .pointer (some ⟨B, a * 4, none⟩))
    (hB : B < w0.heap.size)
    (hx : xb < w0.heap.size)
    (X1 : w0.cell? ⟨xb, 1, none⟩ = some (.int .i64 a))
    (KN : w0.cell? ⟨B, a * 4 + 2, none⟩ = some (.slice ka kl kc))
    (HK : IsEnts w0 ka kl kc es)
    (hT : Tab w0)
    (hQ : ∀ xs W, xs.length = 21 → (∃ hs, OwnTb W w0.heap.size (xs.getD 0 undef) hs (Pl.tabA es a)) → (xs.getD 1 undef) = .int .i64 (Pl.wayC es a) → Below w0.heap.size w0 W → Q .normal { a0 with tmps := setFrom a0.tmps 6 xs } W) :
    ∀ ops, regIn Tryz.f118 2 = some ops → (Code.region 2 ops true).wp Tryz.prog Q a0 w0 := by
  intro ops hops
  have eo := Option.some.inj (hops.symm.trans (rfl : regIn Tryz.f118 2 = some _))
  subst eo
  clear hops
  have hsz : 6 + 21 ≤ a0.tmps.size := by omega
  refine wp_region_any (by kernel_rfl) ?_
  refine wpAny_inv2 (RInv a0 6 21 12 (fun k => some (([12, 13, 14, 15, 16, 17, 18, 11, 19, 20, 0, 1] : List Nat).getD k 0)) (SV.V [SV.table w0.heap.size (Pl.tabA es a), SV.eq (.int .i64 (Pl.wayC es a)), SV.any, SV.any, SV.any, SV.any, SV.any, SV.any, SV.any, SV.any, SV.any, SV.two (SV.table w0.heap.size (Pl.tabA es a)) (Pl.wayC es a), SV.eq (.pointer (some ⟨B, a * 4, none⟩)), SV.eq (.pointer (some ⟨B, a * 4, none⟩)), SV.eq (.pointer (some ⟨B, a * 4 + 2, none⟩)), SV.eq (.slice ka kl kc), SV.eq (.pointer (some ⟨xb, 1, none⟩)), SV.eq (.int .i64 a), SV.two (SV.table w0.heap.size (Pl.tabA es a)) (Pl.wayC es a), SV.table w0.heap.size (Pl.tabA es a), SV.eq (.int .i64 (Pl.wayC es a))]) (fun W => Below w0.heap.size w0 W)) ?_ ?_ _ _ _ _ (by decide +kernel) ?_ (closed_start _ _ _)
  · rintro i listed a' W hi hCl hI
    rw [mem_ready] at hi
    obtain ⟨hl0, o, ho, hall⟩ := hi
    have hlti : i < 12 := (Array.getElem?_eq_some_iff.1 ho).1
    have o3 := (hI.out (k := 3) (by omega)).trans q3
    have o5 := (hI.out (k := 5) (by omega)).trans q5
    have x1 := (hI.cw.cell (p := ⟨xb, 1, none⟩) hx).trans X1
    have kn := (hI.cw.cell (p := ⟨B, a * 4 + 2, none⟩) hB).trans KN
    have hcs : i = 0 ∨ i = 1 ∨ i = 2 ∨ i = 3 ∨ i = 4 ∨ i = 5 ∨ i = 6 ∨ i = 7 ∨ i = 8 ∨ i = 9 ∨ i = 10 ∨ i = 11 := by omega
    rcases hcs with rfl | rfl | rfl | rfl | rfl | rfl | rfl | rfl | rfl | rfl | rfl | rfl
    all_goals
      simp at ho
      subst ho
    · refine wpOp_of rfl rfl ?_
      simp [Oper.wp, go_sem, o5]
      exact hI.put (i := 0) (j := 12) rfl (by omega) (fun _ _ h => h) rfl hI.cw
    · refine wpOp_of rfl rfl ?_
      have e18 : a'.tmps[18]?.getD undef = .pointer (some ⟨B, a * 4, none⟩) := hI.at (k := 0) (j := 12) hsz rfl (by omega) (hall ⟨0, .data⟩ (by simp) rfl)
      simp [Oper.wp, go_sem, e18]
      exact hI.put (i := 1) (j := 13) rfl (by omega) (fun _ _ h => h) rfl hI.cw
    · refine wpOp_of rfl rfl ?_
      have e19 : a'.tmps[19]?.getD undef = .pointer (some ⟨B, a * 4, none⟩) := hI.at (k := 1) (j := 13) hsz rfl (by omega) (hall ⟨1, .data⟩ (by simp) rfl)
      simp [Oper.wp, go_sem, e19]
      exact hI.put (i := 2) (j := 14) rfl (by omega) (fun _ _ h => h) rfl hI.cw
    · refine wpOp_of rfl rfl ?_
      have e20 : a'.tmps[20]?.getD undef = .pointer (some ⟨B, a * 4 + 2, none⟩) := hI.at (k := 2) (j := 14) hsz rfl (by omega) (hall ⟨2, .data⟩ (by simp) rfl)
      simp [Oper.wp, go_sem, e20, kn]
      exact hI.put (i := 3) (j := 15) rfl (by omega) (fun _ _ h => h) rfl hI.cw
    · refine wpOp_of rfl rfl ?_
      simp [Oper.wp, go_sem, o3]
      exact hI.put (i := 4) (j := 16) rfl (by omega) (fun _ _ h => h) rfl hI.cw
    · refine wpOp_of rfl rfl ?_
      have e22 : a'.tmps[22]?.getD undef = .pointer (some ⟨xb, 1, none⟩) := hI.at (k := 4) (j := 16) hsz rfl (by omega) (hall ⟨4, .data⟩ (by simp) rfl)
      simp [Oper.wp, go_sem, e22, x1]
      exact hI.put (i := 5) (j := 17) rfl (by omega) (fun _ _ h => h) rfl hI.cw
    · refine wpOp_of rfl rfl ?_
      have e21 : a'.tmps[21]?.getD undef = .slice ka kl kc := hI.at (k := 3) (j := 15) hsz rfl (by omega) (hall ⟨3, .data⟩ (by simp) rfl)
      have e23 : a'.tmps[23]?.getD undef = .int .i64 a := hI.at (k := 5) (j := 17) hsz rfl (by omega) (hall ⟨5, .data⟩ (by simp) rfl)
      simp [Oper.wp, go_sem, e21, e23]
      refine (Table_any ka kl kc es a W (HK.below hI.cw) (hT.below hI.cw)).mono ?_
      rintro e W' ⟨v, hs, rfl, ho', hb'⟩
      exact hI.put (i := 6) (j := 18) rfl (by omega) (SV.grow hb') ⟨_, rfl, ⟨hs, ho'.mono hI.cw.size⟩⟩ (hI.cw.trans (hb'.mono hI.cw.size))
    · refine wpOp_of rfl rfl ?_
      obtain ⟨l, hl, hp⟩ := hI.at (k := 6) (j := 18) hsz rfl (by omega) (hall ⟨6, .data⟩ (by simp) rfl)
      have hl : a'.tmps[24]?.getD undef = _ := hl
      simp [Oper.wp, go_sem, hl]
      exact hI.put (i := 7) (j := 11) rfl (by omega) (fun _ _ h => h) ⟨l, rfl, hp⟩ hI.cw
    · refine wpOp_of rfl rfl ?_
      obtain ⟨l, hl, hp⟩ := hI.at (k := 7) (j := 11) hsz rfl (by omega) (hall ⟨7, .data⟩ (by simp) rfl)
      have hl : a'.tmps[17]?.getD undef = _ := hl
      simp [Oper.wp, go_sem, hl]
      exact hI.put (i := 8) (j := 19) rfl (by omega) (fun _ _ h => h) hp hI.cw
    · refine wpOp_of rfl rfl ?_
      obtain ⟨l, hl, hp⟩ := hI.at (k := 7) (j := 11) hsz rfl (by omega) (hall ⟨7, .data⟩ (by simp) rfl)
      have hl : a'.tmps[17]?.getD undef = _ := hl
      simp [Oper.wp, go_sem, hl]
      exact hI.put (i := 9) (j := 20) rfl (by omega) (fun _ _ h => h) rfl hI.cw
    · refine wpOp_of rfl rfl ?_
      have h0 := hI.at (k := 8) (j := 19) hsz rfl (by omega) (hall ⟨8, .data⟩ (by simp) rfl)
      simp [Oper.wp, go_sem]
      exact hI.put (i := 10) (j := 0) rfl (by omega) (fun _ _ h => h) h0 hI.cw
    · refine wpOp_of rfl rfl ?_
      have e26 : a'.tmps[26]?.getD undef = .int .i64 (Pl.wayC es a) := hI.at (k := 9) (j := 20) hsz rfl (by omega) (hall ⟨9, .data⟩ (by simp) rfl)
      simp [Oper.wp, go_sem, e26]
      exact hI.put (i := 11) (j := 1) rfl (by omega) (fun _ _ h => h) rfl hI.cw
  · rintro listed a' W hr hI
    have hal := all_listed2 (by decide +kernel) hI.ls hr
    obtain ⟨xs, hxl, rfl, hf⟩ := hI.fr
    exact hQ xs W hxl (hf 10 0 rfl (hal 10 (by decide))) (hf 11 1 rfl (hal 11 (by decide))) hI.cw
  · exact RInv.start hsz (Below.refl _ _).drew

end Go.Proofs.YtjjelkdajdeikaaGreatDoor
/-
  Plain: a table that is patched by a difference is the one that was wanted; no program in sight.
-/
namespace Go.Proofs.YtjjelkdajdeikaaGreatDoor
open Go.RowKit
set_option maxRecDepth 20000

theorem Pl.getR_filter {rs : List Pl.Rt} (hs : Pl.SrtR rs) (f : Pl.Rt → Bool) (q : Int × Int) : Pl.getR (rs.filter f) q = match Pl.getR rs q with | none => none | some r => if f r then some r else none := by
  cases h : Pl.getR rs q with
  | none =>
    refine Pl.getR_none fun r hr e => ?_
    have := Pl.getR_mem hs (List.mem_filter.1 hr).1
    rw [e, h] at this; cases this
  | some r =>
    obtain ⟨h1, h2⟩ := Pl.getR_some h
    show _ = if f r then some r else none
    split
    · rename_i g
      rw [← h2]
      exact Pl.getR_mem (Pl.filter_srt f hs) (List.mem_filter.2 ⟨h1, g⟩)
    · rename_i g
      refine Pl.getR_none fun x hx e => ?_
      obtain ⟨hx1, hx2⟩ := List.mem_filter.1 hx
      have := Pl.getR_mem hs hx1
      rw [e, h] at this
      cases this
      exact g hx2
theorem Pl.getR_inss : ∀ (ss rs : List Pl.Rt) (q : Int × Int), Pl.SrtR rs → Pl.SrtR ss → Pl.getR (Pl.inssR rs ss) q = match Pl.getR ss q with | none => Pl.getR rs q | some r => some r
  | [], rs, q, _, _ => rfl
  | x :: ss, rs, q, h, hs => by
    have hs' := hs
    unfold Pl.SrtR at hs
    rw [List.pairwise_cons] at hs
    show Pl.getR (Pl.inssR (Pl.insR rs x) ss) q = _
    rw [Pl.getR_inss ss _ q (Pl.insR_srt h) hs.2, Pl.getR_ins h]
    by_cases g : x.p = q
    · have e : Pl.getR ss q = none := Pl.getR_none fun r hr e => by
        have := hs.1 r hr
        rw [e, g, Pl.pltB_irrefl] at this; cases this
      rw [e]
      simp [Pl.getR, g]
    · simp only [Pl.getR, if_neg g]
theorem Pl.there_get {rs : List Pl.Rt} (hs : Pl.SrtR rs) (q : Int × Int) : Pl.thereP (rs.map Pl.Rt.p) q = (Pl.getR rs q).isSome := by
  rw [Pl.getR_there hs]
  cases Pl.thereP (rs.map Pl.Rt.p) q <;> simp
theorem Pl.kept_iff {a : List Pl.Rt} (hs : Pl.SrtR a) (r : Pl.Rt) : Pl.keptB a r = true ↔ Pl.getR a r.p = some r := by
  unfold Pl.keptB
  rw [Pl.getR_there hs]
  cases h : Pl.thereP (a.map Pl.Rt.p) r.p
  · simp
  · have h1 := Pl.thereP_eq h
    have h2 := Pl.thereP_lt h
    rw [Pl.pr_map a _ (by simpa using h2)] at h1
    generalize Pl.rt a (Pl.posP (a.map Pl.Rt.p) r.p) = x at *
    obtain ⟨xp, xh, xc, xl⟩ := x
    obtain ⟨rp, rh, rc, rl⟩ := r
    simp only at h1
    subst h1
    simp [Pl.sameR, and_assoc]
theorem Pl.setL_srt {a b : List Pl.Rt} (hb : Pl.SrtR b) : Pl.SrtR (Pl.setL a b) := Pl.filter_srt _ hb
theorem Pl.patR_diff {a b : List Pl.Rt} (ha : Pl.SrtR a) (hb : Pl.SrtR b) : Pl.patR a (Pl.setL a b) (Pl.goneL a b) = b := by
  unfold Pl.patR
  refine Pl.srtR_ext (Pl.inssR_srt _ _ (Pl.delsR_srt ha)) hb fun q => ?_
  rw [Pl.getR_inss _ _ q (Pl.delsR_srt ha) (Pl.setL_srt hb), Pl.delsR_filter _ _ ha, Pl.getR_filter ha]
  unfold Pl.setL
  rw [Pl.getR_filter hb]
  cases hy : Pl.getR b q with
  | none =>
    simp only
    cases hx : Pl.getR a q with
    | none => rfl
    | some r =>
      simp only
      rw [if_neg]
      simp only [decide_not, Bool.not_eq_true', decide_eq_false_iff_not, Decidable.not_not]
      obtain ⟨h1, h2⟩ := Pl.getR_some hx
      unfold Pl.goneL
      refine List.mem_map.2 ⟨r, List.mem_filter.2 ⟨h1, ?_⟩, rfl⟩
      rw [Pl.there_get hb, h2, hy]; rfl
  | some r =>
    obtain ⟨h1, h2⟩ := Pl.getR_some hy
    simp only
    cases hk : Pl.keptB a r
    · simp
    · have hx := (Pl.kept_iff ha r).1 hk
      rw [h2] at hx
      rw [hx]
      simp only [Bool.not_true, Bool.false_eq_true, if_false]
      rw [if_pos]
      simp only [decide_not, Bool.not_eq_true', decide_eq_false_iff_not]
      intro hm
      unfold Pl.goneL at hm
      obtain ⟨x, hx1, hx2⟩ := List.mem_map.1 hm
      obtain ⟨_, hx3⟩ := List.mem_filter.1 hx1
      rw [hx2, h2, Pl.there_get hb, hy] at hx3
      cases hx3
theorem Pl.patL_diff {a b : List Pl.Rt} (ha : Pl.tabF a = 0) (hb : Pl.tabF b = 0) : Pl.patC a (Pl.setL a b) (Pl.goneL a b) = 0 ∧ Pl.patL a (Pl.setL a b) (Pl.goneL a b) = b := by
  have e := Pl.patR_diff ((Pl.goodT_iff a).1 ha).2.2 ((Pl.goodT_iff b).1 hb).2.2
  unfold Pl.patC Pl.patL
  rw [if_pos ha, if_pos ha, e, hb]
  exact ⟨rfl, if_pos rfl⟩
end Go.Proofs.YtjjelkdajdeikaaGreatDoor
/-
  Contract of package net: what a node decides (decide).
-/
namespace Go.Proofs.YtjjelkdajdeikaaGreatDoor
open Go.RowKit
set_option maxRecDepth 20000

theorem Pl.diff_ok {a b : List Pl.Rt} (h : Pl.tabF a = 0) (k : Pl.tabF b = 0) : Pl.diffC a b = 0 ∧ Pl.diffS a b = Pl.setL a b ∧ Pl.diffG a b = Pl.goneL a b := by
  have e : Pl.diffC a b = 0 := by unfold Pl.diffC; rw [if_pos h]; exact k
  refine ⟨e, ?_, ?_⟩
  · unfold Pl.diffS; rw [if_pos e]
  · unfold Pl.diffG; rw [if_pos e]
theorem Pl.goneL_ok {a b : List Pl.Rt} (h : Pl.tabF a = 0) : ∀ p ∈ Pl.goneL a b, Pl.pairOk p := by
  intro p hp
  unfold Pl.goneL at hp
  obtain ⟨r, hr, rfl⟩ := List.mem_map.1 hp
  have hr := ((Pl.goodT_iff a).1 h).2.1 r (List.mem_filter.1 hr).1
  have hz := Pl.pfx1_zero ((Pl.routeB_iff r).1 hr).1
  exact Pl.pairOk_of ⟨by omega, by omega, by omega, by omega⟩

set_option maxHeartbeats 4000000 in
theorem netDecide_any (B : Nat) (s : Pl.Nt) (x : Pl.Ac) (a : Nat) (w : World) (h : NetAt w B s) (hxa : x.a = a) (ha : a < 12) (hf : Pl.fault (s.K a) = 0) (ht : Pl.tabF (s.T a) = 0) (hT : Tab w) :
    Calls Tryz.prog 118 #[.pointer (some ⟨B, 0, none⟩), .agg #[.int .i64 x.kind, .int .i64 x.a, .int .i64 x.b, .int .i64 x.n, .int .i64 x.m, .int .i64 x.p.1, .int .i64 x.p.2, .string x.key, .string x.val]] w fun e w' =>
      e = .returned (.agg #[.int .i64 0, .slice none 0 0, .int .i64 0, .slice none 0 0]) ∧ NetAt w' B { s with T := Pl.upd s.T a (Pl.tabL (s.K a) a) } ∧ NKept B w w' := by
  have HN := hid h
  have hBl := h.lt
  have HTab := hid hT
  have HF := hid hf
  have HT0 := hid ht
  clear h hT hf ht
  obtain ⟨kind, xa, b, n, m, ⟨p1, p2⟩, key, val⟩ := x
  simp only at hxa ⊢
  subst hxa
  have ha' : (a : Int) < 12 := by omega
  have HOK : Hid (∀ e ∈ s.K a, e.ok) := hid (Pl.Good.ok ((Pl.good_iff _).1 HF.out))
  have HWC : Hid (Pl.wayC (s.K a) (a : Int) = 0) := hid (Pl.wayC_ok HF.out ha)
  have HTA : Hid (Pl.tabA (s.K a) (a : Int) = Pl.tabL (s.K a) a) := hid (by unfold Pl.tabA; rw [HWC.out, if_pos rfl, Int.toNat_natCast])
  have HY0 : Hid (Pl.tabF (Pl.tabL (s.K a) a) = 0) := hid (Pl.tabL_fault (s.K a) ha)
  obtain ⟨Y, HY⟩ : ∃ Y, Hid (Pl.tabL (s.K a) a = Y) := ⟨_, hid rfl⟩
  obtain ⟨X, HX⟩ : ∃ Y, Hid (s.T a = Y) := ⟨_, hid rfl⟩
  rw [HY.out] at HTA HY0 ⊢
  rw [HX.out] at HT0
  obtain ⟨b0, b1, bz, bb⟩ := two (w := w) (.cells #[.int .i64 kind, .int .i64 (a : Int), .int .i64 b, .int .i64 n, .int .i64 m, .int .i64 p1, .int .i64 p2, .string key, .string val] 51) (.cells #[.int .i64 0, .slice none 0 0, .int .i64 0, .slice none 0 0] 40)
  obtain ⟨W2, HW2⟩ : ∃ W, Hid (W = (w.alloc (.cells #[.int .i64 kind, .int .i64 (a : Int), .int .i64 b, .int .i64 n, .int .i64 m, .int .i64 p1, .int .i64 p2, .string key, .string val] 51)).alloc (.cells #[.int .i64 0, .slice none 0 0, .int .i64 0, .slice none 0 0] 40)) := ⟨_, hid rfl⟩
  rw [← HW2.out] at b0 b1 bz bb
  obtain ⟨q0, q1, q2, q3, q4, q5, q6, q7, q8⟩ := box9 b0
  have HX1 := hid b1
  have HBB := hid bb
  have Q1 := hid q1
  have hxl : w.heap.size < W2.heap.size := by omega
  have hBl2 : B < W2.heap.size := by omega
  clear q0 q2 q3 q4 q5 q6 q7 q8 b0 b1 bb
  go_enter Tryz.func118, Tryz.ntmps118
  go_wp2_with fail
  rw [← HW2.out]
  go_quiet (fail)
  clear q1
  go_wp2_with fail
  rename_i K hK
  obtain ⟨W3, HW3⟩ : ∃ W, Hid (W = W2.drewN nq) := ⟨_, hid rfl⟩
  rw [← HW3.out]
  have HB23 : Hid (Below W2.heap.size W2 W3) := hid (by rw [HW3.out]; exact below_drew (Below.refl _ _) _)
  have HB3 : Hid (Below w.heap.size w W3) := hid (HBB.out.trans (HB23.out.mono (by omega)))
  have hz3 := HB23.out.size
  obtain ⟨VP, VK, VT, h1, h2, h3, h4, h5⟩ := HN.out.below HB3.out
  obtain ⟨ka, kc, ev, hke, hnil, hkb⟩ := (h3 a ha).shape HOK.out
  have hkn := h1.knows a ha
  rw [ev] at hkn
  obtain ⟨hs, hto⟩ := h4 a ha
  rw [HX.out] at hto
  obtain ⟨xa, xc, evt, hxr, _⟩ := hto.1.rows
  have htn := h1.table a ha
  rw [evt] at htn
  have HTO := hid hto
  have HXR := hid hxr
  have HTN := hid htn
  have HSF := hid (h1.soft (a * 4 + 3))
  have hB3 := h1.lt
  refine netDecide2 (B := B) (xb := w.heap.size) (a := a) rfl rfl rfl hB3 (by omega) ((HB23.out.cell (p := ⟨w.heap.size, 1, none⟩) hxl).trans Q1.out) hkn hke (HTab.out.below HB3.out) ?_ _ (by kernel_rfl)
  rw [HTA.out, HWC.out]
  intro xs W hxl2 ho hc hbw
  obtain ⟨x0, x1, x2, x3, x4, x5, x6, x7, x8, x9, x10, x11, x12, x13, x14, x15, x16, x17, x18, x19, x20, rfl⟩ := listN21 xs hxl2
  have hc : x1 = .int .i64 0 := hc
  subst hc
  obtain ⟨gs, ho⟩ : ∃ hs, OwnTb W W3.heap.size x0 hs Y := ho
  obtain ⟨ya, yc, rfl, hyr, _⟩ := ho.1.rows
  have HB4 : Hid (Below w.heap.size w W) := hid (HB3.out.trans (hbw.mono HB3.out.size))
  have HTO4 := hid (HTO.out.below hbw)
  have HXR4 := hid (HXR.out.below hbw)
  have htn4 := (hbw.cell (p := ⟨B, a * 4 + 3, none⟩) hB3).trans HTN.out
  have hsf4 := (hbw.frozen (p := ⟨B, a * 4 + 3, none⟩) hB3).trans HSF.out
  have hB4 : B < W.heap.size := Nat.lt_of_lt_of_le hB3 hbw.size
  have HX4 := hid ((hbw.block _ (by omega)).trans ((HB23.out.block _ (by omega)).trans HX1.out))
  have hz4 := hbw.size
  obtain ⟨dc, ds, dg⟩ := Pl.diff_ok HT0.out HY0.out
  obtain ⟨lx, HLX⟩ : ∃ m, Hid (hs.length = m) := ⟨_, hid rfl⟩
  obtain ⟨ly, HLY⟩ : ∃ m, Hid (gs.length = m) := ⟨_, hid rfl⟩
  rw [HLX.out] at HXR4 htn4
  rw [HLY.out] at hyr ⊢
  have HDF := hid (Diff_any xa lx xc hs X ya ly yc gs Y W HXR4.out HTO4.out.reads hyr ho.reads)
  rw [dc, ds, dg] at HDF
  have HGO := hid (Pl.goneL_ok (a := X) (b := Y) HT0.out)
  have HPD := hid (Pl.patL_diff HT0.out HY0.out)
  obtain ⟨SL, HSL⟩ : ∃ x, Hid (Pl.setL X Y = x) := ⟨_, hid rfl⟩
  obtain ⟨GL, HGL⟩ : ∃ x, Hid (Pl.goneL X Y = x) := ⟨_, hid rfl⟩
  rw [HSL.out, HGL.out] at HDF HPD
  rw [HGL.out] at HGO
  clear dc ds dg hxl2 ho hyr hbw h1 h2 h3 h4 h5 ev hke hnil hkb hkn hto evt hxr htn
  simp only [setFrom_spl, spl]
  refine hK _ W ?_
  go_wp2_with fail
  refine HDF.out.mono ?_
  rintro e w5 ⟨vs, vg, ks, rfl, hs5, hg5, hb5⟩
  obtain ⟨sa, sc, rfl, hsr, _⟩ := hs5.1.rows
  obtain ⟨ga, gc, rfl, hgr, _, _⟩ := OwnP.shape hg5 HGO.out
  have HB5 : Hid (Below w.heap.size w w5) := hid (HB4.out.trans (hb5.mono HB4.out.size))
  have HPA := hid (Patch_any xa lx xc hs X sa ks.length sc ks SL ga GL.length gc GL w5 (HXR4.out.below hb5) (HTO4.out.reads.below hb5) hsr hs5.reads hgr)
  rw [HPD.out.1, HPD.out.2] at HPA
  have htn5 := (hb5.cell (p := ⟨B, a * 4 + 3, none⟩) hB4).trans htn4
  have hsf5 := (hb5.frozen (p := ⟨B, a * 4 + 3, none⟩) hB4).trans hsf4
  have hB5 : B < w5.heap.size := Nat.lt_of_lt_of_le hB4 hb5.size
  have HX5 := hid ((hb5.block _ (by omega)).trans HX4.out)
  have hz5 := hb5.size
  obtain ⟨lk, HLK⟩ : ∃ m, Hid (ks.length = m) := ⟨_, hid rfl⟩
  obtain ⟨lg, HLG⟩ : ∃ m, Hid (GL.length = m) := ⟨_, hid rfl⟩
  rw [HLK.out, HLG.out] at HPA
  rw [HLK.out, HLG.out]
  clear hs5 hg5 hsr hgr hb5 htn4 hsf4
  go_wp2_with fail
  refine HPA.out.mono ?_
  rintro e w6 ⟨v6, ps, rfl, ho6, hb6⟩
  obtain ⟨ta, tc, rfl⟩ := ownsRow_slice ho6.1
  have HB6 : Hid (Below w.heap.size w w6) := hid (HB5.out.trans (hb6.mono HB5.out.size))
  have htn6 := (hb6.cell (p := ⟨B, a * 4 + 3, none⟩) hB5).trans htn5
  have hsf6 := (hb6.frozen (p := ⟨B, a * 4 + 3, none⟩) hB5).trans hsf5
  have hB6 : B < w6.heap.size := Nat.lt_of_lt_of_le hB5 hb6.size
  have HX6 := hid ((hb6.block _ (by omega)).trans HX5.out)
  have hz6 := hb6.size
  have HNW := hid (HN.out.below HB6.out)
  have HO6 := hid (ho6.mono (show B + 1 ≤ w5.heap.size by omega))
  obtain ⟨n6, HN6⟩ : ∃ m, Hid (ps.length = m) := ⟨_, hid rfl⟩
  rw [HN6.out] at HO6 ⊢
  have hne1 : B ≠ w.heap.size + 1 := by omega
  have hne2 : w.heap.size + 1 ≠ B := by omega
  have hle : w.heap.size ≤ w.heap.size + 1 := by omega
  obtain ⟨⟨y0, y1, y2, y3⟩, yf, yl⟩ := box4c HX6.out
  clear ho6 hb6 htn5 hsf5
  go_wp2_with fail
  obtain ⟨WS, HWS⟩ : ∃ x, Hid (x = w6.setCell ⟨B, a * 4 + 3, none⟩ (.slice ta n6 tc)) := ⟨_, hid rfl⟩
  have HBS : Hid (But B w6 WS) := hid (by rw [HWS.out]; exact (But.refl B w6).setCell _ _)
  have HXS := hid ((HBS.out.block _ yl hne2).trans HX6.out)
  rw [← HWS.out]
  obtain ⟨Wf, HWF⟩ : ∃ x, Hid (x = set4 WS (w.heap.size + 1) (.int .i64 0) (.slice none 0 0) (.int .i64 0) (.slice none 0 0)) := ⟨_, hid rfl⟩
  have hbut : But (w.heap.size + 1) WS Wf := by rw [HWF.out]; exact set4_but (But.refl (w.heap.size + 1) WS) _ _ _ _
  have hfx : Wf.heap[w.heap.size + 1]? = some (.cells #[.int .i64 0, .slice none 0 0, .int .i64 0, .slice none 0 0] 40) := by
    rw [HWF.out]; exact set4_at HXS.out _ _ _ _
  obtain ⟨⟨z0, z1, z2, z3⟩, _, _⟩ := box4c hfx
  rw [show (((WS.setCell ⟨w.heap.size + 1, 0, none⟩ (.int .i64 0)).setCell ⟨w.heap.size + 1, 1, none⟩ (.slice none 0 0)).setCell ⟨w.heap.size + 1, 2, none⟩ (.int .i64 0)).setCell ⟨w.heap.size + 1, 3, none⟩ (.slice none 0 0) = Wf from HWF.out.symm]
  refine bodyPost_ret (v := .agg #[.int .i64 0, .slice none 0 0, .int .i64 0, .slice none 0 0]) (by simp [results, Tryz.results118, go_sem, z0, z1, z2, z3]) rfl ⟨rfl, ?_, ?_⟩
  · refine NetAt.reply ?_ hbut HXS.out hne2
    rw [HWS.out]
    exact HNW.out.setTable a ha (.slice ta n6 tc) ps Y HO6.out
  · exact NKept.of (But.over ((But.of HB6.out : But B w w6).trans HBS.out) hbut hle)
end Go.Proofs.YtjjelkdajdeikaaGreatDoor
/-
  Package net: regions that draw their order, with a call whose answer lies in new memory (written by tools/gen_net.py).
-/
namespace Go.Proofs.YtjjelkdajdeikaaGreatDoor
open Go.RowKit
set_option maxRecDepth 20000
set_option maxHeartbeats 8000000 in
theorem netWrite1 {Q : Exit → Act → World → Prop} {a0 : Act} {w0 : World} {B xb a kl kc : Nat} {ka : Option Addr} {es : List Pl.Ent} {key val : ByteArray}
    (hsize : a0.tmps.size = 41)
    (q0 : a0.tmps[0]?.getD undef = .pointer (some ⟨B, 0, none⟩))
    (q3 : a0.tmps[3]?.getD undef = .pointer (some ⟨xb, 0, none⟩))
    (hB : B < w0.heap.size)
    (hx : xb < w0.heap.size)
    (X1 : w0.cell? ⟨xb, 1, none⟩ = some (.int .i64 a))
    (X7 : w0.cell? ⟨xb, 7, none⟩ = some (.string key))
    (X8 : w0.cell? ⟨xb, 8, none⟩ = some (.string val))
    (KN : w0.cell? ⟨B, a * 4 + 2, none⟩ = some (.slice ka kl kc))
    (ha : (a : Int) < 12)
    (HK : IsEnts w0 ka kl kc es)
    (hnil : ka = none → kc = 0)
    (hk : key.size ≤ maxLen)
    (hv : val.size ≤ maxLen)
    (hQ : ∀ xs W, xs.length = 20 → Own W w0.heap.size (xs.getD 0 undef) (Pl.putO es a key val) → (xs.getD 1 undef) = .int .i64 (Pl.putC es a key val) → Below w0.heap.size w0 W → Q .normal { a0 with tmps := setFrom a0.tmps 5 xs } W) :
    ∀ ops, regIn Tryz.f117 1 = some ops → (Code.region 1 ops true).wp Tryz.prog Q a0 w0 := by
  intro ops hops
  have eo := Option.some.inj (hops.symm.trans (rfl : regIn Tryz.f117 1 = some _))
  subst eo
  clear hops
  have hsz : 5 + 20 ≤ a0.tmps.size := by omega
  refine wp_region_any (by kernel_rfl) ?_
  refine wpAny_inv2 (RInv a0 5 20 20 (fun k => some (([3, 4, 5, 6, 7, 8, 9, 10, 11, 12, 13, 14, 15, 16, 17, 2, 18, 19, 0, 1] : List Nat).getD k 0)) (SV.V [SV.ents w0.heap.size (Pl.putO es a key val), SV.eq (.int .i64 (Pl.putC es a key val)), SV.two (SV.ents w0.heap.size (Pl.putO es a key val)) (Pl.putC es a key val), SV.eq (.pointer (some ⟨B, 0, none⟩)), SV.eq (.pointer (some ⟨xb, 1, none⟩)), SV.eq (.int .i64 a), SV.eq (.pointer (some ⟨B, 0, none⟩)), SV.eq (.pointer (some ⟨B, 0, none⟩)), SV.eq (.pointer (some ⟨B, a * 4, none⟩)), SV.eq (.pointer (some ⟨B, a * 4 + 2, none⟩)), SV.eq (.slice ka kl kc), SV.eq (.pointer (some ⟨xb, 1, none⟩)), SV.eq (.int .i64 a), SV.eq (.pointer (some ⟨xb, 7, none⟩)), SV.eq (.string key), SV.eq (.pointer (some ⟨xb, 8, none⟩)), SV.eq (.string val), SV.two (SV.ents w0.heap.size (Pl.putO es a key val)) (Pl.putC es a key val), SV.ents w0.heap.size (Pl.putO es a key val), SV.eq (.int .i64 (Pl.putC es a key val))]) (fun W => Below w0.heap.size w0 W)) ?_ ?_ _ _ _ _ (by decide +kernel) ?_ (closed_start _ _ _)
  · rintro i listed a' W hi hCl hI
    rw [mem_ready] at hi
    obtain ⟨hl0, o, ho, hall⟩ := hi
    have hlti : i < 20 := (Array.getElem?_eq_some_iff.1 ho).1
    have o0 := (hI.out (k := 0) (by omega)).trans q0
    have o3 := (hI.out (k := 3) (by omega)).trans q3
    have x1 := (hI.cw.cell (p := ⟨xb, 1, none⟩) hx).trans X1
    have x7 := (hI.cw.cell (p := ⟨xb, 7, none⟩) hx).trans X7
    have x8 := (hI.cw.cell (p := ⟨xb, 8, none⟩) hx).trans X8
    have kn := (hI.cw.cell (p := ⟨B, a * 4 + 2, none⟩) hB).trans KN
    have hcs : i = 0 ∨ i = 1 ∨ i = 2 ∨ i = 3 ∨ i = 4 ∨ i = 5 ∨ i = 6 ∨ i = 7 ∨ i = 8 ∨ i = 9 ∨ i = 10 ∨ i = 11 ∨ i = 12 ∨ i = 13 ∨ i = 14 ∨ i = 15 ∨ i = 16 ∨ i = 17 ∨ i = 18 ∨ i = 19 := by omega
    rcases hcs with rfl | rfl | rfl | rfl | rfl | rfl | rfl | rfl | rfl | rfl | rfl | rfl | rfl | rfl | rfl | rfl | rfl | rfl | rfl | rfl
    all_goals
      simp at ho
      subst ho
    · refine wpOp_of rfl rfl ?_
      simp [Oper.wp, go_sem, o0]
      exact hI.put (i := 0) (j := 3) rfl (by omega) (fun _ _ h => h) rfl hI.cw
    · refine wpOp_of rfl rfl ?_
      simp [Oper.wp, go_sem, o3]
      exact hI.put (i := 1) (j := 4) rfl (by omega) (fun _ _ h => h) rfl hI.cw
    · refine wpOp_of rfl rfl ?_
      have e9 : a'.tmps[9]?.getD undef = .pointer (some ⟨xb, 1, none⟩) := hI.at (k := 1) (j := 4) hsz rfl (by omega) (hall ⟨1, .data⟩ (by simp) rfl)
      simp [Oper.wp, go_sem, e9, x1]
      exact hI.put (i := 2) (j := 5) rfl (by omega) (fun _ _ h => h) rfl hI.cw
    · refine wpOp_of rfl rfl ?_
      have e8 : a'.tmps[8]?.getD undef = .pointer (some ⟨B, 0, none⟩) := hI.at (k := 0) (j := 3) hsz rfl (by omega) (hall ⟨0, .data⟩ (by simp) rfl)
      simp [Oper.wp, go_sem, e8]
      exact hI.put (i := 3) (j := 6) rfl (by omega) (fun _ _ h => h) rfl hI.cw
    · refine wpOp_of rfl rfl ?_
      have e11 : a'.tmps[11]?.getD undef = .pointer (some ⟨B, 0, none⟩) := hI.at (k := 3) (j := 6) hsz rfl (by omega) (hall ⟨3, .data⟩ (by simp) rfl)
      simp [Oper.wp, go_sem, e11]
      exact hI.put (i := 4) (j := 7) rfl (by omega) (fun _ _ h => h) rfl hI.cw
    · refine wpOp_of rfl rfl ?_
      have e12 : a'.tmps[12]?.getD undef = .pointer (some ⟨B, 0, none⟩) := hI.at (k := 4) (j := 7) hsz rfl (by omega) (hall ⟨4, .data⟩ (by simp) rfl)
      have e10 : a'.tmps[10]?.getD undef = .int .i64 a := hI.at (k := 2) (j := 5) hsz rfl (by omega) (hall ⟨2, .data⟩ (by simp) rfl)
      simp [Oper.wp, go_sem, e12, e10, ha]
      exact hI.put (i := 5) (j := 8) rfl (by omega) (fun _ _ h => h) rfl hI.cw
    · refine wpOp_of rfl rfl ?_
      have e13 : a'.tmps[13]?.getD undef = .pointer (some ⟨B, a * 4, none⟩) := hI.at (k := 5) (j := 8) hsz rfl (by omega) (hall ⟨5, .data⟩ (by simp) rfl)
      simp [Oper.wp, go_sem, e13]
      exact hI.put (i := 6) (j := 9) rfl (by omega) (fun _ _ h => h) rfl hI.cw
    · refine wpOp_of rfl rfl ?_
      have e14 : a'.tmps[14]?.getD undef = .pointer (some ⟨B, a * 4 + 2, none⟩) := hI.at (k := 6) (j := 9) hsz rfl (by omega) (hall ⟨6, .data⟩ (by simp) rfl)
      simp [Oper.wp, go_sem, e14, kn]
      exact hI.put (i := 7) (j := 10) rfl (by omega) (fun _ _ h => h) rfl hI.cw
    · refine wpOp_of rfl rfl ?_
      simp [Oper.wp, go_sem, o3]
      exact hI.put (i := 8) (j := 11) rfl (by omega) (fun _ _ h => h) rfl hI.cw
    · refine wpOp_of rfl rfl ?_
      have e16 : a'.tmps[16]?.getD undef = .pointer (some ⟨xb, 1, none⟩) := hI.at (k := 8) (j := 11) hsz rfl (by omega) (hall ⟨8, .data⟩ (by simp) rfl)
      simp [Oper.wp, go_sem, e16, x1]
      exact hI.put (i := 9) (j := 12) rfl (by omega) (fun _ _ h => h) rfl hI.cw
    · refine wpOp_of rfl rfl ?_
      simp [Oper.wp, go_sem, o3]
      exact hI.put (i := 10) (j := 13) rfl (by omega) (fun _ _ h => h) rfl hI.cw
    · refine wpOp_of rfl rfl ?_
      have e18 : a'.tmps[18]?.getD undef = .pointer (some ⟨xb, 7, none⟩) := hI.at (k := 10) (j := 13) hsz rfl (by omega) (hall ⟨10, .data⟩ (by simp) rfl)
      simp [Oper.wp, go_sem, e18, x7]
      exact hI.put (i := 11) (j := 14) rfl (by omega) (fun _ _ h => h) rfl hI.cw
    · refine wpOp_of rfl rfl ?_
      simp [Oper.wp, go_sem, o3]
      exact hI.put (i := 12) (j := 15) rfl (by omega) (fun _ _ h => h) rfl hI.cw
    · refine wpOp_of rfl rfl ?_
      have e20 : a'.tmps[20]?.getD undef = .pointer (some ⟨xb, 8, none⟩) := hI.at (k := 12) (j := 15) hsz rfl (by omega) (hall ⟨12, .data⟩ (by simp) rfl)
      simp [Oper.wp, go_sem, e20, x8]
      exact hI.put (i := 13) (j := 16) rfl (by omega) (fun _ _ h => h) rfl hI.cw
    · refine wpOp_of rfl rfl ?_
      have e15 : a'.tmps[15]?.getD undef = .slice ka kl kc := hI.at (k := 7) (j := 10) hsz rfl (by omega) (hall ⟨7, .data⟩ (by simp) rfl)
      have e17 : a'.tmps[17]?.getD undef = .int .i64 a := hI.at (k := 9) (j := 12) hsz rfl (by omega) (hall ⟨9, .data⟩ (by simp) rfl)
      have e19 : a'.tmps[19]?.getD undef = .string key := hI.at (k := 11) (j := 14) hsz rfl (by omega) (hall ⟨11, .data⟩ (by simp) rfl)
      have e21 : a'.tmps[21]?.getD undef = .string val := hI.at (k := 13) (j := 16) hsz rfl (by omega) (hall ⟨13, .data⟩ (by simp) rfl)
      simp [Oper.wp, go_sem, e15, e17, e19, e21]
      refine (Put_any ka kl kc es a key val W (HK.below hI.cw) hnil hk hv).mono ?_
      rintro e W' ⟨v, rfl, ho', hb'⟩
      exact hI.put (i := 14) (j := 17) rfl (by omega) (SV.grow hb') ⟨_, rfl, ho'.mono hI.cw.size⟩ (hI.cw.trans (hb'.mono hI.cw.size))
    · refine wpOp_of rfl rfl ?_
      obtain ⟨l, hl, hp⟩ := hI.at (k := 14) (j := 17) hsz rfl (by omega) (hall ⟨14, .data⟩ (by simp) rfl)
      have hl : a'.tmps[22]?.getD undef = _ := hl
      simp [Oper.wp, go_sem, hl]
      exact hI.put (i := 15) (j := 2) rfl (by omega) (fun _ _ h => h) ⟨l, rfl, hp⟩ hI.cw
    · refine wpOp_of rfl rfl ?_
      obtain ⟨l, hl, hp⟩ := hI.at (k := 15) (j := 2) hsz rfl (by omega) (hall ⟨15, .data⟩ (by simp) rfl)
      have hl : a'.tmps[7]?.getD undef = _ := hl
      simp [Oper.wp, go_sem, hl]
      exact hI.put (i := 16) (j := 18) rfl (by omega) (fun _ _ h => h) hp hI.cw
    · refine wpOp_of rfl rfl ?_
      obtain ⟨l, hl, hp⟩ := hI.at (k := 15) (j := 2) hsz rfl (by omega) (hall ⟨15, .data⟩ (by simp) rfl)
      have hl : a'.tmps[7]?.getD undef = _ := hl
      simp [Oper.wp, go_sem, hl]
      exact hI.put (i := 17) (j := 19) rfl (by omega) (fun _ _ h => h) rfl hI.cw
    · refine wpOp_of rfl rfl ?_
      have h0 := hI.at (k := 16) (j := 18) hsz rfl (by omega) (hall ⟨16, .data⟩ (by simp) rfl)
      simp [Oper.wp, go_sem]
      exact hI.put (i := 18) (j := 0) rfl (by omega) (fun _ _ h => h) h0 hI.cw
    · refine wpOp_of rfl rfl ?_
      have e24 : a'.tmps[24]?.getD undef = .int .i64 (Pl.putC es a key val) := hI.at (k := 17) (j := 19) hsz rfl (by omega) (hall ⟨17, .data⟩ (by simp) rfl)
      simp [Oper.wp, go_sem, e24]
      exact hI.put (i := 19) (j := 1) rfl (by omega) (fun _ _ h => h) rfl hI.cw
  · rintro listed a' W hr hI
    have hal := all_listed2 (by decide +kernel) hI.ls hr
    obtain ⟨xs, hxl, rfl, hf⟩ := hI.fr
    exact hQ xs W hxl (hf 18 0 rfl (hal 18 (by decide))) (hf 19 1 rfl (hal 19 (by decide))) hI.cw
  · exact RInv.start hsz (Below.refl _ _).drew

end Go.Proofs.YtjjelkdajdeikaaGreatDoor
/-
  Contract of package net: what is written by hand (write).
-/
namespace Go.Proofs.YtjjelkdajdeikaaGreatDoor
open Go.RowKit
set_option maxRecDepth 20000

def Pl.writeC (s : Pl.Nt) (x : Pl.Ac) : Int := Pl.putC (s.K x.a.toNat) x.a x.key x.val
def Pl.writeK (s : Pl.Nt) (x : Pl.Ac) : List ByteArray := if Pl.writeC s x = 0 then [x.key] else []
def Pl.writeN (s : Pl.Nt) (x : Pl.Ac) : Pl.Nt := if Pl.writeC s x = 0 then { s with K := Pl.upd s.K x.a.toNat (Pl.putO (s.K x.a.toNat) x.a x.key x.val) } else s

set_option maxHeartbeats 4000000 in
theorem netWrite_any (B : Nat) (s : Pl.Nt) (x : Pl.Ac) (w : World) (h : NetAt w B s) (ha : 0 ≤ x.a ∧ x.a ≤ 11) (hok : ∀ e ∈ s.K x.a.toNat, e.ok) (hk : x.key.size ≤ maxLen) (hv : x.val.size ≤ maxLen) :
    Calls Tryz.prog 117 #[.pointer (some ⟨B, 0, none⟩), .agg #[.int .i64 x.kind, .int .i64 x.a, .int .i64 x.b, .int .i64 x.n, .int .i64 x.m, .int .i64 x.p.1, .int .i64 x.p.2, .string x.key, .string x.val]] w fun e w' =>
      ∃ vk, e = .returned (.agg #[.int .i64 (Pl.writeC s x), .slice none 0 0, .int .i64 0, vk]) ∧ OwnS w' w.heap.size vk (Pl.writeK s x) ∧ NetAt w' B (Pl.writeN s x) ∧ NKept B w w' := by
  have HN := hid h
  have hBl := h.lt
  clear h
  obtain ⟨cd, HCD⟩ : ∃ c, Hid (Pl.writeC s x = c) := ⟨_, hid rfl⟩
  obtain ⟨ks, HKS⟩ : ∃ c, Hid (Pl.writeK s x = c) := ⟨_, hid rfl⟩
  obtain ⟨sn, HSN⟩ : ∃ c, Hid (Pl.writeN s x = c) := ⟨_, hid rfl⟩
  have HK1 : Hid (cd = 0 → ks = [x.key]) := hid fun e => by rw [← HKS.out]; unfold Pl.writeK; rw [HCD.out, if_pos e]
  have HK2 : Hid (cd ≠ 0 → ks = []) := hid fun e => by rw [← HKS.out]; unfold Pl.writeK; rw [HCD.out, if_neg e]
  have HS1 : Hid (cd = 0 → sn = { s with K := Pl.upd s.K x.a.toNat (Pl.putO (s.K x.a.toNat) x.a x.key x.val) }) := hid fun e => by rw [← HSN.out]; unfold Pl.writeN; rw [HCD.out, if_pos e]
  have HS2 : Hid (cd ≠ 0 → sn = s) := hid fun e => by rw [← HSN.out]; unfold Pl.writeN; rw [HCD.out, if_neg e]
  have HCE : Hid (Pl.putC (s.K x.a.toNat) x.a x.key x.val = cd) := hid HCD.out
  rw [HCD.out, HKS.out, HSN.out]
  clear HCD HKS HSN
  obtain ⟨kind, a, b, n, m, ⟨p1, p2⟩, key, val⟩ := x
  simp only at ha hok hk hv HK1 HS1 HCE ⊢
  obtain ⟨a, rfl⟩ : ∃ k : Nat, a = k := ⟨a.toNat, by omega⟩
  rw [Int.toNat_natCast] at hok HS1 HCE
  have ha12 : a < 12 := by omega
  have ha' : (a : Int) < 12 := by omega
  obtain ⟨O, HO⟩ : ∃ c, Hid (Pl.putO (s.K a) a key val = c) := ⟨_, hid rfl⟩
  rw [HO.out] at HS1
  have HRF := hid (fun (c : Int) (W : World) => refused_any c W)
  obtain ⟨b0, b1, bz, bb⟩ := two (w := w) (.cells #[.int .i64 kind, .int .i64 (a : Int), .int .i64 b, .int .i64 n, .int .i64 m, .int .i64 p1, .int .i64 p2, .string key, .string val] 51) (.cells #[.int .i64 0, .slice none 0 0, .int .i64 0, .slice none 0 0] 40)
  go_enter Tryz.func117, Tryz.ntmps117
  go_wp2_with fail
  rename_i K hK
  obtain ⟨W2, HW2⟩ : ∃ W, Hid (W = (w.alloc (.cells #[.int .i64 kind, .int .i64 (a : Int), .int .i64 b, .int .i64 n, .int .i64 m, .int .i64 p1, .int .i64 p2, .string key, .string val] 51)).alloc (.cells #[.int .i64 0, .slice none 0 0, .int .i64 0, .slice none 0 0] 40)) := ⟨_, hid rfl⟩
  rw [← HW2.out] at b0 b1 bz bb ⊢
  have HN2 := hid (HN.out.below bb)
  obtain ⟨VP, VK, VT, h1, h2, h3, h4, h5⟩ := HN2.out
  obtain ⟨ka, kc, ev, hke, hnil, hkb⟩ := (h3 a ha12).shape hok
  have hkn := h1.knows a ha12
  rw [ev] at hkn
  have hB2 := h1.lt
  obtain ⟨q0, q1, q2, q3, q4, q5, q6, q7, q8⟩ := box9 b0
  refine netWrite1 (B := B) (xb := w.heap.size) (a := a) (key := key) (val := val) rfl rfl rfl hB2 (by omega) q1 q7 q8 hkn ha' hke hnil hk hv ?_ _ (by kernel_rfl)
  rw [HCE.out, HO.out]
  intro xs W hxl ho hc hbw
  obtain ⟨x0, x1, x2, x3, x4, x5, x6, x7, x8, x9, x10, x11, x12, x13, x14, x15, x16, x17, x18, x19, rfl⟩ := listN20 xs hxl
  have hc : x1 = .int .i64 cd := hc
  subst hc
  have ho : Own W W2.heap.size x0 O := ho
  obtain ⟨sa, sc, rfl⟩ := ownsRow_slice ho
  have HOW := hid ho
  have HBW := hid hbw
  have HNW := hid (HN2.out.below hbw)
  have HX1 := hid ((hbw.block _ (by omega)).trans b1)
  have HB := hid (bb.trans (hbw.mono (by omega)))
  have hzW := hbw.size
  have g1 := (hbw.cell (p := ⟨w.heap.size, 1, none⟩) (show w.heap.size < W2.heap.size by omega)).trans q1
  have g7 := (hbw.cell (p := ⟨w.heap.size, 7, none⟩) (show w.heap.size < W2.heap.size by omega)).trans q7
  obtain ⟨nO, HNO⟩ : ∃ n, Hid (O.length = n) := ⟨_, hid rfl⟩
  have hcl := (hbw.cell (p := ⟨B, a * 4 + 2, none⟩) hB2).trans hkn
  have hfl := (hbw.frozen (p := ⟨B, a * 4 + 2, none⟩) hB2).trans (h1.soft (a * 4 + 2))
  rw [HNO.out]
  rw [HNO.out] at HOW
  clear hkb ho hbw hxl b0 b1 q0 q1 q2 q3 q4 q5 q6 q7 q8 h1 h2 h3 h4 h5 ev hke hnil hkn hok hk hv
  simp only [setFrom_spl, spl]
  refine hK _ W ?_
  have hBW : B < W.heap.size := by omega
  have hxW : w.heap.size < W.heap.size := by omega
  have hne1 : B ≠ w.heap.size + 1 := by omega
  have hne2 : w.heap.size + 1 ≠ B := by omega
  have hne3 : w.heap.size ≠ B := by omega
  obtain ⟨⟨y0, y1, y2, y3⟩, yf, yl⟩ := box4c HX1.out
  have hle : w.heap.size ≤ w.heap.size + 1 := by omega
  by_cases hcd : cd = 0
  · have HKS := hid (HK1.out hcd)
    have HSS := hid (HS1.out hcd)
    clear HK1 HK2 HS1 HS2 HCE
    subst hcd
    go_wp2_with fail
    go_region
    go_wp2_with fail
    obtain ⟨WS, HWS⟩ : ∃ x, Hid (x = W.setCell ⟨B, a * 4 + 2, none⟩ (.slice sa nO sc)) := ⟨_, hid rfl⟩
    have HXS : Hid (WS.heap[w.heap.size + 1]? = some (.cells #[.int .i64 0, .slice none 0 0, .int .i64 0, .slice none 0 0] 40)) := hid (by rw [HWS.out]; exact (((But.refl B W).setCell _ _).block _ yl hne2).trans HX1.out)
    have hsz : WS.heap.size = W.heap.size := by rw [HWS.out]; simp
    rw [← HWS.out]
    obtain ⟨Wf, HWF⟩ : ∃ x, Hid (x = ((set4 WS (w.heap.size + 1) (.int .i64 0) (.slice none 0 0) (.int .i64 0) (.slice (some ⟨W.heap.size, 0, none⟩) 1 1)).alloc (.cells #[.string key] 9)).drew) := ⟨_, hid rfl⟩
    have hbut : But (w.heap.size + 1) WS Wf := by rw [HWF.out]; exact ((set4_but (But.refl (w.heap.size + 1) WS) _ _ _ _).alloc _).drawn 1
    have hfx : Wf.heap[w.heap.size + 1]? = some (.cells #[.int .i64 0, .slice none 0 0, .int .i64 0, .slice (some ⟨W.heap.size, 0, none⟩) 1 1] 40) := by
      rw [HWF.out]; exact heapOld (set4_at HXS.out _ _ _ _) _
    have hfn : Wf.heap[W.heap.size]? = some (.cells #[.string key] 9) := by
      have e := heapNew (set4 WS (w.heap.size + 1) (.int .i64 0) (.slice none 0 0) (.int .i64 0) (.slice (some ⟨W.heap.size, 0, none⟩) 1 1)) (.cells #[.string key] 9)
      rw [set4_size, hsz] at e
      rw [HWF.out]; exact e
    obtain ⟨⟨z0, z1, z2, z3⟩, _, _⟩ := box4c hfx
    rw [show (((((WS.setCell ⟨w.heap.size + 1, 0, none⟩ (.int .i64 0)).setCell ⟨w.heap.size + 1, 1, none⟩ (.slice none 0 0)).setCell ⟨w.heap.size + 1, 2, none⟩ (.int .i64 0)).setCell ⟨w.heap.size + 1, 3, none⟩ (.slice (some ⟨W.heap.size, 0, none⟩) 1 1)).alloc (.cells #[.string key] 9)).drew = Wf from HWF.out.symm]
    refine bodyPost_ret (v := .agg #[.int .i64 0, .slice none 0 0, .int .i64 0, .slice (some ⟨W.heap.size, 0, none⟩) 1 1]) (by simp [results, Tryz.results117, go_sem, z0, z1, z2, z3]) rfl ⟨_, rfl, ?_, ?_, ?_⟩
    · rw [HKS.out]
      exact ownS_one (by omega) hfn
    · rw [HSS.out]
      refine NetAt.reply ?_ hbut HXS.out hne2
      rw [HWS.out]
      exact HNW.out.setKnows a ha12 (.slice sa nO sc) O (HOW.out.mono (by omega))
    · refine NKept.of (But.over ?_ hbut hle)
      rw [HWS.out]
      exact (But.of HB.out : But B w W).setCell _ _
  · have hcd' : (cd != 0) = true := by simpa using hcd
    clear hcl hfl g1 g7 y0 y1 y2 y3 yf yl
    go_wp2_with fail
    refine (HRF.out cd _).mono ?_
    rintro e w3 ⟨rfl, hb3⟩
    have hbx := (hb3.block _ (by omega)).trans HX1.out
    have HB3 := hid (HB.out.trans (hb3.mono (by have := HB.out.size; omega)))
    obtain ⟨⟨y0, y1, y2, y3⟩, yf, yl⟩ := box4c hbx
    clear hb3 hbx
    go_wp2_with fail
    have hfin := (((HB3.out.setCell (p := ⟨w.heap.size + 1, 0, none⟩) hle (.int .i64 cd)).setCell (p := ⟨w.heap.size + 1, 1, none⟩) hle (.slice none 0 0)).setCell (p := ⟨w.heap.size + 1, 2, none⟩) hle (.int .i64 0)).setCell (p := ⟨w.heap.size + 1, 3, none⟩) hle (.slice none 0 0)
    refine bodyPost_ret (v := .agg #[.int .i64 cd, .slice none 0 0, .int .i64 0, .slice none 0 0]) (by simp [results, Tryz.results117, go_sem, y0, y1, y2, y3]) rfl ⟨_, rfl, ?_, ?_, NKept.of (But.of hfin)⟩
    · rw [HK2.out hcd]; exact OwnS.nil _ _
    · rw [HS2.out hcd]; exact HN.out.below hfin
end Go.Proofs.YtjjelkdajdeikaaGreatDoor
/-
  Plain: what each act of a script answers, and the network behind it; a script, act by act.
-/
namespace Go.Proofs.YtjjelkdajdeikaaGreatDoor
open Go.RowKit
set_option maxRecDepth 20000

def Pl.insP : List (Int × Int) → Int × Int → List (Int × Int)
  | [], p => [p]
  | q :: r, p => if Pl.pltB p q then p :: q :: r else q :: Pl.insP r p
def Pl.giveC (s : Pl.Nt) (x : Pl.Ac) : Int := if Pl.pfxF [x.p] = 0 then Pl.pfxF (Pl.insP (s.P x.a.toNat) x.p) else Pl.pfxF [x.p]
def Pl.giveN (s : Pl.Nt) (x : Pl.Ac) : Pl.Nt := if Pl.giveC s x = 0 then { s with P := Pl.upd s.P x.a.toNat (Pl.insP (s.P x.a.toNat) x.p) } else s
def Pl.hopAt (r : Pl.Rt) (m : Int) : Nat := (Pl.nm r.hops (m.toNat % r.hops.length)).toNat
def Pl.walkK (s : Pl.Nt) (n m : Int) : Nat → Nat → List Int → Int → Int × List Int × Int
  | 0, _, _, _ => (10, [], 0)
  | k + 1, a, ps, c =>
    if Pl.lookC (s.T a) n = 0 then
      if (Pl.lookR (s.T a) n).here = true then (0, ps, c)
      else if k = 0 then (10, [], 0)
      else if s.L a (Pl.hopAt (Pl.lookR (s.T a) n) m) = 0 then (6, [], 0)
      else Pl.walkK s n m k (Pl.hopAt (Pl.lookR (s.T a) n) m) (ps ++ [(Pl.hopAt (Pl.lookR (s.T a) n) m : Int)]) (c + s.L a (Pl.hopAt (Pl.lookR (s.T a) n) m))
    else (Pl.lookC (s.T a) n, [], 0)
def Pl.walkR (s : Pl.Nt) (x : Pl.Ac) : Int × List Int × Int := if x.m < 0 then (2, [], 0) else Pl.walkK s x.n x.m 13 x.a.toNat [x.a] 0

structure Pl.Rp where
  code : Int
  path : List Int
  cost : Int
  keys : List ByteArray
def Pl.Rp.no (c : Int) : Pl.Rp := ⟨c, [], 0, []⟩
def Pl.actR (s : Pl.Nt) (x : Pl.Ac) : Pl.Rp :=
  if ¬ (1 ≤ x.kind ∧ x.kind ≤ 10) then Pl.Rp.no 3
  else if ¬ (0 ≤ x.a ∧ x.a ≤ 11) then Pl.Rp.no 2
  else if x.kind = 1 then Pl.Rp.no (Pl.linkC x)
  else if x.kind = 2 then Pl.Rp.no (Pl.cutCd s.L x)
  else if x.kind = 3 then Pl.Rp.no (Pl.drainC x)
  else if x.kind = 4 then Pl.Rp.no (Pl.giveC s x)
  else if x.kind = 5 then Pl.Rp.no (Pl.takeC s x)
  else if x.kind = 6 then ⟨(Pl.putsS (s.K x.a.toNat) x.a.toNat (Pl.tellI s x.a.toNat) 2).1, [], 0, Pl.putsK s x.a.toNat (Pl.tellI s x.a.toNat)⟩
  else if x.kind = 7 then ⟨Pl.sendC s x, [], 0, Pl.sendK s x⟩
  else if x.kind = 8 then ⟨Pl.writeC s x, [], 0, Pl.writeK s x⟩
  else if x.kind = 9 then Pl.Rp.no 0
  else ⟨(Pl.walkR s x).1, (Pl.walkR s x).2.1, (Pl.walkR s x).2.2, []⟩
def Pl.actN (s : Pl.Nt) (x : Pl.Ac) : Pl.Nt :=
  if ¬ (1 ≤ x.kind ∧ x.kind ≤ 10) then s
  else if ¬ (0 ≤ x.a ∧ x.a ≤ 11) then s
  else if x.kind = 1 then { s with L := Pl.linkL s.L x }
  else if x.kind = 2 then { s with L := Pl.cutLn s.L x }
  else if x.kind = 3 then { s with D := Pl.drainD s.D x }
  else if x.kind = 4 then Pl.giveN s x
  else if x.kind = 5 then Pl.takeN s x
  else if x.kind = 6 then Pl.putsN s x.a.toNat (Pl.tellI s x.a.toNat)
  else if x.kind = 7 then Pl.sendN s x
  else if x.kind = 8 then Pl.writeN s x
  else if x.kind = 9 then { s with T := Pl.upd s.T x.a.toNat (Pl.tabL (s.K x.a.toNat) x.a.toNat) }
  else s
def Pl.Nt.new : Pl.Nt := ⟨fun _ => false, fun _ => [], fun _ => [], fun _ => [], fun _ _ => 0⟩
def Pl.runN (s : Pl.Nt) (xs : List Pl.Ac) : Pl.Nt := xs.foldl Pl.actN s
def Pl.runR (s : Pl.Nt) : List Pl.Ac → List Pl.Rp
  | [] => []
  | x :: r => Pl.actR s x :: Pl.runR (Pl.actN s x) r
theorem Pl.runR_len (s : Pl.Nt) : ∀ xs, (Pl.runR s xs).length = xs.length
  | [] => rfl
  | x :: r => by show (Pl.runR (Pl.actN s x) r).length + 1 = r.length + 1; rw [Pl.runR_len _ r]
theorem Pl.runN_snoc (s : Pl.Nt) (xs : List Pl.Ac) (x : Pl.Ac) : Pl.runN s (xs ++ [x]) = Pl.actN (Pl.runN s xs) x := by simp [Pl.runN]
theorem Pl.runR_app (s : Pl.Nt) : ∀ xs ys, Pl.runR s (xs ++ ys) = Pl.runR s xs ++ Pl.runR (Pl.runN s xs) ys
  | [], _ => rfl
  | x :: r, ys => by
    show Pl.actR s x :: Pl.runR (Pl.actN s x) (r ++ ys) = Pl.actR s x :: (Pl.runR (Pl.actN s x) r ++ Pl.runR (Pl.runN (Pl.actN s x) r) ys)
    rw [Pl.runR_app (Pl.actN s x) r ys]
theorem Pl.runR_snoc (s : Pl.Nt) (xs : List Pl.Ac) (x : Pl.Ac) : Pl.runR s (xs ++ [x]) = Pl.runR s xs ++ [Pl.actR (Pl.runN s xs) x] := Pl.runR_app s xs [x]

structure Pl.GoodN (s : Pl.Nt) : Prop where
  K : ∀ i, Pl.fault (s.K i) = 0
  T : ∀ i, Pl.tabF (s.T i) = 0
  P : ∀ i, Pl.pfxF (s.P i) = 0
  L : ∀ i j, 0 ≤ s.L i j ∧ s.L i j ≤ 1000
  S : ∀ i j, s.L i j = s.L j i
  Z : ∀ i, s.L i i = 0
theorem Pl.GoodN.new : Pl.GoodN Pl.Nt.new := ⟨fun _ => by show Pl.fault [] = 0; decide, fun _ => by show Pl.tabF [] = 0; decide, fun _ => by show Pl.pfxF [] = 0; decide, fun _ _ => by simp [Pl.Nt.new], fun _ _ => rfl, fun _ => rfl⟩
end Go.Proofs.YtjjelkdajdeikaaGreatDoor
/-
  Plain: what is shown is read as it was; what can be read is shown as it was.
-/
namespace Go.Proofs.YtjjelkdajdeikaaGreatDoor
open Go.RowKit
set_option maxRecDepth 20000

theorem Pl.dec_list (n : Nat) : (Pl.dec (n : Int)).data.toList = Lib.decDigits n := by
  unfold Pl.dec; rw [Lib.itoa_nonneg]
end Go.Proofs.YtjjelkdajdeikaaGreatDoor
/-
  Plain: one side more, one prefix more may be told.
-/
namespace Go.Proofs.YtjjelkdajdeikaaGreatDoor
open Go.RowKit
set_option maxRecDepth 20000

theorem Pl.adjN_of (ps : List (Int × Int)) : ∀ (n i : Nat), i + n = ps.length → (∀ j, i ≤ j → j < ps.length → Pl.sideB (Pl.pr ps j).1 (Pl.pr ps j).2 = true ∧ (0 < j → (Pl.pr ps (j - 1)).1 < (Pl.pr ps j).1)) → Pl.adjN ps n i = 0
  | 0, _, _, _ => rfl
  | n + 1, i, h, hk => by
    obtain ⟨h1, h2⟩ := hk i (Nat.le_refl _) (by omega)
    rw [Pl.adjN, if_pos h1, if_neg (by rintro ⟨g1, g2⟩; have := h2 g1; omega)]
    exact Pl.adjN_of ps n (i + 1) (by omega) (fun j hj hl => hk j (by omega) hl)
theorem Pl.adjF_snoc {ps : List (Int × Int)} {k c : Int} (h : Pl.adjF ps = 0) (hlt : ∀ p ∈ ps, p.1 < k) (hk : 0 ≤ k ∧ k ≤ 11) (hc : 1 ≤ c ∧ c ≤ 1000) : Pl.adjF (ps ++ [(k, c)]) = 0 := by
  have ho := Pl.adjN_ok ps ps.length 0 (by omega) h
  refine Pl.adjN_of _ _ 0 (by omega) (fun j _ hj => ?_)
  simp at hj
  rcases Nat.lt_or_ge j ps.length with hl | hl
  · rw [Pl.pr_app_lt ps _ j hl, Pl.pr_app_lt ps _ (j - 1) (by omega)]
    exact ho j (by omega) hl
  · obtain rfl : j = ps.length := by omega
    rw [Pl.pr_app_at]
    refine ⟨by unfold Pl.sideB; simp; omega, fun hp => ?_⟩
    rw [Pl.pr_app_lt ps _ _ (by omega)]
    exact hlt _ (Pl.pr_mem ps _ (by omega))
theorem Pl.pfxN_of (ps : List (Int × Int)) : ∀ (n i : Nat), i + n = ps.length → (∀ j, i ≤ j → j < ps.length → Pl.pfx1 (Pl.pr ps j) = 0 ∧ (0 < j → Pl.pfxLow (Pl.pr ps (j - 1)) (Pl.pr ps j) = false)) → Pl.pfxN ps n i = 0
  | 0, _, _, _ => rfl
  | n + 1, i, h, hk => by
    obtain ⟨h1, h2⟩ := hk i (Nat.le_refl _) (by omega)
    rw [Pl.pfxN, if_pos h1, if_neg (by rintro ⟨g1, g2⟩; rw [h2 g1] at g2; cases g2)]
    exact Pl.pfxN_of ps n (i + 1) (by omega) (fun j hj hl => hk j (by omega) hl)
end Go.Proofs.YtjjelkdajdeikaaGreatDoor
/-
  Plain: a network stays one that may be, whatever is done.
-/
namespace Go.Proofs.YtjjelkdajdeikaaGreatDoor
open Go.RowKit
set_option maxRecDepth 20000

theorem Pl.pfxF_of {ps : List (Int × Int)} (h1 : ps.length ≤ 6) (h2 : ∀ p ∈ ps, Pl.pfx1 p = 0) (h3 : ps.Pairwise (fun p q => Pl.pltB p q = true)) : Pl.pfxF ps = 0 := by
  rw [Pl.pfxF_from h1]
  refine Pl.pfxN_of ps ps.length 0 (by omega) fun j _ hj => ⟨h2 _ (Pl.pr_mem ps j hj), fun h0 => ?_⟩
  have e := List.pairwise_iff_getElem.1 h3 (j - 1) j (by omega) hj (by omega)
  rw [← Pl.pr_eq ps (j - 1) (by omega), ← Pl.pr_eq ps j hj, Pl.pltB_iff] at e
  have a1 := Pl.pfx1_zero (h2 _ (Pl.pr_mem ps (j - 1) (by omega)))
  have a2 := Pl.pfx1_zero (h2 _ (Pl.pr_mem ps j hj))
  unfold Pl.pfxLow
  simp only [decide_eq_false_iff_not]
  omega
theorem Pl.pfxF_sub {ps qs : List (Int × Int)} (h : Pl.pfxF ps = 0) (hs : qs.Sublist ps) : Pl.pfxF qs = 0 := by
  obtain ⟨h1, h2, h3⟩ := Pl.pfxF_good h
  exact Pl.pfxF_of (Nat.le_trans hs.length_le h1) (fun p hp => h2 p (hs.subset hp)) (h3.sublist hs)
theorem Pl.cut_sub {α : Type} (ps : List α) (k : Nat) : (ps.take k ++ ps.drop (k + 1)).Sublist ps := by
  have h : (ps.take k ++ ps.drop (k + 1)).Sublist (ps.take k ++ ps.drop k) := by
    refine List.Sublist.append_left ?_ _
    rw [← List.drop_drop]
    exact List.drop_sublist _ _
  rwa [List.take_append_drop] at h
theorem Pl.putsS_good {es : List Pl.Ent} {of : Int} {its : List (ByteArray × ByteArray)} (h : Pl.fault es = 0) : ∀ j, Pl.fault (Pl.putsS es of its j).2.1 = 0
  | 0 => h
  | j + 1 => by
    have ih := Pl.putsS_good h j (its := its) (of := of)
    unfold Pl.putsS
    simp only
    split
    · exact ih
    · split
      · exact ih
      · split
        · exact ih
        · rename_i h3
          exact (Pl.good_iff _).2 (Pl.putO_good (by simpa using h3))
theorem Pl.upd_all {α : Type} {f : Nat → α} {i : Nat} {v : α} {P : α → Prop} (h : ∀ j, P (f j)) (hv : P v) (j : Nat) : P (Pl.upd f i v j) := by
  unfold Pl.upd
  by_cases e : j = i
  · rw [if_pos e]; exact hv
  · rw [if_neg e]; exact h j
theorem Pl.GoodN.line {s : Pl.Nt} (h : Pl.GoodN s) {a b : Nat} {c : Int} (hab : a ≠ b) (hc : 0 ≤ c ∧ c ≤ 1000) : Pl.GoodN { s with L := Pl.line s.L a b c } := by
  refine ⟨h.K, h.T, h.P, fun i j => ?_, fun i j => ?_, fun i => ?_⟩
  · show 0 ≤ Pl.line s.L a b c i j ∧ Pl.line s.L a b c i j ≤ 1000
    unfold Pl.line
    split
    · exact hc
    · exact h.L i j
  · show Pl.line s.L a b c i j = Pl.line s.L a b c j i
    unfold Pl.line
    by_cases e : (i = a ∧ j = b) ∨ (i = b ∧ j = a)
    · rw [if_pos e, if_pos (by omega)]
    · rw [if_neg e, if_neg (by omega)]; exact h.S i j
  · show Pl.line s.L a b c i i = 0
    unfold Pl.line
    rw [if_neg (by omega)]
    exact h.Z i
theorem Pl.GoodN.setK {s : Pl.Nt} (h : Pl.GoodN s) (i : Nat) {es : List Pl.Ent} (he : Pl.fault es = 0) : Pl.GoodN { s with K := Pl.upd s.K i es } := ⟨Pl.upd_all (P := fun es => Pl.fault es = 0) h.K he, h.T, h.P, h.L, h.S, h.Z⟩
theorem Pl.GoodN.setP {s : Pl.Nt} (h : Pl.GoodN s) (i : Nat) {ps : List (Int × Int)} (he : Pl.pfxF ps = 0) : Pl.GoodN { s with P := Pl.upd s.P i ps } := ⟨h.K, h.T, Pl.upd_all (P := fun es => Pl.pfxF es = 0) h.P he, h.L, h.S, h.Z⟩
theorem Pl.GoodN.setT {s : Pl.Nt} (h : Pl.GoodN s) (i : Nat) {ts : List Pl.Rt} (he : Pl.tabF ts = 0) : Pl.GoodN { s with T := Pl.upd s.T i ts } := ⟨h.K, Pl.upd_all (P := fun es => Pl.tabF es = 0) h.T he, h.P, h.L, h.S, h.Z⟩
theorem Pl.GoodN.act {s : Pl.Nt} (h : Pl.GoodN s) (x : Pl.Ac) : Pl.GoodN (Pl.actN s x) := by
  unfold Pl.actN
  by_cases h1 : 1 ≤ x.kind ∧ x.kind ≤ 10
  · rw [if_neg (by simpa using h1)]
    by_cases h2 : 0 ≤ x.a ∧ x.a ≤ 11
    · rw [if_neg (by simpa using h2)]
      by_cases k1 : x.kind = 1
      · rw [if_pos k1]
        unfold Pl.linkL
        by_cases hc : Pl.linkC x = 0
        · rw [if_pos hc]
          unfold Pl.linkC at hc
          split at hc
          · cases hc
          · split at hc
            · cases hc
            · exact h.line (by omega) (by omega)
        · rw [if_neg hc]; exact h
      rw [if_neg k1]
      by_cases k2 : x.kind = 2
      · rw [if_pos k2]
        unfold Pl.cutLn
        by_cases hc : Pl.cutCd s.L x = 0
        · rw [if_pos hc]
          unfold Pl.cutCd at hc
          split at hc
          · cases hc
          · split at hc
            · cases hc
            · exact h.line (by omega) (by omega)
        · rw [if_neg hc]; exact h
      rw [if_neg k2]
      by_cases k3 : x.kind = 3
      · rw [if_pos k3]; exact ⟨h.K, h.T, h.P, h.L, h.S, h.Z⟩
      rw [if_neg k3]
      by_cases k4 : x.kind = 4
      · rw [if_pos k4]
        unfold Pl.giveN
        by_cases hc : Pl.giveC s x = 0
        · rw [if_pos hc]
          unfold Pl.giveC at hc
          split at hc
          · exact h.setP _ hc
          · rename_i hn; exact absurd hc hn
        · rw [if_neg hc]; exact h
      rw [if_neg k4]
      by_cases k5 : x.kind = 5
      · rw [if_pos k5]
        unfold Pl.takeN
        split
        · exact h
        · exact h.setP _ (Pl.pfxF_sub (h.P _) (Pl.cut_sub _ _))
      rw [if_neg k5]
      by_cases k6 : x.kind = 6
      · rw [if_pos k6]
        unfold Pl.putsN
        split
        · exact h.setK _ (Pl.putsS_good (h.K _) _)
        · exact h
      rw [if_neg k6]
      by_cases k7 : x.kind = 7
      · rw [if_pos k7]
        unfold Pl.sendN
        split
        · unfold Pl.recvN
          split
          · rename_i hc
            refine h.setK _ ?_
            have hd : Pl.decC (Pl.sendB (s.K x.a.toNat) x.n) = 0 := by
              by_cases e : Pl.decC (Pl.sendB (s.K x.a.toNat) x.n) = 0
              · exact e
              · unfold Pl.recvC at hc; rw [if_neg e] at hc; exact absurd hc e
            have hm : Pl.mergeC (s.K x.b.toNat) (Pl.decO (Pl.sendB (s.K x.a.toNat) x.n)) = 0 := by
              unfold Pl.recvC at hc; rwa [if_pos hd] at hc
            unfold Pl.mergeO
            rw [if_pos hm]
            have hg := (Pl.good_iff _).1 (h.K x.b.toNat)
            have hg2 := (Pl.good_iff _).1 (Pl.dec_back hd).1
            exact (Pl.good_iff _).2 (Pl.mrg_good _ _ _ hg hg2.2.1)
          · exact h
        · exact h
      rw [if_neg k7]
      by_cases k8 : x.kind = 8
      · rw [if_pos k8]
        unfold Pl.writeN
        split
        · rename_i hc
          exact h.setK _ ((Pl.good_iff _).2 (Pl.putO_good hc))
        · exact h
      rw [if_neg k8]
      by_cases k9 : x.kind = 9
      · rw [if_pos k9]
        exact h.setT _ (Pl.tabL_fault _ (by omega))
      rw [if_neg k9]
      exact h
    · rw [if_pos (by simpa using h2)]; exact h
  · rw [if_pos (by simpa using h1)]; exact h
theorem Pl.GoodN.run {s : Pl.Nt} (h : Pl.GoodN s) (xs : List Pl.Ac) : Pl.GoodN (Pl.runN s xs) := by
  induction xs generalizing s with
  | nil => exact h
  | cons x r ih => exact ih (h.act x)
end Go.Proofs.YtjjelkdajdeikaaGreatDoor
/-
  Contract of package net: a walk by the tables (walk).
-/
namespace Go.Proofs.YtjjelkdajdeikaaGreatDoor
open Go.RowKit
set_option maxRecDepth 20000

theorem Pl.look_good {rs : List Pl.Rt} {x : Int} (h : Pl.tabF rs = 0) (h0 : Pl.lookC rs x = 0) : Pl.routeB (Pl.lookR rs x) = true := by
  by_cases hx : 0 ≤ x ∧ x ≤ 255
  · cases hl : Pl.lookN (rs.map Pl.Rt.p) x 9 with
    | none => have := (Pl.look_none h hx hl).1; rw [this] at h0; cases h0
    | some i =>
      rw [(Pl.look_some h hx hl).2]
      have hi := Pl.lookN_lt hl
      simp only [List.length_map] at hi
      exact (Pl.good_of_tabF h).2.1 i hi
  · have := (Pl.look_range h hx).1; rw [this] at h0; cases h0
theorem Pl.hopsB_in {l : List Int} (h : Pl.hopsB l = true) {i : Nat} (hi : i < l.length) : 0 ≤ Pl.nm l i ∧ Pl.nm l i ≤ 11 := by
  have := Pl.hopsB_at h i hi
  unfold Pl.hopB at this
  simp only [Bool.and_eq_true, decide_eq_true_eq] at this
  exact this.1
theorem Pl.routeB_hop {r : Pl.Rt} (h : Pl.routeB r = true) (hh : r.here = false) (m : Int) : 0 < r.hops.length ∧ r.hops.length ≤ 12 ∧ (Pl.hopAt r m) < 12 ∧ Pl.nm r.hops (m.toNat % r.hops.length) = (Pl.hopAt r m : Int) ∧ m.toNat % r.hops.length < r.hops.length := by
  have h12 := Pl.routeB_hops h
  unfold Pl.routeB at h
  rw [hh] at h
  simp only [Bool.and_eq_true] at h
  obtain ⟨⟨_, hne⟩, hB⟩ := h
  have hl : 0 < r.hops.length := List.length_pos_iff.2 (by simpa using hne)
  have hm := Nat.mod_lt m.toNat hl
  have := Pl.hopsB_in hB hm
  unfold Pl.hopAt
  exact ⟨hl, h12, by omega, by omega, hm⟩
def slLen : Value → Nat
  | .slice _ n _ => n
  | _ => 0
theorem ownZ_one {w : World} {base g : Nat} {k : Int} (hb : base ≤ g) (hg : w.heap[g]? = some (.cells #[.int .i64 k] 3)) : OwnZ w base (.slice (some ⟨g, 0, none⟩) 1 1) [k] :=
  ⟨by simp [cellsZ], .inr ⟨g, 1, #[.int .i64 k], rfl, hb, hg, by simp, by unfold maxLen; omega, by simp, by simp [cellsZ]⟩⟩
theorem listN25 (xs : List Value) (h : xs.length = 25) : ∃ x0 x1 x2 x3 x4 x5 x6 x7 x8 x9 x10 x11 x12 x13 x14 x15 x16 x17 x18 x19 x20 x21 x22 x23 x24, xs = [x0, x1, x2, x3, x4, x5, x6, x7, x8, x9, x10, x11, x12, x13, x14, x15, x16, x17, x18, x19, x20, x21, x22, x23, x24] := by
  obtain ⟨x0, y0, rfl, h0⟩ := consN h
  obtain ⟨x1, y1, rfl, h1⟩ := consN h0
  obtain ⟨x2, y2, rfl, h2⟩ := consN h1
  obtain ⟨x3, y3, rfl, h3⟩ := consN h2
  obtain ⟨x4, y4, rfl, h4⟩ := consN h3
  obtain ⟨x5, x6, x7, x8, x9, x10, x11, x12, x13, x14, x15, x16, x17, x18, x19, x20, x21, x22, x23, x24, rfl⟩ := listN20 y4 h4
  exact ⟨x0, x1, x2, x3, x4, x5, x6, x7, x8, x9, x10, x11, x12, x13, x14, x15, x16, x17, x18, x19, x20, x21, x22, x23, x24, rfl⟩

set_option maxHeartbeats 8000000 in
theorem netWalk_any (B : Nat) (s : Pl.Nt) (x : Pl.Ac) (a : Nat) (w : World) (h : NetAt w B s) (hxa : x.a = a) (ha : a < 12) (hg : Pl.GoodN s) (hm : x.m ≤ 9223372036854775807) :
    Calls Tryz.prog 119 #[.pointer (some ⟨B, 0, none⟩), .agg #[.int .i64 x.kind, .int .i64 x.a, .int .i64 x.b, .int .i64 x.n, .int .i64 x.m, .int .i64 x.p.1, .int .i64 x.p.2, .string x.key, .string x.val]] w fun e w' =>
      ∃ vp, e = .returned (.agg #[.int .i64 (Pl.walkR s x).1, vp, .int .i64 (Pl.walkR s x).2.2, .slice none 0 0]) ∧ OwnZ w' w.heap.size vp (Pl.walkR s x).2.1 ∧ NetAt w' B s ∧ NKept B w w' := by
  have HN := hid h
  have hBl := h.lt
  have HG := hid hg
  clear h hg
  obtain ⟨kind, xa, b, n, m, ⟨p1, p2⟩, key, val⟩ := x
  simp only at hxa hm ⊢
  subst hxa
  have ha' : (a : Int) < 12 := by omega
  obtain ⟨R, HR⟩ : ∃ R, Hid (Pl.walkR s ⟨kind, (a : Int), b, n, m, (p1, p2), key, val⟩ = R) := ⟨_, hid rfl⟩
  have HRE : Hid (R = if m < 0 then (2, [], 0) else Pl.walkK s n m 13 a [(a : Int)] 0) := hid (by rw [← HR.out]; unfold Pl.walkR; rfl)
  rw [HR.out]
  clear HR
  have HRF := hid (fun (c : Int) (W : World) => refused_any c W)
  obtain ⟨b0, b1, bz, bb⟩ := two (w := w) (.cells #[.int .i64 kind, .int .i64 (a : Int), .int .i64 b, .int .i64 n, .int .i64 m, .int .i64 p1, .int .i64 p2, .string key, .string val] 51) (.cells #[.int .i64 0, .slice none 0 0, .int .i64 0, .slice none 0 0] 40)
  obtain ⟨W2, HW2⟩ : ∃ W, Hid (W = (w.alloc (.cells #[.int .i64 kind, .int .i64 (a : Int), .int .i64 b, .int .i64 n, .int .i64 m, .int .i64 p1, .int .i64 p2, .string key, .string val] 51)).alloc (.cells #[.int .i64 0, .slice none 0 0, .int .i64 0, .slice none 0 0] 40)) := ⟨_, hid rfl⟩
  rw [← HW2.out] at b0 b1 bz bb
  obtain ⟨q0, q1, q2, q3, q4, q5, q6, q7, q8⟩ := box9 b0
  have HX1 := hid b1
  have HBB := hid bb
  have Q3 := hid q3
  have Q4 := hid q4
  have hxl : w.heap.size < W2.heap.size := by omega
  have hBl2 : B < W2.heap.size := by omega
  have hle : w.heap.size ≤ w.heap.size + 1 := by omega
  have hne1 : B ≠ w.heap.size + 1 := by omega
  have hne2 : w.heap.size + 1 ≠ B := by omega
  have HFI : Hid (∀ (c : Int) (W3 : World), Below w.heap.size w W3 → W3.heap[w.heap.size + 1]? = some (.cells #[.int .i64 0, .slice none 0 0, .int .i64 0, .slice none 0 0] 40) → R = (c, [], 0) →
      ∃ vp, Ending.returned (.agg #[.int .i64 c, .slice none 0 0, .int .i64 0, .slice none 0 0]) = .returned (.agg #[.int .i64 R.1, vp, .int .i64 R.2.2, .slice none 0 0]) ∧ OwnZ (set4 W3 (w.heap.size + 1) (.int .i64 c) (.slice none 0 0) (.int .i64 0) (.slice none 0 0)) w.heap.size vp R.2.1 ∧ NetAt (set4 W3 (w.heap.size + 1) (.int .i64 c) (.slice none 0 0) (.int .i64 0) (.slice none 0 0)) B s ∧ NKept B w (set4 W3 (w.heap.size + 1) (.int .i64 c) (.slice none 0 0) (.int .i64 0) (.slice none 0 0))) := hid fun c W3 hb hx e => by
    have hfin : Below w.heap.size w (set4 W3 (w.heap.size + 1) (.int .i64 c) (.slice none 0 0) (.int .i64 0) (.slice none 0 0)) := (((hb.setCell (p := ⟨w.heap.size + 1, 0, none⟩) hle _).setCell (p := ⟨w.heap.size + 1, 1, none⟩) hle _).setCell (p := ⟨w.heap.size + 1, 2, none⟩) hle _).setCell (p := ⟨w.heap.size + 1, 3, none⟩) hle _
    exact ⟨_, by rw [e], by rw [e]; exact OwnZ.nil _ _, HN.out.below hfin, NKept.of (But.of hfin)⟩
  by_cases hm0 : m < 0
  · have hmb : decide (m < 0) = true := by simpa using hm0
    rw [if_pos hm0] at HRE
    clear hm0 q0 q1 q2 q3 q5 q6 q7 q8 b0 b1 bb
    go_enter Tryz.func119, Tryz.ntmps119
    go_wp2_with (rw [← HW2.out])
    refine (HRF.out 2 _).mono ?_
    rintro e w3 ⟨rfl, hb3⟩
    have hbx := (hb3.block _ (blockLt HX1.out)).trans HX1.out
    have HB3 := hid (HBB.out.trans (hb3.mono (by omega)))
    have HFN := hid (HFI.out 2 w3 HB3.out hbx HRE.out)
    obtain ⟨⟨y0, y1, y2, y3⟩, yf, yl⟩ := box4c hbx
    clear hb3 hbx
    go_wp2_with fail
    exact bodyPost_ret (v := .agg #[.int .i64 2, .slice none 0 0, .int .i64 0, .slice none 0 0]) (by simp [results, Tryz.results119, go_sem, y0, y1, y2, y3]) rfl HFN.out
  · have hmb : decide (m < 0) = false := by simpa using hm0
    rw [if_neg hm0] at HRE
    have HM0 := hid hm0
    clear hm0 q0 q2 q3 q5 q6 q7 q8 b0 b1 bb
    go_enter Tryz.func119, Tryz.ntmps119
    go_wp2_with (rw [← HW2.out])
    obtain ⟨W3, HW3⟩ : ∃ W, Hid (W = W2.alloc (.cells #[.int .i64 (a : Int)] 3)) := ⟨_, hid rfl⟩
    have HB23 : Hid (Below (w.heap.size + 2) W2 W3) := hid (by rw [HW3.out]; exact (Below.refl _ _).alloc (by omega) _)
    have HO3 : Hid (OwnZ W3 (w.heap.size + 2) (.slice (some ⟨w.heap.size + 2, 0, none⟩) 1 1) [(a : Int)]) := hid (ownZ_one (Nat.le_refl _) (by rw [HW3.out, ← bz]; exact heapNew _ _))
    clear q1 q4
    go_loopw [5, 6, 7] (fun va vp vc wr => ∃ (k f : Nat) (v : Value) (ps : List Int) (c : Int), v = vp ∧ va = .int .i64 f ∧ vc = .int .i64 c ∧ f < 12 ∧ k ≤ 12 ∧ Hid (ps.length + k = 13) ∧ Hid (0 ≤ c ∧ c ≤ 1000 * (12 - (k : Int))) ∧ Hid (Pl.walkK s n m 13 a [(a : Int)] 0 = Pl.walkK s n m (k + 1) f ps c) ∧ Hid (OwnZ wr (w.heap.size + 2) v ps) ∧ Hid (Below (w.heap.size + 2) W2 wr)) (fun _ vp _ _ => 13 - slLen vp)
    case atStart => exact ⟨12, a, _, [(a : Int)], 0, rfl, rfl, rfl, ha, by omega, hid rfl, hid (by omega), hid rfl, hid (by rw [← HW3.out]; exact HO3.out), hid (by rw [← HW3.out]; exact HB23.out)⟩
    case round =>
      obtain ⟨k, f, v, ps, c, hv, rfl, rfl, hf, hk, HPL, HCB, HWK, HO, HBJ⟩ := hrel
      subst hv
      have hsj := HBJ.out.size
      have HBW : Hid (Below w.heap.size w wr) := hid (HBB.out.trans (HBJ.out.mono (by omega)))
      have HNJ := hid (HN.out.below HBW.out)
      have HXJ := hid ((HBJ.out.block (w.heap.size + 1) (by omega)).trans HX1.out)
      have X3 := (HBJ.out.cell (p := ⟨w.heap.size, 3, none⟩) (show w.heap.size < w.heap.size + 2 by omega)).trans Q3.out
      have X4 := hid ((HBJ.out.cell (p := ⟨w.heap.size, 4, none⟩) (show w.heap.size < w.heap.size + 2 by omega)).trans Q4.out)
      obtain ⟨VP, VK, VT, h1, h2, h3, h4, h5⟩ := HNJ.out
      obtain ⟨hs, hto⟩ := h4 f hf
      obtain ⟨ta, tc, evt, hxr, _⟩ := hto.1.rows
      have htn := h1.table f hf
      rw [evt] at htn
      have HLN : Hid (∀ j, j < 12 → wr.cell? ⟨B, 48 + f * 12 + j, none⟩ = some (.int .i64 (s.L f j))) := hid fun j hj => h1.line f j hf hj
      have hBr := h1.lt
      have hf' : (f : Int) < 12 := by omega
      have hxr2 : w.heap.size < wr.heap.size := by omega
      obtain ⟨lt, HLT⟩ : ∃ m, Hid (hs.length = m) := ⟨_, hid rfl⟩
      rw [HLT.out] at hxr htn
      have HTF := hid (HG.out.T f)
      have HLK := hid (fun e => Pl.look_good HTF.out (x := n) e)
      obtain ⟨lc, HLC⟩ : ∃ c, Hid (Pl.lookC (s.T f) n = c) := ⟨_, hid rfl⟩
      obtain ⟨r, HLR⟩ : ∃ c, Hid (Pl.lookR (s.T f) n = c) := ⟨_, hid rfl⟩
      have HW1 : Hid (Pl.walkK s n m (k + 1) f ps c = if lc = 0 then (if r.here = true then (0, ps, c) else if k = 0 then (10, [], 0) else if s.L f (Pl.hopAt r m) = 0 then (6, [], 0) else Pl.walkK s n m k (Pl.hopAt r m) (ps ++ [(Pl.hopAt r m : Int)]) (c + s.L f (Pl.hopAt r m))) else (lc, [], 0)) := hid (by rw [← HLC.out, ← HLR.out]; rfl)
      rw [HLC.out, HLR.out] at HLK
      have HRD := hid hto.reads
      have HXR := hid hxr
      have HTN := hid htn
      have HX3 := hid X3
      obtain ⟨pa, pc, rfl⟩ := ownsRow_slice HO.out
      obtain ⟨np, HNP⟩ : ∃ c, Hid (ps.length = c) := ⟨_, hid rfl⟩
      rw [HNP.out] at HO HPL ⊢
      clear h1 h2 h3 h4 h5 hto evt hxr htn X3
      go_wp2_with fail
      rename_i K hK
      refine netWalk5 (B := B) (xb := w.heap.size) (a := f) (n := n) rfl rfl rfl rfl hBr hxr2 HX3.out HTN.out hf' HXR.out HRD.out ?_ _ (by kernel_rfl)
      rw [HLC.out, HLR.out]
      intro xs W X g hxl hkp e0 e1 hX hbx hgz hbw
      obtain ⟨x0, x1, x2, x3, x4, x5, x6, x7, x8, x9, x10, x11, x12, x13, x14, x15, x16, x17, x18, x19, x20, x21, x22, x23, x24, rfl⟩ := listN25 xs hxl
      have e0 : x0 = .pointer (some ⟨X, 0, none⟩) := e0
      have e1 : x1 = .int .i64 lc := e1
      subst e0
      subst e1
      have k4 : x4 = .pointer (some ⟨w.heap.size, 4, none⟩) := hkp 4 (by omega) (by omega)
      have k5 : x5 = .int .i64 m := hkp 5 (by omega) (by omega)
      have k6 : x6 = .bool false := hkp 6 (by omega) (by omega)
      have k7 : x7 = undef := hkp 7 (by omega) (by omega)
      have k8 : x8 = .pointer (some ⟨w.heap.size, 1, none⟩) := hkp 8 (by omega) (by omega)
      have k9 : x9 = .int .i64 a := hkp 9 (by omega) (by omega)
      have k10 : x10 = .int .i64 a := hkp 10 (by omega) (by omega)
      have k11 : x11 = .slice (some ⟨w.heap.size + 2, 0, none⟩) 1 1 := hkp 11 (by omega) (by omega)
      subst k4 k5 k6 k7 k8 k9 k10 k11
      clear hkp
      have HBX := hid hbx
      have HGZ := hid hgz
      have HBWW := hid hbw
      have HBWA : Hid (Below w.heap.size w W) := hid (HBW.out.trans (hbw.mono (by omega)))
      have HB2W : Hid (Below (w.heap.size + 2) W2 W) := hid (HBJ.out.trans (hbw.mono (by omega)))
      have HXW := hid ((hbw.block _ (blockLt HXJ.out)).trans HXJ.out)
      have HOW := hid (HO.out.below hbw)
      have hzW := hbw.size
      clear hbx hgz hbw hxl
      simp only [setFrom_spl, spl]
      refine hK _ W ?_
      by_cases hlc : lc = 0
      · subst hlc
        rw [if_pos rfl] at HW1
        have HRB := hid (HLK.out rfl)
        obtain ⟨⟨z0, z1, z2, z3, z4⟩, zf, zl⟩ := box5c HBX.out
        obtain ⟨g1, g2, g3, g4, g5⟩ := HGZ.out
        rw [g2] at z2
        clear g1 g2 g3
        cases hh : r.here with
        | true =>
          rw [hh, if_pos rfl] at HW1
          rw [hh] at z2
          have HRR : Hid (R = (0, ps, c)) := hid (by rw [HRE.out, HWK.out, HW1.out])
          obtain ⟨⟨y0, y1, y2, y3⟩, yf, yl⟩ := box4c HXW.out
          go_wp2_with fail
          obtain ⟨Wf, HWF⟩ : ∃ x, Hid (x = set4 W (w.heap.size + 1) (.int .i64 0) (.slice pa np pc) (.int .i64 c) (.slice none 0 0)) := ⟨_, hid rfl⟩
          have hbut : But (w.heap.size + 1) W Wf := by rw [HWF.out]; exact set4_but (But.refl (w.heap.size + 1) W) _ _ _ _
          have hfx : Wf.heap[w.heap.size + 1]? = some (.cells #[.int .i64 0, .slice pa np pc, .int .i64 c, .slice none 0 0] 40) := by
            rw [HWF.out]; exact set4_at HXW.out _ _ _ _
          obtain ⟨⟨v0, v1, v2, v3⟩, _, _⟩ := box4c hfx
          rw [show (((W.setCell ⟨w.heap.size + 1, 0, none⟩ (.int .i64 0)).setCell ⟨w.heap.size + 1, 1, none⟩ (.slice pa np pc)).setCell ⟨w.heap.size + 1, 2, none⟩ (.int .i64 c)).setCell ⟨w.heap.size + 1, 3, none⟩ (.slice none 0 0) = Wf from HWF.out.symm]
          refine bodyPost_ret (v := .agg #[.int .i64 0, .slice pa np pc, .int .i64 c, .slice none 0 0]) (by simp [results, Tryz.results119, go_sem, v0, v1, v2, v3]) rfl ⟨_, by rw [HRR.out], ?_, ?_, ?_⟩
          · rw [HRR.out]; exact (OwnZ.but HOW.out hbut (.inl (by omega))).mono (by omega)
          · exact NetAt.reply (HN.out.below HBWA.out) hbut HXW.out hne2
          · exact NKept.of (But.over (But.of HBWA.out) hbut hle)
        | false =>
          rw [hh, if_neg Bool.false_ne_true] at HW1
          rw [hh] at z2
          by_cases hk0 : k = 0
          · rw [if_pos hk0] at HW1
            have HRR : Hid (R = (10, [], 0)) := hid (by rw [HRE.out, HWK.out, HW1.out])
            have hq : (12 : Int) < (np : Int) := by have := HPL.out; omega
            clear hk0
            go_wp2_with fail
            refine (HRF.out 10 _).mono ?_
            rintro e w3 ⟨rfl, hb3⟩
            have hbx := (hb3.block _ (blockLt HXW.out)).trans HXW.out
            have HB3 := hid (HBWA.out.trans (hb3.mono HBWA.out.size))
            have HFN := hid (HFI.out 10 w3 HB3.out hbx HRR.out)
            obtain ⟨⟨y0, y1, y2, y3⟩, yf, yl⟩ := box4c hbx
            clear hb3 hbx
            go_wp2_with fail
            exact bodyPost_ret (v := .agg #[.int .i64 10, .slice none 0 0, .int .i64 0, .slice none 0 0]) (by simp [results, Tryz.results119, go_sem, y0, y1, y2, y3]) rfl HFN.out
          · rw [if_neg hk0] at HW1
            have hq : ¬ (12 : Int) < (np : Int) := by have := HPL.out; omega
            obtain ⟨q1, q2, q3, q4, q5⟩ := Pl.routeB_hop HRB.out hh m
            obtain ⟨ga, gc, eg, hgi, _⟩ := OwnZ.ints g4
            simp only [Value.slice.injEq] at eg
            obtain ⟨eg1, eg2, eg3⟩ := eg
            rw [eg1, eg2, eg3] at z4
            obtain ⟨hop, HHP⟩ : ∃ c, Hid (Pl.hopAt r m = c) := ⟨_, hid rfl⟩
            obtain ⟨ix, HIX⟩ : ∃ c, Hid (m.toNat % r.hops.length = c) := ⟨_, hid rfl⟩
            obtain ⟨nh, HNH⟩ : ∃ c, Hid (r.hops.length = c) := ⟨_, hid rfl⟩
            rw [HHP.out, HIX.out] at q4
            rw [HHP.out] at q3
            rw [HIX.out, HNH.out] at q5
            rw [HNH.out] at q1 q2 z4 hgi
            rw [HHP.out] at HW1
            obtain ⟨bg, og, rfl, hbg, hrg⟩ := hgi.at q5
            have cg := hrg ix (by rw [HNH.out]; exact q5)
            rw [q4] at cg
            have htm : m.tmod (nh : Int) = (ix : Int) := by
              have e : m = (m.toNat : Int) := by have := HM0.out; omega
              rw [e, ← HIX.out, HNH.out]
              exact (Int.ofNat_tmod m.toNat nh).symm
            have hnz : ((nh : Int) == 0) = false := by simp; omega
            have hix : (ix : Int) < (nh : Int) := by omega
            have xm4 := ((HBJ.out.trans (HBWW.out.mono (by omega))).cell (p := ⟨w.heap.size, 4, none⟩) (show w.heap.size < w.heap.size + 2 by omega)).trans Q4.out
            have hln := (HBWW.out.cell (p := ⟨B, 48 + f * 12 + hop, none⟩) hBr).trans (HLN.out hop q3)
            have hbW : B < W.heap.size := by omega
            have hxW : w.heap.size < W.heap.size := by omega
            have HK0 := hid hk0
            clear hrg hgi g4 g5 z0 z1 z3 hk0
            go_wp2_with fail
            go_quiet (fail)
            obtain ⟨W5, HW5⟩ : ∃ x, Hid (x = W.drewN nq) := ⟨_, hid rfl⟩
            rw [← HW5.out]
            have HB5 : Hid (Below W.heap.size W W5) := hid (by rw [HW5.out]; exact below_drew (Below.refl _ _) _)
            have hln5 := (HB5.out.cell (p := ⟨B, 48 + f * 12 + hop, none⟩) hbW).trans hln
            have HBWA5 : Hid (Below w.heap.size w W5) := hid (HBWA.out.trans (HB5.out.mono HBWA.out.size))
            have HX5 := hid ((HB5.out.block _ (blockLt HXW.out)).trans HXW.out)
            have HOW5 := hid (HOW.out.below HB5.out)
            have HLL := hid (HG.out.L f hop)
            obtain ⟨ln, HLL2⟩ : ∃ c, Hid (s.L f hop = c) := ⟨_, hid rfl⟩
            rw [HLL2.out] at HW1 hln5 HLL
            have hop12 : (hop : Int) < 12 := by omega
            have hz5 := HB5.out.size
            clear hln cg z2 z4 xm4 zf htm hnz hix
            by_cases hl0 : ln = 0
            · rw [if_pos hl0] at HW1
              have HRR : Hid (R = (6, [], 0)) := hid (by rw [HRE.out, HWK.out, HW1.out])
              have hlb : (ln == 0) = true := by simpa using hl0
              clear hl0
              go_wp2_with fail
              refine (HRF.out 6 _).mono ?_
              rintro e w3 ⟨rfl, hb3⟩
              have hbx := (hb3.block _ (blockLt HX5.out)).trans HX5.out
              have HB3 := hid (HBWA5.out.trans (hb3.mono HBWA5.out.size))
              have HFN := hid (HFI.out 6 w3 HB3.out hbx HRR.out)
              obtain ⟨⟨y0, y1, y2, y3⟩, yf, yl⟩ := box4c hbx
              clear hb3 hbx
              go_wp2_with fail
              exact bodyPost_ret (v := .agg #[.int .i64 6, .slice none 0 0, .int .i64 0, .slice none 0 0]) (by simp [results, Tryz.results119, go_sem, y0, y1, y2, y3]) rfl HFN.out
            · rw [if_neg hl0] at HW1
              have hlb : (ln == 0) = false := by simpa using hl0
              obtain ⟨k, rfl⟩ : ∃ j, k = j + 1 := ⟨k - 1, by have := HK0.out; omega⟩
              have hwr : IntKind.i64.wrap (c + ln) = c + ln := by rw [IntKind.wrap_i64]; have := HCB.out; have := HLL.out; omega
              have hnp : np ≤ 12 := by omega
              clear hl0 hq
              go_wp2_with (at_builtin; refine append_intT Tryz.underlying37 rfl (.tmp 68) (.tmp 70) rfl (w.heap.size + 2) (.slice pa np pc) ps (hop : Int) rfl HOW5.out (by omega) rfl (by have := HNP.out; omega) ?_; intro v7 w7 ho7 hb7; obtain ⟨a7, c7, rfl⟩ := ho7.slice; have HO7 := hid ho7; have HB7 := hid hb7; obtain ⟨n7, HN7⟩ : ∃ c, Hid ((ps ++ [(hop : Int)]).length = c) := ⟨_, hid rfl⟩; rw [HN7.out] at HO7 ⊢; clear ho7 hb7)
              go_roundw
              case rel =>
                refine ⟨k, hop, _, ps ++ [(hop : Int)], c + ln, rfl, rfl, rfl, by omega, by omega, hid ?_, hid ?_, hid ?_, HO7, hid ?_⟩
                · have h1 := HPL.out; have h2 := HNP.out; simp; omega
                · have h1 := HCB.out; have h2 := HLL.out; push_cast at h1; omega
                · rw [HWK.out, HW1.out]
                · exact (HB2W.out.trans (HB5.out.mono (by omega))).trans HB7.out
              case measure =>
                have h1 := HN7.out
                have h2 := HNP.out
                simp at h1
                show 13 - n7 < 13 - np
                omega
      · have hlb : (lc != 0) = true := by simpa using hlc
        rw [if_neg hlc] at HW1
        have HRR : Hid (R = (lc, [], 0)) := hid (by rw [HRE.out, HWK.out, HW1.out])
        clear hlc
        go_wp2_with fail
        refine (HRF.out lc _).mono ?_
        rintro e w3 ⟨rfl, hb3⟩
        have hbx := (hb3.block _ (blockLt HXW.out)).trans HXW.out
        have HB3 := hid (HBWA.out.trans (hb3.mono HBWA.out.size))
        have HFN := hid (HFI.out lc w3 HB3.out hbx HRR.out)
        obtain ⟨⟨y0, y1, y2, y3⟩, yf, yl⟩ := box4c hbx
        clear hb3 hbx
        go_wp2_with fail
        exact bodyPost_ret (v := .agg #[.int .i64 lc, .slice none 0 0, .int .i64 0, .slice none 0 0]) (by simp [results, Tryz.results119, go_sem, y0, y1, y2, y3]) rfl HFN.out
end Go.Proofs.YtjjelkdajdeikaaGreatDoor
/-
  Contracts of package net: a copy of prefixes; the closure by which prefixes are sorted; a row of prefixes in which one is laid anew.
-/
namespace Go.Proofs.YtjjelkdajdeikaaGreatDoor
open Go.RowKit
set_option maxRecDepth 20000

set_option maxHeartbeats 1000000 in
theorem CloneP_nil (cap : Nat) (w : World) :
    Calls Tryz.prog 186 #[.slice none 0 cap] w fun e w' => e = .returned (.slice none 0 0) ∧ Below w.heap.size w w' := by
  have hnil : ∀ W, (binOp .eql 29 (.slice none 0 cap) (.slice none 0 0)).run Tryz.prog W = .ok (.bool true) W := fun W => by
    simp only [binOp]
    simp [run_equal_slice_nil W 29 49 none 0 cap Tryz.underlying29]
  go_enter Tryz.func186, Tryz.ntmps186
  go_wp2
  go_ret
  exact ⟨rfl, Below.refl _ _⟩
theorem append_pfxs {w : World} {ops : Array Oper} {rest : List Oper} {o : Oper} {a : Act} {Q : Exit → Act → World → Prop} (hgd : o.guard = none) (s x : Operand)
    (ho : o.op = .call { callee := .builtin .append, args := #[s, x], argTypes := #[29, 29] })
    (base : Nat) (v : Value) (ad : Addr) (len cap : Nat) (ps : List (Int × Int)) (hs : a.eval s = v) (hown : OwnPf w base v []) (hbase : base ≤ w.heap.size) (hx : a.eval x = .slice (some ad) len cap) (hE : IsPairs w (some ad) len cap ps) (hb : len ≤ 1000000)
    (h : ∀ v' w', OwnPf w' base v' ps → Below base w w' → wpList Tryz.prog ops Q rest (a.put o.dst v') w') : wpList Tryz.prog ops Q (o :: rest) a w := by
  obtain ⟨i0, hi0, hz0, hz1, hz2⟩ := partsOf infoPfxN
  obtain ⟨hl, hc, hm, hok, hrow⟩ := hE
  refine wpList_append_own (w := w) hgd s x 29 ho base 49 i0 _ 2 16 Tryz.underlying29 hi0 hz0 hz1 hz2 rfl (by decide) v 0 [] hs hown ad len cap (cellsP ps) hx (by rw [cellsP_len, hl]) ?_ (cellsP_one _) (by unfold maxLen; omega) (by omega) hbase ?_
  · intro j u hj
    rcases hrow with rfl | ⟨b, off, hba, _, hr⟩
    · simp [cellsP] at hj
    · cases hba
      rw [add_none]
      have hj2 : j < ps.length * 2 := by have := (List.getElem?_eq_some_iff.1 hj).1; rwa [cellsP_len] at this
      obtain ⟨c0, c1⟩ := cellsP_get ps (j / 2) (by omega)
      obtain ⟨r0, r1⟩ := hr (j / 2) (by omega)
      rcases Nat.mod_two_eq_zero_or_one j with e | e
      · rw [show j = j / 2 * 2 by omega] at hj ⊢
        rw [c0] at hj
        cases hj
        rw [← r0]
      · rw [show j = j / 2 * 2 + 1 by omega] at hj ⊢
        rw [c1] at hj
        cases hj
        rw [← r1, Nat.add_assoc]
  · intro v' w' hown' hg _
    rw [List.nil_append] at hown'
    have hlt := World.ownsRow.lt hown
    exact h v' w' (ownP_of hown' rfl) ((Below.refl _ _).grown hg hbase (fun k hk => (hlt k hk).1))
set_option maxHeartbeats 1000000 in
theorem CloneP_some (ad : Addr) (len cap : Nat) (ps : List (Int × Int)) (w : World) (h : IsPairs w (some ad) len cap ps) (hb : len ≤ 1000000) :
    Calls Tryz.prog 186 #[.slice (some ad) len cap] w fun e w' => ∃ v, e = .returned v ∧ OwnPf w' w.heap.size v ps ∧ Below w.heap.size w w' := by
  have HH := hid h
  have hbA : Below w.heap.size w (w.alloc (.cells #[] 49)) := (Below.refl _ _).alloc (Nat.le_refl _) _
  have HB := hid hbA
  have HO : Hid (OwnPf (w.alloc (.cells #[] 49)) w.heap.size (.slice (some ⟨w.heap.size, 0, none⟩) 0 0) []) :=
    hid ⟨rfl, .inr ⟨w.heap.size, 0, #[], rfl, Nat.le_refl _, by show (w.heap.push _)[w.heap.size]? = _; simp, Nat.le_refl _, by decide, rfl, rfl⟩⟩
  have HI := hid (HH.out.below hbA)
  have hnil : ∀ W, (binOp .eql 29 (.slice (some ad) len cap) (.slice none 0 0)).run Tryz.prog W = .ok (.bool false) W := fun W => by
    simp only [binOp]
    simp [run_equal_slice_nil W 29 49 (some ad) len cap Tryz.underlying29]
  clear h hbA
  go_enter Tryz.func186, Tryz.ntmps186
  go_wp2_with (at_builtin; (refine append_pfxs rfl (.tmp 5) (.tmp 6) rfl w.heap.size (.slice (some ⟨w.heap.size, 0, none⟩) 0 0) ad len cap ps rfl HO.out (by simp) rfl HI.out (by omega) ?_); intro v5 w5 ho5 hk5)
  go_ret
  exact ⟨_, rfl, ho5, HB.out.trans hk5⟩
theorem CloneP_any (a : Option Addr) (len cap : Nat) (ps : List (Int × Int)) (w : World) (h : IsPairs w a len cap ps) (hb : len ≤ 1000000) (hn : a = none → len = 0) :
    Calls Tryz.prog 186 #[.slice a len cap] w fun e w' => ∃ v, e = .returned v ∧ OwnPf w' w.heap.size v ps ∧ Below w.heap.size w w' := by
  cases a with
  | some ad => exact CloneP_some ad len cap ps w h hb
  | none =>
    obtain rfl := hn rfl
    have hp : ps = [] := List.length_eq_zero_iff.1 h.1
    subst hp
    exact (CloneP_nil cap w).mono fun e w' ⟨h1, h2⟩ => ⟨_, h1, OwnP.nil _ _ _, h2⟩

theorem Pl.pltB_cmp (p q : Int × Int) : Pl.pltB p q = decide (Pl.pfxC p q < 0) := by
  have h := Pl.pfxC_ge p q
  rw [Bool.eq_iff_iff] at h ⊢
  simp only [decide_eq_true_eq, Bool.not_eq_true'] at h ⊢
  constructor
  · intro e
    have : ¬ 0 ≤ Pl.pfxC p q := fun g => by rw [h.1 g] at e; cases e
    omega
  · intro e
    cases hh : Pl.pltB p q
    · have := h.2 hh; omega
    · rfl

set_option maxHeartbeats 1000000 in
theorem cloW_any (ps : List (Int × Int)) (g vb n c i j : Nat) (w : World) (hl : ps.length = n) (_hc : n ≤ c) (_hm : c ≤ maxLen) (hg : g < w.heap.size) (hvb : vb < w.heap.size) (hrow : PairsAt w g 0 ps) (h1 : w.cell? ⟨vb, 0, none⟩ = some (.slice (some ⟨g, 0, none⟩) n c)) (hi : i < n) (hj : j < n) :
    Calls Tryz.prog 188 #[.int .i64 i, .int .i64 j, .pointer (some ⟨vb, 0, none⟩)] w fun e w' => e = .returned (.bool (Pl.pltB (Pl.pr ps i) (Pl.pr ps j))) ∧ Below w.heap.size w w' := by
  unfold maxLen at _hm
  obtain ⟨c0, c1⟩ := hrow i (by omega)
  obtain ⟨d0, d1⟩ := hrow j (by omega)
  obtain ⟨⟨p1, p2⟩, HP⟩ : ∃ x, Hid (Pl.pr ps i = x) := ⟨_, hid rfl⟩
  obtain ⟨⟨q1, q2⟩, HQ⟩ : ∃ x, Hid (Pl.pr ps j = x) := ⟨_, hid rfl⟩
  rw [HP.out] at c0 c1 ⊢
  rw [HQ.out] at d0 d1 ⊢
  simp only [Nat.zero_add] at c0 c1 d0 d1
  have hi' : (i : Int) < (n : Int) := by omega
  have hj' : (j : Int) < (n : Int) := by omega
  obtain ⟨cq, HCQ⟩ : ∃ c, Hid (Pl.pfxC (p1, p2) (q1, q2) = c) := ⟨_, hid rfl⟩
  have HLW : Hid (Pl.pltB (p1, p2) (q1, q2) = decide (cq < 0)) := hid (by rw [← HCQ.out, Pl.pltB_cmp])
  have HCP : Hid (∀ W, Calls Tryz.prog 100 #[.agg #[.int .i64 p1, .int .i64 p2], .agg #[.int .i64 q1, .int .i64 q2]] W fun e w' => e = .returned (.int .i64 cq) ∧ Below W.heap.size W w') := by
    refine hid fun W => ?_
    have := comparePrefixes_any (p1, p2) (q1, q2) W
    rwa [HCQ.out] at this
  rw [HLW.out]
  clear hrow
  go_enter Tryz.func188, Tryz.ntmps188
  go_wp2_with fail
  have i0 := in_cell hvb h1
  have i1 := in_cell hg c0
  have i2 := in_cell hg c1
  have i3 := in_cell hg d0
  have i4 := in_cell hg d1
  have hne := in_some w
  refine wp_region_in (by kernel_rfl) (by kernel_rfl) ?_
  repeat (go_big_quiet_step ((go_at_call 100; exact in_call (HCP.out _))))
  refine wpQuiet_nil ?_
  intro w5 hw'
  have hb5 := in_out hw'
  clear hw' i0 i1 i2 i3 i4 hne
  go_wp2_with fail
  go_ret
  exact ⟨rfl, hb5⟩

theorem cellsP_set : ∀ (ps : List (Int × Int)) (i : Nat) (p : Int × Int), cellsP (ps.set i p) = ((cellsP ps).set (i * 2) (.int .i64 p.1)).set (i * 2 + 1) (.int .i64 p.2)
  | [], i, p => rfl
  | q :: r, 0, p => rfl
  | q :: r, i + 1, p => by
    show cellsP (q :: (r.set i p)) = _
    rw [show (i + 1) * 2 = i * 2 + 1 + 1 by omega]
    show Value.int .i64 q.1 :: Value.int .i64 q.2 :: cellsP (r.set i p) = _
    rw [cellsP_set r i p]
    rfl
theorem OwnPf.set {w : World} {base g n cap : Nat} {ps : List (Int × Int)} (h : OwnPf w base (.slice (some ⟨g, 0, none⟩) n cap) ps) (i : Nat) (p : Int × Int) : OwnPf (w.setCells g (i * 2) [.int .i64 p.1, .int .i64 p.2]) base (.slice (some ⟨g, 0, none⟩) n cap) (ps.set i p) := by
  obtain ⟨h0, ⟨e, _⟩ | ⟨g', cap', cur, e, hb, hh, hn, hm, hs, hx⟩⟩ := h
  · cases e
  · simp only [Value.slice.injEq, Option.some.injEq, Addr.mk.injEq, and_true] at e
    obtain ⟨rfl, rfl, rfl⟩ := e
    refine ⟨by rw [cellsP_len], .inr ⟨g, cap, (cur.setIfInBounds (i * 2) (.int .i64 p.1)).setIfInBounds (i * 2 + 1) (.int .i64 p.2), by simp, hb, ?_, by simpa using hn, hm, by simpa using hs, ?_⟩⟩
    · have := blockLt hh
      show ((w.setCell ⟨g, i * 2, none⟩ (.int .i64 p.1)).setCell ⟨g, i * 2 + 1, none⟩ (.int .i64 p.2)).heap[g]? = _
      simp [World.setCell, Array.getElem?_modify, hh]
    · rw [Array.toList_setIfInBounds, Array.toList_setIfInBounds, List.take_set, List.take_set, List.length_set, hx, cellsP_set]
theorem OwnPf.pairs {w : World} {base g n cap : Nat} {ps : List (Int × Int)} (h : OwnPf w base (.slice (some ⟨g, 0, none⟩) n cap) ps) : ps.length = n ∧ n ≤ cap ∧ cap ≤ maxLen ∧ g < w.heap.size ∧ PairsAt w g 0 ps ∧ ∀ o, w.frozen? ⟨g, o, none⟩ = false := by
  obtain ⟨h0, ⟨e, _⟩ | ⟨g', cap', cur, e, hb, hh, hn, hm, hs, hx⟩⟩ := h
  · cases e
  · simp only [Value.slice.injEq, Option.some.injEq, Addr.mk.injEq, and_true] at e
    obtain ⟨rfl, rfl, rfl⟩ := e
    refine ⟨rfl, hn, hm, blockLt hh, fun i hi => ?_, fun o => by simp [World.frozen?, hh]⟩
    obtain ⟨c0, c1⟩ := cellsP_get ps i hi
    have key : ∀ o v, (cellsP ps)[o]? = some v → w.cell? ⟨g, o, none⟩ = some v := fun o v hv => by
      rw [← hx, List.getElem?_take] at hv
      split at hv
      · rw [Array.getElem?_toList] at hv
        simp [World.cell?, hh, hv]
      · cases hv
    rw [Nat.zero_add]
    exact ⟨key _ _ c0, key _ _ c1⟩
end Go.Proofs.YtjjelkdajdeikaaGreatDoor
