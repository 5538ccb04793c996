/-
  Contracts and facts that the proof rests on, put together out of several texts.
-/
import Derived.Test.YtcdobhdbafpkiafGreatDoorAll9
import Derived.Test.YtcdobhdbafpkiafGreatDoorAll10
import Derived.Test.YtcdobhdbafpkiafGreatDoorShelfB
import Derived.Lib.SlicesCompact
import Derived.Sort.Grow
import Derived.Test.YtcdobhdbafpkiafGreatDoorAll5
import Derived.Test.YtcdobhdbafpkiafGreatDoorAll8
/-
  Contracts: slices.Grow and slices.Concat over numbers; hops of two routes put together (unite).
-/
namespace Go.Proofs.YtcdobhdbafpkiafGreatDoor
open Go.RowKit
set_option maxRecDepth 20000

/-! what slices.Sort and slices.Compact leave in a row of one's own -/
theorem put_heap {w : World} {g : Nat} {cur : Array Value} {T : TypeId} (hg : w.heap[g]? = some (.cells cur T (0, 0))) (d : Array Int) (n : Nat) (os : Array Obj) :
    (Go.Sort.grow (Go.Sort.putRow (Value.int .i64) (Go.Sort.ahead w n) g 0 d) os).heap[g]? = some (.cells (Go.Sort.putCells (Value.int .i64) 0 d cur) T (0, 0)) := by
  have hlt := blockLt hg
  unfold Go.Sort.grow Go.Sort.putRow Go.Sort.mapBlock
  show ((w.heap.modify g _) ++ os)[g]? = _
  rw [Array.getElem?_append_left (by simpa using hlt), Array.getElem?_modify, if_pos rfl, hg]
  rfl
theorem put_but {w : World} {g : Nat} (d : Array Int) (n : Nat) (os : Array Obj) : But g w (Go.Sort.grow (Go.Sort.putRow (Value.int .i64) (Go.Sort.ahead w n) g 0 d) os) := by
  refine ⟨rfl, rfl, rfl, ?_, fun k hk hne => ?_⟩
  · show _ ≤ ((w.heap.modify g _) ++ os).size
    simp
  · show ((w.heap.modify g _) ++ os)[k]? = _
    rw [Array.getElem?_append_left (by simpa using hk), Array.getElem?_modify, if_neg (Ne.symm hne)]
theorem put_take (d : Array Int) (cur : Array Value) (h : d.size ≤ cur.size) : (Go.Sort.putCells (Value.int .i64) 0 d cur).toList.take d.size = cellsZ d.toList := by
  apply List.ext_getElem?
  intro i
  rw [List.getElem?_take]
  by_cases hi : i < d.size
  · rw [if_pos hi, Array.getElem?_toList]
    simp [Go.Sort.putCells, cellsZ, hi, show i < cur.size by omega]
  · rw [if_neg hi]
    simp [cellsZ, show d.size ≤ i by omega]
theorem put_size (d : Array Int) (cur : Array Value) : (Go.Sort.putCells (Value.int .i64) 0 d cur).size = cur.size := by simp [Go.Sort.putCells]
theorem ownZ_row {w : World} {base g cap : Nat} {cur : Array Value} {xs : List Int} (hb : base ≤ g) (hg : w.heap[g]? = some (.cells cur 3 (0, 0))) (hc : xs.length ≤ cap) (hm : cap ≤ maxLen) (hs : cur.size = cap) (hx : cur.toList.take xs.length = cellsZ xs) : OwnZ w base (.slice (some ⟨g, 0, none⟩) xs.length cap) xs :=
  ⟨by simp [cellsZ], .inr ⟨g, cap, cur, rfl, hb, hg, hc, hm, by simpa using hs, by simpa using hx⟩⟩
theorem OwnZ.row {w : World} {base : Nat} {v : Value} {xs : List Int} (h : OwnZ w base v xs) (hne : xs ≠ []) :
    ∃ g cap cur, v = .slice (some ⟨g, 0, none⟩) xs.length cap ∧ base ≤ g ∧ w.heap[g]? = some (.cells cur 3 (0, 0)) ∧ xs.length ≤ cap ∧ cap ≤ maxLen ∧ cur.size = cap ∧ cur.toList.take xs.length = cellsZ xs := by
  obtain ⟨_, ⟨h, h1⟩ | ⟨g, cap, cur, rfl, hb, hh, hn, hm, hs, hx⟩⟩ := h
  · exact absurd (List.length_eq_zero_iff.1 h1) hne
  · exact ⟨g, cap, cur, rfl, hb, hh, hn, hm, by simpa using hs, by simpa using hx⟩
theorem holdsZ {w : World} {g : Nat} {cur : Array Value} {xs : List Int} (hg : w.heap[g]? = some (.cells cur 3 (0, 0))) (hx : cur.toList.take xs.length = cellsZ xs) : Go.Sort.Holds (Value.int .i64) w g 0 xs.toArray := by
  intro j hj
  have hj' : j < xs.length := by simpa using hj
  have h1 : (cellsZ xs)[j]? = some (.int .i64 xs[j]) := by simp [cellsZ, hj']
  rw [← hx, List.getElem?_take, if_pos hj', Array.getElem?_toList] at h1
  refine ⟨?_, ?_⟩
  · rw [Nat.zero_add]
    simp [World.cell?, hg, h1, hj']
  · rw [Nat.zero_add]
    simp [World.frozen?, hg]

/-! what compacting a rising list gives -/
theorem Pl.compact_spec (d : Array Int) (hd : ∀ i j, i < j → j < d.size → d[i]! ≤ d[j]!) : ∀ m, m ≤ d.size → (Lib.compactUpTo d m).Pairwise (· < ·) ∧ (∀ x, x ∈ Lib.compactUpTo d m ↔ ∃ j, j < m ∧ d[j]! = x)
  | 0, _ => by
    have e : Lib.compactUpTo d 0 = [] := rfl
    rw [e]; simp
  | m + 1, h => by
    obtain ⟨h1, h2⟩ := Pl.compact_spec d hd m (by omega)
    rw [Lib.compactUpTo_succ]
    by_cases k : Lib.keeps d m = true
    · rw [if_pos k]
      refine ⟨List.pairwise_append.2 ⟨h1, by simp, fun x hx y hy => ?_⟩, fun x => ?_⟩
      · obtain ⟨j, hj, rfl⟩ := (h2 x).1 hx
        simp only [List.mem_singleton] at hy
        subst hy
        have hne : d[m]! ≠ d[m - 1]! := by
          unfold Lib.keeps at k
          simp only [decide_eq_true_eq] at k
          rcases k with k | k
          · omega
          · exact k
        have a1 : d[j]! ≤ d[m - 1]! := by
          rcases Nat.lt_or_ge j (m - 1) with g | g
          · exact hd j (m - 1) g (by omega)
          · rw [show j = m - 1 by omega]; exact Int.le_refl _
        have a2 := hd (m - 1) m (by omega) (by omega)
        omega
      · rw [List.mem_append, h2, List.mem_singleton]
        constructor
        · rintro (⟨j, hj, e⟩ | e)
          · exact ⟨j, by omega, e⟩
          · exact ⟨m, by omega, e.symm⟩
        · rintro ⟨j, hj, e⟩
          rcases Nat.lt_or_ge j m with g | g
          · exact .inl ⟨j, g, e⟩
          · rw [show j = m by omega] at e; exact .inr e.symm
    · rw [if_neg k, List.append_nil]
      refine ⟨h1, fun x => ?_⟩
      rw [h2]
      have hk : ¬ (m = 0 ∨ d[m]! ≠ d[m - 1]!) := by
        unfold Lib.keeps at k
        simpa using k
      constructor
      · rintro ⟨j, hj, e⟩; exact ⟨j, by omega, e⟩
      · rintro ⟨j, hj, e⟩
        rcases Nat.lt_or_ge j m with g | g
        · exact ⟨j, g, e⟩
        · have hm : j = m := by omega
          subst hm
          refine ⟨j - 1, by omega, ?_⟩
          rw [← e]
          exact (Decidable.byContradiction fun q => hk (.inr q)).symm
theorem compact_le (zs : List Int) : (Lib.compact zs).length ≤ zs.length := by
  unfold Lib.compact Lib.compactUpTo
  rw [List.length_map]
  exact Nat.le_trans (List.length_filter_le _ _) (by simp)
theorem Pl.unite_sort (xs ys : List Int) (hx : ∀ x ∈ xs, 0 ≤ x ∧ x ≤ 11) (hy : ∀ y ∈ ys, 0 ≤ y ∧ y ≤ 11) : Lib.compact ((xs ++ ys).mergeSort fun x y => decide (x ≤ y)) = Pl.unite xs ys := by
  have hp : ((xs ++ ys).mergeSort fun x y => decide (x ≤ y)).Perm (xs ++ ys) := List.mergeSort_perm _ _
  have hs : ((xs ++ ys).mergeSort fun x y => decide (x ≤ y)).Pairwise (fun x y => decide (x ≤ y) = true) := by
    refine List.pairwise_mergeSort ?_ ?_ _
    · intro a b c h1 h2; simp only [decide_eq_true_eq] at *; omega
    · intro a b; simp only [Bool.or_eq_true, decide_eq_true_eq]; omega
  generalize ((xs ++ ys).mergeSort fun x y => decide (x ≤ y)) = zs at *
  have hd : ∀ i j, i < j → j < zs.toArray.size → zs.toArray[i]! ≤ zs.toArray[j]! := by
    intro i j hij hj
    have hj' : j < zs.length := by simpa using hj
    have := List.pairwise_iff_getElem.1 hs i j (by omega) hj' hij
    simp only [decide_eq_true_eq] at this
    simpa [getElem!_pos, hj', show i < zs.length by omega] using this
  obtain ⟨h1, h2⟩ := Pl.compact_spec zs.toArray hd zs.length (by simp)
  refine Pl.up_ext h1 (Pl.hopsL_up _ _) fun x => ?_
  rw [show (x ∈ Pl.unite xs ys) = (x ∈ xs ∨ x ∈ ys) from propext (Pl.mem_unite hx hy), ← List.mem_append, ← hp.mem_iff]
  show x ∈ Lib.compactUpTo zs.toArray zs.length ↔ _
  rw [h2]
  constructor
  · rintro ⟨j, hj, e⟩
    rw [← e]
    simp [getElem!_pos, hj]
  · intro hm
    obtain ⟨j, hj, e⟩ := List.getElem_of_mem hm
    exact ⟨j, hj, by simp [getElem!_pos, hj, e]⟩

/-! growing and appending -/
theorem append_moreI {w : World} {ops : Array Oper} {rest : List Oper} {o : Oper} {a : Act} {Q : Exit → Act → World → Prop} (hgd : o.guard = none) (s x : Operand)
    (ho : o.op = .call { callee := .builtin .append, args := #[s, x], argTypes := #[47, 47] })
    (base : Nat) (v : Value) (xs : List Int) (hown : OwnZ w base v xs) (hbase : base ≤ w.heap.size) (ao : Option Addr) (len cap : Nat) (zs : List Int) (hs : a.eval s = v) (hx : a.eval x = .slice ao len cap) (hE : IsInts w ao len cap zs) (hb : len ≤ 1000) (hb2 : xs.length ≤ 1000)
    (h : ∀ v' w', OwnZ w' base v' (xs ++ zs) → Below base w w' → wpList Tryz.prog ops Q rest (a.put o.dst v') w') : wpList Tryz.prog ops Q (o :: rest) a w := by
  obtain ⟨i0, hi0, hz0, hz1, hz2⟩ := info_parts infoZ
  obtain ⟨hl, hc, hm, hnil, hrow⟩ := hE
  have hlt := World.ownsRow.lt hown
  rcases ao with _ | ad
  · obtain rfl := hnil rfl
    obtain rfl : len = 0 := by omega
    obtain rfl : zs = [] := List.length_eq_zero_iff.1 hl
    rw [List.append_nil] at h
    exact wpList_append_own_none hgd s x 47 ho base 3 i0 1 Tryz.underlying47 hi0 _ xs.length (cellsZ xs) hs hown hx (h _ _ hown (Below.refl _ _))
  · refine wpList_append_own (w := w) hgd s x 47 ho base 3 i0 _ 1 8 Tryz.underlying47 hi0 hz0 hz1 hz2 rfl (by decide) _ xs.length (cellsZ xs) hs hown ad len cap (cellsZ zs) hx (by simp [cellsZ, hl]) ?_ (cellsZ_one _) (by unfold maxLen; omega) (by omega) hbase ?_
    · intro j u hj
      obtain ⟨hj1, rfl⟩ := cellsZ_get hj
      rcases hrow with rfl | ⟨b, off, hba, _, hr⟩
      · simp at hj1
      · cases hba
        rw [add_none]
        exact hr j hj1
    · intro v' w' hown' hg _
      refine h v' w' ?_ ((Below.refl _ _).grown hg hbase (fun k hk => (hlt k hk).1))
      unfold OwnZ
      rw [List.length_append, hl]
      simpa [cellsZ] using hown'
theorem wpList_zerosI {w : World} {ops : Array Oper} {rest : List Oper} {o : Oper} {a : Act} {Q : Exit → Act → World → Prop} (hgd : o.guard = none) (s x : Operand)
    (ho : o.op = .call { callee := .builtin .append, args := #[s, x], argTypes := #[47, 3] })
    (k : Nat) (hs : a.eval s = .slice none 0 0) (hx : a.eval x = .int .i64 (k : Int)) (h0 : 0 < k) (hbig : k ≤ 1000)
    (h : ∀ w' G cur, w'.heap[w.heap.size]? = some (.cells cur 3 (0, 0)) → cur.size = G → k ≤ G → G ≤ maxLen → Below w.heap.size w w' → wpList Tryz.prog ops Q rest (a.put o.dst (.slice (some ⟨w.heap.size, 0, none⟩) k G)) w') : wpList Tryz.prog ops Q (o :: rest) a w := by
  obtain ⟨i0, hi0, hz0, hz1, hz2⟩ := info_parts infoZ
  have hold : (Builtin.firstCells i0.size 0 (.slice none 0 0)).run Tryz.prog w.drew = .ok (#[] : Array Value) w.drew := by
    rw [hz1]; rfl
  have hr := Lib.run_append_grow_zeros w 47 3 o.type 3 i0 _ .i64 .i64 Tryz.underlying47 Tryz.underlying3 hi0 hz0 none 0 0 [] hold k h0 (by omega) (by omega) (by omega) (by rw [hz2]; omega) (by rw [hz2]; exact growslice_fits (by omega) (by omega))
  have hGn := grownCap_ge w (0 + k) 0 3
  have hGm := grownCap_le_maxLen w (0 + k) 0 3 (by unfold maxLen; omega)
  generalize grownCap w (0 + k) 0 3 = G at *
  refine Lib.wpList_append_run _ hgd s x _ _ ho _ _ hs hx _ _ hr ?_
  rw [show (0 + k) = k by omega] at *
  refine h _ G _ (heapNewZ w.drew _) ?_ hGn hGm ((Below.refl _ _).drew.alloc (Nat.le_refl _) _)
  simp [Builtin.zeroCells, Value.cells]
  omega

set_option maxHeartbeats 1000000 in
theorem GrowI_nil (k : Nat) (w : World) (h0 : 0 < k) (hk : k ≤ 1000) :
    Calls Tryz.prog 174 #[.slice none 0 0, .int .i64 (k : Int)] w fun e w' => ∃ v, e = .returned v ∧ OwnZ w' w.heap.size v [] ∧ Below w.heap.size w w' := by
  have hwr : IntKind.i64.wrap ((k : Int) - 0) = (k : Int) := by rw [IntKind.wrap_i64]; omega
  have h1 : decide ((k : Int) < 0) = false := by simp
  have h2 : decide ((0 : Int) < (k : Int)) = true := by simp; omega
  go_enter Tryz.func174, Tryz.ntmps174
  go_wp2_with (at_builtin; refine wpList_zerosI rfl (.tmp 20) (.tmp 21) rfl k rfl rfl h0 hk ?_; intro w1 G cur hg1 hc1 hG1 hG2 hb1; have HG := hid hg1; have HB := hid hb1; have HC := hid hc1; clear hg1 hb1 hc1; unfold maxLen at hG2)
  go_ret
  refine ⟨_, rfl, ?_, HB.out⟩
  exact ownZ_row (xs := []) (Nat.le_refl _) HG.out (Nat.zero_le _) (by unfold maxLen; exact hG2) HC.out (by simp [cellsZ])

/-- the first of two lists, both -/
def Pl.cat2 (xs ys : List Int) : Nat → List Int
  | 0 => []
  | 1 => xs
  | _ => xs ++ ys
set_option maxHeartbeats 2000000 in
theorem ConcatI_any (B : Nat) (a b : Option Addr) (la ca lb cb : Nat) (xs ys : List Int) (w : World) (hB : B < w.heap.size) (c0 : w.cell? ⟨B, 0, none⟩ = some (.slice a la ca)) (c1 : w.cell? ⟨B, 1, none⟩ = some (.slice b lb cb)) (h1 : IsInts w a la ca xs) (h2 : IsInts w b lb cb ys) (hx : 0 < la) (hla : la ≤ 12) (hlb : lb ≤ 12) :
    Calls Tryz.prog 146 #[.slice (some ⟨B, 0, none⟩) 2 2] w fun e w' => ∃ v, e = .returned v ∧ OwnZ w' w.heap.size v (xs ++ ys) ∧ Below w.heap.size w w' := by
  have H1 := hid h1
  have H2 := hid h2
  have C0 := hid c0
  have C1 := hid c1
  have HLX : Hid (xs.length = la) := hid h1.1
  have HLY : Hid (ys.length = lb) := hid h2.1
  have hwa : IntKind.i64.wrap (0 + (la : Int)) = (la : Int) := by rw [IntKind.wrap_i64]; omega
  have hwb : IntKind.i64.wrap ((la : Int) + (lb : Int)) = ((la + lb : Nat) : Int) := by rw [IntKind.wrap_i64]; omega
  obtain ⟨S, hS⟩ : ∃ S, la + lb = S := ⟨_, rfl⟩
  rw [hS] at hwb
  have hna : decide ((la : Int) < 0) = false := by simp
  have hnb : decide ((S : Int) < 0) = false := by simp
  clear h1 h2 c0 c1
  go_enter Tryz.func146, Tryz.ntmps146
  go_wp2_with fail
  go_loopw [3, 11] (fun s i wr => ∃ k : Nat, k ≤ 2 ∧ i = .int .i64 k ∧ s = .int .i64 ((if k = 0 then 0 else if k = 1 then la else S : Nat) : Int) ∧ Hid (Below w.heap.size w wr)) (fun _ i _ => 2 - (intOf i).toNat)
  case atStart => exact ⟨0, by omega, rfl, rfl, hid (Below.refl _ _)⟩
  case round =>
    obtain ⟨k, hk, rfl, rfl, HB⟩ := hrel
    have d0 := (HB.out.cell (p := ⟨B, 0, none⟩) hB).trans C0.out
    have d1 := (HB.out.cell (p := ⟨B, 1, none⟩) hB).trans C1.out
    have hBr : B < wr.heap.size := Nat.lt_of_lt_of_le hB HB.out.size
    have hcs : k = 0 ∨ k = 1 ∨ k = 2 := by omega
    rcases hcs with rfl | rfl | rfl
    · go_wp2_with fail
      go_roundw
      case rel => exact ⟨1, by omega, by go_num, rfl, HB⟩
      case measure => simp [intOf]
    · go_wp2_with fail
      go_roundw
      case rel => exact ⟨2, by omega, by go_num, rfl, HB⟩
      case measure => simp [intOf]
    · go_wp2_with fail
      refine (GrowI_nil S wr (by omega) (by omega)).mono ?_
      rintro e w1 ⟨v1, rfl, ho1, hb1⟩
      have HO1 := hid (ho1.mono HB.out.size)
      have HB1 : Hid (Below w.heap.size w w1) := hid (HB.out.trans (hb1.mono HB.out.size))
      clear ho1 hb1
      go_wp2_with fail
      go_loopw [6, 27] (fun v i wr => ∃ k : Nat, k ≤ 2 ∧ i = .int .i64 k ∧ Hid (OwnZ wr w.heap.size v (Pl.cat2 xs ys k)) ∧ Hid (Below w.heap.size w wr)) (fun _ i _ => 2 - (intOf i).toNat)
      case atStart => exact ⟨0, by omega, rfl, HO1, HB1⟩
      case round =>
        obtain ⟨k, hk, rfl, HO, HBk⟩ := hrel
        rename World => wk
        have d0 := (HBk.out.cell (p := ⟨B, 0, none⟩) hB).trans C0.out
        have d1 := (HBk.out.cell (p := ⟨B, 1, none⟩) hB).trans C1.out
        have hBk : B < wk.heap.size := Nat.lt_of_lt_of_le hB HBk.out.size
        have hcs : k = 0 ∨ k = 1 ∨ k = 2 := by omega
        rcases hcs with rfl | rfl | rfl
        · go_wp2_with (at_builtin; refine append_moreI rfl (.tmp 31) (.tmp 32) rfl w.heap.size _ [] HO.out HBk.out.size a la ca xs rfl rfl (H1.out.below HBk.out) (by omega) (by simp) ?_; intro v2 w2 ho2 hb2; have HO2 := hid ho2; have HB2 := hid hb2; clear ho2 hb2)
          go_roundw
          case rel => exact ⟨1, by omega, by go_num, HO2, hid (HBk.out.trans HB2.out)⟩
          case measure => simp [intOf]
        · go_wp2_with (at_builtin; refine append_moreI rfl (.tmp 31) (.tmp 32) rfl w.heap.size _ xs HO.out HBk.out.size b lb cb ys rfl rfl (H2.out.below HBk.out) (by omega) (by have := HLX.out; omega) ?_; intro v2 w2 ho2 hb2; have HO2 := hid ho2; have HB2 := hid hb2; clear ho2 hb2)
          go_roundw
          case rel => exact ⟨2, by omega, by go_num, HO2, hid (HBk.out.trans HB2.out)⟩
          case measure => simp [intOf]
        · go_wp2_with fail
          go_ret
          exact ⟨_, rfl, HO.out, HBk.out⟩
end Go.Proofs.YtcdobhdbafpkiafGreatDoor
/-
  Contract: hops of two routes put together (unite).
-/
namespace Go.Proofs.YtcdobhdbafpkiafGreatDoor
open Go.RowKit
set_option maxRecDepth 20000

set_option maxHeartbeats 8000000 in
theorem unite_any (a b : Option Addr) (la ca lb cb : Nat) (xs ys : List Int) (w : World) (h1 : IsInts w a la ca xs) (h2 : IsInts w b lb cb ys) (hx : 0 < la) (hla : la ≤ 12) (hlb : lb ≤ 12) (rx : ∀ x ∈ xs, 0 ≤ x ∧ x ≤ 11) (ry : ∀ y ∈ ys, 0 ≤ y ∧ y ≤ 11) :
    Calls Tryz.prog 105 #[.slice a la ca, .slice b lb cb] w fun e w' => ∃ v, e = .returned v ∧ OwnZ w' w.heap.size v (Pl.unite xs ys) ∧ Below w.heap.size w w' := by
  have HAL : Hid (Below w.heap.size w (w.alloc (.cells #[.slice a la ca, .slice b lb cb] 47))) := hid ((Below.refl _ _).alloc (Nat.le_refl _) _)
  have HCC := hid (ConcatI_any w.heap.size a b la ca lb cb xs ys (w.alloc (.cells #[.slice a la ca, .slice b lb cb] 47)) (by simp) (by simp) (by simp) (h1.below HAL.out) (h2.below HAL.out) hx hla hlb)
  have HNE : Hid (xs ++ ys ≠ []) := hid (by intro e; have := h1.1; rw [(List.append_eq_nil_iff.1 e).1] at this; simp at this; omega)
  have HLN : Hid ((xs ++ ys).length = la + lb) := hid (by rw [List.length_append, h1.1, h2.1])
  have HUS := hid (Pl.unite_sort xs ys rx ry)
  obtain ⟨U, HUU⟩ : ∃ U, Hid (Pl.unite xs ys = U) := ⟨_, hid rfl⟩
  rw [HUU.out] at HUS ⊢
  clear h1 h2
  go_enter Tryz.func105, Tryz.ntmps105
  go_wp2_with fail
  refine HCC.out.mono ?_
  rintro e w1 ⟨v1, rfl, ho1, hb1⟩
  obtain ⟨g, cap, cur, rfl, hbg, hg, hn, hm, hs, ht⟩ := ho1.row HNE.out
  have HG := hid hg
  have HT := hid ht
  have HS := hid hs
  have HM := hid hm
  have hgl := blockLt hg
  have HBG : Hid (w.heap.size ≤ g) := hid (by have := hbg; simp at this; omega)
  have HB1 : Hid (Below w.heap.size w w1) := hid (HAL.out.trans (hb1.mono HAL.out.size))
  have HHO := hid (holdsZ hg ht)
  obtain ⟨zs, HZ⟩ : ∃ zs, Hid (xs ++ ys = zs) := ⟨_, hid rfl⟩
  rw [HZ.out] at HLN HNE HHO HT hn HUS ⊢
  clear ho1 hb1 hg ht hs hm hbg
  go_wp2_with fail
  refine (Tryz.slices_Sort_int g 0 cap zs w1 HHO.out hgl (by have := HLN.out; omega)).mono ?_
  rintro e w2 ⟨rfl, n2, os2, hw2⟩
  have HG2 : Hid (w2.heap[g]? = some (.cells (Go.Sort.putCells (Value.int .i64) 0 (zs.mergeSort fun x y => decide (x ≤ y)).toArray cur) 3 (0, 0))) := hid (by rw [hw2]; exact put_heap HG.out _ _ _)
  have HU2 : Hid (But g w1 w2) := hid (by rw [hw2]; exact put_but _ _ _)
  clear hw2
  have hgl2 : g < w2.heap.size := Nat.lt_of_lt_of_le hgl HU2.out.size
  have HL2 : Hid ((zs.mergeSort fun x y => decide (x ≤ y)).length = zs.length) := hid (by simp)
  have HT2 := hid (put_take (zs.mergeSort fun x y => decide (x ≤ y)).toArray cur (by simp only [List.size_toArray]; rw [HL2.out, HS.out]; exact hn))
  have HS2 := hid ((put_size (zs.mergeSort fun x y => decide (x ≤ y)).toArray cur).trans HS.out)
  obtain ⟨ms, HMS⟩ : ∃ ms, Hid ((zs.mergeSort fun x y => decide (x ≤ y)) = ms) := ⟨_, hid rfl⟩
  rw [HMS.out] at HG2 HL2 HT2 HS2 HUS
  obtain ⟨cur2, HC2⟩ : ∃ c, Hid (Go.Sort.putCells (Value.int .i64) 0 ms.toArray cur = c) := ⟨_, hid rfl⟩
  rw [HC2.out] at HG2 HT2 HS2
  have HT2' : Hid (cur2.toList.take ms.length = cellsZ ms) := hid (by simpa using HT2.out)
  have HH2 := hid (holdsZ HG2.out HT2'.out)
  rw [← HL2.out]
  go_wp2_with fail
  refine (Tryz.slices_Compact_int g 0 cap ms w2 HH2.out (by have := HL2.out; have := HLN.out; omega) (by have := HL2.out; omega)).mono ?_
  rw [HUS.out]
  rintro e w3 ⟨rfl, n3, hw3⟩
  have HUL : Hid (U.length ≤ ms.length) := hid (by have := compact_le ms; rwa [HUS.out] at this)
  have HG3 : Hid (w3.heap[g]? = some (.cells (Go.Sort.putCells (Value.int .i64) 0 (U ++ List.replicate (ms.length - (U).length) 0).toArray cur2) 3 (0, 0))) := hid (by
    rw [hw3]
    have := put_heap HG2.out (U ++ List.replicate (ms.length - (U).length) 0).toArray n3 #[]
    rwa [Go.Sort.grow_empty] at this)
  have HU3 : Hid (But g w2 w3) := hid (by
    rw [hw3]
    have := put_but (w := w2) (g := g) (U ++ List.replicate (ms.length - (U).length) 0).toArray n3 #[]
    rwa [Go.Sort.grow_empty] at this)
  have HT3 := hid (put_take (U ++ List.replicate (ms.length - (U).length) 0).toArray cur2 (by have := HUL.out; have := HL2.out; rw [HS2.out]; simp; omega))
  have HS3 := hid ((put_size (U ++ List.replicate (ms.length - (U).length) 0).toArray cur2).trans HS2.out)
  clear hw3
  go_wp2_with fail
  go_ret
  refine ⟨_, rfl, ownZ_row HBG.out HG3.out (by have := HUL.out; have := HL2.out; omega) HM.out HS3.out ?_, ?_⟩
  · have h := HT3.out
    have hsz : (U ++ List.replicate (ms.length - (U).length) 0).toArray.size = ms.length := by have := HUL.out; simp; omega
    rw [hsz] at h
    have h2 := congrArg (List.take (U).length) h
    rw [List.take_take, Nat.min_eq_left HUL.out] at h2
    rw [h2]
    simp [cellsZ]
  · exact HB1.out.trans ((HU2.out.trans HU3.out).below HBG.out HB1.out.size)
end Go.Proofs.YtcdobhdbafpkiafGreatDoor
/-
  Contract: the best of two routes (best).
-/
namespace Go.Proofs.YtcdobhdbafpkiafGreatDoor
open Go.RowKit
set_option maxRecDepth 20000

theorem Pl.hopsB_le12 {l : List Int} (h : Pl.hopsB l = true) : l.length ≤ 12 := by
  have key : ∀ k, k < l.length → (k : Int) ≤ Pl.nm l k := by
    intro k
    induction k with
    | zero => intro hk; have := Pl.hopsB_at h 0 hk; rw [Pl.hopB_zero] at this; simp at this; exact this.1
    | succ k ih =>
      intro hk
      have h1 := ih (by omega)
      have h2 := Pl.hopsB_at h (k + 1) hk
      rw [Pl.hopB_succ] at h2
      simp at h2
      omega
  rcases Nat.lt_or_ge 12 l.length with g | g
  · have h1 := key 12 g
    have h2 := Pl.hopsB_range h _ (List.getElem_mem g)
    rw [← Pl.nm_eq l 12 g] at h2
    omega
  · exact g
theorem bx5 {w : World} {b : Nat} {c0 c1 c2 c3 c4 : Value} {T : TypeId} (h : w.heap[b]? = some (.cells #[c0, c1, c2, c3, c4] T)) :
    (w.cell? ⟨b, 0, none⟩ = some c0 ∧ w.cell? ⟨b, 1, none⟩ = some c1 ∧ w.cell? ⟨b, 2, none⟩ = some c2 ∧ w.cell? ⟨b, 3, none⟩ = some c3 ∧ w.cell? ⟨b, 4, none⟩ = some c4) ∧ (∀ o, w.frozen? ⟨b, o, none⟩ = false) ∧ b < w.heap.size := by
  refine ⟨⟨?_, ?_, ?_, ?_, ?_⟩, fun o => ?_, blockLt h⟩
  iterate 5 simp [World.cell?, h]
  simp [World.frozen?, h]
theorem three {w : World} (A B C : Obj) : ((((w.alloc A).alloc B).alloc C).heap[w.heap.size]? = some A) ∧ ((((w.alloc A).alloc B).alloc C).heap[w.heap.size + 1]? = some B) ∧ ((((w.alloc A).alloc B).alloc C).heap[w.heap.size + 2]? = some C) ∧ (((w.alloc A).alloc B).alloc C).heap.size = w.heap.size + 3 ∧ Below w.heap.size w (((w.alloc A).alloc B).alloc C) := by
  have e1 : (w.alloc A).heap.size = w.heap.size + 1 := by simp
  have e2 : ((w.alloc A).alloc B).heap.size = w.heap.size + 2 := by simp
  refine ⟨?_, ?_, ?_, by simp, (((Below.refl _ _).alloc (Nat.le_refl _) _).alloc (by simp) _).alloc (by simp; omega) _⟩
  · rw [Below.heap_alloc _ _ _ (by simp; omega), Below.heap_alloc _ _ _ (by simp)]; exact heapNewZ w A
  · rw [Below.heap_alloc _ _ _ (by simp)]
    have := heapNewZ (w.alloc A) B
    rwa [e1] at this
  · have := heapNewZ ((w.alloc A).alloc B) C
    rwa [e2] at this

set_option maxHeartbeats 4000000 in
theorem best_any (base : Nat) (g h : Pl.RH) (r s : Pl.Rt) (w : World) (hg : ReadsZ w base g r) (hh : ReadsZ w base h s) (hb : base ≤ w.heap.size) (hr : Pl.hopsB r.hops = true) (hs : Pl.hopsB s.hops = true) (hne : s.cost = r.cost → r.hops ≠ []) :
    Calls Tryz.prog 66 #[.agg #[.int .i64 g.p.1, .int .i64 g.p.2, .bool g.here, .int .i64 g.cost, .slice g.ha g.hl g.hc], .agg #[.int .i64 h.p.1, .int .i64 h.p.2, .bool h.here, .int .i64 h.cost, .slice h.ha h.hl h.hc]] w fun e w' =>
      ∃ k : Pl.RH, e = .returned (.agg #[.int .i64 k.p.1, .int .i64 k.p.2, .bool k.here, .int .i64 k.cost, .slice k.ha k.hl k.hc]) ∧ ReadsZ w' base k (Pl.bestR r s) ∧ Below w.heap.size w w' := by
  have HG := hid hg
  have HH := hid hh
  have HGC : Hid (g.cost = r.cost) := hid hg.2.2.1
  have HHC : Hid (h.cost = s.cost) := hid hh.2.2.1
  have HGL : Hid (g.hl = r.hops.length) := hid (by
    obtain ⟨a, cap, e, _, _⟩ := hg.2.2.2.1.ints
    simp only [Value.slice.injEq] at e; exact e.2.1)
  have HHL : Hid (h.hl = s.hops.length) := hid (by
    obtain ⟨a, cap, e, _, _⟩ := hh.2.2.2.1.ints
    simp only [Value.slice.injEq] at e; exact e.2.1)
  have HR := hid hr
  have HS := hid hs
  have HNE := hid hne
  clear hg hh hr hs hne
  obtain ⟨⟨p1, p2⟩, gh, gc, ga, gl, gcap⟩ := g
  obtain ⟨⟨q1, q2⟩, hhr, hc, ha, hl, hcap⟩ := h
  simp only at HG HH HGC HHC HGL HHL
  simp only
  have H3 := hid (three (w := w) (.cells #[.int .i64 p1, .int .i64 p2, .bool gh, .int .i64 gc, .slice ga gl gcap] 88) (.cells #[.int .i64 q1, .int .i64 q2, .bool hhr, .int .i64 hc, .slice ha hl hcap] 88) (.cells #[.int .i64 0, .int .i64 0, .bool false, .int .i64 0, .slice none 0 0] 88))
  by_cases hlt : hc < gc
  · have hlt' : decide (hc < gc) = true := by simpa using hlt
    have HBR : Hid (Pl.bestR r s = s) := hid (by unfold Pl.bestR; rw [if_pos (by rw [← HHC.out, ← HGC.out]; exact hlt)])
    clear hlt
    go_enter Tryz.func66, Tryz.ntmps66
    go_wp2_with fail
    have HB3 := hid (three (w := w) (.cells #[.int .i64 p1, .int .i64 p2, .bool gh, .int .i64 gc, .slice ga gl gcap] 88) (.cells #[.int .i64 q1, .int .i64 q2, .bool hhr, .int .i64 hc, .slice ha hl hcap] 88) (.cells #[.int .i64 q1, .int .i64 q2, .bool hhr, .int .i64 hc, .slice ha hl hcap] 88)).2.2.2.2
    refine bodyPost_ret (v := .agg #[.int .i64 q1, .int .i64 q2, .bool hhr, .int .i64 hc, .slice ha hl hcap]) (by simp [results, Tryz.results66, go_sem]) rfl ⟨⟨(q1, q2), hhr, hc, ha, hl, hcap⟩, rfl, ?_, HB3.out⟩
    rw [HBR.out]
    exact HH.out.below HB3.out
  · have hlt' : decide (hc < gc) = false := by simpa using hlt
    by_cases heq : hc = gc
    · have heq' : (hc == gc) = true := by simpa using heq
      have HBR : Hid (Pl.bestR r s = ⟨r.p, r.here, r.cost, Pl.unite r.hops s.hops⟩) := hid (by unfold Pl.bestR; rw [if_neg (by rw [← HHC.out, ← HGC.out]; exact hlt), if_pos (by rw [← HHC.out, ← HGC.out]; exact heq)])
      obtain ⟨U, HU⟩ : ∃ U, Hid (Pl.unite r.hops s.hops = U) := ⟨_, hid rfl⟩
      rw [HU.out] at HBR
      have HL1 := hid (Pl.hopsB_le12 HR.out)
      have HL2 := hid (Pl.hopsB_le12 HS.out)
      have HN : Hid (0 < gl) := hid (by
        rw [HGL.out]
        exact List.length_pos_iff.2 (HNE.out (by rw [← HHC.out, ← HGC.out]; exact heq)))
      have HUA := hid (unite_any ga ha gl gcap hl hcap r.hops s.hops _ ((HG.out.below H3.out.2.2.2.2).reads.1.2.2.2.1) ((HH.out.below H3.out.2.2.2.2).reads.1.2.2.2.1) HN.out (by rw [HGL.out]; exact HL1.out) (by rw [HHL.out]; exact HL2.out) (Pl.hopsB_range HR.out) (Pl.hopsB_range HS.out))
      clear heq hlt
      go_enter Tryz.func66, Tryz.ntmps66
      go_wp2_with fail
      refine HUA.out.mono ?_
      rw [HU.out]
      rintro e w4 ⟨v4, rfl, ho4, hb4⟩
      obtain ⟨b0, b1, b2, bz, bb⟩ := H3.out
      rw [bz] at hb4 ho4
      obtain ⟨⟨x0, x1, x2, x3, x4⟩, xf, xl⟩ := bx5 ((hb4.block w.heap.size (by omega)).trans b0)
      obtain ⟨⟨y0, y1, y2, y3, y4⟩, yf, yl⟩ := bx5 ((hb4.block (w.heap.size + 2) (by omega)).trans b2)
      have HB4 : Hid (Below w.heap.size w w4) := hid (bb.trans (hb4.mono (by omega)))
      obtain ⟨a4, c4, rfl, _, _⟩ := ho4.ints
      have HO4 := hid ho4
      clear ho4 hb4 b0 b1 b2 bz bb HUA
      obtain ⟨n4, HN4⟩ : ∃ n, Hid (U.length = n) := ⟨_, hid rfl⟩
      rw [HN4.out] at HO4 ⊢
      go_wp2_with fail
      refine bodyPost_ret (v := .agg #[.int .i64 p1, .int .i64 p2, .bool gh, .int .i64 gc, .slice a4 n4 c4]) (by simp [results, Tryz.results66, go_sem, y0, y1, y2, y3, y4]) rfl ⟨⟨(p1, p2), gh, gc, a4, n4, c4⟩, rfl, ?_, ?_⟩
      · rw [HBR.out]
        refine ⟨HG.out.1, HG.out.2.1, HG.out.2.2.1, ?_, HG.out.2.2.2.2⟩
        refine OwnZ.mono (base := w.heap.size + 3) ?_ (by omega)
        refine OwnZ.but (B := w.heap.size + 2) (w := w4.setCell ⟨w.heap.size, 4, none⟩ (.slice a4 n4 c4)) (OwnZ.but HO4.out ((But.refl w.heap.size w4).setCell _ _) (.inl (by omega))) ?_ (.inl (by omega))
        exact (((((But.refl _ _).setCell _ _).setCell _ _).setCell _ _).setCell _ _).setCell _ _
      · have hle : w.heap.size ≤ w.heap.size + 1 + 1 := by omega
        exact ((((((HB4.out.setCell (Nat.le_refl _) _).setCell hle _).setCell hle _).setCell hle _).setCell hle _).setCell hle _)
    · have heq' : (hc == gc) = false := by simpa using heq
      have HBR : Hid (Pl.bestR r s = r) := hid (by unfold Pl.bestR; rw [if_neg (by rw [← HHC.out, ← HGC.out]; exact hlt), if_neg (by rw [← HHC.out, ← HGC.out]; exact heq)])
      clear heq hlt
      go_enter Tryz.func66, Tryz.ntmps66
      go_wp2_with fail
      have HB3 := hid (three (w := w) (.cells #[.int .i64 p1, .int .i64 p2, .bool gh, .int .i64 gc, .slice ga gl gcap] 88) (.cells #[.int .i64 q1, .int .i64 q2, .bool hhr, .int .i64 hc, .slice ha hl hcap] 88) (.cells #[.int .i64 p1, .int .i64 p2, .bool gh, .int .i64 gc, .slice ga gl gcap] 88)).2.2.2.2
      refine bodyPost_ret (v := .agg #[.int .i64 p1, .int .i64 p2, .bool gh, .int .i64 gc, .slice ga gl gcap]) (by simp [results, Tryz.results66, go_sem]) rfl ⟨⟨(p1, p2), gh, gc, ga, gl, gcap⟩, rfl, ?_, HB3.out⟩
      rw [HBR.out]
      exact HG.out.below HB3.out
end Go.Proofs.YtcdobhdbafpkiafGreatDoor
/-
  Contracts: what areHops and isRoute answer at every list of numbers and every route.
-/
namespace Go.Proofs.YtcdobhdbafpkiafGreatDoor
open Go.RowKit
set_option maxRecDepth 20000

set_option maxHeartbeats 1000000 in
theorem areHops_any (a : Option Addr) (len cap : Nat) (zs : List Int) (w : World) (h : IsInts w a len cap zs) :
    Calls Tryz.prog 109 #[.slice a len cap] w fun e w' => e = .returned (.bool (Pl.hopsB zs)) ∧ w' = w := by
  have HH := hid h
  have hl := h.1
  have hc := h.2.1
  have hm := h.2.2.1
  unfold maxLen at hm
  clear h
  go_enter Tryz.func109, Tryz.ntmps109
  go_wp2
  go_loop [7] (fun i => ∃ k : Nat, k ≤ len ∧ i = .int .i64 k ∧ Hid (∀ j, j < k → Pl.hopB zs j = true)) (fun i => len - (intOf i).toNat)
  case atStart => exact ⟨0, Nat.zero_le _, rfl, hid (by intro j hj; omega)⟩
  case round =>
    obtain ⟨k, hk, rfl, HK⟩ := hrel
    by_cases hlt : k < len
    · obtain ⟨b, off, rfl, hb, hr⟩ := HH.out.at hlt
      have c0 := hr k (by omega)
      obtain ⟨z, HZ⟩ : ∃ z, Hid (Pl.nm zs k = z) := ⟨_, rfl⟩
      rw [HZ.out] at c0
      obtain ⟨ob, HO⟩ : ∃ c, Hid (decide (0 ≤ z ∧ z ≤ 11) = c) := ⟨_, rfl⟩
      have HN : Hid (∀ W, Calls Tryz.prog 57 #[.int .i64 z] W fun e w' => e = .returned (.bool ob) ∧ w' = W) := by
        refine hid fun W => ?_
        have := isNode_any z W
        rwa [HO.out] at this
      have HF : Hid (Pl.hopB zs k = false → Pl.hopsB zs = false) := hid fun hh => Pl.hopsB_false (by omega) hh
      cases ob
      · have HB : Hid (Pl.hopB zs k = false) := hid (by unfold Pl.hopB; rw [HZ.out, HO.out]; rfl)
        go_wp2_with (go_at_call 57; refine (HN.out _).mono ?_; rintro e w' ⟨rfl, rfl⟩)
        go_ret
        exact ⟨ret_bool (HF.out HB.out).symm, rfl⟩
      · rcases Nat.eq_zero_or_pos k with hk0 | hk0
        · have hd : decide (0 < k) = false := by simp; omega
          have HB : Hid (Pl.hopB zs k = true) := hid (by rw [hk0, Pl.hopB_zero, ← hk0, HZ.out, HO.out])
          have HK0 := hid hk0
          clear hk0
          go_wp2_with (go_at_call 57; refine (HN.out _).mono ?_; rintro e w' ⟨rfl, rfl⟩)
          go_round
          case rel => exact ⟨k + 1, by omega, by go_num, hid fun j hj => by have := HK0.out; obtain rfl : j = k := (by omega); exact HB.out⟩
          case measure => simp [intOf]; omega
        · obtain ⟨m, rfl⟩ : ∃ m, k = m + 1 := ⟨k - 1, by omega⟩
          have c1 := hr m (by omega)
          obtain ⟨y, HY⟩ : ∃ z, Hid (Pl.nm zs m = z) := ⟨_, rfl⟩
          rw [HY.out] at c1
          have HBE : Hid (Pl.hopB zs (m + 1) = decide (y < z)) := hid (by rw [Pl.hopB_succ, HZ.out, HY.out, HO.out]; rfl)
          by_cases hle : z ≤ y
          · have HB : Hid (Pl.hopB zs (m + 1) = false) := hid (by rw [HBE.out]; simp; omega)
            go_wp2_with (go_at_call 57; refine (HN.out _).mono ?_; rintro e w' ⟨rfl, rfl⟩)
            go_ret
            exact ⟨ret_bool (HF.out HB.out).symm, rfl⟩
          · have HB : Hid (Pl.hopB zs (m + 1) = true) := hid (by rw [HBE.out]; simp; omega)
            go_wp2_with (go_at_call 57; refine (HN.out _).mono ?_; rintro e w' ⟨rfl, rfl⟩)
            go_round
            case rel => exact ⟨m + 1 + 1, by omega, by go_num, hid fun j hj => by rcases Nat.lt_or_ge j (m + 1) with q | q; exact HK.out j q; obtain rfl : j = m + 1 := (by omega); exact HB.out⟩
            case measure => simp [intOf]; omega
    · obtain rfl : k = len := by omega
      have HB : Hid (Pl.hopsB zs = true) := hid (Pl.hopsB_true (by rw [hl]; exact HK.out))
      go_wp2
      go_ret
      exact ⟨ret_bool HB.out.symm, rfl⟩

/-- one prefix as a list -/
theorem Pl.pfxF_one (p : Int × Int) : Pl.pfxF [p] = Pl.pfx1 p := by
  unfold Pl.pfxF Pl.pfxN Pl.pfxN
  by_cases h : Pl.pfx1 p = 0 <;> simp [Pl.pr, h]
theorem onePair (w : World) (n : Nat) (p1 p2 : Int) (T : TypeId) (h : Pl.pairOk (p1, p2)) (hn : w.heap.size = n) : IsPairs (w.alloc (.cells #[.int .i64 p1, .int .i64 p2] T)) (some ⟨n, 0, none⟩) 1 1 [(p1, p2)] := by
  subst hn
  refine ⟨rfl, Nat.le_refl _, by unfold maxLen; omega, by simpa using h, .inr ⟨w.heap.size, 0, rfl, by simp, ?_⟩⟩
  intro i hi
  simp at hi
  subst hi
  simp [Pl.pr]
theorem Pl.routeB_pfx {r : Pl.Rt} (h : ¬ Pl.pfx1 r.p = 0) : Pl.routeB r = false := by unfold Pl.routeB; rw [decide_eq_false h]; rfl
theorem Pl.routeB_here {r : Pl.Rt} (h : Pl.pfx1 r.p = 0) (k : r.here = true) : Pl.routeB r = (decide (r.cost = 0) && decide (r.hops.length = 0)) := by
  unfold Pl.routeB
  rw [decide_eq_true h, k, Bool.eq_iff_iff]
  simp only [Bool.true_and, if_true, Bool.and_eq_true, decide_eq_true_eq, List.length_eq_zero_iff]
  constructor
  · rintro ⟨⟨_, h1, h2⟩, _⟩; exact ⟨h1, h2⟩
  · rintro ⟨h1, h2⟩; rw [h1, h2]; exact ⟨⟨by omega, rfl, rfl⟩, rfl⟩
theorem Pl.routeB_there {r : Pl.Rt} (h : Pl.pfx1 r.p = 0) (k : r.here = false) : Pl.routeB r = (decide (0 ≤ r.cost) && decide (r.cost ≤ 1048576) && decide (0 < r.hops.length) && Pl.hopsB r.hops) := by
  unfold Pl.routeB
  rw [decide_eq_true h, k, Bool.eq_iff_iff]
  simp [List.length_pos_iff]

/-- a route as a value -/
def Pl.RH.val (h : Pl.RH) : Value := .agg #[.int .i64 h.p.1, .int .i64 h.p.2, .bool h.here, .int .i64 h.cost, .slice h.ha h.hl h.hc]

set_option maxHeartbeats 2000000 in
theorem isRoute_any (h : Pl.RH) (r : Pl.Rt) (w : World) (hr : Reads w h r) :
    Calls Tryz.prog 71 #[.agg #[.int .i64 h.p.1, .int .i64 h.p.2, .bool h.here, .int .i64 h.cost, .slice h.ha h.hl h.hc]] w fun e w' => e = .returned (.bool (Pl.routeB r)) ∧ Below w.heap.size w w' := by
  obtain ⟨h1, h2, h3, h4, h5⟩ := hr
  obtain ⟨⟨p1, p2⟩, here, cost, ha, hl, hc⟩ := h
  simp only at h1 h2 h3 h4
  simp only
  obtain ⟨R, HR⟩ : ∃ R, Hid (Pl.routeB r = R) := ⟨_, rfl⟩
  rw [HR.out]
  have HP : Hid (Pl.pairOk (p1, p2)) := hid (by rw [h1]; exact h5)
  obtain ⟨c, HC⟩ : ∃ c, Hid (Pl.pfxF [(p1, p2)] = c) := ⟨_, rfl⟩
  have HC1 : Hid (Pl.pfx1 r.p = c) := hid (by rw [← HC.out, Pl.pfxF_one, h1])
  have HI := hid h4
  have HL : Hid (r.hops.length = hl) := hid h4.1
  have hlc := h4.2.1
  have hcm := h4.2.2.1
  unfold maxLen at hcm
  by_cases hc0 : c = 0
  · subst hc0
    have hpf := HC1.out
    cases here
    · have HRB : Hid (R = (decide (0 ≤ cost) && decide (cost ≤ 1048576) && decide (0 < hl) && Pl.hopsB r.hops)) := hid (by rw [← HR.out, Pl.routeB_there hpf h2.symm, h3, HL.out])
      obtain ⟨hb, HHB⟩ : ∃ c, Hid (Pl.hopsB r.hops = c) := ⟨_, rfl⟩
      rw [HHB.out] at HRB
      clear hpf h1 h2 h3 h4 h5
      by_cases g1 : 0 ≤ cost
      all_goals by_cases g2 : cost ≤ 1048576
      all_goals by_cases g3 : 0 < hl
      all_goals first | (exfalso; omega) | skip
      all_goals
        go_enter Tryz.func71, Tryz.ntmps71
        go_wp2_with fail
        refine (CheckPrefixes_any _ _ _ [(p1, p2)] _ (onePair _ _ p1 p2 _ HP.out (by simp))).mono ?_
        rw [HC.out]
        rintro e w1 ⟨rfl, hb1⟩
        have x2 : w1.cell? ⟨w.heap.size, 2, none⟩ = some (.bool false) := (hb1.cell (by simp; omega)).trans (by simp)
        have x3 : w1.cell? ⟨w.heap.size, 3, none⟩ = some (.int .i64 cost) := (hb1.cell (by simp; omega)).trans (by simp)
        have x4 : w1.cell? ⟨w.heap.size, 4, none⟩ = some (.slice ha hl hc) := (hb1.cell (by simp; omega)).trans (by simp)
        have hbw : Below w.heap.size w w1 := (((Below.refl _ _).alloc (Nat.le_refl _) _).alloc (by simp) _).trans (hb1.mono (by simp; omega))
        have HHO : Hid (Calls Tryz.prog 109 #[.slice ha hl hc] w1 fun e w' => e = .returned (.bool hb) ∧ w' = w1) := by
          refine hid ?_
          have := areHops_any ha hl hc r.hops w1 (HI.out.below hbw)
          rwa [HHB.out] at this
        clear hb1
        go_wp2_with (go_at_call 109; refine HHO.out.mono ?_; rintro e w' ⟨rfl, rfl⟩)
        go_ret
        exact ⟨ret_bool (by rw [HRB.out]; simp [g1, g2, g3] <;> (intros; omega)), hbw⟩
    · have HRB : Hid (R = (decide (cost = 0) && decide (hl = 0))) := hid (by rw [← HR.out, Pl.routeB_here hpf h2.symm, h3, HL.out])
      clear hpf h1 h2 h3 h4 h5
      obtain ⟨e1, g1⟩ : ∃ c, (cost == 0) = c := ⟨_, rfl⟩
      obtain ⟨e3, g3⟩ : ∃ c, ((hl : Int) == 0) = c := ⟨_, rfl⟩
      have HRC : Hid (R = (e1 && e3)) := hid (by rw [HRB.out, ← g1, ← g3, Bool.eq_iff_iff]; simp)
      cases e1
      all_goals cases e3
      all_goals
        go_enter Tryz.func71, Tryz.ntmps71
        go_wp2_with fail
        refine (CheckPrefixes_any _ _ _ [(p1, p2)] _ (onePair _ _ p1 p2 _ HP.out (by simp))).mono ?_
        rw [HC.out]
        rintro e w1 ⟨rfl, hb1⟩
        have x2 : w1.cell? ⟨w.heap.size, 2, none⟩ = some (.bool true) := (hb1.cell (by simp; omega)).trans (by simp)
        have x3 : w1.cell? ⟨w.heap.size, 3, none⟩ = some (.int .i64 cost) := (hb1.cell (by simp; omega)).trans (by simp)
        have x4 : w1.cell? ⟨w.heap.size, 4, none⟩ = some (.slice ha hl hc) := (hb1.cell (by simp; omega)).trans (by simp)
        have hbw : Below w.heap.size w w1 := (((Below.refl _ _).alloc (Nat.le_refl _) _).alloc (by simp) _).trans (hb1.mono (by simp; omega))
        clear hb1
        go_wp2_with fail
        go_ret
        exact ⟨ret_bool (by rw [HRC.out]; rfl), hbw⟩
  · have HRB : Hid (R = false) := hid (by rw [← HR.out]; exact Pl.routeB_pfx (by rw [HC1.out]; exact hc0))
    have hd0 : (c != 0) = true := by simpa using hc0
    clear hc0 h1 h2 h3 h4 h5
    go_enter Tryz.func71, Tryz.ntmps71
    go_wp2_with fail
    refine (CheckPrefixes_any _ _ _ [(p1, p2)] _ (onePair _ _ p1 p2 _ HP.out (by simp))).mono ?_
    rw [HC.out]
    rintro e w1 ⟨rfl, hb1⟩
    have hbw : Below w.heap.size w w1 := (((Below.refl _ _).alloc (Nat.le_refl _) _).alloc (by simp) _).trans (hb1.mono (by simp; omega))
    clear hb1
    go_wp2_with fail
    go_ret
    exact ⟨ret_bool HRB.out.symm, hbw⟩
end Go.Proofs.YtcdobhdbafpkiafGreatDoor
/-
  Contract: what rib.Check answers at every list of routes.
-/
namespace Go.Proofs.YtcdobhdbafpkiafGreatDoor
open Go.RowKit
set_option maxRecDepth 20000

theorem box5 {w w3 : World} {c0 c1 c2 c3 c4 : Value} {T : TypeId} (hb : Below (w.heap.size + 1) (w.alloc (.cells #[c0, c1, c2, c3, c4] T)) w3) :
    (w3.cell? ⟨w.heap.size, 0, none⟩ = some c0 ∧ w3.cell? ⟨w.heap.size, 1, none⟩ = some c1 ∧ w3.cell? ⟨w.heap.size, 2, none⟩ = some c2 ∧ w3.cell? ⟨w.heap.size, 3, none⟩ = some c3 ∧ w3.cell? ⟨w.heap.size, 4, none⟩ = some c4) ∧ w.heap.size < w3.heap.size ∧ Below w.heap.size w w3 := by
  have hz := hb.size
  simp only [World.alloc, Array.size_push] at hz
  refine ⟨⟨?_, ?_, ?_, ?_, ?_⟩, by omega, ((Below.refl _ _).alloc (Nat.le_refl _) _).trans (hb.mono (by omega))⟩
  all_goals
    rw [hb.cell (by simp)]
    simp

set_option maxHeartbeats 2000000 in
theorem Check_rib (a : Option Addr) (len cap : Nat) (hs : List Pl.RH) (rs : List Pl.Rt) (w : World) (h : IsRows w a len cap hs) (hrd : ReadsAll w hs rs) :
    Calls Tryz.prog 38 #[.slice a len cap] w fun e w' => e = .returned (.int .i64 (Pl.tabF rs)) ∧ Below w.heap.size w w' := by
  have HH := hid h
  have HD := hid hrd
  have hlr : rs.length = len := by rw [← hrd.1]; exact h.1
  have hlh : hs.length = len := h.1
  have hc := h.2.1
  have hm := h.2.2.1
  unfold maxLen at hm
  clear h hrd
  obtain ⟨R, HR⟩ : ∃ R, Hid (Pl.tabF rs = R) := ⟨_, rfl⟩
  rw [HR.out]
  have HLR := hid hlr
  have HLH := hid hlh
  clear hlr hlh
  by_cases h200 : 200 < len
  · have HS : Hid (R = 1) := hid (by rw [← HR.out]; exact Pl.tabF_size (by rw [HLR.out]; exact h200))
    go_enter Tryz.func38, Tryz.ntmps38
    go_wp2
    go_ret
    exact ⟨ret_int HS.out.symm, Below.refl _ _⟩
  go_enter Tryz.func38, Tryz.ntmps38
  go_wp2
  go_loopw [10] (fun i wr => ∃ k : Nat, k ≤ len ∧ i = .int .i64 k ∧ Hid (R = Pl.tabN rs (len - k) k) ∧ Hid (Below w.heap.size w wr)) (fun i _ => len - (intOf i).toNat)
  case atStart => exact ⟨0, Nat.zero_le _, rfl, hid (by rw [← HR.out, Pl.tabF_from (by rw [HLR.out]; omega), HLR.out]; rfl), hid (Below.refl _ _)⟩
  case round =>
    obtain ⟨k, hk, rfl, HF, HB⟩ := hrel
    by_cases hlt : k < len
    · obtain ⟨b, off, rfl, hbw, hr⟩ := HH.out.at hlt
      have hb := HB.out
      have hr' := hr.below hbw hb
      have hz := hb.size
      have hbr : b < wr.heap.size := by omega
      obtain ⟨c0, c1, c2, c3, c4⟩ := hr' k (by rw [HLH.out]; exact hlt)
      have HRD := hid ((HD.out.2 k (by rw [HLH.out]; exact hlt)).below hb)
      obtain ⟨n, hn⟩ : ∃ n, len - k = n + 1 := ⟨len - k - 1, by omega⟩
      have HN := hid hn
      clear hn
      obtain ⟨mm, HM⟩ : ∃ mm, Hid (Pl.routeB (Pl.rt rs k) = mm) := ⟨_, rfl⟩
      obtain ⟨hh, HE⟩ : ∃ x, Hid (Pl.rh hs k = x) := ⟨_, rfl⟩
      rw [HE.out] at c0 c1 c2 c3 c4
      have HRE := hid HRD.out
      rw [HE.out] at HRE
      have hpk : Hid (hh.p = (Pl.rt rs k).p) := hid HRE.out.1
      obtain ⟨⟨p1, p2⟩, here, cost, ha, hl, hcc⟩ := hh
      simp only at c0 c1 c2 c3 c4
      have HIS : Hid (∀ W, Below wr.heap.size wr W → Calls Tryz.prog 71 #[.agg #[.int .i64 p1, .int .i64 p2, .bool here, .int .i64 cost, .slice ha hl hcc]] W fun e w' => e = .returned (.bool mm) ∧ Below W.heap.size W w') := by
        refine hid fun W hW => ?_
        have := isRoute_any ⟨(p1, p2), here, cost, ha, hl, hcc⟩ (Pl.rt rs k) W (HRE.out.below hW)
        rwa [HM.out] at this
      clear HRD HRE hr
      cases mm
      · go_wp2_with fail
        refine (HIS.out _ ((Below.refl _ _).alloc (Nat.le_refl _) _)).mono ?_
        rintro e w1 ⟨rfl, hb1⟩
        go_wp2_with fail
        go_ret
        exact ⟨ret_int (by rw [HF.out, HN.out, Pl.tabN_form HM.out]), (hb.alloc hz _).trans (hb1.mono (by simp; omega))⟩
      · rcases Nat.eq_zero_or_pos k with hk0 | hk0
        · have hd : decide (0 < k) = false := by simp; omega
          have HLW : Hid (Pl.lowR rs k = false) := hid (by rw [hk0]; exact Pl.lowR_zero rs)
          clear hk0
          go_wp2_with fail
          refine (HIS.out _ ((Below.refl _ _).alloc (Nat.le_refl _) _)).mono ?_
          rintro e w1 ⟨rfl, hb1⟩
          go_wp2_with fail
          go_quiet (fail)
          go_wp2_with fail
          go_roundw
          case rel => exact ⟨k + 1, by omega, by go_num, hid (by rw [HF.out, HN.out, Pl.tabN_on HM.out HLW.out]; congr 1; have := HN.out; omega), hid (below_drew ((hb.alloc hz _).trans (hb1.mono (by simp; omega))) _)⟩
          case measure => simp [intOf]; omega
        · obtain ⟨m, rfl⟩ : ∃ m, k = m + 1 := ⟨k - 1, by omega⟩
          obtain ⟨d0, d1, _, _, _⟩ := hr' m (by rw [HLH.out]; omega)
          obtain ⟨gg, HG⟩ : ∃ x, Hid ((Pl.rh hs m).p = x) := ⟨_, rfl⟩
          rw [HG.out] at d0 d1
          have hpm : Hid (gg = (Pl.rt rs m).p) := hid (by rw [← HG.out]; exact (HD.out.2 m (by rw [HLH.out]; omega)).1)
          obtain ⟨q1, q2⟩ := gg
          simp only at d0 d1
          obtain ⟨cq, HCQ⟩ : ∃ c, Hid (Pl.pfxC (q1, q2) (p1, p2) = c) := ⟨_, rfl⟩
          have HLW : Hid (Pl.lowR rs (m + 1) = decide (0 ≤ cq)) := by
            refine hid ?_
            rw [← HCQ.out, Pl.pfxC_ge, Pl.lowR_succ, ← hpm.out, ← hpk.out]
          have HCP : Hid (∀ W, Calls Tryz.prog 72 #[.agg #[.int .i64 q1, .int .i64 q2], .agg #[.int .i64 p1, .int .i64 p2]] W fun e w' => e = .returned (.int .i64 cq) ∧ Below W.heap.size W w') := by
            refine hid fun W => ?_
            have := comparePrefixes_any (q1, q2) (p1, p2) W
            rwa [HCQ.out] at this
          clear hr'
          by_cases hle : 0 ≤ cq
          all_goals
            go_wp2_with fail
            refine (HIS.out _ ((Below.refl _ _).alloc (Nat.le_refl _) _)).mono ?_
            rintro e w1 ⟨rfl, hb1⟩
            obtain ⟨⟨x0, x1, _, _, _⟩, xs, hbb⟩ := box5 (by simpa using hb1)
            have d0' := (hbb.cell (p := ⟨b, off + m * 5, none⟩) hbr).trans d0
            have d1' := (hbb.cell (p := ⟨b, off + m * 5 + 1, none⟩) hbr).trans d1
            clear hb1
            have hbw1 : b < w1.heap.size := by omega
            go_wp2_with fail
            have i0 := in_cell xs x0
            have i1 := in_cell xs x1
            have i2 := in_cell hbw1 d0'
            have i3 := in_cell hbw1 d1'
            have hne := in_some w1
            refine wp_region_in (by kernel_rfl) (by kernel_rfl) ?_
            repeat (go_big_quiet_step ((go_at_call 72; exact in_call (HCP.out _))))
            refine wpQuiet_nil ?_
            intro w5 hw'
            have hb5 := in_out hw'
            clear hw' i0 i1 i2 i3 hne x0 x1 d0' d1'
            go_wp2_with fail
          · go_ret
            exact ⟨ret_int (by rw [HF.out, HN.out, Pl.tabN_low HM.out (by rw [HLW.out]; simpa using hle)]), hb.trans ((hbb.mono hz).trans (hb5.mono (Nat.le_trans hz hbb.size)))⟩
          · go_roundw
            case rel => exact ⟨m + 1 + 1, by omega, by go_num, hid (by rw [HF.out, HN.out, Pl.tabN_on HM.out (by rw [HLW.out]; simpa using hle)]; congr 1; have := HN.out; omega), hid (hb.trans ((hbb.mono hz).trans (hb5.mono (Nat.le_trans hz hbb.size))))⟩
            case measure => simp [intOf]; omega
    · obtain rfl : k = len := by omega
      go_wp2
      go_ret
      exact ⟨ret_int (by rw [HF.out]; simp [Pl.tabN]), HB.out⟩
end Go.Proofs.YtcdobhdbafpkiafGreatDoor
/-
  Contracts: the place of a prefix in a table in order: the closure, the search, find.
-/
namespace Go.Proofs.YtcdobhdbafpkiafGreatDoor
open Go.RowKit
set_option maxRecDepth 20000

/-- prefixes of routes in memory -/
def Pl.hp (hs : List Pl.RH) : List (Int × Int) := hs.map Pl.RH.p
theorem Pl.pr_hp (hs : List Pl.RH) (i : Nat) (h : i < hs.length) : Pl.pr (Pl.hp hs) i = (Pl.rh hs i).p := by
  unfold Pl.hp
  rw [Pl.pr_eq _ _ (by simpa using h), Pl.rh_eq hs i h]; simp
theorem Pl.hp_len (hs : List Pl.RH) : (Pl.hp hs).length = hs.length := by simp [Pl.hp]
theorem RowsAt.drewN {w : World} {b off : Nat} {hs : List Pl.RH} (h : RowsAt w b off hs) (n : Nat) : RowsAt (w.drewN n) b off hs := fun i hi => h i hi

set_option maxHeartbeats 400000 in
theorem cloR_any (hs : List Pl.RH) (p1 p2 : Int) (b off len cap bl bk i : Nat) (w : World) (hl : hs.length = len) (_hc : len ≤ cap) (_hm : cap ≤ maxLen) (hbw : b < w.heap.size) (hblw : bl < w.heap.size) (hbkw : bk < w.heap.size)
    (hrow : RowsAt w b off hs) (h1 : w.cell? ⟨bl, 0, none⟩ = some (.slice (some ⟨b, off, none⟩) len cap)) (h2 : w.cell? ⟨bk, 0, none⟩ = some (.int .i64 p1)) (h3 : w.cell? ⟨bk, 1, none⟩ = some (.int .i64 p2)) (hi : i < len) :
    Calls Tryz.prog 74 #[.int .i64 i, .pointer (some ⟨bl, 0, none⟩), .pointer (some ⟨bk, 0, none⟩)] w fun e w' => e = .returned (.bool (!Pl.pltB (Pl.pr (Pl.hp hs) i) (p1, p2))) ∧ Below w.heap.size w w' := by
  unfold maxLen at _hm
  obtain ⟨c0, c1, _, _, _⟩ := hrow i (by omega)
  rw [Pl.pr_hp hs i (by omega)]
  obtain ⟨gg, HG⟩ : ∃ x, Hid ((Pl.rh hs i).p = x) := ⟨_, rfl⟩
  rw [HG.out] at c0 c1 ⊢
  obtain ⟨q1, q2⟩ := gg
  simp only at c0 c1
  have hi' : (i : Int) < (len : Int) := by omega
  obtain ⟨cq, HCQ⟩ : ∃ c, Hid (Pl.pfxC (q1, q2) (p1, p2) = c) := ⟨_, rfl⟩
  have HLW : Hid ((!Pl.pltB (q1, q2) (p1, p2)) = decide (0 ≤ cq)) := hid (by rw [← HCQ.out, Pl.pfxC_ge])
  have HCP : Hid (∀ W, Calls Tryz.prog 72 #[.agg #[.int .i64 q1, .int .i64 q2], .agg #[.int .i64 p1, .int .i64 p2]] W fun e w' => e = .returned (.int .i64 cq) ∧ Below W.heap.size W w') := by
    refine hid fun W => ?_
    have := comparePrefixes_any (q1, q2) (p1, p2) W
    rwa [HCQ.out] at this
  rw [HLW.out]
  clear hrow
  go_enter Tryz.func74, Tryz.ntmps74
  go_wp2_with fail
  have i0 := in_cell hblw h1
  have i1 := in_cell hbkw h2
  have i2 := in_cell hbkw h3
  have i3 := in_cell hbw c0
  have i4 := in_cell hbw c1
  have hne := in_some w
  refine wp_region_in (by kernel_rfl) (by kernel_rfl) ?_
  repeat (go_big_quiet_step ((go_at_call 72; exact in_call (HCP.out _))))
  refine wpQuiet_nil ?_
  intro w5 hw'
  have hb5 := in_out hw'
  clear hw' i0 i1 i2 i3 i4 hne
  go_wp2_with fail
  go_ret
  exact ⟨rfl, hb5⟩

set_option maxHeartbeats 400000 in
theorem SearchR_any (hs : List Pl.RH) (p1 p2 : Int) (a : Option Addr) (len cap bl bk : Nat) (w : World) (hl : hs.length = len) (hc : len ≤ cap) (hm : cap ≤ maxLen) (hblw : bl < w.heap.size) (hbkw : bk < w.heap.size)
    (hrow : hs = [] ∨ ∃ b off, a = some ⟨b, off, none⟩ ∧ b < w.heap.size ∧ RowsAt w b off hs) (h1 : w.cell? ⟨bl, 0, none⟩ = some (.slice a len cap)) (h2 : w.cell? ⟨bk, 0, none⟩ = some (.int .i64 p1)) (h3 : w.cell? ⟨bk, 1, none⟩ = some (.int .i64 p2)) (has : Pl.AscP (Pl.hp hs)) (hbig : len ≤ 2000000) :
    Calls Tryz.prog 73 #[.int .i64 len, .func (.func 74) #[] #[.pointer (some ⟨bl, 0, none⟩), .pointer (some ⟨bk, 0, none⟩)]] w fun e w' => e = .returned (.int .i64 (Pl.posP (Pl.hp hs) (p1, p2))) ∧ Below w.heap.size w w' := by
  have HM := hid hm
  unfold maxLen at hm
  have HR := hid hrow
  have H1 := hid h1
  have H2 := hid h2
  have H3 := hid h3
  have HA := hid has
  have HLP : Hid ((Pl.hp hs).length = len) := hid (by rw [Pl.hp_len, hl])
  clear hrow h1 h2 h3 has
  go_enter Tryz.func73, Tryz.ntmps73
  go_wp2
  go_loopw [5, 6] (fun i j wr => ∃ x y : Nat, x ≤ y ∧ y ≤ len ∧ i = .int .i64 x ∧ j = .int .i64 y ∧ Hid (Below w.heap.size w wr) ∧ Hid (∀ t, t < x → Pl.pltB (Pl.pr (Pl.hp hs) t) (p1, p2) = true) ∧ Hid (∀ t, y ≤ t → t < len → Pl.pltB (Pl.pr (Pl.hp hs) t) (p1, p2) = false)) (fun i j _ => (intOf j).toNat - (intOf i).toNat)
  case atStart => exact ⟨0, len, Nat.zero_le _, Nat.le_refl _, rfl, rfl, Below.refl _ _, fun t h => by omega, fun t h h' => by omega⟩
  case round =>
    obtain ⟨x, y, hxy, hy, rfl, rfl, HW, HX, HY⟩ := hrel
    by_cases hlt : x < y
    · obtain ⟨b, off, rfl, hbw, hrow⟩ : ∃ b off, a = some ⟨b, off, none⟩ ∧ b < w.heap.size ∧ RowsAt w b off hs := by
        rcases HR.out with h | h
        · rw [h] at hl; simp at hl; omega
        · exact h
      have hz := HW.out.size
      have hr : RowsAt wr b off hs := hrow.below hbw HW.out
      have h1 := (HW.out.cell (p := ⟨bl, 0, none⟩) hblw).trans H1.out
      have h2 := (HW.out.cell (p := ⟨bk, 0, none⟩) hbkw).trans H2.out
      have h3 := (HW.out.cell (p := ⟨bk, 1, none⟩) hbkw).trans H3.out
      have HC := hid fun m => cloR_any hs p1 p2 b off len cap bl bk m wr hl hc HM.out (by omega) (by omega) (by omega) hr h1 h2 h3
      clear hr h1 h2 h3 hrow
      go_wp2_with fail
      obtain ⟨m, hm2, hxm, hmy⟩ : ∃ m : Nat, ((x : Int) + (y : Int)) / 2 = (m : Int) ∧ x ≤ m ∧ m < y := ⟨(x + y) / 2, by omega, by omega, by omega⟩
      rw [hm2]
      clear hm2
      refine (HC.out m (by omega)).mono ?_
      rintro e w' ⟨rfl, hbq⟩
      have HQ := hid (HW.out.trans (hbq.mono hz))
      clear hbq
      obtain ⟨ll, HL⟩ : ∃ ll, Hid (Pl.pltB (Pl.pr (Pl.hp hs) m) (p1, p2) = ll) := ⟨_, rfl⟩
      rw [HL.out]
      cases ll
      · go_wp2
        go_roundw
        case rel => exact ⟨x, m, by omega, by omega, rfl, rfl, HQ, HX, fun t h h' => Pl.ascP_ge HA.out (by rw [HLP.out]; omega) h HL.out⟩
        case measure => simp [intOf]; omega
      · go_wp2
        go_roundw
        case rel => exact ⟨m + 1, y, by omega, by omega, by go_num, rfl, HQ, fun t h => Pl.ascP_lt HA.out (by rw [HLP.out]; omega) (by omega) HL.out, HY⟩
        case measure => simp [intOf]; omega
    · obtain rfl : x = y := by omega
      go_wp2
      go_ret
      exact ⟨ret_int (by rw [Pl.posP_of (by rw [HLP.out]; omega) HX.out (fun h => HY.out x (Nat.le_refl _) (by rw [HLP.out] at h; exact h))]), HW.out⟩

theorem new1 (w : World) (v : Value) (T : TypeId) (o : Obj) : ((w.alloc (.cells #[v] T)).alloc o).cell? ⟨w.heap.size, 0, none⟩ = some v := by simp
theorem new2 (w : World) (v0 v1 : Value) (T : TypeId) (o : Obj) : ((w.alloc o).alloc (.cells #[v0, v1] T)).cell? ⟨w.heap.size + 1, 0, none⟩ = some v0 ∧ ((w.alloc o).alloc (.cells #[v0, v1] T)).cell? ⟨w.heap.size + 1, 1, none⟩ = some v1 := by
  have h := World.size_alloc w o
  rw [← h]
  simp

set_option maxHeartbeats 400000 in
theorem find_rib (a : Option Addr) (len cap : Nat) (hs : List Pl.RH) (p1 p2 : Int) (w : World) (h : IsRows w a len cap hs) (has : Pl.AscP (Pl.hp hs)) (hbig : len ≤ 2000000) :
    Calls Tryz.prog 39 #[.slice a len cap, .agg #[.int .i64 p1, .int .i64 p2]] w fun e w' => e = .returned (.tuple #[.int .i64 (Pl.posP (Pl.hp hs) (p1, p2)), .bool (Pl.thereP (Pl.hp hs) (p1, p2))]) ∧ Below w.heap.size w w' := by
  obtain ⟨hl, hc, hm, _, hrow⟩ := h
  have hmf : ∀ (fn : Fn) (first cap : Array Value) (w : World), (Instr.makeFunc fn first cap).run Tryz.prog w = .ok (.func fn first cap) w := fun _ _ _ _ => rfl
  have HLP : Hid ((Pl.hp hs).length = len) := hid (by rw [Pl.hp_len, hl])
  have HB : Hid (Below w.heap.size w ((w.alloc (.cells #[.slice a len cap] 24)).alloc (.cells #[.int .i64 p1, .int .i64 p2] 58))) := ((Below.refl _ _).alloc (Nat.le_refl _) _).alloc (by simp) _
  have HS : Hid (Calls Tryz.prog 73 #[.int .i64 len, .func (.func 74) #[] #[.pointer (some ⟨w.heap.size, 0, none⟩), .pointer (some ⟨w.heap.size + 1, 0, none⟩)]] ((w.alloc (.cells #[.slice a len cap] 24)).alloc (.cells #[.int .i64 p1, .int .i64 p2] 58)) fun e w' => e = .returned (.int .i64 (Pl.posP (Pl.hp hs) (p1, p2))) ∧ Below (w.heap.size + 2) ((w.alloc (.cells #[.slice a len cap] 24)).alloc (.cells #[.int .i64 p1, .int .i64 p2] 58)) w') := by
    refine hid ?_
    have := SearchR_any hs p1 p2 a len cap w.heap.size (w.heap.size + 1) ((w.alloc (.cells #[.slice a len cap] 24)).alloc (.cells #[.int .i64 p1, .int .i64 p2] 58)) hl hc hm (by simp; omega) (by simp) ?_ (new1 _ _ _ _) (new2 _ _ _ _ _).1 (new2 _ _ _ _ _).2 has hbig
    · simpa using this
    · rcases hrow with h | ⟨b, off, rfl, hb, hr⟩
      · exact .inl h
      · exact .inr ⟨b, off, rfl, by simp; omega, hr.below hb HB.out⟩
  have hp := Pl.posP_le (Pl.hp hs) (p1, p2)
  rw [HLP.out] at hp
  unfold maxLen at hm
  rcases Nat.lt_or_ge (Pl.posP (Pl.hp hs) (p1, p2)) len with hlt | hge
  · obtain ⟨b, off, rfl, hb, hr⟩ : ∃ b off, a = some ⟨b, off, none⟩ ∧ b < w.heap.size ∧ RowsAt w b off hs := by
      rcases hrow with h | h
      · rw [h] at hl; simp at hl; omega
      · exact h
    obtain ⟨c0, c1, _, _, _⟩ := hr (Pl.posP (Pl.hp hs) (p1, p2)) (by omega)
    obtain ⟨gg, HG⟩ : ∃ x, Hid ((Pl.rh hs (Pl.posP (Pl.hp hs) (p1, p2))).p = x) := ⟨_, rfl⟩
    rw [HG.out] at c0 c1
    have HT : Hid (Pl.thereP (Pl.hp hs) (p1, p2) = decide (gg = (p1, p2))) := by
      refine hid ?_
      unfold Pl.thereP
      rw [HLP.out, decide_eq_true hlt, Pl.pr_hp hs _ (by omega), HG.out]; rfl
    obtain ⟨q1, q2⟩ := gg
    simp only at c0 c1
    obtain ⟨tt, HTT⟩ : ∃ t, Hid (Pl.thereP (Pl.hp hs) (p1, p2) = t) := ⟨_, rfl⟩
    rw [HTT.out] at HT ⊢
    generalize Pl.posP (Pl.hp hs) (p1, p2) = p at *
    clear hrow hr
    have hlt' : (p : Int) < (len : Int) := by omega
    obtain ⟨e1, g1⟩ : ∃ c, (q1 == p1) = c := ⟨_, rfl⟩
    obtain ⟨e2, g2⟩ : ∃ c, (q2 == p2) = c := ⟨_, rfl⟩
    have HT2 : Hid (tt = (e1 && e2)) := hid (by rw [HT.out, ← g1, ← g2, Bool.eq_iff_iff]; simp)
    cases e1
    all_goals cases e2
    all_goals
      go_enter Tryz.func39, Tryz.ntmps39
      go_wp2_with fail
      refine HS.out.mono ?_
      rintro e w1 ⟨rfl, hb1⟩
      have x0 : w1.cell? ⟨w.heap.size, 0, none⟩ = some (.slice (some ⟨b, off, none⟩) len cap) := (hb1.cell (show w.heap.size < w.heap.size + 2 by omega)).trans (new1 _ _ _ _)
      have x1 : w1.cell? ⟨w.heap.size + 1, 0, none⟩ = some (.int .i64 p1) := (hb1.cell (show w.heap.size + 1 < w.heap.size + 2 by omega)).trans (new2 _ _ _ _ _).1
      have x2 : w1.cell? ⟨w.heap.size + 1, 1, none⟩ = some (.int .i64 p2) := (hb1.cell (show w.heap.size + 1 < w.heap.size + 2 by omega)).trans (new2 _ _ _ _ _).2
      have HBW := hid (HB.out.trans (hb1.mono (by omega)))
      have d0 := (HBW.out.cell (p := ⟨b, off + p * 5, none⟩) hb).trans c0
      have d1 := (HBW.out.cell (p := ⟨b, off + p * 5 + 1, none⟩) hb).trans c1
      clear c0 c1 hb1
      go_wp2_with fail
      go_quiet (fail)
      go_wp2
      go_ret2
      exact ⟨by rw [HT2.out]; rfl, below_drew HBW.out _⟩
  · have HT : Hid (Pl.thereP (Pl.hp hs) (p1, p2) = false) := by
      refine hid ?_
      unfold Pl.thereP
      rw [HLP.out, decide_eq_false (by omega)]; rfl
    obtain ⟨tt, HTT⟩ : ∃ t, Hid (Pl.thereP (Pl.hp hs) (p1, p2) = t) := ⟨_, rfl⟩
    rw [HTT.out] at HT ⊢
    generalize Pl.posP (Pl.hp hs) (p1, p2) = p at *
    have hd : decide ((p : Int) < (len : Int)) = false := by simp; omega
    have hd' : decide (p < len) = false := by simp; omega
    go_enter Tryz.func39, Tryz.ntmps39
    go_wp2_with fail
    refine HS.out.mono ?_
    rintro e w1 ⟨rfl, hb1⟩
    have x0 : w1.cell? ⟨w.heap.size, 0, none⟩ = some (.slice a len cap) := (hb1.cell (show w.heap.size < w.heap.size + 2 by omega)).trans (new1 _ _ _ _)
    have HBW := hid (HB.out.trans (hb1.mono (by omega)))
    clear hb1
    go_wp2_with fail
    go_quiet (fail)
    go_wp2
    go_ret2
    exact ⟨by rw [HT.out]; rfl, below_drew HBW.out _⟩
end Go.Proofs.YtcdobhdbafpkiafGreatDoor
/-
  Contracts: the prefix of so many bits of an address; Lookup.
-/
namespace Go.Proofs.YtcdobhdbafpkiafGreatDoor
open Go.RowKit
set_option maxRecDepth 20000

theorem Pl.pfxAt_eq (addr : Int) (n : Nat) (K : Int) (h : Pl.span (n : Int) = K) : Pl.pfxAt addr n = (addr / K * K, (n : Int)) := by
  unfold Pl.pfxAt
  rw [h]
  have e := Int.ediv_mul_add_emod addr K
  generalize addr / K * K = x at *
  generalize addr % K = y at *
  simp only [Prod.mk.injEq, and_true]
  omega

set_option maxHeartbeats 1000000 in
theorem prefixOf_any (addr : Int) (n : Nat) (w : World) (h0 : 0 ≤ addr) (h1 : addr ≤ 255) (hn : n ≤ 8) :
    Calls Tryz.prog 189 #[.int .i64 addr, .int .i64 n] w fun e w' => e = .returned (.agg #[.int .i64 (Pl.pfxAt addr n).1, .int .i64 (Pl.pfxAt addr n).2]) ∧ Below w.heap.size w w' := by
  obtain rfl | rfl | rfl | rfl | rfl | rfl | rfl | rfl | rfl : n = 0 ∨ n = 1 ∨ n = 2 ∨ n = 3 ∨ n = 4 ∨ n = 5 ∨ n = 6 ∨ n = 7 ∨ n = 8 := by omega
  all_goals
    go_enter Tryz.func189, Tryz.ntmps189
    go_wp2
    rw [Pl.pfxAt_eq addr _ _ rfl]
    exact bodyPost_ret (by simp [results, Tryz.results189, go_sem, Pl.span_table]) rfl ⟨rfl, (Below.refl _ _).alloc (Nat.le_refl _) _⟩

theorem Pl.hopsB_len {l : List Int} (h : Pl.hopsB l = true) : l.length ≤ 12 := by
  have key : ∀ i, i < l.length → (i : Int) ≤ Pl.nm l i := by
    intro i
    induction i with
    | zero =>
      intro hi
      have := Pl.hopsB_at h 0 hi
      rw [Pl.hopB_zero] at this
      simp at this
      simpa using this.1
    | succ m ih =>
      intro hi
      have h1 := Pl.hopsB_at h (m + 1) hi
      rw [Pl.hopB_succ] at h1
      simp only [Bool.and_eq_true, decide_eq_true_eq] at h1
      have := ih (by omega)
      omega
  rcases Nat.eq_zero_or_pos l.length with h0 | hp
  · omega
  · have a := key (l.length - 1) (by omega)
    have b := Pl.hopsB_at h (l.length - 1) (by omega)
    unfold Pl.hopB at b
    simp only [Bool.and_eq_true, decide_eq_true_eq] at b
    omega
theorem Pl.routeB_hops {r : Pl.Rt} (h : Pl.routeB r = true) : r.hops.length ≤ 12 := by
  unfold Pl.routeB at h
  simp only [Bool.and_eq_true] at h
  exact Pl.hopsB_len h.2
theorem Pl.look_some {rs : List Pl.Rt} {addr : Int} {i : Nat} (h : Pl.tabF rs = 0) (ha : 0 ≤ addr ∧ addr ≤ 255) (hi : Pl.lookN (rs.map Pl.Rt.p) addr 9 = some i) : Pl.lookC rs addr = 0 ∧ Pl.lookR rs addr = Pl.rt rs i := by
  unfold Pl.lookC Pl.lookR
  rw [h, if_pos rfl, if_pos ha, if_pos rfl, if_pos ha, hi]
  exact ⟨rfl, rfl⟩
theorem Pl.look_none {rs : List Pl.Rt} {addr : Int} (h : Pl.tabF rs = 0) (ha : 0 ≤ addr ∧ addr ≤ 255) (hi : Pl.lookN (rs.map Pl.Rt.p) addr 9 = none) : Pl.lookC rs addr = 6 ∧ Pl.lookR rs addr = Pl.Rt.none := by
  unfold Pl.lookC Pl.lookR
  rw [h, if_pos rfl, if_pos ha, if_pos rfl, if_pos ha, hi]
  exact ⟨rfl, rfl⟩
theorem Pl.look_range {rs : List Pl.Rt} {addr : Int} (h : Pl.tabF rs = 0) (ha : ¬ (0 ≤ addr ∧ addr ≤ 255)) : Pl.lookC rs addr = 2 ∧ Pl.lookR rs addr = Pl.Rt.none := by
  unfold Pl.lookC Pl.lookR
  rw [h, if_pos rfl, if_neg ha, if_pos rfl, if_neg ha]
  exact ⟨rfl, rfl⟩
theorem Pl.look_bad {rs : List Pl.Rt} {addr : Int} (h : ¬ Pl.tabF rs = 0) : Pl.lookC rs addr = Pl.tabF rs ∧ Pl.lookR rs addr = Pl.Rt.none := by
  unfold Pl.lookC Pl.lookR
  rw [if_neg h, if_neg h]
  exact ⟨rfl, rfl⟩
theorem boxSoft {w w3 : World} {cs : Array Value} {T : TypeId} (hb : Below (w.heap.size + 1) (w.alloc (.cells cs T)) w3) (o : Nat) : w3.frozen? ⟨w.heap.size, o, none⟩ = false := by
  rw [hb.frozen (p := ⟨w.heap.size, o, none⟩) (show w.heap.size < w.heap.size + 1 by omega)]
  simp only [World.frozen?, heapNewZ]
  simp
theorem readsNone (w : World) : Reads w Pl.RH.none Pl.Rt.none := ⟨rfl, rfl, rfl, IsInts.nil w, by decide, by decide⟩

set_option maxHeartbeats 2000000 in
theorem Lookup_any (a : Option Addr) (len cap : Nat) (hs : List Pl.RH) (rs : List Pl.Rt) (addr : Int) (w : World) (h : IsRows w a len cap hs) (hrd : ReadsAll w hs rs) :
    Calls Tryz.prog 165 #[.slice a len cap, .int .i64 addr] w fun e w' =>
      ∃ g : Pl.RH, e = .returned (.tuple #[.agg #[.int .i64 g.p.1, .int .i64 g.p.2, .bool g.here, .int .i64 g.cost, .slice g.ha g.hl g.hc], .int .i64 (Pl.lookC rs addr)]) ∧ Reads w' g (Pl.lookR rs addr) ∧ Below w.heap.size w w' := by
  have HH := hid h
  have HD := hid hrd
  have HLH : Hid (hs.length = len) := hid h.1
  have hc := h.2.1
  have hm := h.2.2.1
  unfold maxLen at hm
  clear h hrd
  obtain ⟨LC, HLC⟩ : ∃ x, Hid (Pl.lookC rs addr = x) := ⟨_, rfl⟩
  obtain ⟨LR, HLR⟩ : ∃ x, Hid (Pl.lookR rs addr = x) := ⟨_, rfl⟩
  rw [HLC.out, HLR.out]
  obtain ⟨c, HC⟩ : ∃ c, Hid (Pl.tabF rs = c) := ⟨_, rfl⟩
  by_cases hc0 : c = 0
  · subst hc0
    by_cases hin : 0 ≤ addr ∧ addr ≤ 255
    · obtain ⟨ha0, ha1⟩ := hin
      have hg := Pl.good_of_tabF HC.out
      have HAS : Hid (Pl.AscP (Pl.hp hs)) := hid (by unfold Pl.hp; rw [HD.out.map_p]; exact hg.2.2)
      have hbig : len ≤ 2000000 := by have := hg.1; rw [← HD.out.1, HLH.out] at this; omega
      have HRB : Hid (∀ i, i < len → Pl.routeB (Pl.rt rs i) = true) := hid fun i hi => hg.2.1 i (by rw [← HD.out.1, HLH.out]; exact hi)
      have HQS : Hid (∀ i, Pl.lookN (Pl.hp hs) addr 9 = some i → LC = 0 ∧ LR = Pl.rt rs i) := hid fun i hi => by
        unfold Pl.hp at hi; rw [HD.out.map_p] at hi
        have := Pl.look_some HC.out ⟨ha0, ha1⟩ hi
        rwa [HLC.out, HLR.out] at this
      have HQN : Hid (Pl.lookN (Pl.hp hs) addr 9 = none → LC = 6 ∧ LR = Pl.Rt.none) := hid fun hi => by
        unfold Pl.hp at hi; rw [HD.out.map_p] at hi
        have := Pl.look_none HC.out ⟨ha0, ha1⟩ hi
        rwa [HLC.out, HLR.out] at this
      have HLP : Hid ((Pl.hp hs).length = len) := hid (by rw [Pl.hp_len, HLH.out])
      clear hg
      go_enter Tryz.func165, Tryz.ntmps165
      go_wp2_with fail
      refine (Check_rib _ _ _ hs rs _ (HH.out.below ((Below.refl _ _).alloc (Nat.le_refl _) _)) (HD.out.below ((Below.refl _ _).alloc (Nat.le_refl _) _))).mono ?_
      rw [HC.out]
      rintro e w1 ⟨rfl, hb1⟩
      have HB1 : Hid (Below (w.heap.size + 1) (w.alloc (.cells #[.int .i64 0, .int .i64 0, .bool false, .int .i64 0, .slice none 0 0] 88)) w1) := hid (by simpa using hb1)
      clear hb1
      go_wp2_with fail
      go_loopw [7] (fun i wr => ∃ n : Nat, n ≤ 9 ∧ i = .int .i64 ((n : Int) - 1) ∧ Hid (Pl.lookN (Pl.hp hs) addr 9 = Pl.lookN (Pl.hp hs) addr n) ∧ Hid (Below (w.heap.size + 1) (w.alloc (.cells #[.int .i64 0, .int .i64 0, .bool false, .int .i64 0, .slice none 0 0] 88)) wr)) (fun i _ => (intOf i + 1).toNat)
      case atStart => exact ⟨9, Nat.le_refl _, rfl, hid rfl, HB1⟩
      case round =>
        obtain ⟨n, hn, rfl, HN, HB⟩ := hrel
        obtain ⟨⟨y0, y1, y2, y3, y4⟩, hbx, hbw⟩ := box5 HB.out
        have HBW := hid hbw
        clear hbw
        rcases Nat.eq_zero_or_pos n with hn0 | hn0
        · subst hn0
          have HE := hid (HQN.out (by rw [HN.out]; rfl))
          have yf : ∀ o, wr.frozen? ⟨w.heap.size, o, none⟩ = false := fun o => boxSoft HB.out o
          go_wp2_with fail
          refine bodyPost_ret (v := .tuple #[.agg #[.int .i64 0, .int .i64 0, .bool false, .int .i64 0, .slice none 0 0], .int .i64 6]) (by simp [results, Tryz.results165, go_sem, y0, y1, y2, y3, y4]) rfl ⟨Pl.RH.none, by rw [HE.out.1]; rfl, by rw [HE.out.2]; exact readsNone _, ?_⟩
          exact (((((HBW.out.setCell (Nat.le_refl _) _).setCell (Nat.le_refl _) _).setCell (Nat.le_refl _) _).setCell (Nat.le_refl _) _).setCell (Nat.le_refl _) _)
        · obtain ⟨m, rfl⟩ : ∃ m, n = m + 1 := ⟨n - 1, by omega⟩
          have e1 : ((m + 1 : Nat) : Int) - 1 = (m : Int) := by omega
          rw [e1]
          clear e1 hn0
          have hm9 : m ≤ 8 := by omega
          obtain ⟨pp, HPP⟩ : ∃ x, Hid (Pl.pfxAt addr m = x) := ⟨_, rfl⟩
          have HPO : Hid (∀ W, Calls Tryz.prog 189 #[.int .i64 addr, .int .i64 m] W fun e w' => e = .returned (.agg #[.int .i64 pp.1, .int .i64 pp.2]) ∧ Below W.heap.size W w') := hid fun W => by
            have := prefixOf_any addr m W ha0 ha1 hm9
            rwa [HPP.out] at this
          have HST : Hid (Pl.lookN (Pl.hp hs) addr (m + 1) = if Pl.thereP (Pl.hp hs) pp then some (Pl.posP (Pl.hp hs) pp) else Pl.lookN (Pl.hp hs) addr m) := hid (by rw [← HPP.out]; rfl)
          obtain ⟨p1, p2⟩ := pp
          simp only at HPO
          obtain ⟨tt, HT⟩ : ∃ x, Hid (Pl.thereP (Pl.hp hs) (p1, p2) = x) := ⟨_, rfl⟩
          have HZ := hid HBW.out.size
          have HFI : Hid (∀ W, Below w.heap.size w W → Calls Tryz.prog 39 #[.slice a len cap, .agg #[.int .i64 p1, .int .i64 p2]] W fun e w' => e = .returned (.tuple #[.int .i64 (Pl.posP (Pl.hp hs) (p1, p2)), .bool tt]) ∧ Below W.heap.size W w') := hid fun W hW => by
            have := find_rib a len cap hs p1 p2 W (HH.out.below hW) HAS.out hbig
            rwa [HT.out] at this
          have HPL : Hid (tt = true → Pl.posP (Pl.hp hs) (p1, p2) < len) := hid fun e => by
            have := Pl.thereP_lt (by rw [HT.out]; exact e : Pl.thereP (Pl.hp hs) (p1, p2) = true)
            rwa [HLP.out] at this
          rw [HT.out] at HST
          generalize Pl.posP (Pl.hp hs) (p1, p2) = ix at *
          cases tt
          · go_wp2_with fail
            refine (HPO.out _).mono ?_
            rintro e w2 ⟨rfl, hb2⟩
            have HB2 := hid (HBW.out.trans (hb2.mono HZ.out))
            have HB2' := hid (HB.out.trans (hb2.mono (by omega)))
            clear hb2
            go_wp2_with fail
            refine (HFI.out _ HB2.out).mono ?_
            rintro e w3 ⟨rfl, hb3⟩
            have HB3' := hid (HB2'.out.trans (hb3.mono (by have := HB2'.out.size; simpa using this)))
            clear hb3
            go_wp2_with fail
            go_roundw
            case rel => exact ⟨m, by omega, by go_num, hid (by rw [HN.out, HST.out]; rfl), HB3'⟩
            case measure => simp [intOf]
          · have hix := HPL.out rfl
            have HE := hid (HQS.out ix (by rw [HN.out, HST.out]; rfl))
            obtain ⟨b, off, rfl, hbw, hr⟩ := HH.out.at hix
            have HRD := hid (HD.out.2 ix (by rw [HLH.out]; exact hix))
            have hhl : (Pl.rh hs ix).hl ≤ 1000 := by
              have h1 := HRD.out.2.2.2.1.1
              have h2 := Pl.routeB_hops (HRB.out ix hix)
              omega
            obtain ⟨c0, c1, c2, c3, c4⟩ := hr ix (by rw [HLH.out]; exact hix)
            have hix' : (ix : Int) < (len : Int) := by omega
            go_wp2_with fail
            refine (HPO.out _).mono ?_
            rintro e w2 ⟨rfl, hb2⟩
            have HB2 := hid (HBW.out.trans (hb2.mono HZ.out))
            have HB2' := hid (HB.out.trans (hb2.mono (by omega)))
            clear hb2
            go_wp2_with fail
            refine (HFI.out _ HB2.out).mono ?_
            rintro e w3 ⟨rfl, hb3⟩
            have HB3' := hid (HB2'.out.trans (hb3.mono (by have := HB2'.out.size; simpa using this)))
            have HB3 := hid (HB2.out.trans (hb3.mono HB2.out.size))
            clear hb3
            have d0 := (HB3.out.cell (p := ⟨b, off + ix * 5, none⟩) hbw).trans c0
            have d1 := (HB3.out.cell (p := ⟨b, off + ix * 5 + 1, none⟩) hbw).trans c1
            have d2 := (HB3.out.cell (p := ⟨b, off + ix * 5 + 2, none⟩) hbw).trans c2
            have d3 := (HB3.out.cell (p := ⟨b, off + ix * 5 + 3, none⟩) hbw).trans c3
            have d4 := (HB3.out.cell (p := ⟨b, off + ix * 5 + 4, none⟩) hbw).trans c4
            clear c0 c1 c2 c3 c4 y0 y1 y2 y3 y4
            have HFR := hid (fresh_any (Pl.rh hs ix) (Pl.rt rs ix) w3 (HRD.out.below HB3.out) hhl)
            generalize Pl.rh hs ix = hh at *
            go_wp2_with fail
            refine HFR.out.mono ?_
            rintro e w4 ⟨g, rfl, hg4, hn4, hb4⟩
            have HB4' := hid (HB3'.out.trans (hb4.mono (by have := HB3'.out.size; simpa using this)))
            obtain ⟨⟨y0, y1, y2, y3, y4⟩, hbx4, hbw4⟩ := box5 HB4'.out
            have HG := hid hg4
            have HN4 := hid hn4
            have HBW4 := hid hbw4
            have hz3 := HB3'.out.size
            simp only [World.size_alloc] at hz3
            have yf : ∀ o, w4.frozen? ⟨w.heap.size, o, none⟩ = false := fun o => boxSoft HB4'.out o
            clear hg4 hn4 hb4 hbw4
            go_wp2_with fail
            refine bodyPost_ret (v := .tuple #[.agg #[.int .i64 g.p.1, .int .i64 g.p.2, .bool g.here, .int .i64 g.cost, .slice g.ha g.hl g.hc], .int .i64 0]) (by simp [results, Tryz.results165, go_sem, y0, y1, y2, y3, y4]) rfl ⟨g, by rw [HE.out.1], ?_, ?_⟩
            · rw [HE.out.2]
              exact HG.out.but (B := w.heap.size) ((((((But.refl _ _).setCell _ _).setCell _ _).setCell _ _).setCell _ _).setCell _ _) (fun x hx => by have := HN4.out x hx; omega)
            · exact (((((HBW4.out.setCell (Nat.le_refl _) _).setCell (Nat.le_refl _) _).setCell (Nat.le_refl _) _).setCell (Nat.le_refl _) _).setCell (Nat.le_refl _) _)
    · have HE : Hid (LC = 2 ∧ LR = Pl.Rt.none) := hid (by have := Pl.look_range HC.out hin; rwa [HLC.out, HLR.out] at this)
      have hin2 : addr < 0 ∨ (0 ≤ addr ∧ 255 < addr) := by omega
      clear hin
      rcases hin2 with hin | ⟨hin1, hin⟩
      all_goals
        go_enter Tryz.func165, Tryz.ntmps165
        go_wp2_with fail
        refine (Check_rib _ _ _ hs rs _ (HH.out.below ((Below.refl _ _).alloc (Nat.le_refl _) _)) (HD.out.below ((Below.refl _ _).alloc (Nat.le_refl _) _))).mono ?_
        rw [HC.out]
        rintro e w1 ⟨rfl, hb1⟩
        have HB1 : Hid (Below (w.heap.size + 1) (w.alloc (.cells #[.int .i64 0, .int .i64 0, .bool false, .int .i64 0, .slice none 0 0] 88)) w1) := hid (by simpa using hb1)
        clear hb1
        obtain ⟨⟨y0, y1, y2, y3, y4⟩, hbx, hbw⟩ := box5 HB1.out
        have HBW := hid hbw
        clear hbw
        have yf : ∀ o, w1.frozen? ⟨w.heap.size, o, none⟩ = false := fun o => boxSoft HB1.out o
        go_wp2_with fail
        refine bodyPost_ret (v := .tuple #[.agg #[.int .i64 0, .int .i64 0, .bool false, .int .i64 0, .slice none 0 0], .int .i64 2]) (by simp [results, Tryz.results165, go_sem, y0, y1, y2, y3, y4]) rfl ⟨Pl.RH.none, by rw [HE.out.1]; rfl, by rw [HE.out.2]; exact readsNone _, ?_⟩
        exact (((((HBW.out.setCell (Nat.le_refl _) _).setCell (Nat.le_refl _) _).setCell (Nat.le_refl _) _).setCell (Nat.le_refl _) _).setCell (Nat.le_refl _) _)
  · have HE : Hid (LC = c ∧ LR = Pl.Rt.none) := hid (by have := Pl.look_bad (addr := addr) (by rw [HC.out]; exact hc0 : ¬ Pl.tabF rs = 0); rwa [HLC.out, HLR.out, HC.out] at this)
    have hd0 : (c != 0) = true := by simpa using hc0
    clear hc0
    go_enter Tryz.func165, Tryz.ntmps165
    go_wp2_with fail
    refine (Check_rib _ _ _ hs rs _ (HH.out.below ((Below.refl _ _).alloc (Nat.le_refl _) _)) (HD.out.below ((Below.refl _ _).alloc (Nat.le_refl _) _))).mono ?_
    rw [HC.out]
    rintro e w1 ⟨rfl, hb1⟩
    have HB1 : Hid (Below (w.heap.size + 1) (w.alloc (.cells #[.int .i64 0, .int .i64 0, .bool false, .int .i64 0, .slice none 0 0] 88)) w1) := hid (by simpa using hb1)
    clear hb1
    obtain ⟨⟨y0, y1, y2, y3, y4⟩, hbx, hbw⟩ := box5 HB1.out
    have HBW := hid hbw
    clear hbw
    have yf : ∀ o, w1.frozen? ⟨w.heap.size, o, none⟩ = false := fun o => boxSoft HB1.out o
    go_wp2_with fail
    refine bodyPost_ret (v := .tuple #[.agg #[.int .i64 0, .int .i64 0, .bool false, .int .i64 0, .slice none 0 0], .int .i64 c]) (by simp [results, Tryz.results165, go_sem, y0, y1, y2, y3, y4]) rfl ⟨Pl.RH.none, by rw [HE.out.1]; rfl, by rw [HE.out.2]; exact readsNone _, ?_⟩
    exact (((((HBW.out.setCell (Nat.le_refl _) _).setCell (Nat.le_refl _) _).setCell (Nat.le_refl _) _).setCell (Nat.le_refl _) _).setCell (Nat.le_refl _) _)
end Go.Proofs.YtcdobhdbafpkiafGreatDoor
/-
  Contracts: slices.Equal over numbers, same, the document's sameRoute and routeAt.
-/
namespace Go.Proofs.YtcdobhdbafpkiafGreatDoor
open Go.RowKit
set_option maxRecDepth 20000

theorem Pl.ints_eq_of {xs ys : List Int} (hl : xs.length = ys.length) (h : ∀ t, t < xs.length → Pl.nm xs t = Pl.nm ys t) : xs = ys := by
  refine List.ext_getElem hl fun i h1 h2 => ?_
  have := h i h1
  rwa [Pl.nm_eq xs i h1, Pl.nm_eq ys i h2] at this

set_option maxHeartbeats 1000000 in
theorem EqualI_any (a b : Option Addr) (la lb ca cb : Nat) (xs ys : List Int) (w : World) (h1 : IsInts w a la ca xs) (h2 : IsInts w b lb cb ys) :
    Calls Tryz.prog 75 #[.slice a la ca, .slice b lb cb] w fun e w' => e = .returned (.bool (decide (xs = ys))) ∧ Below w.heap.size w w' := by
  have HA := hid h1
  have HB2 := hid h2
  have HLA : Hid (xs.length = la) := hid h1.1
  have HLB : Hid (ys.length = lb) := hid h2.1
  have hc1 := h1.2.1
  have hm1 := h1.2.2.1
  have hc2 := h2.2.1
  have hm2 := h2.2.2.1
  unfold maxLen at hm1 hm2
  clear h1 h2
  obtain ⟨R, HR⟩ : ∃ R, Hid (decide (xs = ys) = R) := ⟨_, rfl⟩
  rw [HR.out]
  by_cases hlen : la = lb
  · subst hlen
    have hne : ((la : Int) != (la : Int)) = false := by simp
    go_enter Tryz.func75, Tryz.ntmps75
    go_wp2_with fail
    go_loopw [13] (fun i wr => ∃ k : Nat, k ≤ la ∧ i = .int .i64 k ∧ Hid (∀ t, t < k → Pl.nm xs t = Pl.nm ys t) ∧ Hid (Below w.heap.size w wr)) (fun i _ => la - (intOf i).toNat)
    case atStart => exact ⟨0, Nat.zero_le _, rfl, hid (by intro t ht; omega), Below.refl _ _⟩
    case round =>
      obtain ⟨k, hk, rfl, HK, HB⟩ := hrel
      by_cases hlt : k < la
      · obtain ⟨g1, o1, rfl, hg1, hr1⟩ := HA.out.at hlt
        obtain ⟨g2, o2, rfl, hg2, hr2⟩ := HB2.out.at hlt
        have c1 := (HB.out.cell (p := ⟨g1, o1 + k, none⟩) hg1).trans (hr1 k (by rw [HLA.out]; exact hlt))
        have c2 := (HB.out.cell (p := ⟨g2, o2 + k, none⟩) hg2).trans (hr2 k (by rw [HLB.out]; exact hlt))
        clear hr1 hr2
        have hz := HB.out.size
        have l1 : g1 < wr.heap.size := by omega
        have l2 : g2 < wr.heap.size := by omega
        have hlt' : (k : Int) < (la : Int) := by omega
        obtain ⟨e1, g1'⟩ : ∃ c, (Pl.nm xs k != Pl.nm ys k) = c := ⟨_, rfl⟩
        have HE := hid g1'
        obtain ⟨x, HX⟩ : ∃ x, Hid (Pl.nm xs k = x) := ⟨_, rfl⟩
        obtain ⟨y, HY⟩ : ∃ y, Hid (Pl.nm ys k = y) := ⟨_, rfl⟩
        rw [HX.out] at c1
        rw [HY.out] at c2
        rw [HX.out, HY.out] at g1'
        cases e1
        · go_wp2_with fail
          go_quiet (fail)
          go_wp2_with fail
          go_roundw
          case rel => exact ⟨k + 1, by omega, by go_num, hid fun t ht => by rcases Nat.lt_or_ge t k with q | q; exact HK.out t q; obtain rfl : t = k := (by omega); simpa using HE.out, hid (below_drew HB.out _)⟩
          case measure => simp [intOf]; omega
        · have HF : Hid (R = false) := hid (by
            rw [← HR.out, decide_eq_false_iff_not]
            intro e
            have := HE.out
            rw [e] at this
            simp at this)
          go_wp2_with fail
          go_quiet (fail)
          go_wp2_with fail
          go_ret
          exact ⟨ret_bool HF.out.symm, below_drew HB.out _⟩
      · obtain rfl : k = la := by omega
        have HT : Hid (R = true) := hid (by
          rw [← HR.out, decide_eq_true_eq]
          exact Pl.ints_eq_of (by rw [HLA.out, HLB.out]) (by rw [HLA.out]; exact HK.out))
        go_wp2_with fail
        go_ret
        exact ⟨ret_bool HT.out.symm, HB.out⟩
  · have hne : ((la : Int) != (lb : Int)) = true := by simp; omega
    have HF : Hid (R = false) := hid (by
      rw [← HR.out, decide_eq_false_iff_not]
      intro e
      apply hlen
      rw [← HLA.out, ← HLB.out, e])
    clear hlen
    go_enter Tryz.func75, Tryz.ntmps75
    go_wp2_with fail
    go_ret
    exact ⟨ret_bool HF.out.symm, Below.refl _ _⟩

theorem twoBoxes {w : World} {o o' : Obj} : Below w.heap.size w ((w.alloc o).alloc o') := ((Below.refl _ _).alloc (Nat.le_refl _) _).alloc (by simp) _

set_option maxHeartbeats 1000000 in
theorem same_any (g h : Pl.RH) (r s : Pl.Rt) (w : World) (h1 : Reads w g r) (h2 : Reads w h s) :
    Calls Tryz.prog 40 #[.agg #[.int .i64 g.p.1, .int .i64 g.p.2, .bool g.here, .int .i64 g.cost, .slice g.ha g.hl g.hc], .agg #[.int .i64 h.p.1, .int .i64 h.p.2, .bool h.here, .int .i64 h.cost, .slice h.ha h.hl h.hc]] w fun e w' => e = .returned (.bool (Pl.sameR r s)) ∧ Below w.heap.size w w' := by
  obtain ⟨a1, a2, a3, a4, _⟩ := h1
  obtain ⟨b1, b2, b3, b4, _⟩ := h2
  obtain ⟨⟨p1, p2⟩, here, cost, ha, hl, hc⟩ := g
  obtain ⟨⟨q1, q2⟩, here', cost', hb, hl', hc'⟩ := h
  simp only at a1 a2 a3 a4 b1 b2 b3 b4
  simp only
  obtain ⟨R, HR⟩ : ∃ R, Hid (Pl.sameR r s = R) := ⟨_, rfl⟩
  rw [HR.out]
  obtain ⟨e3, HE3⟩ : ∃ c, Hid (decide (r.hops = s.hops) = c) := ⟨_, rfl⟩
  obtain ⟨e1, g1⟩ : ∃ c, (here == here') = c := ⟨_, rfl⟩
  obtain ⟨e2, g2⟩ : ∃ c, (cost == cost') = c := ⟨_, rfl⟩
  have HE : Hid (R = (e1 && e2 && e3)) := hid (by
    rw [← HR.out, ← HE3.out, ← g1, ← g2]
    unfold Pl.sameR
    rw [← a2, ← b2, ← a3, ← b3, Bool.eq_iff_iff]
    simp)
  have HA := hid a4
  have HB := hid b4
  have HQ : Hid (∀ W, Below w.heap.size w W → Calls Tryz.prog 75 #[.slice ha hl hc, .slice hb hl' hc'] W fun e w' => e = .returned (.bool e3) ∧ Below W.heap.size W w') := hid fun W hW => by
    have := EqualI_any ha hb hl hl' hc hc' r.hops s.hops W (HA.out.below hW) (HB.out.below hW)
    rwa [HE3.out] at this
  clear a1 a2 a3 a4 b1 b2 b3 b4
  cases e1
  · go_enter Tryz.func40, Tryz.ntmps40
    go_wp2_with fail
    go_ret
    exact ⟨ret_bool (by rw [HE.out]; rfl), twoBoxes⟩
  · cases e2
    · go_enter Tryz.func40, Tryz.ntmps40
      go_wp2_with fail
      go_ret
      exact ⟨ret_bool (by rw [HE.out]; rfl), twoBoxes⟩
    · go_enter Tryz.func40, Tryz.ntmps40
      go_wp2_with (go_at_call 75; refine (HQ.out _ twoBoxes).mono ?_; rintro e w1 ⟨rfl, hb1⟩)
      go_ret
      exact ⟨ret_bool (by rw [HE.out]; rfl), twoBoxes.trans (hb1.mono (by simp; omega))⟩
end Go.Proofs.YtcdobhdbafpkiafGreatDoor
/-
  Contract: what parts two tables (rib.Diff).
-/
namespace Go.Proofs.YtcdobhdbafpkiafGreatDoor
open Go.RowKit
set_option maxRecDepth 20000

def Pl.diffC (a b : List Pl.Rt) : Int := if Pl.tabF a = 0 then Pl.tabF b else Pl.tabF a
def Pl.diffS (a b : List Pl.Rt) : List Pl.Rt := if Pl.diffC a b = 0 then Pl.setL a b else []
def Pl.diffG (a b : List Pl.Rt) : List (Int × Int) := if Pl.diffC a b = 0 then Pl.goneL a b else []
theorem Pl.take_rt (rs : List Pl.Rt) (k : Nat) (h : k < rs.length) : rs.take (k + 1) = rs.take k ++ [Pl.rt rs k] := by
  rw [List.take_succ_eq_append_getElem h, Pl.rt_eq rs k h]
theorem Pl.setL_succ (a b : List Pl.Rt) (k : Nat) (h : k < b.length) : Pl.setL a (b.take (k + 1)) = Pl.setL a (b.take k) ++ (if Pl.keptB a (Pl.rt b k) then [] else [Pl.rt b k]) := by
  unfold Pl.setL
  rw [Pl.take_rt b k h, List.filter_append]
  cases hk : Pl.keptB a (Pl.rt b k) <;> simp [hk]
theorem Pl.goneL_succ (a b : List Pl.Rt) (k : Nat) (h : k < a.length) : Pl.goneL (a.take (k + 1)) b = Pl.goneL (a.take k) b ++ (if Pl.thereP (b.map Pl.Rt.p) (Pl.rt a k).p then [] else [(Pl.rt a k).p]) := by
  unfold Pl.goneL
  rw [Pl.take_rt a k h, List.filter_append, List.map_append]
  cases hk : Pl.thereP (b.map Pl.Rt.p) (Pl.rt a k).p <;> simp [hk]
theorem Pl.setL_len (a b : List Pl.Rt) : (Pl.setL a b).length ≤ b.length := List.length_filter_le _ _
theorem Pl.goneL_len (a b : List Pl.Rt) : (Pl.goneL a b).length ≤ a.length := by
  unfold Pl.goneL
  rw [List.length_map]
  exact List.length_filter_le _ _

theorem infoPfxR : (Tryz.prog.info? 58).map (fun i => (i.zero, i.size, i.bytes)) = some (some (.agg #[.int .i64 0, .int .i64 0]), 2, 16) := by kernel_rfl
theorem ret3 {v1 v2 v3 : Value} {P : Prop} (h : P) : Ending.returned (.tuple #[v1, v2, v3]) = .returned (.tuple #[v1, v2, v3]) ∧ P := ⟨rfl, h⟩

set_option maxRecDepth 20000 in
set_option maxHeartbeats 4000000 in
theorem Diff_any (a : Option Addr) (la ca : Nat) (hs : List Pl.RH) (rs : List Pl.Rt) (b : Option Addr) (lb cb : Nat) (gs : List Pl.RH) (ss : List Pl.Rt) (w : World) (h1 : IsRows w a la ca hs) (d1 : ReadsAll w hs rs) (h2 : IsRows w b lb cb gs) (d2 : ReadsAll w gs ss) :
    Calls Tryz.prog 12 #[.slice a la ca, .slice b lb cb] w fun e w' =>
      ∃ vs vg es, e = .returned (.tuple #[vs, vg, .int .i64 (Pl.diffC rs ss)]) ∧ OwnTb w' w.heap.size vs es (Pl.diffS rs ss) ∧ OwnP 58 w' w.heap.size vg (Pl.diffG rs ss) ∧ Below w.heap.size w w' := by
  have H1 := hid h1
  have D1 := hid d1
  have H2 := hid h2
  have D2 := hid d2
  have HL1 : Hid (hs.length = la) := hid h1.1
  have HL2 : Hid (gs.length = lb) := hid h2.1
  have HR1 : Hid (rs.length = la) := hid (by rw [← d1.1]; exact h1.1)
  have HR2 : Hid (ss.length = lb) := hid (by rw [← d2.1]; exact h2.1)
  have hc1 := h1.2.1
  have hm1 := h1.2.2.1
  have hc2 := h2.2.1
  have hm2 := h2.2.2.1
  unfold maxLen at hm1 hm2
  clear h1 d1 h2 d2
  obtain ⟨DC, HDC⟩ : ∃ x, Hid (Pl.diffC rs ss = x) := ⟨_, rfl⟩
  obtain ⟨DS, HDS⟩ : ∃ x, Hid (Pl.diffS rs ss = x) := ⟨_, rfl⟩
  obtain ⟨DG, HDG⟩ : ∃ x, Hid (Pl.diffG rs ss = x) := ⟨_, rfl⟩
  rw [HDC.out, HDS.out, HDG.out]
  obtain ⟨c1, HC1⟩ : ∃ c, Hid (Pl.tabF rs = c) := ⟨_, rfl⟩
  obtain ⟨c2, HC2⟩ : ∃ c, Hid (Pl.tabF ss = c) := ⟨_, rfl⟩
  by_cases hz1 : c1 = 0
  · subst hz1
    by_cases hz2 : c2 = 0
    · subst hz2
      have HE : Hid (DC = 0 ∧ DS = Pl.setL rs ss ∧ DG = Pl.goneL rs ss) := hid (by
        have e : Pl.diffC rs ss = 0 := by unfold Pl.diffC; rw [HC1.out, if_pos rfl, HC2.out]
        rw [← HDC.out, ← HDS.out, ← HDG.out]
        unfold Pl.diffS Pl.diffG
        rw [e, if_pos rfl, if_pos rfl]
        exact ⟨rfl, rfl, rfl⟩)
      have hg1 := Pl.good_of_tabF HC1.out
      have hg2 := Pl.good_of_tabF HC2.out
      have HA1 : Hid (Pl.AscP (Pl.hp hs)) := hid (by unfold Pl.hp; rw [D1.out.map_p]; exact hg1.2.2)
      have HA2 : Hid (Pl.AscP (Pl.hp gs)) := hid (by unfold Pl.hp; rw [D2.out.map_p]; exact hg2.2.2)
      have hb1 : la ≤ 200 := by have := hg1.1; rw [HR1.out] at this; exact this
      have hb2 : lb ≤ 200 := by have := hg2.1; rw [HR2.out] at this; exact this
      have HRB2 : Hid (∀ i, i < lb → Pl.routeB (Pl.rt ss i) = true) := hid fun i hi => hg2.2.1 i (by rw [HR2.out]; exact hi)
      have HP1 : Hid (rs.map Pl.Rt.p = Pl.hp hs) := hid D1.out.map_p.symm
      have HP2 : Hid (ss.map Pl.Rt.p = Pl.hp gs) := hid D2.out.map_p.symm
      have HLP : Hid ((Pl.hp hs).length = la) := hid (by rw [Pl.hp_len, HL1.out])
      clear hg1 hg2
      go_enter Tryz.func12, Tryz.ntmps12
      go_wp2_with fail
      refine (Check_rib _ _ _ hs rs _ H1.out D1.out).mono ?_
      rw [HC1.out]
      rintro e w1 ⟨rfl, hbA⟩
      go_wp2_with fail
      refine (Check_rib _ _ _ gs ss _ (H2.out.below hbA) (D2.out.below hbA)).mono ?_
      rw [HC2.out]
      rintro e w2 ⟨rfl, hbB⟩
      have HB0 := hid (hbA.trans (hbB.mono hbA.size))
      clear hbA hbB
      go_wp2_with fail
      go_loopw [9, 31] (fun v i wr => ∃ (k : Nat) (es : List Pl.RH), k ≤ lb ∧ i = .int .i64 k ∧ Hid (OwnTb wr w.heap.size v es (Pl.setL rs (ss.take k))) ∧ Hid (Below w.heap.size w wr)) (fun _ i _ => lb - (intOf i).toNat)
      case atStart => exact ⟨0, [], Nat.zero_le _, rfl, hid (OwnTb.nil _ _), HB0⟩
      case round =>
        obtain ⟨k, es, hk, rfl, HO, HB⟩ := hrel
        by_cases hlt : k < lb
        · obtain ⟨bb, off, rfl, hbw, hr⟩ := H2.out.at hlt
          have hz := HB.out.size
          obtain ⟨x0, x1, x2, x3, x4⟩ := hr.below hbw HB.out k (by rw [HL2.out]; exact hlt)
          have HRD := hid (D2.out.2 k (by rw [HL2.out]; exact hlt))
          have HSU := hid (Pl.setL_succ rs ss k (by rw [HR2.out]; exact hlt))
          have hhl : (Pl.rh gs k).hl ≤ 1000 := by
            have e1 := HRD.out.2.2.2.1.1
            have e2 := Pl.routeB_hops (HRB2.out k hlt)
            omega
          obtain ⟨kb, HKB⟩ : ∃ x, Hid (Pl.keptB rs (Pl.rt ss k) = x) := ⟨_, rfl⟩
          have HKE : Hid (kb = (Pl.thereP (Pl.hp hs) (Pl.rh gs k).p && Pl.sameR (Pl.rt rs (Pl.posP (Pl.hp hs) (Pl.rh gs k).p)) (Pl.rt ss k))) := hid (by
            rw [← HKB.out]; unfold Pl.keptB; rw [HP1.out, HRD.out.1])
          rw [HKB.out] at HSU
          obtain ⟨r, HRR⟩ : ∃ x, Hid (Pl.rt ss k = x) := ⟨_, rfl⟩
          rw [HRR.out] at HRD HSU HKE
          generalize Pl.rh gs k = hh at *
          obtain ⟨⟨p1, p2⟩, here, cost, hha, hhl', hhc⟩ := hh
          simp only at x0 x1 x2 x3 x4 hhl HKE
          obtain ⟨tt, HT⟩ : ∃ x, Hid (Pl.thereP (Pl.hp hs) (p1, p2) = x) := ⟨_, rfl⟩
          have HFI : Hid (∀ W, Below w.heap.size w W → Calls Tryz.prog 39 #[.slice a la ca, .agg #[.int .i64 p1, .int .i64 p2]] W fun e w' => e = .returned (.tuple #[.int .i64 (Pl.posP (Pl.hp hs) (p1, p2)), .bool tt]) ∧ Below W.heap.size W w') := hid fun W hW => by
            have := find_rib a la ca hs p1 p2 W (H1.out.below hW) HA1.out (by omega)
            rwa [HT.out] at this
          have HPL : Hid (tt = true → Pl.posP (Pl.hp hs) (p1, p2) < la) := hid fun e => by
            have := Pl.thereP_lt (by rw [HT.out]; exact e : Pl.thereP (Pl.hp hs) (p1, p2) = true)
            rwa [HLP.out] at this
          rw [HT.out] at HKE
          generalize Pl.posP (Pl.hp hs) (p1, p2) = ix at *
          have HFR : Hid (∀ W, Below w.heap.size w W → Calls Tryz.prog 41 #[.agg #[.int .i64 p1, .int .i64 p2, .bool here, .int .i64 cost, .slice hha hhl' hhc]] W fun e w' => ∃ g : Pl.RH, e = .returned (.agg #[.int .i64 g.p.1, .int .i64 g.p.2, .bool g.here, .int .i64 g.cost, .slice g.ha g.hl g.hc]) ∧ ReadsZ w' W.heap.size g r ∧ Below W.heap.size W w') := hid fun W hW => fresh_own ⟨(p1, p2), here, cost, hha, hhl', hhc⟩ r W (HRD.out.below hW) hhl
          have HLE : Hid (es.length ≤ 200) := hid (by
            rw [HO.out.2.1]
            have e1 := Pl.setL_len rs (ss.take k)
            have e2 := List.length_take_le k ss
            omega)
          cases tt
          · have HK0 : Hid (kb = false) := hid (by rw [HKE.out]; rfl)
            go_wp2_with fail
            refine (HFI.out _ (HB.out.alloc hz _)).mono ?_
            rintro e w3 ⟨rfl, hb3⟩
            obtain ⟨⟨y0, y1, y2, y3, y4⟩, hbx, hbb⟩ := box5 (by simpa using hb3)
            have HB3 := hid (HB.out.trans (hbb.mono hz))
            have HO3 := hid (HO.out.below hbb)
            clear hb3 x0 x1 x2 x3 x4
            go_wp2_with fail
            have hne := in_some w3
            refine wp_region_in (by kernel_rfl) (by kernel_rfl) ?_
            repeat (go_big_quiet_step (fail))
            refine wpQuiet_nil ?_
            intro w4 hw'
            have hb4 := in_out hw'
            clear hw' hne
            have HB4 := hid (HB3.out.trans (hb4.mono HB3.out.size))
            have HO4 := hid (HO3.out.below hb4)
            have z0 := (hb4.cell (p := ⟨wr.heap.size, 0, none⟩) hbx).trans y0
            have z1 := (hb4.cell (p := ⟨wr.heap.size, 1, none⟩) hbx).trans y1
            have z2 := (hb4.cell (p := ⟨wr.heap.size, 2, none⟩) hbx).trans y2
            have z3 := (hb4.cell (p := ⟨wr.heap.size, 3, none⟩) hbx).trans y3
            have z4 := (hb4.cell (p := ⟨wr.heap.size, 4, none⟩) hbx).trans y4
            clear hb4 y0 y1 y2 y3 y4 hbb
            go_wp2_with fail
            refine (HFR.out _ HB4.out).mono ?_
            rintro e w6 ⟨g, rfl, hg6, hb6⟩
            have HB6 := hid (HB4.out.trans (hb6.mono HB4.out.size))
            have HO6 := hid (HO4.out.below hb6)
            have HG6 := hid (hg6.mono HB4.out.size)
            have hz6 := HB6.out.size
            clear hg6 hb6
            go_wp2_with (at_builtin; refine append_rt rfl (.tmp 53) (.tmp 56) rfl w.heap.size u9 es g rfl HO6.out.1 hz6 rfl (by have := HLE.out; omega) ?_; intro v7 w7 hown7 hg7 hb7; have HO7 := hid (HO6.out.snoc HG6.out hown7 hg7); have HB7 := hid (HB6.out.trans hb7); clear hown7 hg7 hb7)
            go_roundw
            case rel => exact ⟨k + 1, es ++ [g], by omega, by go_num, hid (by rw [HSU.out, HK0.out]; exact HO7.out), HB7⟩
            case measure => simp [intOf]; omega
          · have hix := HPL.out rfl
            obtain ⟨ba, offa, rfl, hbaw, hra⟩ := H1.out.at hix
            obtain ⟨s0, s1, s2, s3, s4⟩ := hra ix (by rw [HL1.out]; exact hix)
            have HRA := hid (D1.out.2 ix (by rw [HL1.out]; exact hix))
            generalize Pl.rh hs ix = ga at *
            obtain ⟨⟨q1, q2⟩, here2, cost2, ga2, gl2, gc2⟩ := ga
            simp only at s0 s1 s2 s3 s4
            obtain ⟨sm, HSM⟩ : ∃ x, Hid (Pl.sameR (Pl.rt rs ix) r = x) := ⟨_, rfl⟩
            have HKS : Hid (kb = sm) := hid (by rw [HKE.out, HSM.out]; rfl)
            have HSC : Hid (∀ W, Below w.heap.size w W → Calls Tryz.prog 40 #[.agg #[.int .i64 q1, .int .i64 q2, .bool here2, .int .i64 cost2, .slice ga2 gl2 gc2], .agg #[.int .i64 p1, .int .i64 p2, .bool here, .int .i64 cost, .slice hha hhl' hhc]] W fun e w' => e = .returned (.bool sm) ∧ Below W.heap.size W w') := hid fun W hW => by
              have := same_any ⟨(q1, q2), here2, cost2, ga2, gl2, gc2⟩ ⟨(p1, p2), here, cost, hha, hhl', hhc⟩ (Pl.rt rs ix) r W (HRA.out.below hW) (HRD.out.below hW)
              rwa [HSM.out] at this
            have hix' : (ix : Int) < (la : Int) := by omega
            cases sm
            all_goals
              go_wp2_with fail
              refine (HFI.out _ (HB.out.alloc hz _)).mono ?_
              rintro e w3 ⟨rfl, hb3⟩
              obtain ⟨⟨y0, y1, y2, y3, y4⟩, hbx, hbb⟩ := box5 (by simpa using hb3)
              have HB3 := hid (HB.out.trans (hbb.mono hz))
              have HO3 := hid (HO.out.below hbb)
              clear hb3 x0 x1 x2 x3 x4
              have t0 := (HB3.out.cell (p := ⟨ba, offa + ix * 5, none⟩) hbaw).trans s0
              have t1 := (HB3.out.cell (p := ⟨ba, offa + ix * 5 + 1, none⟩) hbaw).trans s1
              have t2 := (HB3.out.cell (p := ⟨ba, offa + ix * 5 + 2, none⟩) hbaw).trans s2
              have t3 := (HB3.out.cell (p := ⟨ba, offa + ix * 5 + 3, none⟩) hbaw).trans s3
              have t4 := (HB3.out.cell (p := ⟨ba, offa + ix * 5 + 4, none⟩) hbaw).trans s4
              have hba3 : ba < w3.heap.size := by have := HB3.out.size; omega
              go_wp2_with fail
              have i0 := in_cell hba3 t0
              have i1 := in_cell hba3 t1
              have i2 := in_cell hba3 t2
              have i3 := in_cell hba3 t3
              have i4 := in_cell hba3 t4
              have j0 := in_cell hbx y0
              have j1 := in_cell hbx y1
              have j2 := in_cell hbx y2
              have j3 := in_cell hbx y3
              have j4 := in_cell hbx y4
              have hne := in_some w3
              have HSX := hid (fun x : WIn w3 => HSC.out x.w (HB3.out.trans (x.h.mono HB3.out.size)))
              refine wp_region_in (by kernel_rfl) (by kernel_rfl) ?_
              repeat (go_big_quiet_step ((go_at_call 40; exact in_call (HSX.out _))))
              refine wpQuiet_nil ?_
              intro w4 hw'
              have hb4 := in_out hw'
              clear hw' hne i0 i1 i2 i3 i4 j0 j1 j2 j3 j4 t0 t1 t2 t3 t4 s0 s1 s2 s3 s4
            · have HK0 : Hid (kb = false) := HKS
              have HB4 := hid (HB3.out.trans (hb4.mono HB3.out.size))
              have HO4 := hid (HO3.out.below hb4)
              have z0 := (hb4.cell (p := ⟨wr.heap.size, 0, none⟩) hbx).trans y0
              have z1 := (hb4.cell (p := ⟨wr.heap.size, 1, none⟩) hbx).trans y1
              have z2 := (hb4.cell (p := ⟨wr.heap.size, 2, none⟩) hbx).trans y2
              have z3 := (hb4.cell (p := ⟨wr.heap.size, 3, none⟩) hbx).trans y3
              have z4 := (hb4.cell (p := ⟨wr.heap.size, 4, none⟩) hbx).trans y4
              clear hb4 y0 y1 y2 y3 y4 hbb
              go_wp2_with fail
              refine (HFR.out _ HB4.out).mono ?_
              rintro e w6 ⟨g, rfl, hg6, hb6⟩
              have HB6 := hid (HB4.out.trans (hb6.mono HB4.out.size))
              have HO6 := hid (HO4.out.below hb6)
              have HG6 := hid (hg6.mono HB4.out.size)
              have hz6 := HB6.out.size
              clear hg6 hb6
              go_wp2_with (at_builtin; refine append_rt rfl (.tmp 53) (.tmp 56) rfl w.heap.size u9 es g rfl HO6.out.1 hz6 rfl (by have := HLE.out; omega) ?_; intro v7 w7 hown7 hg7 hb7; have HO7 := hid (HO6.out.snoc HG6.out hown7 hg7); have HB7 := hid (HB6.out.trans hb7); clear hown7 hg7 hb7)
              go_roundw
              case rel => exact ⟨k + 1, es ++ [g], by omega, by go_num, hid (by rw [HSU.out, HK0.out]; exact HO7.out), HB7⟩
              case measure => simp [intOf]; omega
            · go_wp2_with fail
              go_roundw
              case rel => exact ⟨k + 1, es, by omega, by go_num, hid (by rw [HSU.out, HKS.out]; simpa using HO3.out.below hb4), hid (HB3.out.trans (hb4.mono HB3.out.size))⟩
              case measure => simp [intOf]; omega
        · obtain rfl : k = lb := by omega
          have HO9 : Hid (OwnTb wr w.heap.size u9 es (Pl.setL rs ss)) := hid (by
            have := HO.out
            rwa [List.take_of_length_le (by rw [HR2.out]; exact Nat.le_refl _)] at this)
          clear HO
          generalize u9 = v9 at *
          generalize wr = W9 at *
          go_wp2_with fail
          go_loopw [14, 61] (fun v i wq => ∃ k : Nat, k ≤ la ∧ i = .int .i64 k ∧ Hid (OwnP 58 wq W9.heap.size v (Pl.goneL (rs.take k) ss)) ∧ Hid (Below W9.heap.size W9 wq)) (fun _ i _ => la - (intOf i).toNat)
          case atStart => exact ⟨0, Nat.zero_le _, rfl, hid (OwnP.nil _ _ _), hid (Below.refl _ _)⟩
          case round =>
            obtain ⟨j, hj, rfl, HP, HQ⟩ := hrel
            have HBQ := hid (HB.out.trans (HQ.out.mono HB.out.size))
            by_cases hlt : j < la
            · obtain ⟨ba, offa, rfl, hbaw, hra⟩ := H1.out.at hlt
              have hz := HBQ.out.size
              have hzq := HQ.out.size
              obtain ⟨x0, x1, x2, x3, x4⟩ := hra.below hbaw HBQ.out j (by rw [HL1.out]; exact hlt)
              have HRD := hid (D1.out.2 j (by rw [HL1.out]; exact hlt))
              have HSU := hid (Pl.goneL_succ rs ss j (by rw [HR1.out]; exact hlt))
              have HLE : Hid ((Pl.goneL (rs.take j) ss).length ≤ 200) := hid (by
                have e1 := Pl.goneL_len (rs.take j) ss
                have e2 := List.length_take_le j rs
                omega)
              rw [HP2.out, ← HRD.out.1] at HSU
              generalize Pl.rh hs j = hh at *
              obtain ⟨⟨p1, p2⟩, here, cost, hha, hhl', hhc⟩ := hh
              simp only at x0 x1 x2 x3 x4 HSU
              obtain ⟨tt, HT⟩ : ∃ x, Hid (Pl.thereP (Pl.hp gs) (p1, p2) = x) := ⟨_, rfl⟩
              rw [HT.out] at HSU
              have HFI : Hid (∀ W, Below w.heap.size w W → Calls Tryz.prog 39 #[.slice b k cb, .agg #[.int .i64 p1, .int .i64 p2]] W fun e w' => e = .returned (.tuple #[.int .i64 (Pl.posP (Pl.hp gs) (p1, p2)), .bool tt]) ∧ Below W.heap.size W w') := hid fun W hW => by
                have := find_rib b k cb gs p1 p2 W (H2.out.below hW) HA2.out (by omega)
                rwa [HT.out] at this
              generalize Pl.posP (Pl.hp gs) (p1, p2) = ix at *
              cases tt
              · go_wp2_with fail
                refine (HFI.out _ (HBQ.out.alloc hz _)).mono ?_
                rintro e w3 ⟨rfl, hb3⟩
                obtain ⟨⟨y0, y1, y2, y3, y4⟩, hbx, hbb⟩ := box5 (by simpa using hb3)
                have HQ3 := hid (HQ.out.trans (hbb.mono hzq))
                have HP3 := hid (HP.out.below hbb)
                have hz3 := HQ3.out.size
                clear hb3 x0 x1 x2 x3 x4
                go_wp2_with (at_builtin; refine append_pairT Tryz.underlying31 infoPfxR rfl (.tmp 74) (.tmp 77) rfl W9.heap.size u14 (Pl.goneL (rs.take j) ss) (p1, p2) rfl HP3.out hz3 rfl (by have := HLE.out; omega) ?_; intro v5 w5 ho5 hb5 _; have HP5 := hid ho5; have HQ5 := hid (HQ3.out.trans hb5); clear ho5 hb5)
                go_roundw
                case rel => exact ⟨j + 1, by omega, by go_num, hid (by rw [HSU.out]; exact HP5.out), HQ5⟩
                case measure => simp [intOf]; omega
              · go_wp2_with fail
                refine (HFI.out _ (HBQ.out.alloc hz _)).mono ?_
                rintro e w3 ⟨rfl, hb3⟩
                obtain ⟨⟨y0, y1, y2, y3, y4⟩, hbx, hbb⟩ := box5 (by simpa using hb3)
                have HQ3 := hid (HQ.out.trans (hbb.mono hzq))
                have HP3 := hid (HP.out.below hbb)
                clear hb3 x0 x1 x2 x3 x4
                go_wp2_with fail
                go_roundw
                case rel => exact ⟨j + 1, by omega, by go_num, hid (by rw [HSU.out]; simpa using HP3.out), HQ3⟩
                case measure => simp [intOf]; omega
            · have HPE : Hid (OwnP 58 wr W9.heap.size u14 (Pl.goneL rs ss)) := hid (by
                have := HP.out
                rwa [List.take_of_length_le (by rw [HR1.out]; omega)] at this)
              have hnl : ¬ ((j : Int) < (la : Int)) := by omega
              go_wp2_with fail
              go_ret3
              exact ⟨_, _, by rw [HE.out.1]; rfl, ⟨es, by rw [HE.out.2.1]; exact HO9.out.below HQ.out⟩, by rw [HE.out.2.2]; exact HPE.out.mono HB.out.size, HBQ.out⟩
    · have HE : Hid (DC = c2 ∧ DS = [] ∧ DG = []) := hid (by
        have e : Pl.diffC rs ss = c2 := by unfold Pl.diffC; rw [HC1.out, if_pos rfl, HC2.out]
        rw [← HDC.out, ← HDS.out, ← HDG.out]
        unfold Pl.diffS Pl.diffG
        rw [e, if_neg hz2, if_neg hz2]
        exact ⟨rfl, rfl, rfl⟩)
      have hd0 : (c2 != 0) = true := by simpa using hz2
      clear hz2
      go_enter Tryz.func12, Tryz.ntmps12
      go_wp2_with fail
      refine (Check_rib _ _ _ hs rs _ H1.out D1.out).mono ?_
      rw [HC1.out]
      rintro e w1 ⟨rfl, hbA⟩
      go_wp2_with fail
      refine (Check_rib _ _ _ gs ss _ (H2.out.below hbA) (D2.out.below hbA)).mono ?_
      rw [HC2.out]
      rintro e w2 ⟨rfl, hbB⟩
      have HB0 := hid (hbA.trans (hbB.mono hbA.size))
      clear hbA hbB
      go_wp2_with fail
      go_ret3
      exact ⟨_, _, [], by rw [HE.out.1]; rfl, by rw [HE.out.2.1]; exact OwnTb.nil _ _, by rw [HE.out.2.2]; exact OwnP.nil _ _ _, HB0.out⟩
  · have HE : Hid (DC = c1 ∧ DS = [] ∧ DG = []) := hid (by
      have e : Pl.diffC rs ss = c1 := by unfold Pl.diffC; rw [HC1.out, if_neg hz1]
      rw [← HDC.out, ← HDS.out, ← HDG.out]
      unfold Pl.diffS Pl.diffG
      rw [e, if_neg hz1, if_neg hz1]
      exact ⟨rfl, rfl, rfl⟩)
    have hd0 : (c1 != 0) = true := by simpa using hz1
    clear hz1
    go_enter Tryz.func12, Tryz.ntmps12
    go_wp2_with fail
    refine (Check_rib _ _ _ hs rs _ H1.out D1.out).mono ?_
    rw [HC1.out]
    rintro e w1 ⟨rfl, hbA⟩
    go_wp2_with fail
    go_ret3
    exact ⟨_, _, [], by rw [HE.out.1]; rfl, by rw [HE.out.2.1]; exact OwnTb.nil _ _, by rw [HE.out.2.2]; exact OwnP.nil _ _ _, hbA⟩
end Go.Proofs.YtcdobhdbafpkiafGreatDoor
