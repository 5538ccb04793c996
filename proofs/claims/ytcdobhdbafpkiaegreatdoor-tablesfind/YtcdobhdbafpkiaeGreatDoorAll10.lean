/-
  Contracts and facts that the proof rests on, put together out of several texts.
-/
import Derived.Test.YtcdobhdbafpkiaeGreatDoorAll8
import Derived.Test.YtcdobhdbafpkiaeGreatDoorShelfB
import Derived.Lib.SlicesCompact
import Derived.Sort.Grow
import Derived.Test.YtcdobhdbafpkiaeGreatDoorAll5
import Derived.Test.YtcdobhdbafpkiaeGreatDoorAll1
/-
  Contracts: slices.Grow and slices.Concat over numbers; hops of two routes put together (unite).
-/
namespace Go.Proofs.YtcdobhdbafpkiaeGreatDoor
open Go.RowKit
set_option maxRecDepth 20000

/-! what slices.Sort and slices.Compact leave in a row of one's own -/
theorem put_heap {w : World} {g : Nat} {cur : Array Value} {T : TypeId} (hg : w.heap[g]? = some (.cells cur T (0, 0))) (d : Array Int) (n : Nat) (os : Array Obj) :
    (Go.Sort.grow (Go.Sort.putRow (Value.int .i64) (Go.Sort.ahead w n) g 0 d) os).heap[g]? = some (.cells (Go.Sort.putCells (Value.int .i64) 0 d cur) T (0, 0)) := by
  have hlt := blockLt hg
  unfold Go.Sort.grow Go.Sort.putRow Go.Sort.mapBlock
  show ((w.heap.modify g _) ++ os)[g]? = _
  rw [Array.getElem?_append_left (by simpa using hlt), Array.getElem?_modify, if_pos rfl, hg]
  rfl
theorem put_but {w : World} {g : Nat} (d : Array Int) (n : Nat) (os : Array Obj) : But g w (Go.Sort.grow (Go.Sort.putRow (Value.int .i64) (Go.Sort.ahead w n) g 0 d) os) := by
  refine ⟨rfl, rfl, rfl, ?_, fun k hk hne => ?_⟩
  · show _ ≤ ((w.heap.modify g _) ++ os).size
    simp
  · show ((w.heap.modify g _) ++ os)[k]? = _
    rw [Array.getElem?_append_left (by simpa using hk), Array.getElem?_modify, if_neg (Ne.symm hne)]
theorem put_take (d : Array Int) (cur : Array Value) (h : d.size ≤ cur.size) : (Go.Sort.putCells (Value.int .i64) 0 d cur).toList.take d.size = cellsZ d.toList := by
  apply List.ext_getElem?
  intro i
  rw [List.getElem?_take]
  by_cases hi : i < d.size
  · rw [if_pos hi, Array.getElem?_toList]
    simp [Go.Sort.putCells, cellsZ, hi, show i < cur.size by omega]
  · rw [if_neg hi]
    simp [cellsZ, show d.size ≤ i by omega]
theorem put_size (d : Array Int) (cur : Array Value) : (Go.Sort.putCells (Value.int .i64) 0 d cur).size = cur.size := by simp [Go.Sort.putCells]
theorem ownZ_row {w : World} {base g cap : Nat} {cur : Array Value} {xs : List Int} (hb : base ≤ g) (hg : w.heap[g]? = some (.cells cur 3 (0, 0))) (hc : xs.length ≤ cap) (hm : cap ≤ maxLen) (hs : cur.size = cap) (hx : cur.toList.take xs.length = cellsZ xs) : OwnZ w base (.slice (some ⟨g, 0, none⟩) xs.length cap) xs :=
  ⟨by simp [cellsZ], .inr ⟨g, cap, cur, rfl, hb, hg, hc, hm, by simpa using hs, by simpa using hx⟩⟩
theorem OwnZ.row {w : World} {base : Nat} {v : Value} {xs : List Int} (h : OwnZ w base v xs) (hne : xs ≠ []) :
    ∃ g cap cur, v = .slice (some ⟨g, 0, none⟩) xs.length cap ∧ base ≤ g ∧ w.heap[g]? = some (.cells cur 3 (0, 0)) ∧ xs.length ≤ cap ∧ cap ≤ maxLen ∧ cur.size = cap ∧ cur.toList.take xs.length = cellsZ xs := by
  obtain ⟨_, ⟨h, h1⟩ | ⟨g, cap, cur, rfl, hb, hh, hn, hm, hs, hx⟩⟩ := h
  · exact absurd (List.length_eq_zero_iff.1 h1) hne
  · exact ⟨g, cap, cur, rfl, hb, hh, hn, hm, by simpa using hs, by simpa using hx⟩
theorem holdsZ {w : World} {g : Nat} {cur : Array Value} {xs : List Int} (hg : w.heap[g]? = some (.cells cur 3 (0, 0))) (hx : cur.toList.take xs.length = cellsZ xs) : Go.Sort.Holds (Value.int .i64) w g 0 xs.toArray := by
  intro j hj
  have hj' : j < xs.length := by simpa using hj
  have h1 : (cellsZ xs)[j]? = some (.int .i64 xs[j]) := by simp [cellsZ, hj']
  rw [← hx, List.getElem?_take, if_pos hj', Array.getElem?_toList] at h1
  refine ⟨?_, ?_⟩
  · rw [Nat.zero_add]
    simp [World.cell?, hg, h1, hj']
  · rw [Nat.zero_add]
    simp [World.frozen?, hg]

/-! what compacting a rising list gives -/
theorem Pl.compact_spec (d : Array Int) (hd : ∀ i j, i < j → j < d.size → d[i]! ≤ d[j]!) : ∀ m, m ≤ d.size → (Lib.compactUpTo d m).Pairwise (· < ·) ∧ (∀ x, x ∈ Lib.compactUpTo d m ↔ ∃ j, j < m ∧ d[j]! = x)
  | 0, _ => by
    have e : Lib.compactUpTo d 0 = [] := rfl
    rw [e]; simp
  | m + 1, h => by
    obtain ⟨h1, h2⟩ := Pl.compact_spec d hd m (by omega)
    rw [Lib.compactUpTo_succ]
    by_cases k : Lib.keeps d m = true
    · rw [if_pos k]
      refine ⟨List.pairwise_append.2 ⟨h1, by simp, fun x hx y hy => ?_⟩, fun x => ?_⟩
      · obtain ⟨j, hj, rfl⟩ := (h2 x).1 hx
        simp only [List.mem_singleton] at hy
        subst hy
        have hne : d[m]! ≠ d[m - 1]! := by
          unfold Lib.keeps at k
          simp only [decide_eq_true_eq] at k
          rcases k with k | k
          · omega
          · exact k
        have a1 : d[j]! ≤ d[m - 1]! := by
          rcases Nat.lt_or_ge j (m - 1) with g | g
          · exact hd j (m - 1) g (by omega)
          · rw [show j = m - 1 by omega]; exact Int.le_refl _
        have a2 := hd (m - 1) m (by omega) (by omega)
        omega
      · rw [List.mem_append, h2, List.mem_singleton]
        constructor
        · rintro (⟨j, hj, e⟩ | e)
          · exact ⟨j, by omega, e⟩
          · exact ⟨m, by omega, e.symm⟩
        · rintro ⟨j, hj, e⟩
          rcases Nat.lt_or_ge j m with g | g
          · exact .inl ⟨j, g, e⟩
          · rw [show j = m by omega] at e; exact .inr e.symm
    · rw [if_neg k, List.append_nil]
      refine ⟨h1, fun x => ?_⟩
      rw [h2]
      have hk : ¬ (m = 0 ∨ d[m]! ≠ d[m - 1]!) := by
        unfold Lib.keeps at k
        simpa using k
      constructor
      · rintro ⟨j, hj, e⟩; exact ⟨j, by omega, e⟩
      · rintro ⟨j, hj, e⟩
        rcases Nat.lt_or_ge j m with g | g
        · exact ⟨j, g, e⟩
        · have hm : j = m := by omega
          subst hm
          refine ⟨j - 1, by omega, ?_⟩
          rw [← e]
          exact (Decidable.byContradiction fun q => hk (.inr q)).symm
theorem compact_le (zs : List Int) : (Lib.compact zs).length ≤ zs.length := by
  unfold Lib.compact Lib.compactUpTo
  rw [List.length_map]
  exact Nat.le_trans (List.length_filter_le _ _) (by simp)
theorem Pl.unite_sort (xs ys : List Int) (hx : ∀ x ∈ xs, 0 ≤ x ∧ x ≤ 11) (hy : ∀ y ∈ ys, 0 ≤ y ∧ y ≤ 11) : Lib.compact ((xs ++ ys).mergeSort fun x y => decide (x ≤ y)) = Pl.unite xs ys := by
  have hp : ((xs ++ ys).mergeSort fun x y => decide (x ≤ y)).Perm (xs ++ ys) := List.mergeSort_perm _ _
  have hs : ((xs ++ ys).mergeSort fun x y => decide (x ≤ y)).Pairwise (fun x y => decide (x ≤ y) = true) := by
    refine List.pairwise_mergeSort ?_ ?_ _
    · intro a b c h1 h2; simp only [decide_eq_true_eq] at *; omega
    · intro a b; simp only [Bool.or_eq_true, decide_eq_true_eq]; omega
  generalize ((xs ++ ys).mergeSort fun x y => decide (x ≤ y)) = zs at *
  have hd : ∀ i j, i < j → j < zs.toArray.size → zs.toArray[i]! ≤ zs.toArray[j]! := by
    intro i j hij hj
    have hj' : j < zs.length := by simpa using hj
    have := List.pairwise_iff_getElem.1 hs i j (by omega) hj' hij
    simp only [decide_eq_true_eq] at this
    simpa [getElem!_pos, hj', show i < zs.length by omega] using this
  obtain ⟨h1, h2⟩ := Pl.compact_spec zs.toArray hd zs.length (by simp)
  refine Pl.up_ext h1 (Pl.hopsL_up _ _) fun x => ?_
  rw [show (x ∈ Pl.unite xs ys) = (x ∈ xs ∨ x ∈ ys) from propext (Pl.mem_unite hx hy), ← List.mem_append, ← hp.mem_iff]
  show x ∈ Lib.compactUpTo zs.toArray zs.length ↔ _
  rw [h2]
  constructor
  · rintro ⟨j, hj, e⟩
    rw [← e]
    simp [getElem!_pos, hj]
  · intro hm
    obtain ⟨j, hj, e⟩ := List.getElem_of_mem hm
    exact ⟨j, hj, by simp [getElem!_pos, hj, e]⟩

/-! growing and appending -/
theorem append_moreI {w : World} {ops : Array Oper} {rest : List Oper} {o : Oper} {a : Act} {Q : Exit → Act → World → Prop} (hgd : o.guard = none) (s x : Operand)
    (ho : o.op = .call { callee := .builtin .append, args := #[s, x], argTypes := #[45, 45] })
    (base : Nat) (v : Value) (xs : List Int) (hown : OwnZ w base v xs) (hbase : base ≤ w.heap.size) (ao : Option Addr) (len cap : Nat) (zs : List Int) (hs : a.eval s = v) (hx : a.eval x = .slice ao len cap) (hE : IsInts w ao len cap zs) (hb : len ≤ 1000) (hb2 : xs.length ≤ 1000)
    (h : ∀ v' w', OwnZ w' base v' (xs ++ zs) → Below base w w' → wpList Tryz.prog ops Q rest (a.put o.dst v') w') : wpList Tryz.prog ops Q (o :: rest) a w := by
  obtain ⟨i0, hi0, hz0, hz1, hz2⟩ := info_parts infoZ
  obtain ⟨hl, hc, hm, hnil, hrow⟩ := hE
  have hlt := World.ownsRow.lt hown
  rcases ao with _ | ad
  · obtain rfl := hnil rfl
    obtain rfl : len = 0 := by omega
    obtain rfl : zs = [] := List.length_eq_zero_iff.1 hl
    rw [List.append_nil] at h
    exact wpList_append_own_none hgd s x 45 ho base 3 i0 1 Tryz.underlying45 hi0 _ xs.length (cellsZ xs) hs hown hx (h _ _ hown (Below.refl _ _))
  · refine wpList_append_own (w := w) hgd s x 45 ho base 3 i0 _ 1 8 Tryz.underlying45 hi0 hz0 hz1 hz2 rfl (by decide) _ xs.length (cellsZ xs) hs hown ad len cap (cellsZ zs) hx (by simp [cellsZ, hl]) ?_ (cellsZ_one _) (by unfold maxLen; omega) (by omega) hbase ?_
    · intro j u hj
      obtain ⟨hj1, rfl⟩ := cellsZ_get hj
      rcases hrow with rfl | ⟨b, off, hba, _, hr⟩
      · simp at hj1
      · cases hba
        rw [add_none]
        exact hr j hj1
    · intro v' w' hown' hg _
      refine h v' w' ?_ ((Below.refl _ _).grown hg hbase (fun k hk => (hlt k hk).1))
      unfold OwnZ
      rw [List.length_append, hl]
      simpa [cellsZ] using hown'
theorem wpList_zerosI {w : World} {ops : Array Oper} {rest : List Oper} {o : Oper} {a : Act} {Q : Exit → Act → World → Prop} (hgd : o.guard = none) (s x : Operand)
    (ho : o.op = .call { callee := .builtin .append, args := #[s, x], argTypes := #[45, 3] })
    (k : Nat) (hs : a.eval s = .slice none 0 0) (hx : a.eval x = .int .i64 (k : Int)) (h0 : 0 < k) (hbig : k ≤ 1000)
    (h : ∀ w' G cur, w'.heap[w.heap.size]? = some (.cells cur 3 (0, 0)) → cur.size = G → k ≤ G → G ≤ maxLen → Below w.heap.size w w' → wpList Tryz.prog ops Q rest (a.put o.dst (.slice (some ⟨w.heap.size, 0, none⟩) k G)) w') : wpList Tryz.prog ops Q (o :: rest) a w := by
  obtain ⟨i0, hi0, hz0, hz1, hz2⟩ := info_parts infoZ
  have hold : (Builtin.firstCells i0.size 0 (.slice none 0 0)).run Tryz.prog w.drew = .ok (#[] : Array Value) w.drew := by
    rw [hz1]; rfl
  have hr := Lib.run_append_grow_zeros w 45 3 o.type 3 i0 _ .i64 .i64 Tryz.underlying45 Tryz.underlying3 hi0 hz0 none 0 0 [] hold k h0 (by omega) (by omega) (by omega) (by rw [hz2]; omega) (by rw [hz2]; exact growslice_fits (by omega) (by omega))
  have hGn := grownCap_ge w (0 + k) 0 3
  have hGm := grownCap_le_maxLen w (0 + k) 0 3 (by unfold maxLen; omega)
  generalize grownCap w (0 + k) 0 3 = G at *
  refine Lib.wpList_append_run _ hgd s x _ _ ho _ _ hs hx _ _ hr ?_
  rw [show (0 + k) = k by omega] at *
  refine h _ G _ (heapNewZ w.drew _) ?_ hGn hGm ((Below.refl _ _).drew.alloc (Nat.le_refl _) _)
  simp [Builtin.zeroCells, Value.cells]
  omega

set_option maxHeartbeats 1000000 in
theorem GrowI_nil (k : Nat) (w : World) (h0 : 0 < k) (hk : k ≤ 1000) :
    Calls Tryz.prog 109 #[.slice none 0 0, .int .i64 (k : Int)] w fun e w' => ∃ v, e = .returned v ∧ OwnZ w' w.heap.size v [] ∧ Below w.heap.size w w' := by
  have hwr : IntKind.i64.wrap ((k : Int) - 0) = (k : Int) := by rw [IntKind.wrap_i64]; omega
  have h1 : decide ((k : Int) < 0) = false := by simp
  have h2 : decide ((0 : Int) < (k : Int)) = true := by simp; omega
  go_enter Tryz.func109, Tryz.ntmps109
  go_wp2_with (at_builtin; refine wpList_zerosI rfl (.tmp 20) (.tmp 21) rfl k rfl rfl h0 hk ?_; intro w1 G cur hg1 hc1 hG1 hG2 hb1; have HG := hid hg1; have HB := hid hb1; have HC := hid hc1; clear hg1 hb1 hc1; unfold maxLen at hG2)
  go_ret
  refine ⟨_, rfl, ?_, HB.out⟩
  exact ownZ_row (xs := []) (Nat.le_refl _) HG.out (Nat.zero_le _) (by unfold maxLen; exact hG2) HC.out (by simp [cellsZ])

/-- the first of two lists, both -/
def Pl.cat2 (xs ys : List Int) : Nat → List Int
  | 0 => []
  | 1 => xs
  | _ => xs ++ ys
set_option maxHeartbeats 2000000 in
theorem ConcatI_any (B : Nat) (a b : Option Addr) (la ca lb cb : Nat) (xs ys : List Int) (w : World) (hB : B < w.heap.size) (c0 : w.cell? ⟨B, 0, none⟩ = some (.slice a la ca)) (c1 : w.cell? ⟨B, 1, none⟩ = some (.slice b lb cb)) (h1 : IsInts w a la ca xs) (h2 : IsInts w b lb cb ys) (hx : 0 < la) (hla : la ≤ 12) (hlb : lb ≤ 12) :
    Calls Tryz.prog 90 #[.slice (some ⟨B, 0, none⟩) 2 2] w fun e w' => ∃ v, e = .returned v ∧ OwnZ w' w.heap.size v (xs ++ ys) ∧ Below w.heap.size w w' := by
  have H1 := hid h1
  have H2 := hid h2
  have C0 := hid c0
  have C1 := hid c1
  have HLX : Hid (xs.length = la) := hid h1.1
  have HLY : Hid (ys.length = lb) := hid h2.1
  have hwa : IntKind.i64.wrap (0 + (la : Int)) = (la : Int) := by rw [IntKind.wrap_i64]; omega
  have hwb : IntKind.i64.wrap ((la : Int) + (lb : Int)) = ((la + lb : Nat) : Int) := by rw [IntKind.wrap_i64]; omega
  obtain ⟨S, hS⟩ : ∃ S, la + lb = S := ⟨_, rfl⟩
  rw [hS] at hwb
  have hna : decide ((la : Int) < 0) = false := by simp
  have hnb : decide ((S : Int) < 0) = false := by simp
  clear h1 h2 c0 c1
  go_enter Tryz.func90, Tryz.ntmps90
  go_wp2_with fail
  go_loopw [3, 11] (fun s i wr => ∃ k : Nat, k ≤ 2 ∧ i = .int .i64 k ∧ s = .int .i64 ((if k = 0 then 0 else if k = 1 then la else S : Nat) : Int) ∧ Hid (Below w.heap.size w wr)) (fun _ i _ => 2 - (intOf i).toNat)
  case atStart => exact ⟨0, by omega, rfl, rfl, hid (Below.refl _ _)⟩
  case round =>
    obtain ⟨k, hk, rfl, rfl, HB⟩ := hrel
    have d0 := (HB.out.cell (p := ⟨B, 0, none⟩) hB).trans C0.out
    have d1 := (HB.out.cell (p := ⟨B, 1, none⟩) hB).trans C1.out
    have hBr : B < wr.heap.size := Nat.lt_of_lt_of_le hB HB.out.size
    have hcs : k = 0 ∨ k = 1 ∨ k = 2 := by omega
    rcases hcs with rfl | rfl | rfl
    · go_wp2_with fail
      go_roundw
      case rel => exact ⟨1, by omega, by go_num, rfl, HB⟩
      case measure => simp [intOf]
    · go_wp2_with fail
      go_roundw
      case rel => exact ⟨2, by omega, by go_num, rfl, HB⟩
      case measure => simp [intOf]
    · go_wp2_with fail
      refine (GrowI_nil S wr (by omega) (by omega)).mono ?_
      rintro e w1 ⟨v1, rfl, ho1, hb1⟩
      have HO1 := hid (ho1.mono HB.out.size)
      have HB1 : Hid (Below w.heap.size w w1) := hid (HB.out.trans (hb1.mono HB.out.size))
      clear ho1 hb1
      go_wp2_with fail
      go_loopw [6, 27] (fun v i wr => ∃ k : Nat, k ≤ 2 ∧ i = .int .i64 k ∧ Hid (OwnZ wr w.heap.size v (Pl.cat2 xs ys k)) ∧ Hid (Below w.heap.size w wr)) (fun _ i _ => 2 - (intOf i).toNat)
      case atStart => exact ⟨0, by omega, rfl, HO1, HB1⟩
      case round =>
        obtain ⟨k, hk, rfl, HO, HBk⟩ := hrel
        rename World => wk
        have d0 := (HBk.out.cell (p := ⟨B, 0, none⟩) hB).trans C0.out
        have d1 := (HBk.out.cell (p := ⟨B, 1, none⟩) hB).trans C1.out
        have hBk : B < wk.heap.size := Nat.lt_of_lt_of_le hB HBk.out.size
        have hcs : k = 0 ∨ k = 1 ∨ k = 2 := by omega
        rcases hcs with rfl | rfl | rfl
        · go_wp2_with (at_builtin; refine append_moreI rfl (.tmp 31) (.tmp 32) rfl w.heap.size _ [] HO.out HBk.out.size a la ca xs rfl rfl (H1.out.below HBk.out) (by omega) (by simp) ?_; intro v2 w2 ho2 hb2; have HO2 := hid ho2; have HB2 := hid hb2; clear ho2 hb2)
          go_roundw
          case rel => exact ⟨1, by omega, by go_num, HO2, hid (HBk.out.trans HB2.out)⟩
          case measure => simp [intOf]
        · go_wp2_with (at_builtin; refine append_moreI rfl (.tmp 31) (.tmp 32) rfl w.heap.size _ xs HO.out HBk.out.size b lb cb ys rfl rfl (H2.out.below HBk.out) (by omega) (by have := HLX.out; omega) ?_; intro v2 w2 ho2 hb2; have HO2 := hid ho2; have HB2 := hid hb2; clear ho2 hb2)
          go_roundw
          case rel => exact ⟨2, by omega, by go_num, HO2, hid (HBk.out.trans HB2.out)⟩
          case measure => simp [intOf]
        · go_wp2_with fail
          go_ret
          exact ⟨_, rfl, HO.out, HBk.out⟩
end Go.Proofs.YtcdobhdbafpkiaeGreatDoor
/-
  Contract: hops of two routes put together (unite).
-/
namespace Go.Proofs.YtcdobhdbafpkiaeGreatDoor
open Go.RowKit
set_option maxRecDepth 20000

set_option maxHeartbeats 8000000 in
theorem unite_any (a b : Option Addr) (la ca lb cb : Nat) (xs ys : List Int) (w : World) (h1 : IsInts w a la ca xs) (h2 : IsInts w b lb cb ys) (hx : 0 < la) (hla : la ≤ 12) (hlb : lb ≤ 12) (rx : ∀ x ∈ xs, 0 ≤ x ∧ x ≤ 11) (ry : ∀ y ∈ ys, 0 ≤ y ∧ y ≤ 11) :
    Calls Tryz.prog 72 #[.slice a la ca, .slice b lb cb] w fun e w' => ∃ v, e = .returned v ∧ OwnZ w' w.heap.size v (Pl.unite xs ys) ∧ Below w.heap.size w w' := by
  have HAL : Hid (Below w.heap.size w (w.alloc (.cells #[.slice a la ca, .slice b lb cb] 45))) := hid ((Below.refl _ _).alloc (Nat.le_refl _) _)
  have HCC := hid (ConcatI_any w.heap.size a b la ca lb cb xs ys (w.alloc (.cells #[.slice a la ca, .slice b lb cb] 45)) (by simp) (by simp) (by simp) (h1.below HAL.out) (h2.below HAL.out) hx hla hlb)
  have HNE : Hid (xs ++ ys ≠ []) := hid (by intro e; have := h1.1; rw [(List.append_eq_nil_iff.1 e).1] at this; simp at this; omega)
  have HLN : Hid ((xs ++ ys).length = la + lb) := hid (by rw [List.length_append, h1.1, h2.1])
  have HUS := hid (Pl.unite_sort xs ys rx ry)
  obtain ⟨U, HUU⟩ : ∃ U, Hid (Pl.unite xs ys = U) := ⟨_, hid rfl⟩
  rw [HUU.out] at HUS ⊢
  clear h1 h2
  go_enter Tryz.func72, Tryz.ntmps72
  go_wp2_with fail
  refine HCC.out.mono ?_
  rintro e w1 ⟨v1, rfl, ho1, hb1⟩
  obtain ⟨g, cap, cur, rfl, hbg, hg, hn, hm, hs, ht⟩ := ho1.row HNE.out
  have HG := hid hg
  have HT := hid ht
  have HS := hid hs
  have HM := hid hm
  have hgl := blockLt hg
  have HBG : Hid (w.heap.size ≤ g) := hid (by have := hbg; simp at this; omega)
  have HB1 : Hid (Below w.heap.size w w1) := hid (HAL.out.trans (hb1.mono HAL.out.size))
  have HHO := hid (holdsZ hg ht)
  obtain ⟨zs, HZ⟩ : ∃ zs, Hid (xs ++ ys = zs) := ⟨_, hid rfl⟩
  rw [HZ.out] at HLN HNE HHO HT hn HUS ⊢
  clear ho1 hb1 hg ht hs hm hbg
  go_wp2_with fail
  refine (Tryz.slices_Sort_int g 0 cap zs w1 HHO.out hgl (by have := HLN.out; omega)).mono ?_
  rintro e w2 ⟨rfl, n2, os2, hw2⟩
  have HG2 : Hid (w2.heap[g]? = some (.cells (Go.Sort.putCells (Value.int .i64) 0 (zs.mergeSort fun x y => decide (x ≤ y)).toArray cur) 3 (0, 0))) := hid (by rw [hw2]; exact put_heap HG.out _ _ _)
  have HU2 : Hid (But g w1 w2) := hid (by rw [hw2]; exact put_but _ _ _)
  clear hw2
  have hgl2 : g < w2.heap.size := Nat.lt_of_lt_of_le hgl HU2.out.size
  have HL2 : Hid ((zs.mergeSort fun x y => decide (x ≤ y)).length = zs.length) := hid (by simp)
  have HT2 := hid (put_take (zs.mergeSort fun x y => decide (x ≤ y)).toArray cur (by simp only [List.size_toArray]; rw [HL2.out, HS.out]; exact hn))
  have HS2 := hid ((put_size (zs.mergeSort fun x y => decide (x ≤ y)).toArray cur).trans HS.out)
  obtain ⟨ms, HMS⟩ : ∃ ms, Hid ((zs.mergeSort fun x y => decide (x ≤ y)) = ms) := ⟨_, hid rfl⟩
  rw [HMS.out] at HG2 HL2 HT2 HS2 HUS
  obtain ⟨cur2, HC2⟩ : ∃ c, Hid (Go.Sort.putCells (Value.int .i64) 0 ms.toArray cur = c) := ⟨_, hid rfl⟩
  rw [HC2.out] at HG2 HT2 HS2
  have HT2' : Hid (cur2.toList.take ms.length = cellsZ ms) := hid (by simpa using HT2.out)
  have HH2 := hid (holdsZ HG2.out HT2'.out)
  rw [← HL2.out]
  go_wp2_with fail
  refine (Tryz.slices_Compact_int g 0 cap ms w2 HH2.out (by have := HL2.out; have := HLN.out; omega) (by have := HL2.out; omega)).mono ?_
  rw [HUS.out]
  rintro e w3 ⟨rfl, n3, hw3⟩
  have HUL : Hid (U.length ≤ ms.length) := hid (by have := compact_le ms; rwa [HUS.out] at this)
  have HG3 : Hid (w3.heap[g]? = some (.cells (Go.Sort.putCells (Value.int .i64) 0 (U ++ List.replicate (ms.length - (U).length) 0).toArray cur2) 3 (0, 0))) := hid (by
    rw [hw3]
    have := put_heap HG2.out (U ++ List.replicate (ms.length - (U).length) 0).toArray n3 #[]
    rwa [Go.Sort.grow_empty] at this)
  have HU3 : Hid (But g w2 w3) := hid (by
    rw [hw3]
    have := put_but (w := w2) (g := g) (U ++ List.replicate (ms.length - (U).length) 0).toArray n3 #[]
    rwa [Go.Sort.grow_empty] at this)
  have HT3 := hid (put_take (U ++ List.replicate (ms.length - (U).length) 0).toArray cur2 (by have := HUL.out; have := HL2.out; rw [HS2.out]; simp; omega))
  have HS3 := hid ((put_size (U ++ List.replicate (ms.length - (U).length) 0).toArray cur2).trans HS2.out)
  clear hw3
  go_wp2_with fail
  go_ret
  refine ⟨_, rfl, ownZ_row HBG.out HG3.out (by have := HUL.out; have := HL2.out; omega) HM.out HS3.out ?_, ?_⟩
  · have h := HT3.out
    have hsz : (U ++ List.replicate (ms.length - (U).length) 0).toArray.size = ms.length := by have := HUL.out; simp; omega
    rw [hsz] at h
    have h2 := congrArg (List.take (U).length) h
    rw [List.take_take, Nat.min_eq_left HUL.out] at h2
    rw [h2]
    simp [cellsZ]
  · exact HB1.out.trans ((HU2.out.trans HU3.out).below HBG.out HB1.out.size)
end Go.Proofs.YtcdobhdbafpkiaeGreatDoor
/-
  Contract: the best of two routes (best).
-/
namespace Go.Proofs.YtcdobhdbafpkiaeGreatDoor
open Go.RowKit
set_option maxRecDepth 20000

theorem Pl.hopsB_le12 {l : List Int} (h : Pl.hopsB l = true) : l.length ≤ 12 := by
  have key : ∀ k, k < l.length → (k : Int) ≤ Pl.nm l k := by
    intro k
    induction k with
    | zero => intro hk; have := Pl.hopsB_at h 0 hk; rw [Pl.hopB_zero] at this; simp at this; exact this.1
    | succ k ih =>
      intro hk
      have h1 := ih (by omega)
      have h2 := Pl.hopsB_at h (k + 1) hk
      rw [Pl.hopB_succ] at h2
      simp at h2
      omega
  rcases Nat.lt_or_ge 12 l.length with g | g
  · have h1 := key 12 g
    have h2 := Pl.hopsB_range h _ (List.getElem_mem g)
    rw [← Pl.nm_eq l 12 g] at h2
    omega
  · exact g
theorem bx5 {w : World} {b : Nat} {c0 c1 c2 c3 c4 : Value} {T : TypeId} (h : w.heap[b]? = some (.cells #[c0, c1, c2, c3, c4] T)) :
    (w.cell? ⟨b, 0, none⟩ = some c0 ∧ w.cell? ⟨b, 1, none⟩ = some c1 ∧ w.cell? ⟨b, 2, none⟩ = some c2 ∧ w.cell? ⟨b, 3, none⟩ = some c3 ∧ w.cell? ⟨b, 4, none⟩ = some c4) ∧ (∀ o, w.frozen? ⟨b, o, none⟩ = false) ∧ b < w.heap.size := by
  refine ⟨⟨?_, ?_, ?_, ?_, ?_⟩, fun o => ?_, blockLt h⟩
  iterate 5 simp [World.cell?, h]
  simp [World.frozen?, h]
theorem three {w : World} (A B C : Obj) : ((((w.alloc A).alloc B).alloc C).heap[w.heap.size]? = some A) ∧ ((((w.alloc A).alloc B).alloc C).heap[w.heap.size + 1]? = some B) ∧ ((((w.alloc A).alloc B).alloc C).heap[w.heap.size + 2]? = some C) ∧ (((w.alloc A).alloc B).alloc C).heap.size = w.heap.size + 3 ∧ Below w.heap.size w (((w.alloc A).alloc B).alloc C) := by
  have e1 : (w.alloc A).heap.size = w.heap.size + 1 := by simp
  have e2 : ((w.alloc A).alloc B).heap.size = w.heap.size + 2 := by simp
  refine ⟨?_, ?_, ?_, by simp, (((Below.refl _ _).alloc (Nat.le_refl _) _).alloc (by simp) _).alloc (by simp; omega) _⟩
  · rw [Below.heap_alloc _ _ _ (by simp; omega), Below.heap_alloc _ _ _ (by simp)]; exact heapNewZ w A
  · rw [Below.heap_alloc _ _ _ (by simp)]
    have := heapNewZ (w.alloc A) B
    rwa [e1] at this
  · have := heapNewZ ((w.alloc A).alloc B) C
    rwa [e2] at this

set_option maxHeartbeats 4000000 in
theorem best_any (base : Nat) (g h : Pl.RH) (r s : Pl.Rt) (w : World) (hg : ReadsZ w base g r) (hh : ReadsZ w base h s) (hb : base ≤ w.heap.size) (hr : Pl.hopsB r.hops = true) (hs : Pl.hopsB s.hops = true) (hne : s.cost = r.cost → r.hops ≠ []) :
    Calls Tryz.prog 43 #[.agg #[.int .i64 g.p.1, .int .i64 g.p.2, .bool g.here, .int .i64 g.cost, .slice g.ha g.hl g.hc], .agg #[.int .i64 h.p.1, .int .i64 h.p.2, .bool h.here, .int .i64 h.cost, .slice h.ha h.hl h.hc]] w fun e w' =>
      ∃ k : Pl.RH, e = .returned (.agg #[.int .i64 k.p.1, .int .i64 k.p.2, .bool k.here, .int .i64 k.cost, .slice k.ha k.hl k.hc]) ∧ ReadsZ w' base k (Pl.bestR r s) ∧ Below w.heap.size w w' := by
  have HG := hid hg
  have HH := hid hh
  have HGC : Hid (g.cost = r.cost) := hid hg.2.2.1
  have HHC : Hid (h.cost = s.cost) := hid hh.2.2.1
  have HGL : Hid (g.hl = r.hops.length) := hid (by
    obtain ⟨a, cap, e, _, _⟩ := hg.2.2.2.1.ints
    simp only [Value.slice.injEq] at e; exact e.2.1)
  have HHL : Hid (h.hl = s.hops.length) := hid (by
    obtain ⟨a, cap, e, _, _⟩ := hh.2.2.2.1.ints
    simp only [Value.slice.injEq] at e; exact e.2.1)
  have HR := hid hr
  have HS := hid hs
  have HNE := hid hne
  clear hg hh hr hs hne
  obtain ⟨⟨p1, p2⟩, gh, gc, ga, gl, gcap⟩ := g
  obtain ⟨⟨q1, q2⟩, hhr, hc, ha, hl, hcap⟩ := h
  simp only at HG HH HGC HHC HGL HHL
  simp only
  have H3 := hid (three (w := w) (.cells #[.int .i64 p1, .int .i64 p2, .bool gh, .int .i64 gc, .slice ga gl gcap] 47) (.cells #[.int .i64 q1, .int .i64 q2, .bool hhr, .int .i64 hc, .slice ha hl hcap] 47) (.cells #[.int .i64 0, .int .i64 0, .bool false, .int .i64 0, .slice none 0 0] 47))
  by_cases hlt : hc < gc
  · have hlt' : decide (hc < gc) = true := by simpa using hlt
    have HBR : Hid (Pl.bestR r s = s) := hid (by unfold Pl.bestR; rw [if_pos (by rw [← HHC.out, ← HGC.out]; exact hlt)])
    clear hlt
    go_enter Tryz.func43, Tryz.ntmps43
    go_wp2_with fail
    have HB3 := hid (three (w := w) (.cells #[.int .i64 p1, .int .i64 p2, .bool gh, .int .i64 gc, .slice ga gl gcap] 47) (.cells #[.int .i64 q1, .int .i64 q2, .bool hhr, .int .i64 hc, .slice ha hl hcap] 47) (.cells #[.int .i64 q1, .int .i64 q2, .bool hhr, .int .i64 hc, .slice ha hl hcap] 47)).2.2.2.2
    refine bodyPost_ret (v := .agg #[.int .i64 q1, .int .i64 q2, .bool hhr, .int .i64 hc, .slice ha hl hcap]) (by simp [results, Tryz.results43, go_sem]) rfl ⟨⟨(q1, q2), hhr, hc, ha, hl, hcap⟩, rfl, ?_, HB3.out⟩
    rw [HBR.out]
    exact HH.out.below HB3.out
  · have hlt' : decide (hc < gc) = false := by simpa using hlt
    by_cases heq : hc = gc
    · have heq' : (hc == gc) = true := by simpa using heq
      have HBR : Hid (Pl.bestR r s = ⟨r.p, r.here, r.cost, Pl.unite r.hops s.hops⟩) := hid (by unfold Pl.bestR; rw [if_neg (by rw [← HHC.out, ← HGC.out]; exact hlt), if_pos (by rw [← HHC.out, ← HGC.out]; exact heq)])
      obtain ⟨U, HU⟩ : ∃ U, Hid (Pl.unite r.hops s.hops = U) := ⟨_, hid rfl⟩
      rw [HU.out] at HBR
      have HL1 := hid (Pl.hopsB_le12 HR.out)
      have HL2 := hid (Pl.hopsB_le12 HS.out)
      have HN : Hid (0 < gl) := hid (by
        rw [HGL.out]
        exact List.length_pos_iff.2 (HNE.out (by rw [← HHC.out, ← HGC.out]; exact heq)))
      have HUA := hid (unite_any ga ha gl gcap hl hcap r.hops s.hops _ ((HG.out.below H3.out.2.2.2.2).reads.1.2.2.2.1) ((HH.out.below H3.out.2.2.2.2).reads.1.2.2.2.1) HN.out (by rw [HGL.out]; exact HL1.out) (by rw [HHL.out]; exact HL2.out) (Pl.hopsB_range HR.out) (Pl.hopsB_range HS.out))
      clear heq hlt
      go_enter Tryz.func43, Tryz.ntmps43
      go_wp2_with fail
      refine HUA.out.mono ?_
      rw [HU.out]
      rintro e w4 ⟨v4, rfl, ho4, hb4⟩
      obtain ⟨b0, b1, b2, bz, bb⟩ := H3.out
      rw [bz] at hb4 ho4
      obtain ⟨⟨x0, x1, x2, x3, x4⟩, xf, xl⟩ := bx5 ((hb4.block w.heap.size (by omega)).trans b0)
      obtain ⟨⟨y0, y1, y2, y3, y4⟩, yf, yl⟩ := bx5 ((hb4.block (w.heap.size + 2) (by omega)).trans b2)
      have HB4 : Hid (Below w.heap.size w w4) := hid (bb.trans (hb4.mono (by omega)))
      obtain ⟨a4, c4, rfl, _, _⟩ := ho4.ints
      have HO4 := hid ho4
      clear ho4 hb4 b0 b1 b2 bz bb HUA
      obtain ⟨n4, HN4⟩ : ∃ n, Hid (U.length = n) := ⟨_, hid rfl⟩
      rw [HN4.out] at HO4 ⊢
      go_wp2_with fail
      refine bodyPost_ret (v := .agg #[.int .i64 p1, .int .i64 p2, .bool gh, .int .i64 gc, .slice a4 n4 c4]) (by simp [results, Tryz.results43, go_sem, y0, y1, y2, y3, y4]) rfl ⟨⟨(p1, p2), gh, gc, a4, n4, c4⟩, rfl, ?_, ?_⟩
      · rw [HBR.out]
        refine ⟨HG.out.1, HG.out.2.1, HG.out.2.2.1, ?_, HG.out.2.2.2.2⟩
        refine OwnZ.mono (base := w.heap.size + 3) ?_ (by omega)
        refine OwnZ.but (B := w.heap.size + 2) (w := w4.setCell ⟨w.heap.size, 4, none⟩ (.slice a4 n4 c4)) (OwnZ.but HO4.out ((But.refl w.heap.size w4).setCell _ _) (.inl (by omega))) ?_ (.inl (by omega))
        exact (((((But.refl _ _).setCell _ _).setCell _ _).setCell _ _).setCell _ _).setCell _ _
      · have hle : w.heap.size ≤ w.heap.size + 1 + 1 := by omega
        exact ((((((HB4.out.setCell (Nat.le_refl _) _).setCell hle _).setCell hle _).setCell hle _).setCell hle _).setCell hle _)
    · have heq' : (hc == gc) = false := by simpa using heq
      have HBR : Hid (Pl.bestR r s = r) := hid (by unfold Pl.bestR; rw [if_neg (by rw [← HHC.out, ← HGC.out]; exact hlt), if_neg (by rw [← HHC.out, ← HGC.out]; exact heq)])
      clear heq hlt
      go_enter Tryz.func43, Tryz.ntmps43
      go_wp2_with fail
      have HB3 := hid (three (w := w) (.cells #[.int .i64 p1, .int .i64 p2, .bool gh, .int .i64 gc, .slice ga gl gcap] 47) (.cells #[.int .i64 q1, .int .i64 q2, .bool hhr, .int .i64 hc, .slice ha hl hcap] 47) (.cells #[.int .i64 p1, .int .i64 p2, .bool gh, .int .i64 gc, .slice ga gl gcap] 47)).2.2.2.2
      refine bodyPost_ret (v := .agg #[.int .i64 p1, .int .i64 p2, .bool gh, .int .i64 gc, .slice ga gl gcap]) (by simp [results, Tryz.results43, go_sem]) rfl ⟨⟨(p1, p2), gh, gc, ga, gl, gcap⟩, rfl, ?_, HB3.out⟩
      rw [HBR.out]
      exact HG.out.below HB3.out
end Go.Proofs.YtcdobhdbafpkiaeGreatDoor
/-
  Contracts: what areHops and isRoute answer at every list of numbers and every route.
-/
namespace Go.Proofs.YtcdobhdbafpkiaeGreatDoor
open Go.RowKit
set_option maxRecDepth 20000

set_option maxHeartbeats 1000000 in
theorem areHops_any (a : Option Addr) (len cap : Nat) (zs : List Int) (w : World) (h : IsInts w a len cap zs) :
    Calls Tryz.prog 67 #[.slice a len cap] w fun e w' => e = .returned (.bool (Pl.hopsB zs)) ∧ w' = w := by
  have HH := hid h
  have hl := h.1
  have hc := h.2.1
  have hm := h.2.2.1
  unfold maxLen at hm
  clear h
  go_enter Tryz.func67, Tryz.ntmps67
  go_wp2
  go_loop [7] (fun i => ∃ k : Nat, k ≤ len ∧ i = .int .i64 k ∧ Hid (∀ j, j < k → Pl.hopB zs j = true)) (fun i => len - (intOf i).toNat)
  case atStart => exact ⟨0, Nat.zero_le _, rfl, hid (by intro j hj; omega)⟩
  case round =>
    obtain ⟨k, hk, rfl, HK⟩ := hrel
    by_cases hlt : k < len
    · obtain ⟨b, off, rfl, hb, hr⟩ := HH.out.at hlt
      have c0 := hr k (by omega)
      obtain ⟨z, HZ⟩ : ∃ z, Hid (Pl.nm zs k = z) := ⟨_, rfl⟩
      rw [HZ.out] at c0
      obtain ⟨ob, HO⟩ : ∃ c, Hid (decide (0 ≤ z ∧ z ≤ 11) = c) := ⟨_, rfl⟩
      have HN : Hid (∀ W, Calls Tryz.prog 28 #[.int .i64 z] W fun e w' => e = .returned (.bool ob) ∧ w' = W) := by
        refine hid fun W => ?_
        have := isNode_any z W
        rwa [HO.out] at this
      have HF : Hid (Pl.hopB zs k = false → Pl.hopsB zs = false) := hid fun hh => Pl.hopsB_false (by omega) hh
      cases ob
      · have HB : Hid (Pl.hopB zs k = false) := hid (by unfold Pl.hopB; rw [HZ.out, HO.out]; rfl)
        go_wp2_with (go_at_call 28; refine (HN.out _).mono ?_; rintro e w' ⟨rfl, rfl⟩)
        go_ret
        exact ⟨ret_bool (HF.out HB.out).symm, rfl⟩
      · rcases Nat.eq_zero_or_pos k with hk0 | hk0
        · have hd : decide (0 < k) = false := by simp; omega
          have HB : Hid (Pl.hopB zs k = true) := hid (by rw [hk0, Pl.hopB_zero, ← hk0, HZ.out, HO.out])
          have HK0 := hid hk0
          clear hk0
          go_wp2_with (go_at_call 28; refine (HN.out _).mono ?_; rintro e w' ⟨rfl, rfl⟩)
          go_round
          case rel => exact ⟨k + 1, by omega, by go_num, hid fun j hj => by have := HK0.out; obtain rfl : j = k := (by omega); exact HB.out⟩
          case measure => simp [intOf]; omega
        · obtain ⟨m, rfl⟩ : ∃ m, k = m + 1 := ⟨k - 1, by omega⟩
          have c1 := hr m (by omega)
          obtain ⟨y, HY⟩ : ∃ z, Hid (Pl.nm zs m = z) := ⟨_, rfl⟩
          rw [HY.out] at c1
          have HBE : Hid (Pl.hopB zs (m + 1) = decide (y < z)) := hid (by rw [Pl.hopB_succ, HZ.out, HY.out, HO.out]; rfl)
          by_cases hle : z ≤ y
          · have HB : Hid (Pl.hopB zs (m + 1) = false) := hid (by rw [HBE.out]; simp; omega)
            go_wp2_with (go_at_call 28; refine (HN.out _).mono ?_; rintro e w' ⟨rfl, rfl⟩)
            go_ret
            exact ⟨ret_bool (HF.out HB.out).symm, rfl⟩
          · have HB : Hid (Pl.hopB zs (m + 1) = true) := hid (by rw [HBE.out]; simp; omega)
            go_wp2_with (go_at_call 28; refine (HN.out _).mono ?_; rintro e w' ⟨rfl, rfl⟩)
            go_round
            case rel => exact ⟨m + 1 + 1, by omega, by go_num, hid fun j hj => by rcases Nat.lt_or_ge j (m + 1) with q | q; exact HK.out j q; obtain rfl : j = m + 1 := (by omega); exact HB.out⟩
            case measure => simp [intOf]; omega
    · obtain rfl : k = len := by omega
      have HB : Hid (Pl.hopsB zs = true) := hid (Pl.hopsB_true (by rw [hl]; exact HK.out))
      go_wp2
      go_ret
      exact ⟨ret_bool HB.out.symm, rfl⟩

/-- one prefix as a list -/
theorem Pl.pfxF_one (p : Int × Int) : Pl.pfxF [p] = Pl.pfx1 p := by
  unfold Pl.pfxF Pl.pfxN Pl.pfxN
  by_cases h : Pl.pfx1 p = 0 <;> simp [Pl.pr, h]
theorem onePair (w : World) (n : Nat) (p1 p2 : Int) (T : TypeId) (h : Pl.pairOk (p1, p2)) (hn : w.heap.size = n) : IsPairs (w.alloc (.cells #[.int .i64 p1, .int .i64 p2] T)) (some ⟨n, 0, none⟩) 1 1 [(p1, p2)] := by
  subst hn
  refine ⟨rfl, Nat.le_refl _, by unfold maxLen; omega, by simpa using h, .inr ⟨w.heap.size, 0, rfl, by simp, ?_⟩⟩
  intro i hi
  simp at hi
  subst hi
  simp [Pl.pr]
theorem Pl.routeB_pfx {r : Pl.Rt} (h : ¬ Pl.pfx1 r.p = 0) : Pl.routeB r = false := by unfold Pl.routeB; rw [decide_eq_false h]; rfl
theorem Pl.routeB_here {r : Pl.Rt} (h : Pl.pfx1 r.p = 0) (k : r.here = true) : Pl.routeB r = (decide (r.cost = 0) && decide (r.hops.length = 0)) := by
  unfold Pl.routeB
  rw [decide_eq_true h, k, Bool.eq_iff_iff]
  simp only [Bool.true_and, if_true, Bool.and_eq_true, decide_eq_true_eq, List.length_eq_zero_iff]
  constructor
  · rintro ⟨⟨_, h1, h2⟩, _⟩; exact ⟨h1, h2⟩
  · rintro ⟨h1, h2⟩; rw [h1, h2]; exact ⟨⟨by omega, rfl, rfl⟩, rfl⟩
theorem Pl.routeB_there {r : Pl.Rt} (h : Pl.pfx1 r.p = 0) (k : r.here = false) : Pl.routeB r = (decide (0 ≤ r.cost) && decide (r.cost ≤ 1048576) && decide (0 < r.hops.length) && Pl.hopsB r.hops) := by
  unfold Pl.routeB
  rw [decide_eq_true h, k, Bool.eq_iff_iff]
  simp [List.length_pos_iff]

/-- a route as a value -/
def Pl.RH.val (h : Pl.RH) : Value := .agg #[.int .i64 h.p.1, .int .i64 h.p.2, .bool h.here, .int .i64 h.cost, .slice h.ha h.hl h.hc]

set_option maxHeartbeats 2000000 in
theorem isRoute_any (h : Pl.RH) (r : Pl.Rt) (w : World) (hr : Reads w h r) :
    Calls Tryz.prog 39 #[.agg #[.int .i64 h.p.1, .int .i64 h.p.2, .bool h.here, .int .i64 h.cost, .slice h.ha h.hl h.hc]] w fun e w' => e = .returned (.bool (Pl.routeB r)) ∧ Below w.heap.size w w' := by
  obtain ⟨h1, h2, h3, h4, h5⟩ := hr
  obtain ⟨⟨p1, p2⟩, here, cost, ha, hl, hc⟩ := h
  simp only at h1 h2 h3 h4
  simp only
  obtain ⟨R, HR⟩ : ∃ R, Hid (Pl.routeB r = R) := ⟨_, rfl⟩
  rw [HR.out]
  have HP : Hid (Pl.pairOk (p1, p2)) := hid (by rw [h1]; exact h5)
  obtain ⟨c, HC⟩ : ∃ c, Hid (Pl.pfxF [(p1, p2)] = c) := ⟨_, rfl⟩
  have HC1 : Hid (Pl.pfx1 r.p = c) := hid (by rw [← HC.out, Pl.pfxF_one, h1])
  have HI := hid h4
  have HL : Hid (r.hops.length = hl) := hid h4.1
  have hlc := h4.2.1
  have hcm := h4.2.2.1
  unfold maxLen at hcm
  by_cases hc0 : c = 0
  · subst hc0
    have hpf := HC1.out
    cases here
    · have HRB : Hid (R = (decide (0 ≤ cost) && decide (cost ≤ 1048576) && decide (0 < hl) && Pl.hopsB r.hops)) := hid (by rw [← HR.out, Pl.routeB_there hpf h2.symm, h3, HL.out])
      obtain ⟨hb, HHB⟩ : ∃ c, Hid (Pl.hopsB r.hops = c) := ⟨_, rfl⟩
      rw [HHB.out] at HRB
      clear hpf h1 h2 h3 h4 h5
      by_cases g1 : 0 ≤ cost
      all_goals by_cases g2 : cost ≤ 1048576
      all_goals by_cases g3 : 0 < hl
      all_goals first | (exfalso; omega) | skip
      all_goals
        go_enter Tryz.func39, Tryz.ntmps39
        go_wp2_with fail
        refine (CheckPrefixes_any _ _ _ [(p1, p2)] _ (onePair _ _ p1 p2 _ HP.out (by simp))).mono ?_
        rw [HC.out]
        rintro e w1 ⟨rfl, hb1⟩
        have x2 : w1.cell? ⟨w.heap.size, 2, none⟩ = some (.bool false) := (hb1.cell (by simp; omega)).trans (by simp)
        have x3 : w1.cell? ⟨w.heap.size, 3, none⟩ = some (.int .i64 cost) := (hb1.cell (by simp; omega)).trans (by simp)
        have x4 : w1.cell? ⟨w.heap.size, 4, none⟩ = some (.slice ha hl hc) := (hb1.cell (by simp; omega)).trans (by simp)
        have hbw : Below w.heap.size w w1 := (((Below.refl _ _).alloc (Nat.le_refl _) _).alloc (by simp) _).trans (hb1.mono (by simp; omega))
        have HHO : Hid (Calls Tryz.prog 67 #[.slice ha hl hc] w1 fun e w' => e = .returned (.bool hb) ∧ w' = w1) := by
          refine hid ?_
          have := areHops_any ha hl hc r.hops w1 (HI.out.below hbw)
          rwa [HHB.out] at this
        clear hb1
        go_wp2_with (go_at_call 67; refine HHO.out.mono ?_; rintro e w' ⟨rfl, rfl⟩)
        go_ret
        exact ⟨ret_bool (by rw [HRB.out]; simp [g1, g2, g3] <;> (intros; omega)), hbw⟩
    · have HRB : Hid (R = (decide (cost = 0) && decide (hl = 0))) := hid (by rw [← HR.out, Pl.routeB_here hpf h2.symm, h3, HL.out])
      clear hpf h1 h2 h3 h4 h5
      obtain ⟨e1, g1⟩ : ∃ c, (cost == 0) = c := ⟨_, rfl⟩
      obtain ⟨e3, g3⟩ : ∃ c, ((hl : Int) == 0) = c := ⟨_, rfl⟩
      have HRC : Hid (R = (e1 && e3)) := hid (by rw [HRB.out, ← g1, ← g3, Bool.eq_iff_iff]; simp)
      cases e1
      all_goals cases e3
      all_goals
        go_enter Tryz.func39, Tryz.ntmps39
        go_wp2_with fail
        refine (CheckPrefixes_any _ _ _ [(p1, p2)] _ (onePair _ _ p1 p2 _ HP.out (by simp))).mono ?_
        rw [HC.out]
        rintro e w1 ⟨rfl, hb1⟩
        have x2 : w1.cell? ⟨w.heap.size, 2, none⟩ = some (.bool true) := (hb1.cell (by simp; omega)).trans (by simp)
        have x3 : w1.cell? ⟨w.heap.size, 3, none⟩ = some (.int .i64 cost) := (hb1.cell (by simp; omega)).trans (by simp)
        have x4 : w1.cell? ⟨w.heap.size, 4, none⟩ = some (.slice ha hl hc) := (hb1.cell (by simp; omega)).trans (by simp)
        have hbw : Below w.heap.size w w1 := (((Below.refl _ _).alloc (Nat.le_refl _) _).alloc (by simp) _).trans (hb1.mono (by simp; omega))
        clear hb1
        go_wp2_with fail
        go_ret
        exact ⟨ret_bool (by rw [HRC.out]; rfl), hbw⟩
  · have HRB : Hid (R = false) := hid (by rw [← HR.out]; exact Pl.routeB_pfx (by rw [HC1.out]; exact hc0))
    have hd0 : (c != 0) = true := by simpa using hc0
    clear hc0 h1 h2 h3 h4 h5
    go_enter Tryz.func39, Tryz.ntmps39
    go_wp2_with fail
    refine (CheckPrefixes_any _ _ _ [(p1, p2)] _ (onePair _ _ p1 p2 _ HP.out (by simp))).mono ?_
    rw [HC.out]
    rintro e w1 ⟨rfl, hb1⟩
    have hbw : Below w.heap.size w w1 := (((Below.refl _ _).alloc (Nat.le_refl _) _).alloc (by simp) _).trans (hb1.mono (by simp; omega))
    clear hb1
    go_wp2_with fail
    go_ret
    exact ⟨ret_bool HRB.out.symm, hbw⟩
end Go.Proofs.YtcdobhdbafpkiaeGreatDoor
/-
  Contract: what rib.Check answers at every list of routes.
-/
namespace Go.Proofs.YtcdobhdbafpkiaeGreatDoor
open Go.RowKit
set_option maxRecDepth 20000

theorem box5 {w w3 : World} {c0 c1 c2 c3 c4 : Value} {T : TypeId} (hb : Below (w.heap.size + 1) (w.alloc (.cells #[c0, c1, c2, c3, c4] T)) w3) :
    (w3.cell? ⟨w.heap.size, 0, none⟩ = some c0 ∧ w3.cell? ⟨w.heap.size, 1, none⟩ = some c1 ∧ w3.cell? ⟨w.heap.size, 2, none⟩ = some c2 ∧ w3.cell? ⟨w.heap.size, 3, none⟩ = some c3 ∧ w3.cell? ⟨w.heap.size, 4, none⟩ = some c4) ∧ w.heap.size < w3.heap.size ∧ Below w.heap.size w w3 := by
  have hz := hb.size
  simp only [World.alloc, Array.size_push] at hz
  refine ⟨⟨?_, ?_, ?_, ?_, ?_⟩, by omega, ((Below.refl _ _).alloc (Nat.le_refl _) _).trans (hb.mono (by omega))⟩
  all_goals
    rw [hb.cell (by simp)]
    simp

set_option maxHeartbeats 2000000 in
theorem Check_rib (a : Option Addr) (len cap : Nat) (hs : List Pl.RH) (rs : List Pl.Rt) (w : World) (h : IsRows w a len cap hs) (hrd : ReadsAll w hs rs) :
    Calls Tryz.prog 13 #[.slice a len cap] w fun e w' => e = .returned (.int .i64 (Pl.tabF rs)) ∧ Below w.heap.size w w' := by
  have HH := hid h
  have HD := hid hrd
  have hlr : rs.length = len := by rw [← hrd.1]; exact h.1
  have hlh : hs.length = len := h.1
  have hc := h.2.1
  have hm := h.2.2.1
  unfold maxLen at hm
  clear h hrd
  obtain ⟨R, HR⟩ : ∃ R, Hid (Pl.tabF rs = R) := ⟨_, rfl⟩
  rw [HR.out]
  have HLR := hid hlr
  have HLH := hid hlh
  clear hlr hlh
  by_cases h200 : 200 < len
  · have HS : Hid (R = 1) := hid (by rw [← HR.out]; exact Pl.tabF_size (by rw [HLR.out]; exact h200))
    go_enter Tryz.func13, Tryz.ntmps13
    go_wp2
    go_ret
    exact ⟨ret_int HS.out.symm, Below.refl _ _⟩
  go_enter Tryz.func13, Tryz.ntmps13
  go_wp2
  go_loopw [10] (fun i wr => ∃ k : Nat, k ≤ len ∧ i = .int .i64 k ∧ Hid (R = Pl.tabN rs (len - k) k) ∧ Hid (Below w.heap.size w wr)) (fun i _ => len - (intOf i).toNat)
  case atStart => exact ⟨0, Nat.zero_le _, rfl, hid (by rw [← HR.out, Pl.tabF_from (by rw [HLR.out]; omega), HLR.out]; rfl), hid (Below.refl _ _)⟩
  case round =>
    obtain ⟨k, hk, rfl, HF, HB⟩ := hrel
    by_cases hlt : k < len
    · obtain ⟨b, off, rfl, hbw, hr⟩ := HH.out.at hlt
      have hb := HB.out
      have hr' := hr.below hbw hb
      have hz := hb.size
      have hbr : b < wr.heap.size := by omega
      obtain ⟨c0, c1, c2, c3, c4⟩ := hr' k (by rw [HLH.out]; exact hlt)
      have HRD := hid ((HD.out.2 k (by rw [HLH.out]; exact hlt)).below hb)
      obtain ⟨n, hn⟩ : ∃ n, len - k = n + 1 := ⟨len - k - 1, by omega⟩
      have HN := hid hn
      clear hn
      obtain ⟨mm, HM⟩ : ∃ mm, Hid (Pl.routeB (Pl.rt rs k) = mm) := ⟨_, rfl⟩
      obtain ⟨hh, HE⟩ : ∃ x, Hid (Pl.rh hs k = x) := ⟨_, rfl⟩
      rw [HE.out] at c0 c1 c2 c3 c4
      have HRE := hid HRD.out
      rw [HE.out] at HRE
      have hpk : Hid (hh.p = (Pl.rt rs k).p) := hid HRE.out.1
      obtain ⟨⟨p1, p2⟩, here, cost, ha, hl, hcc⟩ := hh
      simp only at c0 c1 c2 c3 c4
      have HIS : Hid (∀ W, Below wr.heap.size wr W → Calls Tryz.prog 39 #[.agg #[.int .i64 p1, .int .i64 p2, .bool here, .int .i64 cost, .slice ha hl hcc]] W fun e w' => e = .returned (.bool mm) ∧ Below W.heap.size W w') := by
        refine hid fun W hW => ?_
        have := isRoute_any ⟨(p1, p2), here, cost, ha, hl, hcc⟩ (Pl.rt rs k) W (HRE.out.below hW)
        rwa [HM.out] at this
      clear HRD HRE hr
      cases mm
      · go_wp2_with fail
        refine (HIS.out _ ((Below.refl _ _).alloc (Nat.le_refl _) _)).mono ?_
        rintro e w1 ⟨rfl, hb1⟩
        go_wp2_with fail
        go_ret
        exact ⟨ret_int (by rw [HF.out, HN.out, Pl.tabN_form HM.out]), (hb.alloc hz _).trans (hb1.mono (by simp; omega))⟩
      · rcases Nat.eq_zero_or_pos k with hk0 | hk0
        · have hd : decide (0 < k) = false := by simp; omega
          have HLW : Hid (Pl.lowR rs k = false) := hid (by rw [hk0]; exact Pl.lowR_zero rs)
          clear hk0
          go_wp2_with fail
          refine (HIS.out _ ((Below.refl _ _).alloc (Nat.le_refl _) _)).mono ?_
          rintro e w1 ⟨rfl, hb1⟩
          go_wp2_with fail
          go_quiet (fail)
          go_wp2_with fail
          go_roundw
          case rel => exact ⟨k + 1, by omega, by go_num, hid (by rw [HF.out, HN.out, Pl.tabN_on HM.out HLW.out]; congr 1; have := HN.out; omega), hid (below_drew ((hb.alloc hz _).trans (hb1.mono (by simp; omega))) _)⟩
          case measure => simp [intOf]; omega
        · obtain ⟨m, rfl⟩ : ∃ m, k = m + 1 := ⟨k - 1, by omega⟩
          obtain ⟨d0, d1, _, _, _⟩ := hr' m (by rw [HLH.out]; omega)
          obtain ⟨gg, HG⟩ : ∃ x, Hid ((Pl.rh hs m).p = x) := ⟨_, rfl⟩
          rw [HG.out] at d0 d1
          have hpm : Hid (gg = (Pl.rt rs m).p) := hid (by rw [← HG.out]; exact (HD.out.2 m (by rw [HLH.out]; omega)).1)
          obtain ⟨q1, q2⟩ := gg
          simp only at d0 d1
          obtain ⟨cq, HCQ⟩ : ∃ c, Hid (Pl.pfxC (q1, q2) (p1, p2) = c) := ⟨_, rfl⟩
          have HLW : Hid (Pl.lowR rs (m + 1) = decide (0 ≤ cq)) := by
            refine hid ?_
            rw [← HCQ.out, Pl.pfxC_ge, Pl.lowR_succ, ← hpm.out, ← hpk.out]
          have HCP : Hid (∀ W, Calls Tryz.prog 40 #[.agg #[.int .i64 q1, .int .i64 q2], .agg #[.int .i64 p1, .int .i64 p2]] W fun e w' => e = .returned (.int .i64 cq) ∧ Below W.heap.size W w') := by
            refine hid fun W => ?_
            have := comparePrefixes_any (q1, q2) (p1, p2) W
            rwa [HCQ.out] at this
          clear hr'
          by_cases hle : 0 ≤ cq
          all_goals
            go_wp2_with fail
            refine (HIS.out _ ((Below.refl _ _).alloc (Nat.le_refl _) _)).mono ?_
            rintro e w1 ⟨rfl, hb1⟩
            obtain ⟨⟨x0, x1, _, _, _⟩, xs, hbb⟩ := box5 (by simpa using hb1)
            have d0' := (hbb.cell (p := ⟨b, off + m * 5, none⟩) hbr).trans d0
            have d1' := (hbb.cell (p := ⟨b, off + m * 5 + 1, none⟩) hbr).trans d1
            clear hb1
            have hbw1 : b < w1.heap.size := by omega
            go_wp2_with fail
            have i0 := in_cell xs x0
            have i1 := in_cell xs x1
            have i2 := in_cell hbw1 d0'
            have i3 := in_cell hbw1 d1'
            have hne := in_some w1
            refine wp_region_in (by kernel_rfl) (by kernel_rfl) ?_
            repeat (go_big_quiet_step ((go_at_call 40; exact in_call (HCP.out _))))
            refine wpQuiet_nil ?_
            intro w5 hw'
            have hb5 := in_out hw'
            clear hw' i0 i1 i2 i3 hne x0 x1 d0' d1'
            go_wp2_with fail
          · go_ret
            exact ⟨ret_int (by rw [HF.out, HN.out, Pl.tabN_low HM.out (by rw [HLW.out]; simpa using hle)]), hb.trans ((hbb.mono hz).trans (hb5.mono (Nat.le_trans hz hbb.size)))⟩
          · go_roundw
            case rel => exact ⟨m + 1 + 1, by omega, by go_num, hid (by rw [HF.out, HN.out, Pl.tabN_on HM.out (by rw [HLW.out]; simpa using hle)]; congr 1; have := HN.out; omega), hid (hb.trans ((hbb.mono hz).trans (hb5.mono (Nat.le_trans hz hbb.size))))⟩
            case measure => simp [intOf]; omega
    · obtain rfl : k = len := by omega
      go_wp2
      go_ret
      exact ⟨ret_int (by rw [HF.out]; simp [Pl.tabN]), HB.out⟩
end Go.Proofs.YtcdobhdbafpkiaeGreatDoor
/-
  Contracts: the place of a prefix in a table in order: the closure, the search, find.
-/
namespace Go.Proofs.YtcdobhdbafpkiaeGreatDoor
open Go.RowKit
set_option maxRecDepth 20000

/-- prefixes of routes in memory -/
def Pl.hp (hs : List Pl.RH) : List (Int × Int) := hs.map Pl.RH.p
theorem Pl.pr_hp (hs : List Pl.RH) (i : Nat) (h : i < hs.length) : Pl.pr (Pl.hp hs) i = (Pl.rh hs i).p := by
  unfold Pl.hp
  rw [Pl.pr_eq _ _ (by simpa using h), Pl.rh_eq hs i h]; simp
theorem Pl.hp_len (hs : List Pl.RH) : (Pl.hp hs).length = hs.length := by simp [Pl.hp]
theorem RowsAt.drewN {w : World} {b off : Nat} {hs : List Pl.RH} (h : RowsAt w b off hs) (n : Nat) : RowsAt (w.drewN n) b off hs := fun i hi => h i hi

set_option maxHeartbeats 400000 in
theorem cloR_any (hs : List Pl.RH) (p1 p2 : Int) (b off len cap bl bk i : Nat) (w : World) (hl : hs.length = len) (_hc : len ≤ cap) (_hm : cap ≤ maxLen) (hbw : b < w.heap.size) (hblw : bl < w.heap.size) (hbkw : bk < w.heap.size)
    (hrow : RowsAt w b off hs) (h1 : w.cell? ⟨bl, 0, none⟩ = some (.slice (some ⟨b, off, none⟩) len cap)) (h2 : w.cell? ⟨bk, 0, none⟩ = some (.int .i64 p1)) (h3 : w.cell? ⟨bk, 1, none⟩ = some (.int .i64 p2)) (hi : i < len) :
    Calls Tryz.prog 66 #[.int .i64 i, .pointer (some ⟨bl, 0, none⟩), .pointer (some ⟨bk, 0, none⟩)] w fun e w' => e = .returned (.bool (!Pl.pltB (Pl.pr (Pl.hp hs) i) (p1, p2))) ∧ Below w.heap.size w w' := by
  unfold maxLen at _hm
  obtain ⟨c0, c1, _, _, _⟩ := hrow i (by omega)
  rw [Pl.pr_hp hs i (by omega)]
  obtain ⟨gg, HG⟩ : ∃ x, Hid ((Pl.rh hs i).p = x) := ⟨_, rfl⟩
  rw [HG.out] at c0 c1 ⊢
  obtain ⟨q1, q2⟩ := gg
  simp only at c0 c1
  have hi' : (i : Int) < (len : Int) := by omega
  obtain ⟨cq, HCQ⟩ : ∃ c, Hid (Pl.pfxC (q1, q2) (p1, p2) = c) := ⟨_, rfl⟩
  have HLW : Hid ((!Pl.pltB (q1, q2) (p1, p2)) = decide (0 ≤ cq)) := hid (by rw [← HCQ.out, Pl.pfxC_ge])
  have HCP : Hid (∀ W, Calls Tryz.prog 40 #[.agg #[.int .i64 q1, .int .i64 q2], .agg #[.int .i64 p1, .int .i64 p2]] W fun e w' => e = .returned (.int .i64 cq) ∧ Below W.heap.size W w') := by
    refine hid fun W => ?_
    have := comparePrefixes_any (q1, q2) (p1, p2) W
    rwa [HCQ.out] at this
  rw [HLW.out]
  clear hrow
  go_enter Tryz.func66, Tryz.ntmps66
  go_wp2_with fail
  have i0 := in_cell hblw h1
  have i1 := in_cell hbkw h2
  have i2 := in_cell hbkw h3
  have i3 := in_cell hbw c0
  have i4 := in_cell hbw c1
  have hne := in_some w
  refine wp_region_in (by kernel_rfl) (by kernel_rfl) ?_
  repeat (go_big_quiet_step ((go_at_call 40; exact in_call (HCP.out _))))
  refine wpQuiet_nil ?_
  intro w5 hw'
  have hb5 := in_out hw'
  clear hw' i0 i1 i2 i3 i4 hne
  go_wp2_with fail
  go_ret
  exact ⟨rfl, hb5⟩

set_option maxHeartbeats 400000 in
theorem SearchR_any (hs : List Pl.RH) (p1 p2 : Int) (a : Option Addr) (len cap bl bk : Nat) (w : World) (hl : hs.length = len) (hc : len ≤ cap) (hm : cap ≤ maxLen) (hblw : bl < w.heap.size) (hbkw : bk < w.heap.size)
    (hrow : hs = [] ∨ ∃ b off, a = some ⟨b, off, none⟩ ∧ b < w.heap.size ∧ RowsAt w b off hs) (h1 : w.cell? ⟨bl, 0, none⟩ = some (.slice a len cap)) (h2 : w.cell? ⟨bk, 0, none⟩ = some (.int .i64 p1)) (h3 : w.cell? ⟨bk, 1, none⟩ = some (.int .i64 p2)) (has : Pl.AscP (Pl.hp hs)) (hbig : len ≤ 2000000) :
    Calls Tryz.prog 65 #[.int .i64 len, .func (.func 66) #[] #[.pointer (some ⟨bl, 0, none⟩), .pointer (some ⟨bk, 0, none⟩)]] w fun e w' => e = .returned (.int .i64 (Pl.posP (Pl.hp hs) (p1, p2))) ∧ Below w.heap.size w w' := by
  have HM := hid hm
  unfold maxLen at hm
  have HR := hid hrow
  have H1 := hid h1
  have H2 := hid h2
  have H3 := hid h3
  have HA := hid has
  have HLP : Hid ((Pl.hp hs).length = len) := hid (by rw [Pl.hp_len, hl])
  clear hrow h1 h2 h3 has
  go_enter Tryz.func65, Tryz.ntmps65
  go_wp2
  go_loopw [5, 6] (fun i j wr => ∃ x y : Nat, x ≤ y ∧ y ≤ len ∧ i = .int .i64 x ∧ j = .int .i64 y ∧ Hid (Below w.heap.size w wr) ∧ Hid (∀ t, t < x → Pl.pltB (Pl.pr (Pl.hp hs) t) (p1, p2) = true) ∧ Hid (∀ t, y ≤ t → t < len → Pl.pltB (Pl.pr (Pl.hp hs) t) (p1, p2) = false)) (fun i j _ => (intOf j).toNat - (intOf i).toNat)
  case atStart => exact ⟨0, len, Nat.zero_le _, Nat.le_refl _, rfl, rfl, Below.refl _ _, fun t h => by omega, fun t h h' => by omega⟩
  case round =>
    obtain ⟨x, y, hxy, hy, rfl, rfl, HW, HX, HY⟩ := hrel
    by_cases hlt : x < y
    · obtain ⟨b, off, rfl, hbw, hrow⟩ : ∃ b off, a = some ⟨b, off, none⟩ ∧ b < w.heap.size ∧ RowsAt w b off hs := by
        rcases HR.out with h | h
        · rw [h] at hl; simp at hl; omega
        · exact h
      have hz := HW.out.size
      have hr : RowsAt wr b off hs := hrow.below hbw HW.out
      have h1 := (HW.out.cell (p := ⟨bl, 0, none⟩) hblw).trans H1.out
      have h2 := (HW.out.cell (p := ⟨bk, 0, none⟩) hbkw).trans H2.out
      have h3 := (HW.out.cell (p := ⟨bk, 1, none⟩) hbkw).trans H3.out
      have HC := hid fun m => cloR_any hs p1 p2 b off len cap bl bk m wr hl hc HM.out (by omega) (by omega) (by omega) hr h1 h2 h3
      clear hr h1 h2 h3 hrow
      go_wp2_with fail
      obtain ⟨m, hm2, hxm, hmy⟩ : ∃ m : Nat, ((x : Int) + (y : Int)) / 2 = (m : Int) ∧ x ≤ m ∧ m < y := ⟨(x + y) / 2, by omega, by omega, by omega⟩
      rw [hm2]
      clear hm2
      refine (HC.out m (by omega)).mono ?_
      rintro e w' ⟨rfl, hbq⟩
      have HQ := hid (HW.out.trans (hbq.mono hz))
      clear hbq
      obtain ⟨ll, HL⟩ : ∃ ll, Hid (Pl.pltB (Pl.pr (Pl.hp hs) m) (p1, p2) = ll) := ⟨_, rfl⟩
      rw [HL.out]
      cases ll
      · go_wp2
        go_roundw
        case rel => exact ⟨x, m, by omega, by omega, rfl, rfl, HQ, HX, fun t h h' => Pl.ascP_ge HA.out (by rw [HLP.out]; omega) h HL.out⟩
        case measure => simp [intOf]; omega
      · go_wp2
        go_roundw
        case rel => exact ⟨m + 1, y, by omega, by omega, by go_num, rfl, HQ, fun t h => Pl.ascP_lt HA.out (by rw [HLP.out]; omega) (by omega) HL.out, HY⟩
        case measure => simp [intOf]; omega
    · obtain rfl : x = y := by omega
      go_wp2
      go_ret
      exact ⟨ret_int (by rw [Pl.posP_of (by rw [HLP.out]; omega) HX.out (fun h => HY.out x (Nat.le_refl _) (by rw [HLP.out] at h; exact h))]), HW.out⟩

theorem new1 (w : World) (v : Value) (T : TypeId) (o : Obj) : ((w.alloc (.cells #[v] T)).alloc o).cell? ⟨w.heap.size, 0, none⟩ = some v := by simp
theorem new2 (w : World) (v0 v1 : Value) (T : TypeId) (o : Obj) : ((w.alloc o).alloc (.cells #[v0, v1] T)).cell? ⟨w.heap.size + 1, 0, none⟩ = some v0 ∧ ((w.alloc o).alloc (.cells #[v0, v1] T)).cell? ⟨w.heap.size + 1, 1, none⟩ = some v1 := by
  have h := World.size_alloc w o
  rw [← h]
  simp

set_option maxHeartbeats 400000 in
theorem find_rib (a : Option Addr) (len cap : Nat) (hs : List Pl.RH) (p1 p2 : Int) (w : World) (h : IsRows w a len cap hs) (has : Pl.AscP (Pl.hp hs)) (hbig : len ≤ 2000000) :
    Calls Tryz.prog 36 #[.slice a len cap, .agg #[.int .i64 p1, .int .i64 p2]] w fun e w' => e = .returned (.tuple #[.int .i64 (Pl.posP (Pl.hp hs) (p1, p2)), .bool (Pl.thereP (Pl.hp hs) (p1, p2))]) ∧ Below w.heap.size w w' := by
  obtain ⟨hl, hc, hm, _, hrow⟩ := h
  have hmf : ∀ (fn : Fn) (first cap : Array Value) (w : World), (Instr.makeFunc fn first cap).run Tryz.prog w = .ok (.func fn first cap) w := fun _ _ _ _ => rfl
  have HLP : Hid ((Pl.hp hs).length = len) := hid (by rw [Pl.hp_len, hl])
  have HB : Hid (Below w.heap.size w ((w.alloc (.cells #[.slice a len cap] 23)).alloc (.cells #[.int .i64 p1, .int .i64 p2] 44))) := ((Below.refl _ _).alloc (Nat.le_refl _) _).alloc (by simp) _
  have HS : Hid (Calls Tryz.prog 65 #[.int .i64 len, .func (.func 66) #[] #[.pointer (some ⟨w.heap.size, 0, none⟩), .pointer (some ⟨w.heap.size + 1, 0, none⟩)]] ((w.alloc (.cells #[.slice a len cap] 23)).alloc (.cells #[.int .i64 p1, .int .i64 p2] 44)) fun e w' => e = .returned (.int .i64 (Pl.posP (Pl.hp hs) (p1, p2))) ∧ Below (w.heap.size + 2) ((w.alloc (.cells #[.slice a len cap] 23)).alloc (.cells #[.int .i64 p1, .int .i64 p2] 44)) w') := by
    refine hid ?_
    have := SearchR_any hs p1 p2 a len cap w.heap.size (w.heap.size + 1) ((w.alloc (.cells #[.slice a len cap] 23)).alloc (.cells #[.int .i64 p1, .int .i64 p2] 44)) hl hc hm (by simp; omega) (by simp) ?_ (new1 _ _ _ _) (new2 _ _ _ _ _).1 (new2 _ _ _ _ _).2 has hbig
    · simpa using this
    · rcases hrow with h | ⟨b, off, rfl, hb, hr⟩
      · exact .inl h
      · exact .inr ⟨b, off, rfl, by simp; omega, hr.below hb HB.out⟩
  have hp := Pl.posP_le (Pl.hp hs) (p1, p2)
  rw [HLP.out] at hp
  unfold maxLen at hm
  rcases Nat.lt_or_ge (Pl.posP (Pl.hp hs) (p1, p2)) len with hlt | hge
  · obtain ⟨b, off, rfl, hb, hr⟩ : ∃ b off, a = some ⟨b, off, none⟩ ∧ b < w.heap.size ∧ RowsAt w b off hs := by
      rcases hrow with h | h
      · rw [h] at hl; simp at hl; omega
      · exact h
    obtain ⟨c0, c1, _, _, _⟩ := hr (Pl.posP (Pl.hp hs) (p1, p2)) (by omega)
    obtain ⟨gg, HG⟩ : ∃ x, Hid ((Pl.rh hs (Pl.posP (Pl.hp hs) (p1, p2))).p = x) := ⟨_, rfl⟩
    rw [HG.out] at c0 c1
    have HT : Hid (Pl.thereP (Pl.hp hs) (p1, p2) = decide (gg = (p1, p2))) := by
      refine hid ?_
      unfold Pl.thereP
      rw [HLP.out, decide_eq_true hlt, Pl.pr_hp hs _ (by omega), HG.out]; rfl
    obtain ⟨q1, q2⟩ := gg
    simp only at c0 c1
    obtain ⟨tt, HTT⟩ : ∃ t, Hid (Pl.thereP (Pl.hp hs) (p1, p2) = t) := ⟨_, rfl⟩
    rw [HTT.out] at HT ⊢
    generalize Pl.posP (Pl.hp hs) (p1, p2) = p at *
    clear hrow hr
    have hlt' : (p : Int) < (len : Int) := by omega
    obtain ⟨e1, g1⟩ : ∃ c, (q1 == p1) = c := ⟨_, rfl⟩
    obtain ⟨e2, g2⟩ : ∃ c, (q2 == p2) = c := ⟨_, rfl⟩
    have HT2 : Hid (tt = (e1 && e2)) := hid (by rw [HT.out, ← g1, ← g2, Bool.eq_iff_iff]; simp)
    cases e1
    all_goals cases e2
    all_goals
      go_enter Tryz.func36, Tryz.ntmps36
      go_wp2_with fail
      refine HS.out.mono ?_
      rintro e w1 ⟨rfl, hb1⟩
      have x0 : w1.cell? ⟨w.heap.size, 0, none⟩ = some (.slice (some ⟨b, off, none⟩) len cap) := (hb1.cell (show w.heap.size < w.heap.size + 2 by omega)).trans (new1 _ _ _ _)
      have x1 : w1.cell? ⟨w.heap.size + 1, 0, none⟩ = some (.int .i64 p1) := (hb1.cell (show w.heap.size + 1 < w.heap.size + 2 by omega)).trans (new2 _ _ _ _ _).1
      have x2 : w1.cell? ⟨w.heap.size + 1, 1, none⟩ = some (.int .i64 p2) := (hb1.cell (show w.heap.size + 1 < w.heap.size + 2 by omega)).trans (new2 _ _ _ _ _).2
      have HBW := hid (HB.out.trans (hb1.mono (by omega)))
      have d0 := (HBW.out.cell (p := ⟨b, off + p * 5, none⟩) hb).trans c0
      have d1 := (HBW.out.cell (p := ⟨b, off + p * 5 + 1, none⟩) hb).trans c1
      clear c0 c1 hb1
      go_wp2_with fail
      go_quiet (fail)
      go_wp2
      go_ret2
      exact ⟨by rw [HT2.out]; rfl, below_drew HBW.out _⟩
  · have HT : Hid (Pl.thereP (Pl.hp hs) (p1, p2) = false) := by
      refine hid ?_
      unfold Pl.thereP
      rw [HLP.out, decide_eq_false (by omega)]; rfl
    obtain ⟨tt, HTT⟩ : ∃ t, Hid (Pl.thereP (Pl.hp hs) (p1, p2) = t) := ⟨_, rfl⟩
    rw [HTT.out] at HT ⊢
    generalize Pl.posP (Pl.hp hs) (p1, p2) = p at *
    have hd : decide ((p : Int) < (len : Int)) = false := by simp; omega
    have hd' : decide (p < len) = false := by simp; omega
    go_enter Tryz.func36, Tryz.ntmps36
    go_wp2_with fail
    refine HS.out.mono ?_
    rintro e w1 ⟨rfl, hb1⟩
    have x0 : w1.cell? ⟨w.heap.size, 0, none⟩ = some (.slice a len cap) := (hb1.cell (show w.heap.size < w.heap.size + 2 by omega)).trans (new1 _ _ _ _)
    have HBW := hid (HB.out.trans (hb1.mono (by omega)))
    clear hb1
    go_wp2_with fail
    go_quiet (fail)
    go_wp2
    go_ret2
    exact ⟨by rw [HT.out]; rfl, below_drew HBW.out _⟩
end Go.Proofs.YtcdobhdbafpkiaeGreatDoor
/-
  Contracts: the prefix of so many bits of an address; Lookup.
-/
namespace Go.Proofs.YtcdobhdbafpkiaeGreatDoor
open Go.RowKit
set_option maxRecDepth 20000

theorem Pl.pfxAt_eq (addr : Int) (n : Nat) (K : Int) (h : Pl.span (n : Int) = K) : Pl.pfxAt addr n = (addr / K * K, (n : Int)) := by
  unfold Pl.pfxAt
  rw [h]
  have e := Int.ediv_mul_add_emod addr K
  generalize addr / K * K = x at *
  generalize addr % K = y at *
  simp only [Prod.mk.injEq, and_true]
  omega

set_option maxHeartbeats 1000000 in
theorem prefixOf_any (addr : Int) (n : Nat) (w : World) (h0 : 0 ≤ addr) (h1 : addr ≤ 255) (hn : n ≤ 8) :
    Calls Tryz.prog 37 #[.int .i64 addr, .int .i64 n] w fun e w' => e = .returned (.agg #[.int .i64 (Pl.pfxAt addr n).1, .int .i64 (Pl.pfxAt addr n).2]) ∧ Below w.heap.size w w' := by
  obtain rfl | rfl | rfl | rfl | rfl | rfl | rfl | rfl | rfl : n = 0 ∨ n = 1 ∨ n = 2 ∨ n = 3 ∨ n = 4 ∨ n = 5 ∨ n = 6 ∨ n = 7 ∨ n = 8 := by omega
  all_goals
    go_enter Tryz.func37, Tryz.ntmps37
    go_wp2
    rw [Pl.pfxAt_eq addr _ _ rfl]
    exact bodyPost_ret (by simp [results, Tryz.results37, go_sem, Pl.span_table]) rfl ⟨rfl, (Below.refl _ _).alloc (Nat.le_refl _) _⟩

theorem Pl.hopsB_len {l : List Int} (h : Pl.hopsB l = true) : l.length ≤ 12 := by
  have key : ∀ i, i < l.length → (i : Int) ≤ Pl.nm l i := by
    intro i
    induction i with
    | zero =>
      intro hi
      have := Pl.hopsB_at h 0 hi
      rw [Pl.hopB_zero] at this
      simp at this
      simpa using this.1
    | succ m ih =>
      intro hi
      have h1 := Pl.hopsB_at h (m + 1) hi
      rw [Pl.hopB_succ] at h1
      simp only [Bool.and_eq_true, decide_eq_true_eq] at h1
      have := ih (by omega)
      omega
  rcases Nat.eq_zero_or_pos l.length with h0 | hp
  · omega
  · have a := key (l.length - 1) (by omega)
    have b := Pl.hopsB_at h (l.length - 1) (by omega)
    unfold Pl.hopB at b
    simp only [Bool.and_eq_true, decide_eq_true_eq] at b
    omega
theorem Pl.routeB_hops {r : Pl.Rt} (h : Pl.routeB r = true) : r.hops.length ≤ 12 := by
  unfold Pl.routeB at h
  simp only [Bool.and_eq_true] at h
  exact Pl.hopsB_len h.2
theorem Pl.look_some {rs : List Pl.Rt} {addr : Int} {i : Nat} (h : Pl.tabF rs = 0) (ha : 0 ≤ addr ∧ addr ≤ 255) (hi : Pl.lookN (rs.map Pl.Rt.p) addr 9 = some i) : Pl.lookC rs addr = 0 ∧ Pl.lookR rs addr = Pl.rt rs i := by
  unfold Pl.lookC Pl.lookR
  rw [h, if_pos rfl, if_pos ha, if_pos rfl, if_pos ha, hi]
  exact ⟨rfl, rfl⟩
theorem Pl.look_none {rs : List Pl.Rt} {addr : Int} (h : Pl.tabF rs = 0) (ha : 0 ≤ addr ∧ addr ≤ 255) (hi : Pl.lookN (rs.map Pl.Rt.p) addr 9 = none) : Pl.lookC rs addr = 6 ∧ Pl.lookR rs addr = Pl.Rt.none := by
  unfold Pl.lookC Pl.lookR
  rw [h, if_pos rfl, if_pos ha, if_pos rfl, if_pos ha, hi]
  exact ⟨rfl, rfl⟩
theorem Pl.look_range {rs : List Pl.Rt} {addr : Int} (h : Pl.tabF rs = 0) (ha : ¬ (0 ≤ addr ∧ addr ≤ 255)) : Pl.lookC rs addr = 2 ∧ Pl.lookR rs addr = Pl.Rt.none := by
  unfold Pl.lookC Pl.lookR
  rw [h, if_pos rfl, if_neg ha, if_pos rfl, if_neg ha]
  exact ⟨rfl, rfl⟩
theorem Pl.look_bad {rs : List Pl.Rt} {addr : Int} (h : ¬ Pl.tabF rs = 0) : Pl.lookC rs addr = Pl.tabF rs ∧ Pl.lookR rs addr = Pl.Rt.none := by
  unfold Pl.lookC Pl.lookR
  rw [if_neg h, if_neg h]
  exact ⟨rfl, rfl⟩
theorem boxSoft {w w3 : World} {cs : Array Value} {T : TypeId} (hb : Below (w.heap.size + 1) (w.alloc (.cells cs T)) w3) (o : Nat) : w3.frozen? ⟨w.heap.size, o, none⟩ = false := by
  rw [hb.frozen (p := ⟨w.heap.size, o, none⟩) (show w.heap.size < w.heap.size + 1 by omega)]
  simp only [World.frozen?, heapNewZ]
  simp
theorem readsNone (w : World) : Reads w Pl.RH.none Pl.Rt.none := ⟨rfl, rfl, rfl, IsInts.nil w, by decide, by decide⟩

set_option maxHeartbeats 2000000 in
theorem Lookup_any (a : Option Addr) (len cap : Nat) (hs : List Pl.RH) (rs : List Pl.Rt) (addr : Int) (w : World) (h : IsRows w a len cap hs) (hrd : ReadsAll w hs rs) :
    Calls Tryz.prog 12 #[.slice a len cap, .int .i64 addr] w fun e w' =>
      ∃ g : Pl.RH, e = .returned (.tuple #[.agg #[.int .i64 g.p.1, .int .i64 g.p.2, .bool g.here, .int .i64 g.cost, .slice g.ha g.hl g.hc], .int .i64 (Pl.lookC rs addr)]) ∧ Reads w' g (Pl.lookR rs addr) ∧ Below w.heap.size w w' := by
  have HH := hid h
  have HD := hid hrd
  have HLH : Hid (hs.length = len) := hid h.1
  have hc := h.2.1
  have hm := h.2.2.1
  unfold maxLen at hm
  clear h hrd
  obtain ⟨LC, HLC⟩ : ∃ x, Hid (Pl.lookC rs addr = x) := ⟨_, rfl⟩
  obtain ⟨LR, HLR⟩ : ∃ x, Hid (Pl.lookR rs addr = x) := ⟨_, rfl⟩
  rw [HLC.out, HLR.out]
  obtain ⟨c, HC⟩ : ∃ c, Hid (Pl.tabF rs = c) := ⟨_, rfl⟩
  by_cases hc0 : c = 0
  · subst hc0
    by_cases hin : 0 ≤ addr ∧ addr ≤ 255
    · obtain ⟨ha0, ha1⟩ := hin
      have hg := Pl.good_of_tabF HC.out
      have HAS : Hid (Pl.AscP (Pl.hp hs)) := hid (by unfold Pl.hp; rw [HD.out.map_p]; exact hg.2.2)
      have hbig : len ≤ 2000000 := by have := hg.1; rw [← HD.out.1, HLH.out] at this; omega
      have HRB : Hid (∀ i, i < len → Pl.routeB (Pl.rt rs i) = true) := hid fun i hi => hg.2.1 i (by rw [← HD.out.1, HLH.out]; exact hi)
      have HQS : Hid (∀ i, Pl.lookN (Pl.hp hs) addr 9 = some i → LC = 0 ∧ LR = Pl.rt rs i) := hid fun i hi => by
        unfold Pl.hp at hi; rw [HD.out.map_p] at hi
        have := Pl.look_some HC.out ⟨ha0, ha1⟩ hi
        rwa [HLC.out, HLR.out] at this
      have HQN : Hid (Pl.lookN (Pl.hp hs) addr 9 = none → LC = 6 ∧ LR = Pl.Rt.none) := hid fun hi => by
        unfold Pl.hp at hi; rw [HD.out.map_p] at hi
        have := Pl.look_none HC.out ⟨ha0, ha1⟩ hi
        rwa [HLC.out, HLR.out] at this
      have HLP : Hid ((Pl.hp hs).length = len) := hid (by rw [Pl.hp_len, HLH.out])
      clear hg
      go_enter Tryz.func12, Tryz.ntmps12
      go_wp2_with fail
      refine (Check_rib _ _ _ hs rs _ (HH.out.below ((Below.refl _ _).alloc (Nat.le_refl _) _)) (HD.out.below ((Below.refl _ _).alloc (Nat.le_refl _) _))).mono ?_
      rw [HC.out]
      rintro e w1 ⟨rfl, hb1⟩
      have HB1 : Hid (Below (w.heap.size + 1) (w.alloc (.cells #[.int .i64 0, .int .i64 0, .bool false, .int .i64 0, .slice none 0 0] 47)) w1) := hid (by simpa using hb1)
      clear hb1
      go_wp2_with fail
      go_loopw [7] (fun i wr => ∃ n : Nat, n ≤ 9 ∧ i = .int .i64 ((n : Int) - 1) ∧ Hid (Pl.lookN (Pl.hp hs) addr 9 = Pl.lookN (Pl.hp hs) addr n) ∧ Hid (Below (w.heap.size + 1) (w.alloc (.cells #[.int .i64 0, .int .i64 0, .bool false, .int .i64 0, .slice none 0 0] 47)) wr)) (fun i _ => (intOf i + 1).toNat)
      case atStart => exact ⟨9, Nat.le_refl _, rfl, hid rfl, HB1⟩
      case round =>
        obtain ⟨n, hn, rfl, HN, HB⟩ := hrel
        obtain ⟨⟨y0, y1, y2, y3, y4⟩, hbx, hbw⟩ := box5 HB.out
        have HBW := hid hbw
        clear hbw
        rcases Nat.eq_zero_or_pos n with hn0 | hn0
        · subst hn0
          have HE := hid (HQN.out (by rw [HN.out]; rfl))
          have yf : ∀ o, wr.frozen? ⟨w.heap.size, o, none⟩ = false := fun o => boxSoft HB.out o
          go_wp2_with fail
          refine bodyPost_ret (v := .tuple #[.agg #[.int .i64 0, .int .i64 0, .bool false, .int .i64 0, .slice none 0 0], .int .i64 6]) (by simp [results, Tryz.results12, go_sem, y0, y1, y2, y3, y4]) rfl ⟨Pl.RH.none, by rw [HE.out.1]; rfl, by rw [HE.out.2]; exact readsNone _, ?_⟩
          exact (((((HBW.out.setCell (Nat.le_refl _) _).setCell (Nat.le_refl _) _).setCell (Nat.le_refl _) _).setCell (Nat.le_refl _) _).setCell (Nat.le_refl _) _)
        · obtain ⟨m, rfl⟩ : ∃ m, n = m + 1 := ⟨n - 1, by omega⟩
          have e1 : ((m + 1 : Nat) : Int) - 1 = (m : Int) := by omega
          rw [e1]
          clear e1 hn0
          have hm9 : m ≤ 8 := by omega
          obtain ⟨pp, HPP⟩ : ∃ x, Hid (Pl.pfxAt addr m = x) := ⟨_, rfl⟩
          have HPO : Hid (∀ W, Calls Tryz.prog 37 #[.int .i64 addr, .int .i64 m] W fun e w' => e = .returned (.agg #[.int .i64 pp.1, .int .i64 pp.2]) ∧ Below W.heap.size W w') := hid fun W => by
            have := prefixOf_any addr m W ha0 ha1 hm9
            rwa [HPP.out] at this
          have HST : Hid (Pl.lookN (Pl.hp hs) addr (m + 1) = if Pl.thereP (Pl.hp hs) pp then some (Pl.posP (Pl.hp hs) pp) else Pl.lookN (Pl.hp hs) addr m) := hid (by rw [← HPP.out]; rfl)
          obtain ⟨p1, p2⟩ := pp
          simp only at HPO
          obtain ⟨tt, HT⟩ : ∃ x, Hid (Pl.thereP (Pl.hp hs) (p1, p2) = x) := ⟨_, rfl⟩
          have HZ := hid HBW.out.size
          have HFI : Hid (∀ W, Below w.heap.size w W → Calls Tryz.prog 36 #[.slice a len cap, .agg #[.int .i64 p1, .int .i64 p2]] W fun e w' => e = .returned (.tuple #[.int .i64 (Pl.posP (Pl.hp hs) (p1, p2)), .bool tt]) ∧ Below W.heap.size W w') := hid fun W hW => by
            have := find_rib a len cap hs p1 p2 W (HH.out.below hW) HAS.out hbig
            rwa [HT.out] at this
          have HPL : Hid (tt = true → Pl.posP (Pl.hp hs) (p1, p2) < len) := hid fun e => by
            have := Pl.thereP_lt (by rw [HT.out]; exact e : Pl.thereP (Pl.hp hs) (p1, p2) = true)
            rwa [HLP.out] at this
          rw [HT.out] at HST
          generalize Pl.posP (Pl.hp hs) (p1, p2) = ix at *
          cases tt
          · go_wp2_with fail
            refine (HPO.out _).mono ?_
            rintro e w2 ⟨rfl, hb2⟩
            have HB2 := hid (HBW.out.trans (hb2.mono HZ.out))
            have HB2' := hid (HB.out.trans (hb2.mono (by omega)))
            clear hb2
            go_wp2_with fail
            refine (HFI.out _ HB2.out).mono ?_
            rintro e w3 ⟨rfl, hb3⟩
            have HB3' := hid (HB2'.out.trans (hb3.mono (by have := HB2'.out.size; simpa using this)))
            clear hb3
            go_wp2_with fail
            go_roundw
            case rel => exact ⟨m, by omega, by go_num, hid (by rw [HN.out, HST.out]; rfl), HB3'⟩
            case measure => simp [intOf]
          · have hix := HPL.out rfl
            have HE := hid (HQS.out ix (by rw [HN.out, HST.out]; rfl))
            obtain ⟨b, off, rfl, hbw, hr⟩ := HH.out.at hix
            have HRD := hid (HD.out.2 ix (by rw [HLH.out]; exact hix))
            have hhl : (Pl.rh hs ix).hl ≤ 1000 := by
              have h1 := HRD.out.2.2.2.1.1
              have h2 := Pl.routeB_hops (HRB.out ix hix)
              omega
            obtain ⟨c0, c1, c2, c3, c4⟩ := hr ix (by rw [HLH.out]; exact hix)
            have hix' : (ix : Int) < (len : Int) := by omega
            go_wp2_with fail
            refine (HPO.out _).mono ?_
            rintro e w2 ⟨rfl, hb2⟩
            have HB2 := hid (HBW.out.trans (hb2.mono HZ.out))
            have HB2' := hid (HB.out.trans (hb2.mono (by omega)))
            clear hb2
            go_wp2_with fail
            refine (HFI.out _ HB2.out).mono ?_
            rintro e w3 ⟨rfl, hb3⟩
            have HB3' := hid (HB2'.out.trans (hb3.mono (by have := HB2'.out.size; simpa using this)))
            have HB3 := hid (HB2.out.trans (hb3.mono HB2.out.size))
            clear hb3
            have d0 := (HB3.out.cell (p := ⟨b, off + ix * 5, none⟩) hbw).trans c0
            have d1 := (HB3.out.cell (p := ⟨b, off + ix * 5 + 1, none⟩) hbw).trans c1
            have d2 := (HB3.out.cell (p := ⟨b, off + ix * 5 + 2, none⟩) hbw).trans c2
            have d3 := (HB3.out.cell (p := ⟨b, off + ix * 5 + 3, none⟩) hbw).trans c3
            have d4 := (HB3.out.cell (p := ⟨b, off + ix * 5 + 4, none⟩) hbw).trans c4
            clear c0 c1 c2 c3 c4 y0 y1 y2 y3 y4
            have HFR := hid (fresh_any (Pl.rh hs ix) (Pl.rt rs ix) w3 (HRD.out.below HB3.out) hhl)
            generalize Pl.rh hs ix = hh at *
            go_wp2_with fail
            refine HFR.out.mono ?_
            rintro e w4 ⟨g, rfl, hg4, hn4, hb4⟩
            have HB4' := hid (HB3'.out.trans (hb4.mono (by have := HB3'.out.size; simpa using this)))
            obtain ⟨⟨y0, y1, y2, y3, y4⟩, hbx4, hbw4⟩ := box5 HB4'.out
            have HG := hid hg4
            have HN4 := hid hn4
            have HBW4 := hid hbw4
            have hz3 := HB3'.out.size
            simp only [World.size_alloc] at hz3
            have yf : ∀ o, w4.frozen? ⟨w.heap.size, o, none⟩ = false := fun o => boxSoft HB4'.out o
            clear hg4 hn4 hb4 hbw4
            go_wp2_with fail
            refine bodyPost_ret (v := .tuple #[.agg #[.int .i64 g.p.1, .int .i64 g.p.2, .bool g.here, .int .i64 g.cost, .slice g.ha g.hl g.hc], .int .i64 0]) (by simp [results, Tryz.results12, go_sem, y0, y1, y2, y3, y4]) rfl ⟨g, by rw [HE.out.1], ?_, ?_⟩
            · rw [HE.out.2]
              exact HG.out.but (B := w.heap.size) ((((((But.refl _ _).setCell _ _).setCell _ _).setCell _ _).setCell _ _).setCell _ _) (fun x hx => by have := HN4.out x hx; omega)
            · exact (((((HBW4.out.setCell (Nat.le_refl _) _).setCell (Nat.le_refl _) _).setCell (Nat.le_refl _) _).setCell (Nat.le_refl _) _).setCell (Nat.le_refl _) _)
    · have HE : Hid (LC = 2 ∧ LR = Pl.Rt.none) := hid (by have := Pl.look_range HC.out hin; rwa [HLC.out, HLR.out] at this)
      have hin2 : addr < 0 ∨ (0 ≤ addr ∧ 255 < addr) := by omega
      clear hin
      rcases hin2 with hin | ⟨hin1, hin⟩
      all_goals
        go_enter Tryz.func12, Tryz.ntmps12
        go_wp2_with fail
        refine (Check_rib _ _ _ hs rs _ (HH.out.below ((Below.refl _ _).alloc (Nat.le_refl _) _)) (HD.out.below ((Below.refl _ _).alloc (Nat.le_refl _) _))).mono ?_
        rw [HC.out]
        rintro e w1 ⟨rfl, hb1⟩
        have HB1 : Hid (Below (w.heap.size + 1) (w.alloc (.cells #[.int .i64 0, .int .i64 0, .bool false, .int .i64 0, .slice none 0 0] 47)) w1) := hid (by simpa using hb1)
        clear hb1
        obtain ⟨⟨y0, y1, y2, y3, y4⟩, hbx, hbw⟩ := box5 HB1.out
        have HBW := hid hbw
        clear hbw
        have yf : ∀ o, w1.frozen? ⟨w.heap.size, o, none⟩ = false := fun o => boxSoft HB1.out o
        go_wp2_with fail
        refine bodyPost_ret (v := .tuple #[.agg #[.int .i64 0, .int .i64 0, .bool false, .int .i64 0, .slice none 0 0], .int .i64 2]) (by simp [results, Tryz.results12, go_sem, y0, y1, y2, y3, y4]) rfl ⟨Pl.RH.none, by rw [HE.out.1]; rfl, by rw [HE.out.2]; exact readsNone _, ?_⟩
        exact (((((HBW.out.setCell (Nat.le_refl _) _).setCell (Nat.le_refl _) _).setCell (Nat.le_refl _) _).setCell (Nat.le_refl _) _).setCell (Nat.le_refl _) _)
  · have HE : Hid (LC = c ∧ LR = Pl.Rt.none) := hid (by have := Pl.look_bad (addr := addr) (by rw [HC.out]; exact hc0 : ¬ Pl.tabF rs = 0); rwa [HLC.out, HLR.out, HC.out] at this)
    have hd0 : (c != 0) = true := by simpa using hc0
    clear hc0
    go_enter Tryz.func12, Tryz.ntmps12
    go_wp2_with fail
    refine (Check_rib _ _ _ hs rs _ (HH.out.below ((Below.refl _ _).alloc (Nat.le_refl _) _)) (HD.out.below ((Below.refl _ _).alloc (Nat.le_refl _) _))).mono ?_
    rw [HC.out]
    rintro e w1 ⟨rfl, hb1⟩
    have HB1 : Hid (Below (w.heap.size + 1) (w.alloc (.cells #[.int .i64 0, .int .i64 0, .bool false, .int .i64 0, .slice none 0 0] 47)) w1) := hid (by simpa using hb1)
    clear hb1
    obtain ⟨⟨y0, y1, y2, y3, y4⟩, hbx, hbw⟩ := box5 HB1.out
    have HBW := hid hbw
    clear hbw
    have yf : ∀ o, w1.frozen? ⟨w.heap.size, o, none⟩ = false := fun o => boxSoft HB1.out o
    go_wp2_with fail
    refine bodyPost_ret (v := .tuple #[.agg #[.int .i64 0, .int .i64 0, .bool false, .int .i64 0, .slice none 0 0], .int .i64 c]) (by simp [results, Tryz.results12, go_sem, y0, y1, y2, y3, y4]) rfl ⟨Pl.RH.none, by rw [HE.out.1]; rfl, by rw [HE.out.2]; exact readsNone _, ?_⟩
    exact (((((HBW.out.setCell (Nat.le_refl _) _).setCell (Nat.le_refl _) _).setCell (Nat.le_refl _) _).setCell (Nat.le_refl _) _).setCell (Nat.le_refl _) _)
end Go.Proofs.YtcdobhdbafpkiaeGreatDoor
/-
  Contracts: slices.Equal over numbers, same, the document's sameRoute and routeAt.
-/
namespace Go.Proofs.YtcdobhdbafpkiaeGreatDoor
open Go.RowKit
set_option maxRecDepth 20000

theorem Pl.ints_eq_of {xs ys : List Int} (hl : xs.length = ys.length) (h : ∀ t, t < xs.length → Pl.nm xs t = Pl.nm ys t) : xs = ys := by
  refine List.ext_getElem hl fun i h1 h2 => ?_
  have := h i h1
  rwa [Pl.nm_eq xs i h1, Pl.nm_eq ys i h2] at this

theorem twoBoxes {w : World} {o o' : Obj} : Below w.heap.size w ((w.alloc o).alloc o') := ((Below.refl _ _).alloc (Nat.le_refl _) _).alloc (by simp) _

end Go.Proofs.YtcdobhdbafpkiaeGreatDoor
/-
  Contract: what parts two tables (rib.Diff).
-/
namespace Go.Proofs.YtcdobhdbafpkiaeGreatDoor
open Go.RowKit
set_option maxRecDepth 20000

def Pl.diffC (a b : List Pl.Rt) : Int := if Pl.tabF a = 0 then Pl.tabF b else Pl.tabF a
def Pl.diffS (a b : List Pl.Rt) : List Pl.Rt := if Pl.diffC a b = 0 then Pl.setL a b else []
def Pl.diffG (a b : List Pl.Rt) : List (Int × Int) := if Pl.diffC a b = 0 then Pl.goneL a b else []
theorem Pl.take_rt (rs : List Pl.Rt) (k : Nat) (h : k < rs.length) : rs.take (k + 1) = rs.take k ++ [Pl.rt rs k] := by
  rw [List.take_succ_eq_append_getElem h, Pl.rt_eq rs k h]
theorem Pl.setL_succ (a b : List Pl.Rt) (k : Nat) (h : k < b.length) : Pl.setL a (b.take (k + 1)) = Pl.setL a (b.take k) ++ (if Pl.keptB a (Pl.rt b k) then [] else [Pl.rt b k]) := by
  unfold Pl.setL
  rw [Pl.take_rt b k h, List.filter_append]
  cases hk : Pl.keptB a (Pl.rt b k) <;> simp [hk]
theorem Pl.goneL_succ (a b : List Pl.Rt) (k : Nat) (h : k < a.length) : Pl.goneL (a.take (k + 1)) b = Pl.goneL (a.take k) b ++ (if Pl.thereP (b.map Pl.Rt.p) (Pl.rt a k).p then [] else [(Pl.rt a k).p]) := by
  unfold Pl.goneL
  rw [Pl.take_rt a k h, List.filter_append, List.map_append]
  cases hk : Pl.thereP (b.map Pl.Rt.p) (Pl.rt a k).p <;> simp [hk]
theorem Pl.setL_len (a b : List Pl.Rt) : (Pl.setL a b).length ≤ b.length := List.length_filter_le _ _
theorem Pl.goneL_len (a b : List Pl.Rt) : (Pl.goneL a b).length ≤ a.length := by
  unfold Pl.goneL
  rw [List.length_map]
  exact List.length_filter_le _ _

theorem infoPfxR : (Tryz.prog.info? 44).map (fun i => (i.zero, i.size, i.bytes)) = some (some (.agg #[.int .i64 0, .int .i64 0]), 2, 16) := by kernel_rfl
theorem ret3 {v1 v2 v3 : Value} {P : Prop} (h : P) : Ending.returned (.tuple #[v1, v2, v3]) = .returned (.tuple #[v1, v2, v3]) ∧ P := ⟨rfl, h⟩

end Go.Proofs.YtcdobhdbafpkiaeGreatDoor
/-
  Contract: slices.Insert of one route into a row of one's own: at a place within it.
-/
namespace Go.Proofs.YtcdobhdbafpkiaeGreatDoor
open Go.RowKit
set_option maxRecDepth 20000

theorem cellsR_cut (hs : List Pl.RH) (i : Nat) : cellsR hs = cellsR (hs.take i) ++ cellsR (hs.drop i) := by rw [← cellsR_append, List.take_append_drop]
theorem cellsH_src (w : World) (x : Pl.RH) {j : Nat} {u : Value} (h : (cellsH x)[j]? = some u) : (w.alloc (rtObj x)).cell? ⟨w.heap.size, j, none⟩ = some u := by
  match j, h with
  | 0, h => simp [cellsH] at h; subst h; unfold rtObj; simp
  | 1, h => simp [cellsH] at h; subst h; unfold rtObj; simp
  | 2, h => simp [cellsH] at h; subst h; unfold rtObj; simp
  | 3, h => simp [cellsH] at h; subst h; unfold rtObj; simp
  | 4, h => simp [cellsH] at h; subst h; unfold rtObj; simp
  | j + 5, h => simp [cellsH] at h

set_option maxHeartbeats 4000000 in
theorem Insert_room (base : Nat) (hs : List Pl.RH) (i : Nat) (x : Pl.RH) (w : World) (g cap : Nat) (L : List Value) (hi : i < hs.length) (hb : base ≤ g) (hg : w.heap[g]? = some (.cells L.toArray 47 (0, 0))) (hroom : hs.length + 1 ≤ cap) (hm : cap ≤ maxLen) (hL : L.length = cap * 5) (hx : L.take (hs.length * 5) = cellsR hs) :
    Calls Tryz.prog 42 #[.slice (some ⟨g, 0, none⟩) hs.length cap, .int .i64 i, .slice (some ⟨w.heap.size, 0, none⟩) 1 1] (w.alloc (rtObj x)) fun e w' =>
      ∃ v', e = .returned v' ∧ OwnR w' base v' (hs.take i ++ x :: hs.drop i) ∧ (w.alloc (rtObj x)).grownBy w' (some g) := by
  have hm0 := hm
  unfold maxLen at hm
  have hlt := blockLt hg
  obtain ⟨W, HW⟩ : ∃ W, Hid (W = w.alloc (rtObj x)) := ⟨_, rfl⟩
  have HG : Hid (W.heap[g]? = some (.cells L.toArray 47 (0, 0))) := hid (by rw [HW.out, Below.heap_alloc _ _ _ hlt]; exact hg)
  have HOV : Hid (∀ o lb cb, (callFunc 70 #[.slice (some ⟨w.heap.size, 0, none⟩) 1 1, .slice (some ⟨g, o, none⟩) lb cb]).run Tryz.prog W = .ok (.value (.bool false)) W) := hid fun o lb cb => by
    rw [HW.out]; exact overlapsNo w g o lb cb L x hg (by omega)
  have HXS : Hid (∀ j u, (cellsH x)[j]? = some u → W.cell? ⟨w.heap.size, j, none⟩ = some u) := hid fun j u h => by rw [HW.out]; exact cellsH_src w x h
  have HSZ : Hid (W.heap.size = w.heap.size + 1) := hid (by rw [HW.out]; simp)
  have HFIN := hid (laid_twice L (cellsR (hs.take i)) (cellsR (hs.drop i)) (cellsH x) hs.length i (by rw [cellsR_len]; simp; omega) (by rw [cellsR_len]; simp) rfl hi (by omega) (by rw [hx]; exact cellsR_cut hs i))
  have HBL : Hid ((cellsR (hs.drop i)).length = (hs.length - i) * 5) := hid (by rw [cellsR_len]; simp)
  have HBS : Hid (∀ j u, (cellsR (hs.drop i))[j]? = some u → L[i * 5 + j]? = some u) := hid fun j u hj => by
    have h1 : (cellsR hs)[i * 5 + j]? = some u := by
      rw [cellsR_cut hs i, List.getElem?_append_right (by rw [cellsR_len]; simp; omega), cellsR_len]
      simpa [show min i hs.length = i by omega] using hj
    rw [← hx, List.getElem?_take] at h1
    split at h1
    · exact h1
    · cases h1
  have HB1 := hid (cellsR_one (hs.drop i))
  have HX1 : Hid (∀ u ∈ cellsH x, u.oneCell' = true) := hid (by have := cellsR_one [x]; simpa [cellsR] using this)
  rw [← HW.out]
  have HLEN : Hid ((hs.take i ++ x :: hs.drop i).length = hs.length + 1) := hid (by simp; omega)
  have HCEL : Hid (cellsR (hs.take i ++ x :: hs.drop i) = cellsR (hs.take i) ++ (cellsH x ++ cellsR (hs.drop i))) := hid (by rw [cellsR_append]; rfl)
  obtain ⟨ns, HNS⟩ : ∃ l, Hid (hs.take i ++ x :: hs.drop i = l) := ⟨_, rfl⟩
  rw [HNS.out] at HLEN HCEL ⊢
  obtain ⟨B, HBB⟩ : ∃ l, Hid (cellsR (hs.drop i) = l) := ⟨_, rfl⟩
  rw [HBB.out] at HFIN HBL HBS HB1 HCEL
  obtain ⟨A, HAA⟩ : ∃ l, Hid (cellsR (hs.take i) = l) := ⟨_, rfl⟩
  rw [HAA.out] at HFIN HCEL
  obtain ⟨X, HXX⟩ : ∃ l, Hid (cellsH x = l) := ⟨_, rfl⟩
  have HXL : Hid (X.length = 5) := hid (by rw [← HXX.out]; rfl)
  rw [HXX.out] at HFIN HXS HX1 HCEL
  obtain ⟨VB, HVB⟩ : ∃ n, Hid (w.heap.size = n) := ⟨_, rfl⟩
  rw [HVB.out] at HOV HXS hlt ⊢
  clear hg hx HBB HAA HXX HNS
  obtain ⟨n, HN⟩ : ∃ n, Hid (hs.length = n) := ⟨_, rfl⟩
  rw [HN.out] at hi hroom HFIN HBL HLEN ⊢
  have hi1 : ¬ ((i : Int) = (n : Int)) := by omega
  have hi2 : (i : Int) ≤ (n : Int) := by omega
  have hi3 : ¬ (cap = i) := by omega
  have hi4 : ¬ (cap = i + 1) := by omega
  have hrm : ¬ ((cap : Int) < (n : Int) + 1) := by omega
  have hie : ((i : Int) == (n : Int)) = false := by simpa using hi1
  have hw1 : IntKind.i64.wrap ((n : Int) + 1) = (n : Int) + 1 := by rw [IntKind.wrap_i64]; omega
  have hw2 : IntKind.i64.wrap ((i : Int) + 1) = (i : Int) + 1 := by rw [IntKind.wrap_i64]; omega
  have hov := HOV.out
  go_enter Tryz.func42, Tryz.ntmps42
  go_wp2_with (simp only [hov])
  have hw3 : ((i : Int) + 1).toNat = i + 1 := by omega
  have hw4 : (0 : Int) ≤ (i : Int) + 1 := by omega
  have hw5 : (i : Int) ≤ (n : Int) + 1 := by omega
  have HLL : Hid ((laid L ((i + 1) * 5) B).length = cap * 5) := hid (by rw [laid_len _ _ _ (by rw [HBL.out]; omega), hL])
  go_region_law (refine step_copyR rfl (.tmp 73) (.tmp 76) rfl g ((i + 1) * 5) (n - i) (cap - (i + 1)) ⟨g, i * 5, none⟩ (n + 1 - i) (cap - i) (by simp [Act.eval, Act.put]) (by simp [Act.eval, Act.put]) L B HG.out (by rw [HBL.out]; congr 1; simp only [Nat.min_def]; split <;> omega) (fun j u hj => by rw [add_none]; exact row_cell HG.out (HBS.out j u hj)) (by rw [HBL.out]; omega) HB1.out ?_; intro w1 v1 hg1 hb1; have HG1 := hid hg1; have HB1' := hid hb1; clear hg1 hb1)
  all_goals
    have HX2 : Hid (∀ j u, X[j]? = some u → w1.cell? ⟨VB, j, none⟩ = some u) := hid fun j u hj => (HB1'.out.cell (p := ⟨VB, j, none⟩) (by show VB < W.heap.size; rw [HSZ.out, HVB.out]; omega) (by show VB ≠ g; omega)).trans (HXS.out j u hj)
    go_wp2_with (refine wpList_copyR rfl (.tmp 80) (.tmp 81) rfl g (i * 5) (n + 1 - i) (cap - i) ⟨VB, 0, none⟩ 1 1 rfl rfl (laid L ((i + 1) * 5) B) X HG1.out (by rw [HXL.out]; simp only [Nat.min_def]; split <;> omega) (fun j u hj => by rw [add_none, Nat.zero_add]; exact HX2.out j u hj) (by rw [HXL.out, HLL.out]; omega) HX1.out ?_; intro w2 v2 hg2 hb2; have HG2 := hid hg2; have HB2 := hid hb2; clear hg2 hb2)
    go_ret
    refine ⟨_, rfl, ownR_row hb HG2.out HLEN.out hroom hm0 ?_ ?_, ?_⟩
    · rw [laid_len _ _ _ (by rw [HXL.out, HLL.out]; omega), HLL.out]
    · rw [HFIN.out, HCEL.out]
    · exact ((((But.refl g W).drawn 1).trans HB1'.out).trans HB2.out).grown

set_option maxHeartbeats 4000000 in
theorem Insert_grow (base : Nat) (hs : List Pl.RH) (i : Nat) (x : Pl.RH) (w : World) (g cap : Nat) (L : List Value) (hi : i < hs.length) (hbase : base ≤ w.heap.size) (hg : w.heap[g]? = some (.cells L.toArray 47 (0, 0))) (hcap : hs.length ≤ cap) (hroom : cap < hs.length + 1) (hbig : hs.length ≤ 2000000) (hx : L.take (hs.length * 5) = cellsR hs) :
    Calls Tryz.prog 42 #[.slice (some ⟨g, 0, none⟩) hs.length cap, .int .i64 i, .slice (some ⟨w.heap.size, 0, none⟩) 1 1] (w.alloc (rtObj x)) fun e w' =>
      ∃ v', e = .returned v' ∧ OwnR w' base v' (hs.take i ++ x :: hs.drop i) ∧ (w.alloc (rtObj x)).grownBy w' (some g) := by
  have hlt := blockLt hg
  obtain ⟨W, HW⟩ : ∃ W, Hid (W = w.alloc (rtObj x)) := ⟨_, rfl⟩
  have HG : Hid (W.heap[g]? = some (.cells L.toArray 47 (0, 0))) := hid (by rw [HW.out, Below.heap_alloc _ _ _ hlt]; exact hg)
  have HXS : Hid (∀ j u, (cellsH x)[j]? = some u → W.cell? ⟨w.heap.size, j, none⟩ = some u) := hid fun j u h => by rw [HW.out]; exact cellsH_src w x h
  have HSZ : Hid (W.heap.size = w.heap.size + 1) := hid (by rw [HW.out]; simp)
  have HFIN : Hid (∀ Z, (laid (laid (cellsR (hs.take i) ++ Z) (i * 5) (cellsH x)) ((i + 1) * 5) (cellsR (hs.drop i))).take ((hs.length + 1) * 5) = cellsR (hs.take i) ++ (cellsH x ++ cellsR (hs.drop i))) := hid fun Z => laid_new Z (cellsR (hs.take i)) (cellsR (hs.drop i)) (cellsH x) hs.length i (by rw [cellsR_len]; simp; omega) (by rw [cellsR_len]; simp) rfl hi
  have HBL : Hid ((cellsR (hs.drop i)).length = (hs.length - i) * 5) := hid (by rw [cellsR_len]; simp)
  have HAL : Hid ((cellsR (hs.take i)).length = i * 5) := hid (by rw [cellsR_len]; simp; omega)
  have HBS : Hid (∀ j u, (cellsR (hs.drop i))[j]? = some u → L[i * 5 + j]? = some u) := hid fun j u hj => by
    have h1 : (cellsR hs)[i * 5 + j]? = some u := by
      rw [cellsR_cut hs i, List.getElem?_append_right (by rw [cellsR_len]; simp; omega), cellsR_len]
      simpa [show min i hs.length = i by omega] using hj
    rw [← hx, List.getElem?_take] at h1
    split at h1
    · exact h1
    · cases h1
  have HAS : Hid (∀ j u, (cellsR (hs.take i))[j]? = some u → L[j]? = some u) := hid fun j u hj => by
    have h0 : j < (cellsR (hs.take i)).length := (List.getElem?_eq_some_iff.1 hj).1
    have h1 : (cellsR hs)[j]? = some u := by
      rw [cellsR_cut hs i, List.getElem?_append_left h0]
      exact hj
    rw [← hx, List.getElem?_take] at h1
    split at h1
    · exact h1
    · cases h1
  have HB1 := hid (cellsR_one (hs.drop i))
  have HX1 : Hid (∀ u ∈ cellsH x, u.oneCell' = true) := hid (by have := cellsR_one [x]; simpa [cellsR] using this)
  rw [← HW.out]
  have HLEN : Hid ((hs.take i ++ x :: hs.drop i).length = hs.length + 1) := hid (by simp; omega)
  have HCEL : Hid (cellsR (hs.take i ++ x :: hs.drop i) = cellsR (hs.take i) ++ (cellsH x ++ cellsR (hs.drop i))) := hid (by rw [cellsR_append]; rfl)
  obtain ⟨ns, HNS⟩ : ∃ l, Hid (hs.take i ++ x :: hs.drop i = l) := ⟨_, rfl⟩
  rw [HNS.out] at HLEN HCEL ⊢
  obtain ⟨B, HBB⟩ : ∃ l, Hid (cellsR (hs.drop i) = l) := ⟨_, rfl⟩
  rw [HBB.out] at HFIN HBL HBS HB1 HCEL
  obtain ⟨A, HAA⟩ : ∃ l, Hid (cellsR (hs.take i) = l) := ⟨_, rfl⟩
  rw [HAA.out] at HFIN HCEL HAL HAS
  obtain ⟨X, HXX⟩ : ∃ l, Hid (cellsH x = l) := ⟨_, rfl⟩
  have HXL : Hid (X.length = 5) := hid (by rw [← HXX.out]; rfl)
  rw [HXX.out] at HFIN HXS HX1 HCEL
  obtain ⟨VB, HVB⟩ : ∃ n, Hid (w.heap.size = n) := ⟨_, rfl⟩
  rw [HVB.out] at HXS hlt HSZ hbase ⊢
  clear hg hx HBB HAA HXX HNS
  obtain ⟨n, HN⟩ : ∃ n, Hid (hs.length = n) := ⟨_, rfl⟩
  rw [HN.out] at hi hroom hcap hbig HFIN HBL HLEN ⊢
  have hi1 : ¬ ((i : Int) = (n : Int)) := by omega
  have hi2 : (i : Int) ≤ (n : Int) := by omega
  have hi3 : ¬ (cap = i) := by omega
  have hrm : (cap : Int) < (n : Int) + 1 := by omega
  have hie : ((i : Int) == (n : Int)) = false := by simpa using hi1
  have hw1 : IntKind.i64.wrap ((n : Int) + 1) = (n : Int) + 1 := by rw [IntKind.wrap_i64]; omega
  have hw2 : IntKind.i64.wrap ((i : Int) + 1) = (i : Int) + 1 := by rw [IntKind.wrap_i64]; omega
  have hwk : (n : Int) + 1 - (i : Int) = ((n + 1 - i : Nat) : Int) := by omega
  go_enter Tryz.func42, Tryz.ntmps42
  go_wp2_with (first
    | (at_builtin; refine wpList_zeros rfl (.tmp 34) (.tmp 39) rfl g i cap (n + 1 - i) rfl _ rfl rfl A HAL.out (fun j u hj => row_cell HG.out (HAS.out j u hj)) (by omega) (by omega) (by omega) ?_; intro w1 G Z hg1 hz1 hG1 hG2 hb1; rw [show i + (n + 1 - i) = n + 1 by omega] at hG1 ⊢; have HG1 := hid hg1; have HZ1 := hid hz1; have HGM := hid hG2; have HB1' := hid hb1; have HX2 : Hid (∀ j u, X[j]? = some u → w1.cell? ⟨VB, j, none⟩ = some u) := hid (fun j u hj => (hb1.cell (p := ⟨VB, j, none⟩) (by show VB < W.heap.size; rw [HSZ.out]; omega)).trans (HXS.out j u hj)); have hgi : ¬ G = i := (by omega); have hgi1 : ¬ G = i + 1 := (by omega); clear hg1 hz1 hG2 hb1)
    | (refine wpList_copyR rfl (.tmp 43) (.tmp 44) rfl W.heap.size (i * 5) (n + 1 - i) (G - i) ⟨VB, 0, none⟩ 1 1 rfl rfl (A ++ Z) X HG1.out (by rw [HXL.out]; simp only [Nat.min_def]; split <;> omega) (fun j u hj => by rw [add_none, Nat.zero_add]; exact HX2.out j u hj) (by rw [HXL.out, List.length_append, HZ1.out]; omega) HX1.out ?_; intro w2 v2 hg2 hb2; have HG2 := hid hg2; have HB2 := hid hb2; clear hg2 hb2))
  have hw3 : ((i : Int) + 1).toNat = i + 1 := by omega
  have hw4 : (0 : Int) ≤ (i : Int) + 1 := by omega
  have hw6 : (i : Int) ≤ (n : Int) := by omega
  have HL2 : Hid ((laid (A ++ Z) (i * 5) X).length = G * 5) := hid (by rw [laid_len _ _ _ (by rw [HXL.out, List.length_append, HZ1.out]; omega), List.length_append, HZ1.out])
  have HGG : Hid (w2.heap[g]? = some (.cells L.toArray 47 (0, 0))) := hid (by
    have e1 := HB2.out.block g (by have := HB1'.out.size; rw [HSZ.out] at this; omega) (by rw [HSZ.out]; omega)
    have e2 := HB1'.out.block g (by rw [HSZ.out]; omega)
    rw [e1, e2]; exact HG.out)
  go_region_law (refine step_copyR rfl (.tmp 50) (.tmp 53) rfl W.heap.size ((i + 1) * 5) (n - i) (G - (i + 1)) ⟨g, i * 5, none⟩ (n - i) (cap - i) (by simp [Act.eval, Act.put]) (by simp [Act.eval, Act.put]) (laid (A ++ Z) (i * 5) X) B HG2.out (by rw [HBL.out]; congr 1; simp only [Nat.min_def]; split <;> omega) (fun j u hj => by rw [add_none]; exact row_cell HGG.out (HBS.out j u hj)) (by rw [HBL.out, HL2.out]; omega) HB1.out ?_; intro w3 v3 hg3 hb3; have HG3 := hid hg3; have HB3 := hid hb3; clear hg3 hb3)
  all_goals
    go_wp2_with fail
    go_ret
    refine ⟨_, rfl, ownR_row (by rw [HSZ.out]; omega) HG3.out HLEN.out hG1 HGM.out ?_ ?_, ?_⟩
    · rw [laid_len _ _ _ (by rw [HBL.out, HL2.out]; omega), HL2.out]
    · rw [HFIN.out, HCEL.out]
    · refine grown_below ?_
      exact (HB1'.out.trans (HB2.out.below (Nat.le_refl _) HB1'.out.size)).trans (((((But.refl W.heap.size w2).drawn 1).trans HB3.out)).below (Nat.le_refl _) (Nat.le_trans HB1'.out.size HB2.out.size))

theorem Insert_any (base : Nat) (v : Value) (hs : List Pl.RH) (i : Nat) (x : Pl.RH) (w : World) (hown : OwnR w base v hs) (hbase : base ≤ w.heap.size) (hb : hs.length ≤ 2000000) (hi : i ≤ hs.length) :
    Calls Tryz.prog 42 #[v, .int .i64 i, .slice (some ⟨w.heap.size, 0, none⟩) 1 1] (w.alloc (rtObj x)) fun e w' =>
      ∃ v', e = .returned v' ∧ OwnR w' base v' (hs.take i ++ x :: hs.drop i) ∧ (w.alloc (rtObj x)).grownBy w' v.ownBlock := by
  rcases Nat.lt_or_ge i hs.length with h | h
  · obtain ⟨g, cap, L, rfl, hbg, hg, hn, hm, hL, hx⟩ := hown.row (by omega)
    rcases Nat.lt_or_ge cap (hs.length + 1) with hc | hc
    · exact Insert_grow base hs i x w g cap L h hbase hg hn hc hb hx
    · exact Insert_room base hs i x w g cap L h hbg hg hc hm hL hx
  · obtain rfl : i = hs.length := by omega
    rw [List.take_of_length_le (Nat.le_refl _), List.drop_of_length_le (Nat.le_refl _)]
    exact (Insert_end base v hs x w hown hbase hb).mono fun e w' ⟨v', h1, h2, h3, _⟩ => ⟨v', h1, h2, h3⟩
end Go.Proofs.YtcdobhdbafpkiaeGreatDoor
/-
  Contract: slices.Delete of one route of a row of one's own.
-/
namespace Go.Proofs.YtcdobhdbafpkiaeGreatDoor
open Go.RowKit
set_option maxRecDepth 20000

theorem OwnR.head {w : World} {base g cap : Nat} {hs : List Pl.RH} (h : OwnR w base (.slice (some ⟨g, 0, none⟩) hs.length cap) hs) (i : Nat) (hi : i ≤ hs.length) : OwnR w base (.slice (some ⟨g, 0, none⟩) i cap) (hs.take i) := by
  obtain ⟨_, h | ⟨g', cap', cur, e, hb, hh, hn, hm, hs', hx⟩⟩ := h
  · simp at h
  · simp only [Value.slice.injEq, Option.some.injEq, Addr.mk.injEq, and_true] at e
    obtain ⟨rfl, _, rfl⟩ := e
    have hl : (hs.take i).length = i := by simp; omega
    refine ⟨cellsR_len _, .inr ⟨g, cap, cur, by rw [hl], hb, hh, by omega, hm, hs', ?_⟩⟩
    rw [hl]
    have : cur.toList.take (i * 5) = (cur.toList.take (hs.length * 5)).take (i * 5) := by rw [List.take_take]; congr 1; omega
    rw [this, hx, cellsR_cut hs i, List.take_append_of_le_length (by rw [cellsR_len, hl]; exact Nat.le_refl _), List.take_of_length_le (by rw [cellsR_len, hl]; exact Nat.le_refl _)]

theorem step_appendR {w : World} {ops : Array Oper} {o : Oper} {a : Act} {K : Act → World → Prop} {Q : Exit → Act → World → Prop} {E : Prop} (hgd : o.guard = none) (s x : Operand)
    (ho : o.op = .call { callee := .builtin .append, args := #[s, x], argTypes := #[23, 23] })
    (base g k cap : Nat) (hs : List Pl.RH) (hk : hs.length = k) (hs' : a.eval s = .slice (some ⟨g, 0, none⟩) k cap) (hown : OwnR w base (.slice (some ⟨g, 0, none⟩) k cap) hs) (ad : Addr) (m c : Nat) (ns : List Pl.RH) (hx : a.eval x = .slice (some ad) m c) (hn : ns.length = m)
    (hsrc : ∀ j u, (cellsR ns)[j]? = some u → w.cell? (ad.add j) = some u) (hroom : k + m ≤ cap)
    (h : ∀ w', OwnR w' base (.slice (some ⟨g, 0, none⟩) (k + m) cap) (hs ++ ns) → w.grownBy w' (some g) → K (a.put o.dst (.slice (some ⟨g, 0, none⟩) (k + m) cap)) w') : if Region.wanted o (yielded ops a.tmps) = true then Oper.wp Tryz.prog o a w K Q else E := by
  have hw : Region.wanted o (yielded ops a.tmps) = true := by simp [Region.wanted, hgd]
  rw [if_pos hw]
  subst hk
  obtain ⟨i0, hi0, hz0, hz1, hz2⟩ := partsOf infoRoute
  obtain ⟨w', hrun, r1, r2⟩ := run_append_fits (P := Tryz.prog) w base 23 o.type 47 i0 5 Tryz.underlying23 hi0 hz1 g hs.length cap (cellsR hs) hown ad m c (cellsR ns) (by rw [cellsR_len, hn]) hsrc (cellsR_one _) hroom
  unfold Oper.wp
  simp [execOp, ho, resolve, invoke, builtin, hs', hx, hrun, Result.andThen]
  exact h w' (ownR_of r1 (by rw [cellsR_append])) r2

theorem run_clearR (w : World) (g o c : Nat) (L : List Value) (hg : w.heap[g]? = some (.cells L.toArray 47 (0, 0))) (hfit : o + 5 ≤ L.length) (ty : TypeId) :
    (Builtin.clear_ #[23] ty #[.slice (some ⟨g, o, none⟩) 1 c]).run Tryz.prog w = .ok (.tuple #[]) (w.setRow g (laid L o [.int .i64 0, .int .i64 0, .bool false, .int .i64 0, .slice none 0 0]).toArray) := by
  have hv : ∀ w, (zeroValue 47).run Tryz.prog w = .ok (.agg #[.int .i64 0, .int .i64 0, .bool false, .int .i64 0, .slice none 0 0]) w := Tryz.zeroValue47
  have hz : (Builtin.zeroCells (Value.agg #[.int .i64 0, .int .i64 0, .bool false, .int .i64 0, .slice none 0 0]).cells 1).toList = [.int .i64 0, .int .i64 0, .bool false, .int .i64 0, .slice none 0 0] := by kernel_rfl
  have hst := run_storeCells_at Tryz.prog g o 47 [.int .i64 0, .int .i64 0, .bool false, .int .i64 0, .slice none 0 0] 0 L.toArray w hg (by simpa using hfit) (by intro v hv; simp at hv; rcases hv with rfl | rfl | rfl | rfl | rfl <;> rfl)
  simp only [Nat.add_zero] at hst
  simp only [Builtin.clear_]
  simp [run_underlying Tryz.underlying23, hv, hz, hst, laid]

theorem wpList_clearR {w : World} {ops : Array Oper} {rest : List Oper} {o : Oper} {a : Act} {Q : Exit → Act → World → Prop} (hgd : o.guard = none) (s : Operand)
    (ho : o.op = .call { callee := .builtin .clear, args := #[s], argTypes := #[23] })
    (base g n cap off c : Nat) (hs' : a.eval s = .slice (some ⟨g, off, none⟩) 1 c) (hs : List Pl.RH) (hown : OwnR w base (.slice (some ⟨g, 0, none⟩) n cap) hs) (hn : hs.length = n) (hoff : off = n * 5) (hfit : n + 1 ≤ cap)
    (h : ∀ w' v', OwnR w' base (.slice (some ⟨g, 0, none⟩) n cap) hs → But g w w' → wpList Tryz.prog ops Q rest (a.put o.dst v') w') : wpList Tryz.prog ops Q (o :: rest) a w := by
  subst hn
  obtain ⟨_, h0 | ⟨g', cap', cur, e, hb, hh, hn, hm, hsz, hx⟩⟩ := hown
  · simp at h0
  · simp only [Value.slice.injEq, Option.some.injEq, Addr.mk.injEq, and_true] at e
    obtain ⟨rfl, _, rfl⟩ := e
    have hgL : w.heap[g]? = some (.cells cur.toList.toArray 47 (0, 0)) := by simpa using hh
    have hfit2 : off + 5 ≤ cur.toList.length := by simp; omega
    have hrun := run_clearR w g off c cur.toList hgL hfit2 o.type
    refine wpList_plain hgd fun K hK => ?_
    unfold Oper.wp
    simp [execOp, ho, resolve, invoke, builtin, hs', hrun, Result.andThen]
    refine hK _ _ (h _ _ (ownR_row hb (setRow_heap w g _ _ _ _ hgL) rfl hn hm ?_ ?_) (But.row w g _))
    · rw [laid_len _ _ _ (by simpa using hfit2)]
      simpa using hsz
    · unfold laid
      rw [List.append_assoc, List.take_append_of_le_length (by simp; omega), List.take_take, show min (hs.length * 5) off = hs.length * 5 by omega, hx]

end Go.Proofs.YtcdobhdbafpkiaeGreatDoor
/-
  Contracts: a route laid at its place (rib.lay); a table without some prefixes (rib.without).
-/
namespace Go.Proofs.YtcdobhdbafpkiaeGreatDoor
open Go.RowKit
set_option maxRecDepth 20000

/-- one route of a row laid anew -/
def set5 (w : World) (g o : Nat) (x : Pl.RH) : World := ((((w.setCell ⟨g, o, none⟩ (.int .i64 x.p.1)).setCell ⟨g, o + 1, none⟩ (.int .i64 x.p.2)).setCell ⟨g, o + 2, none⟩ (.bool x.here)).setCell ⟨g, o + 3, none⟩ (.int .i64 x.cost)).setCell ⟨g, o + 4, none⟩ (.slice x.ha x.hl x.hc)
theorem cellsR_set : ∀ (hs : List Pl.RH) (i : Nat) (x : Pl.RH), cellsR (hs.set i x) = (((((cellsR hs).set (i * 5) (.int .i64 x.p.1)).set (i * 5 + 1) (.int .i64 x.p.2)).set (i * 5 + 2) (.bool x.here)).set (i * 5 + 3) (.int .i64 x.cost)).set (i * 5 + 4) (.slice x.ha x.hl x.hc)
  | [], i, x => by simp [cellsR]
  | e :: r, 0, x => by simp [cellsR, cellsH]
  | e :: r, i + 1, x => by
    rw [List.set_cons_succ, cellsR, cellsR_set r i x, show (i + 1) * 5 = i * 5 + 5 by omega]
    simp [cellsR, cellsH]
theorem blk_setR {w : World} {g o : Nat} {cur : Array Value} {T : TypeId} {v : Value} (h : w.heap[g]? = some (.cells cur T (0, 0))) : (w.setCell ⟨g, o, none⟩ v).heap[g]? = some (.cells (cur.setIfInBounds o v) T (0, 0)) := by
  rw [setCell_eq_setRow w g o cur T (0, 0) v h]
  exact setRow_heap w g _ _ _ _ h
theorem OwnR.set {w : World} {base g cap : Nat} {hs : List Pl.RH} (h : OwnR w base (.slice (some ⟨g, 0, none⟩) hs.length cap) hs) (i : Nat) (x : Pl.RH) : OwnR (set5 w g (i * 5) x) base (.slice (some ⟨g, 0, none⟩) hs.length cap) (hs.set i x) := by
  obtain ⟨_, h | ⟨g', cap', cur, e, hb, hh, hn, hm, hs', hx⟩⟩ := h
  · simp at h
  · simp only [Value.slice.injEq, Option.some.injEq, Addr.mk.injEq, and_true] at e
    obtain ⟨rfl, _, rfl⟩ := e
    refine ⟨by simp [cellsR_len], .inr ⟨g, cap, _, by simp, hb, blk_setR (blk_setR (blk_setR (blk_setR (blk_setR hh)))), by simpa using hn, hm, by simpa using hs', ?_⟩⟩
    simp only [Array.toList_setIfInBounds, List.take_set, List.length_set]
    rw [hx, cellsR_set]
theorem But.set5 (w : World) (g o : Nat) (x : Pl.RH) : But g w (set5 w g o x) := (((((But.refl g w).setCell _ _).setCell _ _).setCell _ _).setCell _ _).setCell _ _
theorem OwnR.opened {w : World} {base : Nat} {v : Value} {hs : List Pl.RH} (h : OwnR w base v hs) (hne : 0 < hs.length) :
    ∃ g cap, v = .slice (some ⟨g, 0, none⟩) hs.length cap ∧ base ≤ g ∧ g < w.heap.size ∧ hs.length ≤ cap ∧ cap ≤ maxLen ∧ RowsAt w g 0 hs ∧ (∀ o, w.frozen? ⟨g, o, none⟩ = false) := by
  obtain ⟨a, cap, rfl, hr, hb⟩ := h.rows
  obtain ⟨b, off, rfl, hlt, hra⟩ := hr.at (k := 0) (by omega)
  obtain ⟨g, cap', L, e, hbg, hg, _⟩ := h.row hne
  simp only [Value.slice.injEq, Option.some.injEq, Addr.mk.injEq, and_true] at e
  obtain ⟨⟨rfl, rfl⟩, _⟩ := e
  exact ⟨b, cap, rfl, hbg, hlt, hr.2.1, hr.2.2.1, hra, fun o => by simp [World.frozen?, hg]⟩
theorem Pl.set_eq (hs : List Pl.RH) (i : Nat) (x : Pl.RH) (h : i < hs.length) : hs.set i x = hs.take i ++ x :: hs.drop (i + 1) := List.set_eq_take_append_cons_drop .. |>.trans (by rw [if_pos h])

/-- what is laid at a place, as it lies in memory -/
def Pl.layH (hs : List Pl.RH) (i : Nat) (instead : Bool) (x : Pl.RH) : List Pl.RH := hs.take i ++ x :: hs.drop (if instead then i + 1 else i)

theorem ReadsAll.take {w : World} {hs : List Pl.RH} {rs : List Pl.Rt} (h : ReadsAll w hs rs) (n : Nat) : ReadsAll w (hs.take n) (rs.take n) := by
  refine ⟨by simp [h.1], fun i hi => ?_⟩
  simp only [List.length_take] at hi
  rw [Pl.rh_take hs n i (by omega) (by omega)]
  have : Pl.rt (rs.take n) i = Pl.rt rs i := by
    have := h.1
    rw [Pl.rt_eq _ _ (by simp; omega), Pl.rt_eq _ _ (by omega)]; simp
  rw [this]
  exact h.2 i (by omega)
theorem ReadsAll.drop {w : World} {hs : List Pl.RH} {rs : List Pl.Rt} (h : ReadsAll w hs rs) (n : Nat) : ReadsAll w (hs.drop n) (rs.drop n) := by
  refine ⟨by simp [h.1], fun i hi => ?_⟩
  simp only [List.length_drop] at hi
  rw [Pl.rh_drop hs n i (by omega)]
  have : Pl.rt (rs.drop n) i = Pl.rt rs (n + i) := by
    have := h.1
    rw [Pl.rt_eq _ _ (by simp; omega), Pl.rt_eq _ _ (by omega)]; simp
  rw [this]
  exact h.2 (n + i) (by omega)
theorem ReadsAll.append {w : World} {hs gs : List Pl.RH} {rs ss : List Pl.Rt} (h : ReadsAll w hs rs) (k : ReadsAll w gs ss) : ReadsAll w (hs ++ gs) (rs ++ ss) := by
  refine ⟨by simp [h.1, k.1], fun i hi => ?_⟩
  simp only [List.length_append] at hi
  rcases Nat.lt_or_ge i hs.length with q | q
  · rw [Pl.rh_app_lt _ _ _ q, Pl.rt_app_lt _ _ _ (by rw [← h.1]; exact q)]
    exact h.2 i q
  · have e1 : Pl.rh (hs ++ gs) i = Pl.rh gs (i - hs.length) := by
      rw [Pl.rh_eq _ _ (by simp; omega), Pl.rh_eq _ _ (by omega), List.getElem_append_right q]
    have e2 : Pl.rt (rs ++ ss) i = Pl.rt ss (i - hs.length) := by
      have h1 := h.1
      have h2 := k.1
      rw [Pl.rt_eq _ _ (by simp; omega), Pl.rt_eq _ _ (by omega), List.getElem_append_right (by omega)]
      simp [h1]
    rw [e1, e2]
    exact k.2 _ (by omega)
theorem ReadsAll.one {w : World} {x : Pl.RH} {r : Pl.Rt} (h : Reads w x r) : ReadsAll w [x] [r] := ⟨rfl, fun i hi => by simp at hi; subst hi; exact h⟩
theorem ReadsAll.lay {w : World} {hs : List Pl.RH} {rs : List Pl.Rt} {x : Pl.RH} {r : Pl.Rt} (h : ReadsAll w hs rs) (hr : Reads w x r) : ReadsAll w (Pl.layH hs (Pl.posP (Pl.hp hs) x.p) (Pl.thereP (Pl.hp hs) x.p) x) (Pl.insR rs r) := by
  rw [← Pl.lay_insR]
  have e : Pl.hp hs = rs.map Pl.Rt.p := h.map_p
  rw [e, hr.1]
  unfold Pl.layH Pl.layR
  exact (h.take _).append ((ReadsAll.one hr).append (h.drop _))
theorem ReadsAll.del {w : World} {hs : List Pl.RH} {rs : List Pl.Rt} {p : Int × Int} (h : ReadsAll w hs rs) (ht : Pl.thereP (Pl.hp hs) p = true) : ReadsAll w (hs.take (Pl.posP (Pl.hp hs) p) ++ hs.drop (Pl.posP (Pl.hp hs) p + 1)) (Pl.delR rs p) := by
  have e : Pl.hp hs = rs.map Pl.Rt.p := h.map_p
  rw [e] at ht ⊢
  unfold Pl.delR
  rw [if_pos ht]
  exact (h.take _).append (h.drop _)
theorem ReadsAll.asc {w : World} {hs : List Pl.RH} {rs : List Pl.Rt} (h : ReadsAll w hs rs) (hs' : Pl.SrtR rs) : Pl.AscP (Pl.hp hs) := by
  show Pl.AscP (hs.map Pl.RH.p)
  rw [h.map_p]
  exact (Pl.ascP_srt rs).2 hs'

theorem append_copyR {w : World} {ops : Array Oper} {rest : List Oper} {o : Oper} {a : Act} {Q : Exit → Act → World → Prop} (hgd : o.guard = none) (s x : Operand)
    (ho : o.op = .call { callee := .builtin .append, args := #[s, x], argTypes := #[23, 23] })
    (ao : Option Addr) (len cap : Nat) (hs : List Pl.RH) (hs' : a.eval s = .slice none 0 0) (hx : a.eval x = .slice ao len cap) (hE : IsRows w ao len cap hs) (hb : len ≤ 2000000)
    (h : ∀ v' w', OwnR w' w.heap.size v' hs → Below w.heap.size w w' → wpList Tryz.prog ops Q rest (a.put o.dst v') w') : wpList Tryz.prog ops Q (o :: rest) a w := by
  obtain ⟨i0, hi0, hz0, hz1, hz2⟩ := partsOf infoRoute
  obtain ⟨hl, hc, hm, hnil, hrow⟩ := hE
  rcases ao with _ | ad
  · obtain rfl := hnil rfl
    obtain rfl : len = 0 := by omega
    obtain rfl : hs = [] := List.length_eq_zero_iff.1 hl
    exact wpList_append_own_none hgd s x 23 ho w.heap.size 47 i0 5 Tryz.underlying23 hi0 _ 0 [] hs' (World.ownsRow_nil _ _ _ _) hx (h _ _ (OwnR.nil _ _) (Below.refl _ _))
  · refine wpList_append_own (w := w) hgd s x 23 ho w.heap.size 47 i0 _ 5 56 Tryz.underlying23 hi0 hz0 hz1 hz2 rfl (by decide) _ 0 [] hs' (World.ownsRow_nil _ _ _ _) ad len cap (cellsR hs) hx (by rw [cellsR_len, hl]) ?_ (cellsR_one _) (by unfold maxLen; omega) (by omega) (Nat.le_refl _) ?_
    · intro j u hj
      rcases hrow with rfl | ⟨b, off, hba, _, hr⟩
      · simp [cellsR] at hj
      · cases hba
        rw [add_none]
        exact (rowsAt_cells _ _).1 hr j u hj
    · intro v' w' hown hg _
      rw [List.nil_append] at hown
      exact h v' w' (ownR_of hown rfl) ((Below.refl _ _).grown hg (Nat.le_refl _) (by intro k hk; cases hk))

theorem Pl.take_prR (ps : List (Int × Int)) (k : Nat) (h : k < ps.length) : ps.take (k + 1) = ps.take k ++ [Pl.pr ps k] := by
  rw [List.take_succ_eq_append_getElem h, Pl.pr_eq ps k h]
theorem Pl.delsR_succ (rs : List Pl.Rt) (ps : List (Int × Int)) (k : Nat) (h : k < ps.length) : Pl.delsR rs (ps.take (k + 1)) = Pl.delR (Pl.delsR rs (ps.take k)) (Pl.pr ps k) := by
  unfold Pl.delsR
  rw [Pl.take_prR ps k h, List.foldl_append]; rfl
theorem OwnR.block {w : World} {base : Nat} {v : Value} {hs : List Pl.RH} (h : OwnR w base v hs) : ∀ k, v.ownBlock = some k → base ≤ k := fun k hk => (World.ownsRow.lt h k hk).1

end Go.Proofs.YtcdobhdbafpkiaeGreatDoor
/-
  Contract: a table that is patched (rib.Patch).
-/
namespace Go.Proofs.YtcdobhdbafpkiaeGreatDoor
open Go.RowKit
set_option maxRecDepth 20000

theorem Pl.inssR_cut (rs ss : List Pl.Rt) (k : Nat) : Pl.inssR rs ss = Pl.inssR (Pl.inssR rs (ss.take k)) (ss.drop k) := by
  unfold Pl.inssR
  rw [← List.foldl_append, List.take_append_drop]
theorem Pl.inssR_succ (rs ss : List Pl.Rt) (k : Nat) (h : k < ss.length) : Pl.inssR rs (ss.take (k + 1)) = Pl.insR (Pl.inssR rs (ss.take k)) (Pl.rt ss k) := by
  unfold Pl.inssR
  rw [Pl.take_rt ss k h, List.foldl_append]; rfl
theorem Pl.pat_size {a set : List Pl.Rt} {gone : List (Int × Int)} {k : Nat} (ha : Pl.tabF a = 0) (h : 200 < (Pl.inssR (Pl.delsR a gone) (set.take k)).length) : Pl.patC a set gone = 1 ∧ Pl.patL a set gone = [] := by
  have h1 : 200 < (Pl.patR a set gone).length := by
    unfold Pl.patR
    rw [Pl.inssR_cut _ set k]
    exact Nat.lt_of_lt_of_le h (Pl.inssR_len_ge _ _)
  have h2 := Pl.tabF_size h1
  unfold Pl.patC Pl.patL
  rw [if_pos ha, if_pos ha, h2]
  exact ⟨rfl, by rw [if_neg (by decide)]⟩
theorem Pl.rh_set_ne (hs : List Pl.RH) (k j : Nat) (x : Pl.RH) (h : j ≠ k) : Pl.rh (hs.set k x) j = Pl.rh hs j := by
  unfold Pl.rh
  rw [List.getD_eq_getElem?_getD, List.getD_eq_getElem?_getD, List.getElem?_set_ne (Ne.symm h)]
theorem Pl.rh_set_at (hs : List Pl.RH) (k : Nat) (x : Pl.RH) (h : k < hs.length) : Pl.rh (hs.set k x) k = x := by
  rw [Pl.rh_eq _ _ (by simpa using h)]; simp
/-- what a row of routes bears that one route of it is laid anew -/
theorem ReadsZ.set {w : World} {base b2 g o cap : Nat} {h x : Pl.RH} {r : Pl.Rt} {es : List Pl.RH} (hz : ReadsZ w base h r) (ho : OwnR w b2 (.slice (some ⟨g, 0, none⟩) es.length cap) es) : ReadsZ (set5 w g o x) base h r := by
  obtain ⟨q1, q2, q3, q4, q5⟩ := hz
  refine ⟨q1, q2, q3, q4.but (But.set5 w g o x) ?_, q5⟩
  rcases apartZR q4 ho with h | h
  · exact .inr (by rw [h]; simp)
  · exact .inr h

end Go.Proofs.YtcdobhdbafpkiaeGreatDoor
/-
  Contract: a route is offered to a table (offer).
-/
namespace Go.Proofs.YtcdobhdbafpkiaeGreatDoor
open Go.RowKit
set_option maxRecDepth 20000

/-- routes in memory, each with hops of its own -/
def ZAll (w : World) (base : Nat) (hs : List Pl.RH) (rs : List Pl.Rt) : Prop := hs.length = rs.length ∧ ∀ i, i < hs.length → ReadsZ w base (Pl.rh hs i) (Pl.rt rs i)
theorem ZAll.take {w : World} {base : Nat} {hs : List Pl.RH} {rs : List Pl.Rt} (h : ZAll w base hs rs) (n : Nat) : ZAll w base (hs.take n) (rs.take n) := by
  refine ⟨by simp [h.1], fun i hi => ?_⟩
  simp only [List.length_take] at hi
  rw [Pl.rh_take hs n i (by omega) (by omega)]
  have : Pl.rt (rs.take n) i = Pl.rt rs i := by
    have := h.1
    rw [Pl.rt_eq _ _ (by simp; omega), Pl.rt_eq _ _ (by omega)]; simp
  rw [this]
  exact h.2 i (by omega)
theorem ZAll.drop {w : World} {base : Nat} {hs : List Pl.RH} {rs : List Pl.Rt} (h : ZAll w base hs rs) (n : Nat) : ZAll w base (hs.drop n) (rs.drop n) := by
  refine ⟨by simp [h.1], fun i hi => ?_⟩
  simp only [List.length_drop] at hi
  rw [Pl.rh_drop hs n i (by omega)]
  have : Pl.rt (rs.drop n) i = Pl.rt rs (n + i) := by
    have := h.1
    rw [Pl.rt_eq _ _ (by simp; omega), Pl.rt_eq _ _ (by omega)]; simp
  rw [this]
  exact h.2 (n + i) (by omega)
theorem ZAll.append {w : World} {base : Nat} {hs gs : List Pl.RH} {rs ss : List Pl.Rt} (h : ZAll w base hs rs) (k : ZAll w base gs ss) : ZAll w base (hs ++ gs) (rs ++ ss) := by
  refine ⟨by simp [h.1, k.1], fun i hi => ?_⟩
  simp only [List.length_append] at hi
  rcases Nat.lt_or_ge i hs.length with q | q
  · rw [Pl.rh_app_lt _ _ _ q, Pl.rt_app_lt _ _ _ (by rw [← h.1]; exact q)]
    exact h.2 i q
  · have e1 : Pl.rh (hs ++ gs) i = Pl.rh gs (i - hs.length) := by
      rw [Pl.rh_eq _ _ (by simp; omega), Pl.rh_eq _ _ (by omega), List.getElem_append_right q]
    have e2 : Pl.rt (rs ++ ss) i = Pl.rt ss (i - hs.length) := by
      have h1 := h.1
      have h2 := k.1
      rw [Pl.rt_eq _ _ (by simp; omega), Pl.rt_eq _ _ (by omega), List.getElem_append_right (by omega)]
      simp [h1]
    rw [e1, e2]
    exact k.2 _ (by omega)
theorem ZAll.one {w : World} {base : Nat} {x : Pl.RH} {r : Pl.Rt} (h : ReadsZ w base x r) : ZAll w base [x] [r] := ⟨rfl, fun i hi => by simp at hi; subst hi; exact h⟩
theorem DInv.revalue {a0 : Act} {s n m : Nat} {off : Nat → Option Nat} {V V' : Nat → Value} {C : World → Prop} {listed : Array Bool} {a : Act} {w : World}
    (h : DInv a0 s n m off V C listed a w) (hV : ∀ k j, off k = some j → listed.getD k false = true → V j = V' j) : DInv a0 s n m off V' C listed a w := by
  obtain ⟨xs, hl, e, hf⟩ := h.fr
  exact ⟨h.ls, ⟨xs, hl, e, fun k j h1 h2 => (hf k j h1 h2).trans (hV k j h1 h2)⟩, h.cw⟩
theorem DInv.world {a0 : Act} {s n m : Nat} {off : Nat → Option Nat} {V : Nat → Value} {listed : Array Bool} {a : Act} {w w' : World}
    (h : DInv a0 s n m off V (fun _ => True) listed a w) : DInv a0 s n m off V (fun _ => True) listed a w' := ⟨h.ls, h.fr, trivial⟩
theorem list10 (xs : List Value) (h : xs.length = 10) : ∃ x0 x1 x2 x3 x4 x5 x6 x7 x8 x9, xs = [x0, x1, x2, x3, x4, x5, x6, x7, x8, x9] := by
  match xs, h with
  | [x0, x1, x2, x3, x4, x5, x6, x7, x8, x9], _ => exact ⟨x0, x1, x2, x3, x4, x5, x6, x7, x8, x9, rfl⟩

/-- the world while a route of a table is laid anew -/
def OffW (w1 : World) (base g o : Nat) (r B : Pl.Rt) (listed : Array Bool) (x y : Value) (W : World) : Prop :=
  (listed.getD 10 false = false ∧ Below w1.heap.size w1 W ∧ (listed.getD 7 false = true → ∃ k : Pl.RH, x = .agg #[.int .i64 k.p.1, .int .i64 k.p.2, .bool k.here, .int .i64 k.cost, .slice k.ha k.hl k.hc] ∧ ReadsZ W base k r) ∧
    (listed.getD 8 false = true → ∃ k : Pl.RH, y = .agg #[.int .i64 k.p.1, .int .i64 k.p.2, .bool k.here, .int .i64 k.cost, .slice k.ha k.hl k.hc] ∧ ReadsZ W base k B)) ∨
  (listed.getD 10 false = true ∧ ∃ (k : Pl.RH) (W0 : World), ReadsZ W0 base k B ∧ Below w1.heap.size w1 W0 ∧ W = set5 W0 g o k)
theorem OffW.quiet {w1 base g o r B listed x y W} {i : Nat} (h : OffW w1 base g o r B listed x y W) (h7 : i ≠ 7) (h8 : i ≠ 8) (h10 : i ≠ 10) : OffW w1 base g o r B (listed.setIfInBounds i true) x y W := by
  unfold OffW at h ⊢
  rw [getD_set_ne false h7, getD_set_ne false h8, getD_set_ne false h10]
  exact h

set_option maxHeartbeats 8000000 in
theorem offer_any (base : Nat) (v : Value) (hs : List Pl.RH) (rs : List Pl.Rt) (x : Pl.RH) (r : Pl.Rt) (w : World) (hown : OwnTb w base v hs rs) (hbase : base ≤ w.heap.size) (hsrt : Pl.SrtR rs) (hlen : hs.length ≤ 1000) (hx : Reads w x r) (hrB : Pl.hopsB r.hops = true) (hall : ∀ q ∈ rs, Pl.hopsB q.hops = true) (hne : ∀ q ∈ rs, q.p = r.p → r.cost = q.cost → q.hops ≠ []) :
    Calls Tryz.prog 15 #[v, .agg #[.int .i64 x.p.1, .int .i64 x.p.2, .bool x.here, .int .i64 x.cost, .slice x.ha x.hl x.hc]] w fun e w' =>
      ∃ v' hs', e = .returned v' ∧ OwnTb w' base v' hs' (Pl.offR rs r) ∧ w.grownBy w' v.ownBlock := by
  have HO := hid hown
  have HX := hid hx
  have HZ : Hid (ZAll w base hs rs) := hid hown.2
  have HHP : Hid (Pl.hp hs = rs.map Pl.Rt.p) := hid hown.reads.map_p
  have has : Pl.AscP (Pl.hp hs) := hown.reads.asc hsrt
  have HXL : Hid (x.hl ≤ 1000) := hid (by have h1 := hx.2.2.2.1.1; have h2 := Pl.hopsB_le12 hrB; omega)
  have HXP : Hid (x.p = r.p) := hid hx.1
  have HOX : Hid (Pl.offR rs r = Pl.layR rs (Pl.posP (Pl.hp hs) x.p) (Pl.thereP (Pl.hp hs) x.p) (Pl.offX rs r)) := hid (by
    unfold Pl.offR
    rw [← Pl.lay_insR, Pl.offX_p, HHP.out, HXP.out])
  have HOR := hid hrB
  have HRS : Hid (hs.length = rs.length) := hid hown.2.1
  obtain ⟨⟨p1, p2⟩, here, cost, ha, hl, hc⟩ := x
  simp only at HX HXL HXP HOX ⊢
  obtain ⟨tt, HT⟩ : ∃ t, Hid (Pl.thereP (Pl.hp hs) (p1, p2) = t) := ⟨_, hid rfl⟩
  obtain ⟨ix, HI⟩ : ∃ t, Hid (Pl.posP (Pl.hp hs) (p1, p2) = t) := ⟨_, hid rfl⟩
  have HIX : Hid (ix ≤ hs.length) := hid (by rw [← HI.out]; have := Pl.posP_le (Pl.hp hs) (p1, p2); rwa [Pl.hp_len] at this)
  have HLT : Hid (tt = true → ix < hs.length) := hid fun e => by rw [← HI.out]; have := Pl.thereP_lt (by rw [HT.out]; exact e : Pl.thereP (Pl.hp hs) (p1, p2) = true); rwa [Pl.hp_len] at this
  have HF : Hid (∀ W, Below w.heap.size w W → Calls Tryz.prog 36 #[v, .agg #[.int .i64 p1, .int .i64 p2]] W fun e w' => e = .returned (.tuple #[.int .i64 ix, .bool tt]) ∧ Below W.heap.size W w') := hid fun W hW => by
    obtain ⟨a, cap, rfl, hr, _⟩ := (HO.out.1.below hW).rows
    have := find_rib a hs.length cap hs p1 p2 W hr has (by omega)
    rwa [HT.out, HI.out] at this
  have HOE : Hid (Pl.offX rs r = if tt then Pl.bestR (Pl.rt rs ix) r else r) := hid (by
    unfold Pl.offX
    rw [← HHP.out, ← HXP.out, HT.out, HI.out])
  have HNB : Hid (tt = true → Pl.hopsB (Pl.rt rs ix).hops = true ∧ (r.cost = (Pl.rt rs ix).cost → (Pl.rt rs ix).hops ≠ [])) := hid fun e => by
    have hm := Pl.rt_mem rs ix (by have := HLT.out e; have := HRS.out; omega)
    refine ⟨hall _ hm, hne _ hm ?_⟩
    have ht : Pl.thereP (Pl.hp hs) (p1, p2) = true := by rw [HT.out]; exact e
    have h1 := Pl.thereP_eq ht
    rw [HHP.out] at h1
    rw [← HHP.out, HI.out, HHP.out, Pl.pr_map rs ix (by have := HLT.out e; have := HRS.out; omega)] at h1
    rw [h1, HXP.out]
  rw [HT.out, HI.out] at HOX
  rw [HOX.out]
  clear hown has hx hrB hall hne hsrt HT HI
  cases tt
  · have HE : Hid (Pl.layR rs ix false (Pl.offX rs r) = rs.take ix ++ ([r] ++ rs.drop ix)) := hid (by rw [HOE.out]; rfl)
    rw [HE.out]
    clear HE HOE HOX HNB
    have HFR : Hid (∀ W, Below w.heap.size w W → Calls Tryz.prog 38 #[.agg #[.int .i64 p1, .int .i64 p2, .bool here, .int .i64 cost, .slice ha hl hc]] W fun e w' => ∃ g : Pl.RH, e = .returned (.agg #[.int .i64 g.p.1, .int .i64 g.p.2, .bool g.here, .int .i64 g.cost, .slice g.ha g.hl g.hc]) ∧ ReadsZ w' W.heap.size g r ∧ Below W.heap.size W w') := hid fun W hW => fresh_own ⟨(p1, p2), here, cost, ha, hl, hc⟩ r W (HX.out.below hW) HXL.out
    go_enter Tryz.func15, Tryz.ntmps15
    go_wp2_with fail
    refine (HF.out _ ((Below.refl _ _).alloc (Nat.le_refl _) _)).mono ?_
    rintro e w1 ⟨rfl, hb1⟩
    obtain ⟨⟨y0, y1, y2, y3, y4⟩, hbx, hbw⟩ := box5 (by simpa using hb1)
    have HBW := hid hbw
    clear hb1 hbw
    go_wp2_with fail
    refine (HFR.out _ HBW.out).mono ?_
    rintro e w2 ⟨k, rfl, hz2, hb2⟩
    have HZ2 := hid (hz2.mono (Nat.le_trans hbase HBW.out.size))
    have HB2 : Hid (Below w.heap.size w w2) := hid (HBW.out.trans (hb2.mono HBW.out.size))
    have HO2 := hid (HO.out.below HB2.out)
    have hz := HB2.out.size
    clear hz2 hb2
    go_wp2_with fail
    refine (Insert_any base v hs ix k w2 HO2.out.1 (by omega) (by omega) HIX.out).mono ?_
    rintro e w3 ⟨v', rfl, ho3, hg3⟩
    have HO3 := hid ho3
    have HG3 := hid hg3
    clear ho3 hg3
    go_wp2_with fail
    go_ret
    have key : ∀ x y, ReadsZ w2 base x y → ReadsZ w3 base x y := by
      intro x y ⟨q1, q2, q3, q4, q5⟩
      exact ⟨q1, q2, q3, World.ownsRow.kept (World.ownsRow.alloc q4 _) HG3.out (apartZR q4 HO2.out.1), q5⟩
    have hzz : ZAll w2 base (hs.take ix ++ ([k] ++ hs.drop ix)) (rs.take ix ++ ([r] ++ rs.drop ix)) := (ZAll.take HO2.out.2 ix).append ((ZAll.one HZ2.out).append (ZAll.drop HO2.out.2 ix))
    refine ⟨_, hs.take ix ++ ([k] ++ hs.drop ix), rfl, ⟨HO3.out, hzz.1, fun i hi => key _ _ (hzz.2 i hi)⟩, ?_⟩
    exact grown_trans (grown_below HB2.out) (grown_trans (grown_below ((Below.refl _ _).alloc (Nat.le_refl _) _)) HG3.out)
  · have hix := HLT.out rfl
    have HNB2 := hid (HNB.out rfl)
    obtain ⟨g, cap, rfl, hbg, hgl, hnc, hm, hra, hsf⟩ := HO.out.1.opened (by omega)
    unfold maxLen at hm
    obtain ⟨c0, c1, c2, c3, c4⟩ := hra ix hix
    have HZX := hid (HZ.out.2 ix hix)
    obtain ⟨n, HN⟩ : ∃ n, Hid (hs.length = n) := ⟨_, hid rfl⟩
    rw [HN.out] at HF hix hnc hlen ⊢
    obtain ⟨B, HB⟩ : ∃ B, Hid (Pl.bestR (Pl.rt rs ix) r = B) := ⟨_, hid rfl⟩
    have HE : Hid (Pl.layR rs ix true (Pl.offX rs r) = rs.set ix B) := hid (by
      rw [HOE.out]
      show rs.take ix ++ Pl.bestR (Pl.rt rs ix) r :: rs.drop (ix + 1) = _
      rw [HB.out, List.set_eq_take_append_cons_drop, if_pos (by have := HRS.out; have := HN.out; omega)])
    rw [HE.out]
    obtain ⟨old, HOLD⟩ : ∃ x, Hid (Pl.rh hs ix = x) := ⟨_, hid rfl⟩
    obtain ⟨ro, HRO⟩ : ∃ x, Hid (Pl.rt rs ix = x) := ⟨_, hid rfl⟩
    rw [HOLD.out] at c0 c1 c2 c3 c4 HZX
    rw [HRO.out] at HZX HNB2 HB
    clear hra HE HOE HOX HNB
    have HFR : Hid (∀ W, Below w.heap.size w W → Calls Tryz.prog 38 #[.agg #[.int .i64 p1, .int .i64 p2, .bool here, .int .i64 cost, .slice ha hl hc]] W fun e w' => ∃ g : Pl.RH, e = .returned (.agg #[.int .i64 g.p.1, .int .i64 g.p.2, .bool g.here, .int .i64 g.cost, .slice g.ha g.hl g.hc]) ∧ ReadsZ w' W.heap.size g r ∧ Below W.heap.size W w') := hid fun W hW => fresh_own ⟨(p1, p2), here, cost, ha, hl, hc⟩ r W (HX.out.below hW) HXL.out
    have hix' : (ix : Int) < (n : Int) := by omega
    go_enter Tryz.func15, Tryz.ntmps15
    go_wp2_with fail
    refine (HF.out _ ((Below.refl _ _).alloc (Nat.le_refl _) _)).mono ?_
    rintro e w1 ⟨rfl, hb1⟩
    obtain ⟨⟨y0, y1, y2, y3, y4⟩, hbx, hbw⟩ := box5 (by simpa using hb1)
    have HBW := hid hbw
    have HO1 := hid (HO.out.below hbw)
    have hz := hbw.size
    have D0 := hid ((hbw.cell (p := ⟨g, 0 + ix * 5, none⟩) hgl).trans c0)
    have D1 := hid ((hbw.cell (p := ⟨g, 0 + ix * 5 + 1, none⟩) hgl).trans c1)
    have D2 := hid ((hbw.cell (p := ⟨g, 0 + ix * 5 + 2, none⟩) hgl).trans c2)
    have D3 := hid ((hbw.cell (p := ⟨g, 0 + ix * 5 + 3, none⟩) hgl).trans c3)
    have D4 := hid ((hbw.cell (p := ⟨g, 0 + ix * 5 + 4, none⟩) hgl).trans c4)
    have DF : Hid (∀ o, w1.frozen? ⟨g, o, none⟩ = false) := hid fun o => (hbw.frozen (p := ⟨g, o, none⟩) hgl).trans (hsf o)
    rw [Nat.zero_add] at D0 D1 D2 D3 D4
    have HZX1 := hid (HZX.out.below hbw)
    have Y := hid (And.intro y0 (And.intro y1 (And.intro y2 (And.intro y3 y4))))
    clear hb1 hbw c0 c1 c2 c3 c4 hsf y0 y1 y2 y3 y4
    have hbxl : w.heap.size < w1.heap.size := by omega
    have hg1 : g < w1.heap.size := by omega
    go_wp2_with fail
    generalize ha0 : Act.mk _ _ = a0
    have hsz : 22 + 10 ≤ a0.tmps.size := by
      have : a0.tmps.size = 33 := by rw [← ha0]; rfl
      omega
    have q0 : a0.tmps[0]?.getD undef = .slice (some ⟨g, 0, none⟩) n cap := by rw [← ha0]; rfl
    have q3 : a0.tmps[3]?.getD undef = .pointer (some ⟨w.heap.size, 0, none⟩) := by rw [← ha0]; rfl
    have q5 : a0.tmps[5]?.getD undef = .int .i64 ix := by rw [← ha0]; rfl
    refine wp_region_any (by kernel_rfl) ?_
    refine wpAny_inv2 (fun listed a W => ∃ x y, DInv a0 22 10 11 (fun k => if k < 10 then some k else none)
      (fun j => ([.slice (some ⟨g, 0, none⟩) n cap, .int .i64 ix, .slice (some ⟨g, 0, none⟩) n cap, .int .i64 ix, .pointer (some ⟨g, ix * 5, none⟩), .agg #[.int .i64 old.p.1, .int .i64 old.p.2, .bool old.here, .int .i64 old.cost, .slice old.ha old.hl old.hc], .agg #[.int .i64 p1, .int .i64 p2, .bool here, .int .i64 cost, .slice ha hl hc], x, y, .pointer (some ⟨g, ix * 5, none⟩)] : List Value).getD j undef)
      (fun _ => True) listed a W ∧ OffW w1 base g (ix * 5) r B listed x y W) ?_ ?_ _ _ _ _ (by decide +kernel) ?_ (closed_start _ _ _)
    · rintro i listed a W hi hCl ⟨x, y, hI, hW⟩
      rw [mem_ready] at hi
      obtain ⟨hl0, o, ho, hall⟩ := hi
      have hlt11 : i < 11 := (Array.getElem?_eq_some_iff.1 ho).1
      have o0 := (hI.out (k := 0) (by omega)).trans q0
      have o3 := (hI.out (k := 3) (by omega)).trans q3
      have o5 := (hI.out (k := 5) (by omega)).trans q5
      have hnl : listed.getD i false = false := by
        have hlt : i < listed.size := by rw [hI.ls]; exact hlt11
        simp [hlt] at hl0 ⊢
        exact hl0
      have h10 : listed.getD 10 false = false := by
        cases h : listed.getD 10 false with
        | false => rfl
        | true =>
          exfalso
          have e8 := hCl 10 _ rfl h ⟨8, .data⟩ (by simp) rfl
          have e9 := hCl 10 _ rfl h ⟨9, .data⟩ (by simp) rfl
          have e5 := hCl 8 _ rfl e8 ⟨5, .data⟩ (by simp) rfl
          have e7 := hCl 8 _ rfl e8 ⟨7, .data⟩ (by simp) rfl
          have e6 := hCl 7 _ rfl e7 ⟨6, .data⟩ (by simp) rfl
          have e4 := hCl 5 _ rfl e5 ⟨4, .data⟩ (by simp) rfl
          have e2 := hCl 4 _ rfl e4 ⟨2, .data⟩ (by simp) rfl
          have e3 := hCl 4 _ rfl e4 ⟨3, .data⟩ (by simp) rfl
          have e0 := hCl 9 _ rfl e9 ⟨0, .data⟩ (by simp) rfl
          have e1 := hCl 9 _ rfl e9 ⟨1, .data⟩ (by simp) rfl
          have hcs : i = 0 ∨ i = 1 ∨ i = 2 ∨ i = 3 ∨ i = 4 ∨ i = 5 ∨ i = 6 ∨ i = 7 ∨ i = 8 ∨ i = 9 ∨ i = 10 := by omega
          rcases hcs with rfl | rfl | rfl | rfl | rfl | rfl | rfl | rfl | rfl | rfl | rfl <;> simp_all
      obtain ⟨hbW, h7, h8⟩ : Below w1.heap.size w1 W ∧ (listed.getD 7 false = true → ∃ k : Pl.RH, x = .agg #[.int .i64 k.p.1, .int .i64 k.p.2, .bool k.here, .int .i64 k.cost, .slice k.ha k.hl k.hc] ∧ ReadsZ W base k r) ∧ (listed.getD 8 false = true → ∃ k : Pl.RH, y = .agg #[.int .i64 k.p.1, .int .i64 k.p.2, .bool k.here, .int .i64 k.cost, .slice k.ha k.hl k.hc] ∧ ReadsZ W base k B) := by
        rcases hW with ⟨_, h⟩ | ⟨h, _⟩
        · exact h
        · rw [h10] at h; cases h
      have hcs : i = 0 ∨ i = 1 ∨ i = 2 ∨ i = 3 ∨ i = 4 ∨ i = 5 ∨ i = 6 ∨ i = 7 ∨ i = 8 ∨ i = 9 ∨ i = 10 := by omega
      rcases hcs with rfl | rfl | rfl | rfl | rfl | rfl | rfl | rfl | rfl | rfl | rfl
      all_goals
        simp at ho
        subst ho
        refine wpOp_of rfl rfl ?_
      · simp [Oper.wp, go_sem, o0]
        exact ⟨x, y, hI.put (i := 0) (j := 0) rfl (by omega) rfl trivial, hW.quiet (by omega) (by omega) (by omega)⟩
      · simp [Oper.wp, go_sem, o5]
        exact ⟨x, y, hI.put (i := 1) (j := 1) rfl (by omega) rfl trivial, hW.quiet (by omega) (by omega) (by omega)⟩
      · simp [Oper.wp, go_sem, o0]
        exact ⟨x, y, hI.put (i := 2) (j := 2) rfl (by omega) rfl trivial, hW.quiet (by omega) (by omega) (by omega)⟩
      · simp [Oper.wp, go_sem, o5]
        exact ⟨x, y, hI.put (i := 3) (j := 3) rfl (by omega) rfl trivial, hW.quiet (by omega) (by omega) (by omega)⟩
      · have e1 : a.tmps[24]?.getD undef = .slice (some ⟨g, 0, none⟩) n cap := hI.at (k := 2) (j := 2) hsz rfl (by omega) (hall ⟨2, .data⟩ (by simp) rfl)
        have e2 : a.tmps[25]?.getD undef = .int .i64 ix := hI.at (k := 3) (j := 3) hsz rfl (by omega) (hall ⟨3, .data⟩ (by simp) rfl)
        simp [Oper.wp, go_sem, e1, e2, hix']
        exact ⟨x, y, hI.put (i := 4) (j := 4) rfl (by omega) rfl trivial, hW.quiet (by omega) (by omega) (by omega)⟩
      · have e1 : a.tmps[26]?.getD undef = .pointer (some ⟨g, ix * 5, none⟩) := hI.at (k := 4) (j := 4) hsz rfl (by omega) (hall ⟨4, .data⟩ (by simp) rfl)
        have f0 := (hbW.cell (p := ⟨g, ix * 5, none⟩) hg1).trans D0.out
        have f1 := (hbW.cell (p := ⟨g, ix * 5 + 1, none⟩) hg1).trans D1.out
        have f2 := (hbW.cell (p := ⟨g, ix * 5 + 2, none⟩) hg1).trans D2.out
        have f3 := (hbW.cell (p := ⟨g, ix * 5 + 3, none⟩) hg1).trans D3.out
        have f4 := (hbW.cell (p := ⟨g, ix * 5 + 4, none⟩) hg1).trans D4.out
        simp [Oper.wp, go_sem, e1, f0, f1, f2, f3, f4]
        exact ⟨x, y, hI.put (i := 5) (j := 5) rfl (by omega) rfl trivial, hW.quiet (by omega) (by omega) (by omega)⟩
      · have f0 := (hbW.cell (p := ⟨w.heap.size, 0, none⟩) hbxl).trans Y.out.1
        have f1 := (hbW.cell (p := ⟨w.heap.size, 1, none⟩) hbxl).trans Y.out.2.1
        have f2 := (hbW.cell (p := ⟨w.heap.size, 2, none⟩) hbxl).trans Y.out.2.2.1
        have f3 := (hbW.cell (p := ⟨w.heap.size, 3, none⟩) hbxl).trans Y.out.2.2.2.1
        have f4 := (hbW.cell (p := ⟨w.heap.size, 4, none⟩) hbxl).trans Y.out.2.2.2.2
        simp [Oper.wp, go_sem, o3, f0, f1, f2, f3, f4]
        exact ⟨x, y, hI.put (i := 6) (j := 6) rfl (by omega) rfl trivial, hW.quiet (by omega) (by omega) (by omega)⟩
      · have e1 : a.tmps[28]?.getD undef = .agg #[.int .i64 p1, .int .i64 p2, .bool here, .int .i64 cost, .slice ha hl hc] := hI.at (k := 6) (j := 6) hsz rfl (by omega) (hall ⟨6, .data⟩ (by simp) rfl)
        simp [Oper.wp, go_sem, e1]
        refine (HFR.out W (HBW.out.trans (hbW.mono hz))).mono ?_
        rintro e W' ⟨k, rfl, hzk, hbk⟩
        refine ⟨.agg #[.int .i64 k.p.1, .int .i64 k.p.2, .bool k.here, .int .i64 k.cost, .slice k.ha k.hl k.hc], y, DInv.put (i := 7) (j := 7) (w' := W') (DInv.revalue hI fun k' j hk' hlk => ?_) rfl (by omega) rfl trivial, .inl ⟨?_, hbW.trans (hbk.mono hbW.size), fun _ => ⟨k, rfl, hzk.mono (by have := hbW.size; omega)⟩, fun h => ?_⟩⟩
        · by_cases e7 : k' = 7
          · subst e7; rw [hnl] at hlk; cases hlk
          · by_cases hk10 : k' < 10
            · rw [if_pos hk10] at hk'
              cases hk'
              have hcs : k' = 0 ∨ k' = 1 ∨ k' = 2 ∨ k' = 3 ∨ k' = 4 ∨ k' = 5 ∨ k' = 6 ∨ k' = 8 ∨ k' = 9 := by omega
              rcases hcs with rfl | rfl | rfl | rfl | rfl | rfl | rfl | rfl | rfl <;> rfl
            · rw [if_neg hk10] at hk'; cases hk'
        · rw [getD_set_ne false (by omega)]; exact h10
        · rw [getD_set_ne false (by omega)] at h
          obtain ⟨k2, e2, z2⟩ := h8 h
          exact ⟨k2, e2, z2.below hbk⟩
      · obtain ⟨k1, rfl, z1⟩ := h7 (hall ⟨7, .data⟩ (by simp) rfl)
        have e1 : a.tmps[27]?.getD undef = .agg #[.int .i64 old.p.1, .int .i64 old.p.2, .bool old.here, .int .i64 old.cost, .slice old.ha old.hl old.hc] := hI.at (k := 5) (j := 5) hsz rfl (by omega) (hall ⟨5, .data⟩ (by simp) rfl)
        have e2 : a.tmps[29]?.getD undef = .agg #[.int .i64 k1.p.1, .int .i64 k1.p.2, .bool k1.here, .int .i64 k1.cost, .slice k1.ha k1.hl k1.hc] := hI.at (k := 7) (j := 7) hsz rfl (by omega) (hall ⟨7, .data⟩ (by simp) rfl)
        simp [Oper.wp, go_sem, e1, e2]
        have hbest := best_any base old k1 ro r W (HZX1.out.below hbW) z1 (by have := hbW.size; omega) HNB2.out.1 HOR.out HNB2.out.2
        rw [HB.out] at hbest
        refine hbest.mono ?_
        rintro e W' ⟨k, rfl, hzk, hbk⟩
        refine ⟨_, .agg #[.int .i64 k.p.1, .int .i64 k.p.2, .bool k.here, .int .i64 k.cost, .slice k.ha k.hl k.hc], DInv.put (i := 8) (j := 8) (w' := W') (DInv.revalue hI fun k' j hk' hlk => ?_) rfl (by omega) rfl trivial, .inl ⟨?_, hbW.trans (hbk.mono hbW.size), fun _ => ⟨k1, rfl, z1.below hbk⟩, fun _ => ⟨k, rfl, hzk⟩⟩⟩
        · by_cases e8 : k' = 8
          · subst e8; rw [hnl] at hlk; cases hlk
          · by_cases hk10 : k' < 10
            · rw [if_pos hk10] at hk'
              cases hk'
              have hcs : k' = 0 ∨ k' = 1 ∨ k' = 2 ∨ k' = 3 ∨ k' = 4 ∨ k' = 5 ∨ k' = 6 ∨ k' = 7 ∨ k' = 9 := by omega
              rcases hcs with rfl | rfl | rfl | rfl | rfl | rfl | rfl | rfl | rfl <;> rfl
            · rw [if_neg hk10] at hk'; cases hk'
        · rw [getD_set_ne false (by omega)]; exact h10
      · have e1 : a.tmps[22]?.getD undef = .slice (some ⟨g, 0, none⟩) n cap := hI.at (k := 0) (j := 0) hsz rfl (by omega) (hall ⟨0, .data⟩ (by simp) rfl)
        have e2 : a.tmps[23]?.getD undef = .int .i64 ix := hI.at (k := 1) (j := 1) hsz rfl (by omega) (hall ⟨1, .data⟩ (by simp) rfl)
        simp [Oper.wp, go_sem, e1, e2, hix']
        exact ⟨x, y, hI.put (i := 9) (j := 9) rfl (by omega) rfl trivial, hW.quiet (by omega) (by omega) (by omega)⟩
      · obtain ⟨k1, rfl, z1⟩ := h8 (hall ⟨8, .data⟩ (by simp) rfl)
        have e1 : a.tmps[31]?.getD undef = .pointer (some ⟨g, ix * 5, none⟩) := hI.at (k := 9) (j := 9) hsz rfl (by omega) (hall ⟨9, .data⟩ (by simp) rfl)
        have e2 : a.tmps[30]?.getD undef = .agg #[.int .i64 k1.p.1, .int .i64 k1.p.2, .bool k1.here, .int .i64 k1.cost, .slice k1.ha k1.hl k1.hc] := hI.at (k := 8) (j := 8) hsz rfl (by omega) (hall ⟨8, .data⟩ (by simp) rfl)
        have f0 := (hbW.cell (p := ⟨g, ix * 5, none⟩) hg1).trans D0.out
        have f1 := (hbW.cell (p := ⟨g, ix * 5 + 1, none⟩) hg1).trans D1.out
        have f2 := (hbW.cell (p := ⟨g, ix * 5 + 2, none⟩) hg1).trans D2.out
        have f3 := (hbW.cell (p := ⟨g, ix * 5 + 3, none⟩) hg1).trans D3.out
        have f4 := (hbW.cell (p := ⟨g, ix * 5 + 4, none⟩) hg1).trans D4.out
        have ff : ∀ o, W.frozen? ⟨g, o, none⟩ = false := fun o => (hbW.frozen (p := ⟨g, o, none⟩) hg1).trans (DF.out o)
        simp [Oper.wp, go_sem, e1, e2, f0, f1, f2, f3, f4, ff]
        refine ⟨x, _, hI.skip (i := 10) rfl trivial, .inr ⟨?_, k1, W, z1, hbW, rfl⟩⟩
        have : 10 < listed.size := by rw [hI.ls]; omega
        simp [this]
    · rintro listed a W hr ⟨x, y, hI, hW⟩
      rename_i K hK
      have h10 := all_listed (by decide +kernel) hI.ls hr 10 (by decide)
      obtain ⟨xs, hxl, rfl, _⟩ := hI.fr
      obtain ⟨x0, x1, x2, x3, x4, x5, x6, x7, x8, x9, rfl⟩ := list10 xs hxl
      rcases hW with ⟨h, _⟩ | ⟨_, k, W0, hzk, hb0, hW⟩
      · rw [h10] at h; cases h
      have HZK := hid hzk
      have HB0 := hid hb0
      have HWW := hid hW
      clear hI hr hxl q0 q3 q5 hsz hzk hb0 hW h10
      rw [← ha0]
      simp only [setFrom]
      refine hK _ W ?_
      go_wp2_with fail
      go_ret
      have hO0 := HO1.out.below HB0.out
      have hOR0 := hO0.1
      refine ⟨_, hs.set ix k, rfl, ?_, ?_⟩
      · rw [HWW.out]
        have h1 := hOR0.set ix k
        rw [HN.out] at h1
        refine ⟨h1, by rw [List.length_set, List.length_set]; exact HRS.out, fun t ht => ?_⟩
        rw [List.length_set] at ht
        by_cases e : t = ix
        · subst e
          rw [Pl.rh_set_at hs t k ht, Pl.rt_eq _ _ (by rw [List.length_set, ← HRS.out]; exact ht)]
          rw [List.getElem_set_self]
          exact HZK.out.set hOR0
        · rw [Pl.rh_set_ne hs ix t k e, Pl.rt_eq _ _ (by rw [List.length_set, ← HRS.out]; exact ht), List.getElem_set_ne (Ne.symm e), ← Pl.rt_eq rs t (by rw [← HRS.out]; exact ht)]
          exact (hO0.2.2 t ht).set hOR0
      · rw [HWW.out]
        have h1 := HBW.out.trans (HB0.out.mono hz)
        exact grown_trans (grown_below h1) (But.set5 W0 g (ix * 5) k).grown
    · exact ⟨undef, undef, DInv.start hsz trivial, .inl ⟨by simp, (Below.refl _ _).drew, fun h => by simp at h, fun h => by simp at h⟩⟩
end Go.Proofs.YtcdobhdbafpkiaeGreatDoor
/-
  Plain: the table of a node, of a store: it may be, and what stands at each prefix of it; no program in sight.
-/
namespace Go.Proofs.YtcdobhdbafpkiaeGreatDoor
open Go.RowKit
set_option maxRecDepth 20000

theorem Pl.pfxN_good (ps : List (Int × Int)) : ∀ n i, i + n = ps.length → Pl.pfxN ps n i = 0 → ∀ j, i ≤ j → j < ps.length → Pl.pfx1 (Pl.pr ps j) = 0 ∧ (0 < j → Pl.pfxLow (Pl.pr ps (j - 1)) (Pl.pr ps j) = false)
  | 0, i, h, _, j, h1, h2 => by omega
  | n + 1, i, h, h0, j, h1, h2 => by
    by_cases g : Pl.pfx1 (Pl.pr ps i) = 0
    · cases i with
      | zero =>
        rw [Pl.pfxN_first g] at h0
        rcases Nat.eq_or_lt_of_le h1 with e | h1
        · subst e; exact ⟨g, fun h => by omega⟩
        · exact Pl.pfxN_good ps n 1 (by omega) h0 j h1 h2
      | succ m =>
        cases k : Pl.pfxLow (Pl.pr ps m) (Pl.pr ps (m + 1))
        · rw [Pl.pfxN_on g k] at h0
          rcases Nat.eq_or_lt_of_le h1 with e | h1
          · subst e; exact ⟨g, fun _ => k⟩
          · exact Pl.pfxN_good ps n (m + 1 + 1) (by omega) h0 j h1 h2
        · rw [Pl.pfxN_low g k] at h0; cases h0
    · rw [Pl.pfxN_bad g] at h0; exact absurd h0 g
theorem Pl.pfxF_good {ps : List (Int × Int)} (h : Pl.pfxF ps = 0) : ps.length ≤ 6 ∧ (∀ p ∈ ps, Pl.pfx1 p = 0) ∧ ps.Pairwise (fun p q => Pl.pltB p q = true) := by
  by_cases hl : ps.length ≤ 6
  · rw [Pl.pfxF_from hl] at h
    have g := Pl.pfxN_good ps ps.length 0 (by omega) h
    have h1 : ∀ p ∈ ps, Pl.pfx1 p = 0 := fun p hp => by
      obtain ⟨i, hi, rfl⟩ := List.getElem_of_mem hp
      rw [← Pl.pr_eq ps i hi]; exact (g i (by omega) hi).1
    refine ⟨hl, h1, List.pairwise_iff_getElem.2 fun i j hi hj hij => ?_⟩
    rw [← Pl.pr_eq ps i hi, ← Pl.pr_eq ps j hj]
    induction j with
    | zero => omega
    | succ m ih =>
      have hs : Pl.pltB (Pl.pr ps m) (Pl.pr ps (m + 1)) = true := by
        have g1 := (g (m + 1) (by omega) hj).2 (by omega)
        have a1 := Pl.pfx1_zero (g m (by omega) (by omega)).1
        have a2 := Pl.pfx1_zero (g (m + 1) (by omega) hj).1
        unfold Pl.pfxLow at g1
        rw [Pl.pltB_iff]
        simp at g1
        omega
      rcases Nat.lt_or_ge i m with q | q
      · exact Pl.pltB_trans (ih (by omega) q) hs
      · obtain rfl : i = m := by omega
        exact hs
  · rw [Pl.pfxF_size (by omega)] at h; cases h
theorem Pl.rpS_good (l : List UInt8) : (Pl.rpS l).length ≤ 6 ∧ (∀ p ∈ Pl.rpS l, Pl.pfx1 p = 0) ∧ (Pl.rpS l).Pairwise (fun p q => Pl.pltB p q = true) := by
  unfold Pl.rpS
  split
  · rename_i h
    unfold Pl.rpC at h
    cases hq : Pl.pairsL 47 l with
    | none => simp
    | some ps => rw [hq] at h; exact Pl.pfxF_good h
  · simp
theorem Pl.rpS_nodup (l : List UInt8) : (Pl.rpS l).Nodup := (Pl.rpS_good l).2.2.imp fun h => Pl.pltB_ne h
/-- links, none from a node to itself -/
def Pl.lnkX (ps : Nat → List (Int × Int)) (a b : Nat) : Int := if a = b then 0 else Pl.lnk ps a b
theorem Pl.lnk_le (es : List Pl.Ent) (a b : Nat) : 0 ≤ Pl.lnk (Pl.tS es) a b ∧ Pl.lnk (Pl.tS es) a b ≤ 1000 := by
  unfold Pl.lnk
  split
  · exact Pl.say_le (Pl.adjS_up _).ok b
  · omega
/-- what it costs to go to each node, and over which hops -/
def Pl.wC (es : List Pl.Ent) (f n : Nat) : Int := (Pl.dIter (Pl.lnk (Pl.tS es)) (Pl.tD es) f 12).cost n
def Pl.wH (es : List Pl.Ent) (f n : Nat) : List Int := Pl.hopsL ((Pl.dIter (Pl.lnk (Pl.tS es)) (Pl.tD es) f 12).hops n) 12
/-- what ways are -/
theorem Pl.wC_self (es : List Pl.Ent) {f : Nat} (hf : f < 12) : Pl.wC es f f = 0 :=
  Pl.from_cost (L := Pl.lnkX (Pl.tS es)) (fun a b h => by unfold Pl.lnkX; rw [if_neg h]) (fun a => by unfold Pl.lnkX; rw [if_pos rfl]) hf
theorem Pl.wC_min (es : List Pl.Ent) {f n : Nat} (hf : f < 12) (hn : n ≠ f) : Pl.IsMin (fun c => ∃ k, Pl.Way (Pl.lnkX (Pl.tS es)) (Pl.tD es) f k n c) (Pl.wC es f n) :=
  Pl.found_min (fun a b h => by unfold Pl.lnkX; rw [if_neg h]) (fun a => by unfold Pl.lnkX; rw [if_pos rfl]) hf hn
theorem Pl.mem_wH (es : List Pl.Ent) {f : Nat} (n : Nat) (hf : f < 12) (x : Int) : x ∈ Pl.wH es f n ↔ ∃ k : Nat, x = (k : Int) ∧ Pl.Way (Pl.lnkX (Pl.tS es)) (Pl.tD es) f k n (Pl.wC es f n) := by
  unfold Pl.wH
  rw [Pl.mem_hopsL]
  have key := fun k => Pl.found_hops (L := Pl.lnkX (Pl.tS es)) (M := Pl.lnk (Pl.tS es)) (D := Pl.tD es) (f := f) (fun a b h => by unfold Pl.lnkX; rw [if_neg h]) (fun a => by unfold Pl.lnkX; rw [if_pos rfl]) hf n k
  constructor
  · rintro ⟨j, _, h2, h3⟩; exact ⟨j, h2, (key j).1 h3⟩
  · rintro ⟨j, h2, h3⟩; exact ⟨j, h3.klt.1, h2, (key j).2 h3⟩
theorem Pl.wC_bound (es : List Pl.Ent) (f n : Nat) : -1 ≤ Pl.wC es f n ∧ Pl.wC es f n ≤ 12000 := by
  have := Pl.CB.iter (L := Pl.lnk (Pl.tS es)) (D := Pl.tD es) (f := f) (fun a b => (Pl.lnk_le es a b).2) 12 n
  unfold Pl.wC; omega
theorem Pl.wH_self (es : List Pl.Ent) {f : Nat} (hf : f < 12) : Pl.wH es f f = [] := by
  cases h : Pl.wH es f f with
  | nil => rfl
  | cons x xs =>
    have hx : x ∈ Pl.wH es f f := by rw [h]; simp
    obtain ⟨k, _, hw⟩ := (Pl.mem_wH es f hf x).1 hx
    exact absurd rfl hw.ne
theorem Pl.wC_pos (es : List Pl.Ent) {f n : Nat} (hf : f < 12) (hn : n ≠ f) (h : 0 ≤ Pl.wC es f n) : 0 < Pl.wC es f n ∧ Pl.wH es f n ≠ [] := by
  rcases Pl.wC_min es hf hn with ⟨e, _⟩ | ⟨_, ⟨k, hk⟩, _⟩
  · omega
  · refine ⟨hk.pos, fun e => ?_⟩
    have := (Pl.mem_wH es n hf (k : Int)).2 ⟨k, rfl, hk⟩
    rw [e] at this; simp at this
/-- the table of a node, of a store that may be -/
def Pl.tabL (es : List Pl.Ent) (f : Nat) : List Pl.Rt := Pl.tabK (Pl.wC es f) (Pl.wH es f) (Pl.tP es) f 12
theorem Pl.tab_WP (es : List Pl.Ent) {f : Nat} (hf : f < 12) : Pl.WP (Pl.wC es f) (Pl.wH es f) (Pl.tP es) f := by
  intro n hn hc p hp
  have hp1 := (Pl.rpS_good _).2.1 p hp
  have hb := Pl.wC_bound es f n
  by_cases e : n = f
  · subst e
    have h1 := Pl.wC_self es hf
    have h2 := Pl.wH_self es hf
    refine ⟨(Pl.routeB_iff _).2 ⟨hp1, ?_, ?_, ?_⟩, ?_⟩
    · show 0 ≤ Pl.wC es n n ∧ _; simp [Pl.mkR, h1]
    · simp [Pl.mkR, h1, h2]
    · show Pl.hopsB (Pl.wH es n n) = true; rw [h2]; rfl
    · simp [Pl.mkR, h1]
  · obtain ⟨h1, h2⟩ := Pl.wC_pos es hf e hc
    have hne : decide ((n : Int) = (f : Int)) = false := by simp; omega
    refine ⟨(Pl.routeB_iff _).2 ⟨hp1, ?_, ?_, ?_⟩, ?_⟩
    · show 0 ≤ Pl.wC es f n ∧ Pl.wC es f n ≤ 1048576; omega
    · simp only [Pl.mkR, hne]; simpa using h2
    · exact Pl.hopsL_B _ (Nat.le_refl _)
    · simp only [Pl.mkR, hne]
      symm; simp; omega
theorem Pl.tabL_good (es : List Pl.Ent) {f : Nat} (hf : f < 12) : Pl.GoodT (Pl.tabL es f) ∧ ∀ r ∈ Pl.tabL es f, Pl.okR r :=
  Pl.tabK_good (Pl.tab_WP es hf) (fun _ => Pl.rpS_nodup _) (fun _ => (Pl.rpS_good _).1) 12 (Nat.le_refl _)
theorem Pl.tabL_fault (es : List Pl.Ent) {f : Nat} (hf : f < 12) : Pl.tabF (Pl.tabL es f) = 0 := (Pl.goodT_iff _).2 (Pl.tabL_good es hf).1
theorem Pl.tabL_get (es : List Pl.Ent) (f : Nat) (q : Int × Int) : Pl.getR (Pl.tabL es f) q = Pl.getT (Pl.wC es f) (Pl.wH es f) (Pl.tP es) f q 12 :=
  Pl.tabK_get (fun _ => Pl.rpS_nodup _) q 12
end Go.Proofs.YtcdobhdbafpkiaeGreatDoor
/-
  Plain: a table while the prefixes of one node are offered; no program in sight.
-/
namespace Go.Proofs.YtcdobhdbafpkiaeGreatDoor
open Go.RowKit
set_option maxRecDepth 20000

theorem Pl.offs_take_succ (C H node n) (rs : List Pl.Rt) (ps : List (Int × Int)) (j : Nat) (h : j < ps.length) : Pl.offs C H node n rs (ps.take (j + 1)) = Pl.offR (Pl.offs C H node n rs (ps.take j)) (Pl.mkR C H node n (Pl.pr ps j)) := by
  unfold Pl.offs
  rw [List.take_add_one, List.getElem?_eq_getElem h, List.foldl_append, Pl.pr_eq ps j h]
  rfl
theorem Pl.mem_take_pr {ps : List (Int × Int)} (hn : ps.Nodup) {j : Nat} (h : j < ps.length) : ¬ Pl.pr ps j ∈ ps.take j := by
  intro hm
  rw [Pl.pr_eq ps j h] at hm
  obtain ⟨i, hi, e⟩ := List.getElem_of_mem hm
  have hi' : i < j := by simp at hi; omega
  rw [List.getElem_take] at e
  have := (List.nodup_iff_pairwise_ne.1 hn)
  exact (List.pairwise_iff_getElem.1 this i j (by omega) h hi') e
/-- a route that costs nothing comes of the node itself -/
theorem Pl.getT_zero {C H P node} (hC : ∀ n, n < 12 → C n = 0 → n = node) (q : Int × Int) : ∀ k, k ≤ 12 → ∀ a, Pl.getT C H P node q k = some a → a.cost = 0 → node < k
  | 0, _, a, e, _ => by cases e
  | k + 1, hk, a, e, h0 => by
    have ih := Pl.getT_zero (H := H) (P := P) hC q k (by omega)
    unfold Pl.getT at e
    split at e
    · have := ih a e h0; omega
    · cases e
      cases ho : Pl.getT C H P node q k with
      | none =>
        rw [ho] at h0
        have := hC k (by omega) h0; omega
      | some b =>
        rw [ho] at h0
        have h1 : (Pl.bestR b (Pl.mkR C H node k q)).cost = 0 := h0
        unfold Pl.bestR at h1
        split at h1
        · have := hC k (by omega) h1; omega
        · split at h1
          · have := ih b ho h1; omega
          · have := ih b ho h1; omega
/-- what is wanted of a table to which one more prefix of a node is offered -/
theorem Pl.offs_ready (es : List Pl.Ent) {f k : Nat} (hf : f < 12) (hk : k < 12) (hc : 0 ≤ Pl.wC es f k) {j : Nat} (hj : j < (Pl.tP es k).length) :
    let rs := Pl.offs (Pl.wC es f) (Pl.wH es f) f k (Pl.tabK (Pl.wC es f) (Pl.wH es f) (Pl.tP es) f k) ((Pl.tP es k).take j)
    Pl.SrtR rs ∧ rs.length ≤ 78 ∧ (∀ q ∈ rs, Pl.hopsB q.hops = true) ∧ (∀ q ∈ rs, q.p = Pl.pr (Pl.tP es k) j → Pl.wC es f k = q.cost → q.hops ≠ []) := by
  intro rs
  have hn : ∀ i, (Pl.tP es i).Nodup := fun _ => Pl.rpS_nodup _
  have hl : ∀ i, (Pl.tP es i).length ≤ 6 := fun _ => (Pl.rpS_good _).1
  have hs0 := Pl.tabK_srt (Pl.wC es f) (Pl.wH es f) (Pl.tP es) f k
  have hs : Pl.SrtR rs := Pl.offs_srt _ _ _ _ _ _ hs0
  have hnt : ((Pl.tP es k).take j).Nodup := (List.take_sublist _ _).nodup (hn k)
  have hok : ∀ q ∈ rs, Pl.okR q := by
    intro q hq
    have h1 := Pl.getR_mem hs hq
    rw [Pl.offs_get _ _ _ _ _ _ _ hs0 hnt, Pl.tabK_get hn] at h1
    have ih := Pl.getT_ok (Pl.tab_WP es hf) q.p k (by omega)
    split at h1
    · rename_i hm
      rw [← Option.some.inj h1]
      exact Pl.more_ok (fun a ha => (ih a ha).1) (Pl.tab_WP es hf k hk hc _ (List.mem_of_mem_take hm))
    · exact (ih q h1).1
  refine ⟨hs, ?_, fun q hq => ((Pl.routeB_iff q).1 (hok q hq).1).2.2.2, fun q hq hp hce hh => ?_⟩
  · have h1 := Pl.offs_len (Pl.wC es f) (Pl.wH es f) f k ((Pl.tP es k).take j) (Pl.tabK (Pl.wC es f) (Pl.wH es f) (Pl.tP es) f k)
    have h2 := Pl.tabK_len (C := Pl.wC es f) (H := Pl.wH es f) (node := f) hl k
    have h3 := hl k
    have h4 : ((Pl.tP es k).take j).length ≤ 6 := by simp; omega
    show (Pl.offs _ _ _ _ _ _).length ≤ 78
    omega
  · have h1 := Pl.getR_mem hs hq
    rw [Pl.offs_get _ _ _ _ _ _ _ hs0 hnt, Pl.tabK_get hn, hp, if_neg (Pl.mem_take_pr (hn k) hj)] at h1
    obtain ⟨g1, g2⟩ := hok q hq
    have g3 := ((Pl.routeB_iff q).1 g1).2.2.1
    have hz : q.cost = 0 := by
      cases e : q.here
      · rw [e] at g3; simp only [Bool.false_eq_true, if_false] at g3; exact absurd hh g3
      · rw [e] at g3; simp only [if_true] at g3; exact g3.1
    have hC : ∀ n, n < 12 → Pl.wC es f n = 0 → n = f := fun n _ h => by
      rcases Nat.decEq n f with e | e
      · have := (Pl.wC_pos es hf e (by omega)).1; omega
      · exact e
    have a1 := Pl.getT_zero hC _ k (by omega) q h1 hz
    have a2 := hC k hk (by omega)
    omega
theorem Pl.tabK_next (es : List Pl.Ent) (f k : Nat) (h : 0 ≤ Pl.wC es f k) : Pl.tabK (Pl.wC es f) (Pl.wH es f) (Pl.tP es) f (k + 1) = Pl.offs (Pl.wC es f) (Pl.wH es f) f k (Pl.tabK (Pl.wC es f) (Pl.wH es f) (Pl.tP es) f k) (Pl.tP es k) := by
  show (if _ then _ else _) = _
  rw [if_neg (by omega)]
theorem Pl.tabK_skip (es : List Pl.Ent) (f k : Nat) (h : Pl.wC es f k < 0) : Pl.tabK (Pl.wC es f) (Pl.wH es f) (Pl.tP es) f (k + 1) = Pl.tabK (Pl.wC es f) (Pl.wH es f) (Pl.tP es) f k := by
  show (if _ then _ else _) = _
  rw [if_pos h]
end Go.Proofs.YtcdobhdbafpkiaeGreatDoor
