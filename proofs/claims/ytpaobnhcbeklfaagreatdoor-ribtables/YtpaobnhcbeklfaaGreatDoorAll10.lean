/-
  Contracts and facts that the proof rests on, put together out of several texts.
-/
import Derived.Test.YtpaobnhcbeklfaaGreatDoorAll4
import Derived.Test.YtpaobnhcbeklfaaGreatDoorAll8
import Derived.Test.YtpaobnhcbeklfaaGreatDoorShelfB
import Derived.Lib.SlicesCompact
import Derived.Sort.Grow
import Derived.Test.YtpaobnhcbeklfaaGreatDoorAll6
import Derived.Test.YtpaobnhcbeklfaaGreatDoorAll7
import Derived.Test.YtpaobnhcbeklfaaGreatDoorAll2
/-
  Contracts: slices.Grow and slices.Concat over numbers; hops of two routes put together (unite).
-/
namespace Go.Proofs.YtpaobnhcbeklfaaGreatDoor
open Go.RowKit
set_option maxRecDepth 20000

/-! what slices.Sort and slices.Compact leave in a row of one's own -/
theorem put_heap {w : World} {g : Nat} {cur : Array Value} {T : TypeId} (hg : w.heap[g]? = some (.cells cur T (0, 0))) (d : Array Int) (n : Nat) (os : Array Obj) :
    (Go.Sort.grow (Go.Sort.putRow (Value.int .i64) (Go.Sort.ahead w n) g 0 d) os).heap[g]? = some (.cells (Go.Sort.putCells (Value.int .i64) 0 d cur) T (0, 0)) := by
  have hlt := blockLt hg
  unfold Go.Sort.grow Go.Sort.putRow Go.Sort.mapBlock
  show ((w.heap.modify g _) ++ os)[g]? = _
  rw [Array.getElem?_append_left (by simpa using hlt), Array.getElem?_modify, if_pos rfl, hg]
  rfl
theorem put_but {w : World} {g : Nat} (d : Array Int) (n : Nat) (os : Array Obj) : But g w (Go.Sort.grow (Go.Sort.putRow (Value.int .i64) (Go.Sort.ahead w n) g 0 d) os) := by
  refine ⟨rfl, rfl, rfl, ?_, fun k hk hne => ?_⟩
  · show _ ≤ ((w.heap.modify g _) ++ os).size
    simp
  · show ((w.heap.modify g _) ++ os)[k]? = _
    rw [Array.getElem?_append_left (by simpa using hk), Array.getElem?_modify, if_neg (Ne.symm hne)]
theorem put_take (d : Array Int) (cur : Array Value) (h : d.size ≤ cur.size) : (Go.Sort.putCells (Value.int .i64) 0 d cur).toList.take d.size = cellsZ d.toList := by
  apply List.ext_getElem?
  intro i
  rw [List.getElem?_take]
  by_cases hi : i < d.size
  · rw [if_pos hi, Array.getElem?_toList]
    simp [Go.Sort.putCells, cellsZ, hi, show i < cur.size by omega]
  · rw [if_neg hi]
    simp [cellsZ, show d.size ≤ i by omega]
theorem put_size (d : Array Int) (cur : Array Value) : (Go.Sort.putCells (Value.int .i64) 0 d cur).size = cur.size := by simp [Go.Sort.putCells]
theorem ownZ_row {w : World} {base g cap : Nat} {cur : Array Value} {xs : List Int} (hb : base ≤ g) (hg : w.heap[g]? = some (.cells cur 3 (0, 0))) (hc : xs.length ≤ cap) (hm : cap ≤ maxLen) (hs : cur.size = cap) (hx : cur.toList.take xs.length = cellsZ xs) : OwnZ w base (.slice (some ⟨g, 0, none⟩) xs.length cap) xs :=
  ⟨by simp [cellsZ], .inr ⟨g, cap, cur, rfl, hb, hg, hc, hm, by simpa using hs, by simpa using hx⟩⟩
theorem OwnZ.row {w : World} {base : Nat} {v : Value} {xs : List Int} (h : OwnZ w base v xs) (hne : xs ≠ []) :
    ∃ g cap cur, v = .slice (some ⟨g, 0, none⟩) xs.length cap ∧ base ≤ g ∧ w.heap[g]? = some (.cells cur 3 (0, 0)) ∧ xs.length ≤ cap ∧ cap ≤ maxLen ∧ cur.size = cap ∧ cur.toList.take xs.length = cellsZ xs := by
  obtain ⟨_, ⟨h, h1⟩ | ⟨g, cap, cur, rfl, hb, hh, hn, hm, hs, hx⟩⟩ := h
  · exact absurd (List.length_eq_zero_iff.1 h1) hne
  · exact ⟨g, cap, cur, rfl, hb, hh, hn, hm, by simpa using hs, by simpa using hx⟩
theorem holdsZ {w : World} {g : Nat} {cur : Array Value} {xs : List Int} (hg : w.heap[g]? = some (.cells cur 3 (0, 0))) (hx : cur.toList.take xs.length = cellsZ xs) : Go.Sort.Holds (Value.int .i64) w g 0 xs.toArray := by
  intro j hj
  have hj' : j < xs.length := by simpa using hj
  have h1 : (cellsZ xs)[j]? = some (.int .i64 xs[j]) := by simp [cellsZ, hj']
  rw [← hx, List.getElem?_take, if_pos hj', Array.getElem?_toList] at h1
  refine ⟨?_, ?_⟩
  · rw [Nat.zero_add]
    simp [World.cell?, hg, h1, hj']
  · rw [Nat.zero_add]
    simp [World.frozen?, hg]

/-! what compacting a rising list gives -/
theorem Pl.compact_spec (d : Array Int) (hd : ∀ i j, i < j → j < d.size → d[i]! ≤ d[j]!) : ∀ m, m ≤ d.size → (Lib.compactUpTo d m).Pairwise (· < ·) ∧ (∀ x, x ∈ Lib.compactUpTo d m ↔ ∃ j, j < m ∧ d[j]! = x)
  | 0, _ => by
    have e : Lib.compactUpTo d 0 = [] := rfl
    rw [e]; simp
  | m + 1, h => by
    obtain ⟨h1, h2⟩ := Pl.compact_spec d hd m (by omega)
    rw [Lib.compactUpTo_succ]
    by_cases k : Lib.keeps d m = true
    · rw [if_pos k]
      refine ⟨List.pairwise_append.2 ⟨h1, by simp, fun x hx y hy => ?_⟩, fun x => ?_⟩
      · obtain ⟨j, hj, rfl⟩ := (h2 x).1 hx
        simp only [List.mem_singleton] at hy
        subst hy
        have hne : d[m]! ≠ d[m - 1]! := by
          unfold Lib.keeps at k
          simp only [decide_eq_true_eq] at k
          rcases k with k | k
          · omega
          · exact k
        have a1 : d[j]! ≤ d[m - 1]! := by
          rcases Nat.lt_or_ge j (m - 1) with g | g
          · exact hd j (m - 1) g (by omega)
          · rw [show j = m - 1 by omega]; exact Int.le_refl _
        have a2 := hd (m - 1) m (by omega) (by omega)
        omega
      · rw [List.mem_append, h2, List.mem_singleton]
        constructor
        · rintro (⟨j, hj, e⟩ | e)
          · exact ⟨j, by omega, e⟩
          · exact ⟨m, by omega, e.symm⟩
        · rintro ⟨j, hj, e⟩
          rcases Nat.lt_or_ge j m with g | g
          · exact .inl ⟨j, g, e⟩
          · rw [show j = m by omega] at e; exact .inr e.symm
    · rw [if_neg k, List.append_nil]
      refine ⟨h1, fun x => ?_⟩
      rw [h2]
      have hk : ¬ (m = 0 ∨ d[m]! ≠ d[m - 1]!) := by
        unfold Lib.keeps at k
        simpa using k
      constructor
      · rintro ⟨j, hj, e⟩; exact ⟨j, by omega, e⟩
      · rintro ⟨j, hj, e⟩
        rcases Nat.lt_or_ge j m with g | g
        · exact ⟨j, g, e⟩
        · have hm : j = m := by omega
          subst hm
          refine ⟨j - 1, by omega, ?_⟩
          rw [← e]
          exact (Decidable.byContradiction fun q => hk (.inr q)).symm
theorem compact_le (zs : List Int) : (Lib.compact zs).length ≤ zs.length := by
  unfold Lib.compact Lib.compactUpTo
  rw [List.length_map]
  exact Nat.le_trans (List.length_filter_le _ _) (by simp)
theorem Pl.unite_sort (xs ys : List Int) (hx : ∀ x ∈ xs, 0 ≤ x ∧ x ≤ 11) (hy : ∀ y ∈ ys, 0 ≤ y ∧ y ≤ 11) : Lib.compact ((xs ++ ys).mergeSort fun x y => decide (x ≤ y)) = Pl.unite xs ys := by
  have hp : ((xs ++ ys).mergeSort fun x y => decide (x ≤ y)).Perm (xs ++ ys) := List.mergeSort_perm _ _
  have hs : ((xs ++ ys).mergeSort fun x y => decide (x ≤ y)).Pairwise (fun x y => decide (x ≤ y) = true) := by
    refine List.pairwise_mergeSort ?_ ?_ _
    · intro a b c h1 h2; simp only [decide_eq_true_eq] at *; omega
    · intro a b; simp only [Bool.or_eq_true, decide_eq_true_eq]; omega
  generalize ((xs ++ ys).mergeSort fun x y => decide (x ≤ y)) = zs at *
  have hd : ∀ i j, i < j → j < zs.toArray.size → zs.toArray[i]! ≤ zs.toArray[j]! := by
    intro i j hij hj
    have hj' : j < zs.length := by simpa using hj
    have := List.pairwise_iff_getElem.1 hs i j (by omega) hj' hij
    simp only [decide_eq_true_eq] at this
    simpa [getElem!_pos, hj', show i < zs.length by omega] using this
  obtain ⟨h1, h2⟩ := Pl.compact_spec zs.toArray hd zs.length (by simp)
  refine Pl.up_ext h1 (Pl.hopsL_up _ _) fun x => ?_
  rw [show (x ∈ Pl.unite xs ys) = (x ∈ xs ∨ x ∈ ys) from propext (Pl.mem_unite hx hy), ← List.mem_append, ← hp.mem_iff]
  show x ∈ Lib.compactUpTo zs.toArray zs.length ↔ _
  rw [h2]
  constructor
  · rintro ⟨j, hj, e⟩
    rw [← e]
    simp [getElem!_pos, hj]
  · intro hm
    obtain ⟨j, hj, e⟩ := List.getElem_of_mem hm
    exact ⟨j, hj, by simp [getElem!_pos, hj, e]⟩

/-! growing and appending -/
theorem append_moreI {w : World} {ops : Array Oper} {rest : List Oper} {o : Oper} {a : Act} {Q : Exit → Act → World → Prop} (hgd : o.guard = none) (s x : Operand)
    (ho : o.op = .call { callee := .builtin .append, args := #[s, x], argTypes := #[32, 32] })
    (base : Nat) (v : Value) (xs : List Int) (hown : OwnZ w base v xs) (hbase : base ≤ w.heap.size) (ao : Option Addr) (len cap : Nat) (zs : List Int) (hs : a.eval s = v) (hx : a.eval x = .slice ao len cap) (hE : IsInts w ao len cap zs) (hb : len ≤ 1000) (hb2 : xs.length ≤ 1000)
    (h : ∀ v' w', OwnZ w' base v' (xs ++ zs) → Below base w w' → wpList Tryz.prog ops Q rest (a.put o.dst v') w') : wpList Tryz.prog ops Q (o :: rest) a w := by
  obtain ⟨i0, hi0, hz0, hz1, hz2⟩ := info_parts infoZ
  obtain ⟨hl, hc, hm, hnil, hrow⟩ := hE
  have hlt := World.ownsRow.lt hown
  rcases ao with _ | ad
  · obtain rfl := hnil rfl
    obtain rfl : len = 0 := by omega
    obtain rfl : zs = [] := List.length_eq_zero_iff.1 hl
    rw [List.append_nil] at h
    exact wpList_append_own_none hgd s x 32 ho base 3 i0 1 Tryz.underlying32 hi0 _ xs.length (cellsZ xs) hs hown hx (h _ _ hown (Below.refl _ _))
  · refine wpList_append_own (w := w) hgd s x 32 ho base 3 i0 _ 1 8 Tryz.underlying32 hi0 hz0 hz1 hz2 rfl (by decide) _ xs.length (cellsZ xs) hs hown ad len cap (cellsZ zs) hx (by simp [cellsZ, hl]) ?_ (cellsZ_one _) (by unfold maxLen; omega) (by omega) hbase ?_
    · intro j u hj
      obtain ⟨hj1, rfl⟩ := cellsZ_get hj
      rcases hrow with rfl | ⟨b, off, hba, _, hr⟩
      · simp at hj1
      · cases hba
        rw [add_none]
        exact hr j hj1
    · intro v' w' hown' hg _
      refine h v' w' ?_ ((Below.refl _ _).grown hg hbase (fun k hk => (hlt k hk).1))
      unfold OwnZ
      rw [List.length_append, hl]
      simpa [cellsZ] using hown'
theorem wpList_zerosI {w : World} {ops : Array Oper} {rest : List Oper} {o : Oper} {a : Act} {Q : Exit → Act → World → Prop} (hgd : o.guard = none) (s x : Operand)
    (ho : o.op = .call { callee := .builtin .append, args := #[s, x], argTypes := #[32, 3] })
    (k : Nat) (hs : a.eval s = .slice none 0 0) (hx : a.eval x = .int .i64 (k : Int)) (h0 : 0 < k) (hbig : k ≤ 1000)
    (h : ∀ w' G cur, w'.heap[w.heap.size]? = some (.cells cur 3 (0, 0)) → cur.size = G → k ≤ G → G ≤ maxLen → Below w.heap.size w w' → wpList Tryz.prog ops Q rest (a.put o.dst (.slice (some ⟨w.heap.size, 0, none⟩) k G)) w') : wpList Tryz.prog ops Q (o :: rest) a w := by
  obtain ⟨i0, hi0, hz0, hz1, hz2⟩ := info_parts infoZ
  have hold : (Builtin.firstCells i0.size 0 (.slice none 0 0)).run Tryz.prog w.drew = .ok (#[] : Array Value) w.drew := by
    rw [hz1]; rfl
  have hr := Lib.run_append_grow_zeros w 32 3 o.type 3 i0 _ .i64 .i64 Tryz.underlying32 Tryz.underlying3 hi0 hz0 none 0 0 [] hold k h0 (by omega) (by omega) (by omega) (by rw [hz2]; omega) (by rw [hz2]; exact growslice_fits (by omega) (by omega))
  have hGn := grownCap_ge w (0 + k) 0 3
  have hGm := grownCap_le_maxLen w (0 + k) 0 3 (by unfold maxLen; omega)
  generalize grownCap w (0 + k) 0 3 = G at *
  refine Lib.wpList_append_run _ hgd s x _ _ ho _ _ hs hx _ _ hr ?_
  rw [show (0 + k) = k by omega] at *
  refine h _ G _ (heapNewZ w.drew _) ?_ hGn hGm ((Below.refl _ _).drew.alloc (Nat.le_refl _) _)
  simp [Builtin.zeroCells, Value.cells]
  omega

set_option maxHeartbeats 1000000 in
theorem GrowI_nil (k : Nat) (w : World) (h0 : 0 < k) (hk : k ≤ 1000) :
    Calls Tryz.prog 82 #[.slice none 0 0, .int .i64 (k : Int)] w fun e w' => ∃ v, e = .returned v ∧ OwnZ w' w.heap.size v [] ∧ Below w.heap.size w w' := by
  have hwr : IntKind.i64.wrap ((k : Int) - 0) = (k : Int) := by rw [IntKind.wrap_i64]; omega
  have h1 : decide ((k : Int) < 0) = false := by simp
  have h2 : decide ((0 : Int) < (k : Int)) = true := by simp; omega
  go_enter Tryz.func82, Tryz.ntmps82
  go_wp2_with (at_builtin; refine wpList_zerosI rfl (.tmp 20) (.tmp 21) rfl k rfl rfl h0 hk ?_; intro w1 G cur hg1 hc1 hG1 hG2 hb1; have HG := hid hg1; have HB := hid hb1; have HC := hid hc1; clear hg1 hb1 hc1; unfold maxLen at hG2)
  go_ret
  refine ⟨_, rfl, ?_, HB.out⟩
  exact ownZ_row (xs := []) (Nat.le_refl _) HG.out (Nat.zero_le _) (by unfold maxLen; exact hG2) HC.out (by simp [cellsZ])

/-- the first of two lists, both -/
def Pl.cat2 (xs ys : List Int) : Nat → List Int
  | 0 => []
  | 1 => xs
  | _ => xs ++ ys
set_option maxHeartbeats 2000000 in
theorem ConcatI_any (B : Nat) (a b : Option Addr) (la ca lb cb : Nat) (xs ys : List Int) (w : World) (hB : B < w.heap.size) (c0 : w.cell? ⟨B, 0, none⟩ = some (.slice a la ca)) (c1 : w.cell? ⟨B, 1, none⟩ = some (.slice b lb cb)) (h1 : IsInts w a la ca xs) (h2 : IsInts w b lb cb ys) (hx : 0 < la) (hla : la ≤ 12) (hlb : lb ≤ 12) :
    Calls Tryz.prog 69 #[.slice (some ⟨B, 0, none⟩) 2 2] w fun e w' => ∃ v, e = .returned v ∧ OwnZ w' w.heap.size v (xs ++ ys) ∧ Below w.heap.size w w' := by
  have H1 := hid h1
  have H2 := hid h2
  have C0 := hid c0
  have C1 := hid c1
  have HLX : Hid (xs.length = la) := hid h1.1
  have HLY : Hid (ys.length = lb) := hid h2.1
  have hwa : IntKind.i64.wrap (0 + (la : Int)) = (la : Int) := by rw [IntKind.wrap_i64]; omega
  have hwb : IntKind.i64.wrap ((la : Int) + (lb : Int)) = ((la + lb : Nat) : Int) := by rw [IntKind.wrap_i64]; omega
  obtain ⟨S, hS⟩ : ∃ S, la + lb = S := ⟨_, rfl⟩
  rw [hS] at hwb
  have hna : decide ((la : Int) < 0) = false := by simp
  have hnb : decide ((S : Int) < 0) = false := by simp
  clear h1 h2 c0 c1
  go_enter Tryz.func69, Tryz.ntmps69
  go_wp2_with fail
  go_loopw [3, 11] (fun s i wr => ∃ k : Nat, k ≤ 2 ∧ i = .int .i64 k ∧ s = .int .i64 ((if k = 0 then 0 else if k = 1 then la else S : Nat) : Int) ∧ Hid (Below w.heap.size w wr)) (fun _ i _ => 2 - (intOf i).toNat)
  case atStart => exact ⟨0, by omega, rfl, rfl, hid (Below.refl _ _)⟩
  case round =>
    obtain ⟨k, hk, rfl, rfl, HB⟩ := hrel
    have d0 := (HB.out.cell (p := ⟨B, 0, none⟩) hB).trans C0.out
    have d1 := (HB.out.cell (p := ⟨B, 1, none⟩) hB).trans C1.out
    have hBr : B < wr.heap.size := Nat.lt_of_lt_of_le hB HB.out.size
    have hcs : k = 0 ∨ k = 1 ∨ k = 2 := by omega
    rcases hcs with rfl | rfl | rfl
    · go_wp2_with fail
      go_roundw
      case rel => exact ⟨1, by omega, by go_num, rfl, HB⟩
      case measure => simp [intOf]
    · go_wp2_with fail
      go_roundw
      case rel => exact ⟨2, by omega, by go_num, rfl, HB⟩
      case measure => simp [intOf]
    · go_wp2_with fail
      refine (GrowI_nil S wr (by omega) (by omega)).mono ?_
      rintro e w1 ⟨v1, rfl, ho1, hb1⟩
      have HO1 := hid (ho1.mono HB.out.size)
      have HB1 : Hid (Below w.heap.size w w1) := hid (HB.out.trans (hb1.mono HB.out.size))
      clear ho1 hb1
      go_wp2_with fail
      go_loopw [6, 27] (fun v i wr => ∃ k : Nat, k ≤ 2 ∧ i = .int .i64 k ∧ Hid (OwnZ wr w.heap.size v (Pl.cat2 xs ys k)) ∧ Hid (Below w.heap.size w wr)) (fun _ i _ => 2 - (intOf i).toNat)
      case atStart => exact ⟨0, by omega, rfl, HO1, HB1⟩
      case round =>
        obtain ⟨k, hk, rfl, HO, HBk⟩ := hrel
        rename World => wk
        have d0 := (HBk.out.cell (p := ⟨B, 0, none⟩) hB).trans C0.out
        have d1 := (HBk.out.cell (p := ⟨B, 1, none⟩) hB).trans C1.out
        have hBk : B < wk.heap.size := Nat.lt_of_lt_of_le hB HBk.out.size
        have hcs : k = 0 ∨ k = 1 ∨ k = 2 := by omega
        rcases hcs with rfl | rfl | rfl
        · go_wp2_with (at_builtin; refine append_moreI rfl (.tmp 31) (.tmp 32) rfl w.heap.size _ [] HO.out HBk.out.size a la ca xs rfl rfl (H1.out.below HBk.out) (by omega) (by simp) ?_; intro v2 w2 ho2 hb2; have HO2 := hid ho2; have HB2 := hid hb2; clear ho2 hb2)
          go_roundw
          case rel => exact ⟨1, by omega, by go_num, HO2, hid (HBk.out.trans HB2.out)⟩
          case measure => simp [intOf]
        · go_wp2_with (at_builtin; refine append_moreI rfl (.tmp 31) (.tmp 32) rfl w.heap.size _ xs HO.out HBk.out.size b lb cb ys rfl rfl (H2.out.below HBk.out) (by omega) (by have := HLX.out; omega) ?_; intro v2 w2 ho2 hb2; have HO2 := hid ho2; have HB2 := hid hb2; clear ho2 hb2)
          go_roundw
          case rel => exact ⟨2, by omega, by go_num, HO2, hid (HBk.out.trans HB2.out)⟩
          case measure => simp [intOf]
        · go_wp2_with fail
          go_ret
          exact ⟨_, rfl, HO.out, HBk.out⟩
end Go.Proofs.YtpaobnhcbeklfaaGreatDoor
/-
  Contract: hops of two routes put together (unite).
-/
namespace Go.Proofs.YtpaobnhcbeklfaaGreatDoor
open Go.RowKit
set_option maxRecDepth 20000

set_option maxHeartbeats 8000000 in
theorem unite_any (a b : Option Addr) (la ca lb cb : Nat) (xs ys : List Int) (w : World) (h1 : IsInts w a la ca xs) (h2 : IsInts w b lb cb ys) (hx : 0 < la) (hla : la ≤ 12) (hlb : lb ≤ 12) (rx : ∀ x ∈ xs, 0 ≤ x ∧ x ≤ 11) (ry : ∀ y ∈ ys, 0 ≤ y ∧ y ≤ 11) :
    Calls Tryz.prog 51 #[.slice a la ca, .slice b lb cb] w fun e w' => ∃ v, e = .returned v ∧ OwnZ w' w.heap.size v (Pl.unite xs ys) ∧ Below w.heap.size w w' := by
  have HAL : Hid (Below w.heap.size w (w.alloc (.cells #[.slice a la ca, .slice b lb cb] 32))) := hid ((Below.refl _ _).alloc (Nat.le_refl _) _)
  have HCC := hid (ConcatI_any w.heap.size a b la ca lb cb xs ys (w.alloc (.cells #[.slice a la ca, .slice b lb cb] 32)) (by simp) (by simp) (by simp) (h1.below HAL.out) (h2.below HAL.out) hx hla hlb)
  have HNE : Hid (xs ++ ys ≠ []) := hid (by intro e; have := h1.1; rw [(List.append_eq_nil_iff.1 e).1] at this; simp at this; omega)
  have HLN : Hid ((xs ++ ys).length = la + lb) := hid (by rw [List.length_append, h1.1, h2.1])
  have HUS := hid (Pl.unite_sort xs ys rx ry)
  obtain ⟨U, HUU⟩ : ∃ U, Hid (Pl.unite xs ys = U) := ⟨_, hid rfl⟩
  rw [HUU.out] at HUS ⊢
  clear h1 h2
  go_enter Tryz.func51, Tryz.ntmps51
  go_wp2_with fail
  refine HCC.out.mono ?_
  rintro e w1 ⟨v1, rfl, ho1, hb1⟩
  obtain ⟨g, cap, cur, rfl, hbg, hg, hn, hm, hs, ht⟩ := ho1.row HNE.out
  have HG := hid hg
  have HT := hid ht
  have HS := hid hs
  have HM := hid hm
  have hgl := blockLt hg
  have HBG : Hid (w.heap.size ≤ g) := hid (by have := hbg; simp at this; omega)
  have HB1 : Hid (Below w.heap.size w w1) := hid (HAL.out.trans (hb1.mono HAL.out.size))
  have HHO := hid (holdsZ hg ht)
  obtain ⟨zs, HZ⟩ : ∃ zs, Hid (xs ++ ys = zs) := ⟨_, hid rfl⟩
  rw [HZ.out] at HLN HNE HHO HT hn HUS ⊢
  clear ho1 hb1 hg ht hs hm hbg
  go_wp2_with fail
  refine (Tryz.slices_Sort_int g 0 cap zs w1 HHO.out hgl (by have := HLN.out; omega)).mono ?_
  rintro e w2 ⟨rfl, n2, os2, hw2⟩
  have HG2 : Hid (w2.heap[g]? = some (.cells (Go.Sort.putCells (Value.int .i64) 0 (zs.mergeSort fun x y => decide (x ≤ y)).toArray cur) 3 (0, 0))) := hid (by rw [hw2]; exact put_heap HG.out _ _ _)
  have HU2 : Hid (But g w1 w2) := hid (by rw [hw2]; exact put_but _ _ _)
  clear hw2
  have hgl2 : g < w2.heap.size := Nat.lt_of_lt_of_le hgl HU2.out.size
  have HL2 : Hid ((zs.mergeSort fun x y => decide (x ≤ y)).length = zs.length) := hid (by simp)
  have HT2 := hid (put_take (zs.mergeSort fun x y => decide (x ≤ y)).toArray cur (by simp only [List.size_toArray]; rw [HL2.out, HS.out]; exact hn))
  have HS2 := hid ((put_size (zs.mergeSort fun x y => decide (x ≤ y)).toArray cur).trans HS.out)
  obtain ⟨ms, HMS⟩ : ∃ ms, Hid ((zs.mergeSort fun x y => decide (x ≤ y)) = ms) := ⟨_, hid rfl⟩
  rw [HMS.out] at HG2 HL2 HT2 HS2 HUS
  obtain ⟨cur2, HC2⟩ : ∃ c, Hid (Go.Sort.putCells (Value.int .i64) 0 ms.toArray cur = c) := ⟨_, hid rfl⟩
  rw [HC2.out] at HG2 HT2 HS2
  have HT2' : Hid (cur2.toList.take ms.length = cellsZ ms) := hid (by simpa using HT2.out)
  have HH2 := hid (holdsZ HG2.out HT2'.out)
  rw [← HL2.out]
  go_wp2_with fail
  refine (Tryz.slices_Compact_int g 0 cap ms w2 HH2.out (by have := HL2.out; have := HLN.out; omega) (by have := HL2.out; omega)).mono ?_
  rw [HUS.out]
  rintro e w3 ⟨rfl, n3, hw3⟩
  have HUL : Hid (U.length ≤ ms.length) := hid (by have := compact_le ms; rwa [HUS.out] at this)
  have HG3 : Hid (w3.heap[g]? = some (.cells (Go.Sort.putCells (Value.int .i64) 0 (U ++ List.replicate (ms.length - (U).length) 0).toArray cur2) 3 (0, 0))) := hid (by
    rw [hw3]
    have := put_heap HG2.out (U ++ List.replicate (ms.length - (U).length) 0).toArray n3 #[]
    rwa [Go.Sort.grow_empty] at this)
  have HU3 : Hid (But g w2 w3) := hid (by
    rw [hw3]
    have := put_but (w := w2) (g := g) (U ++ List.replicate (ms.length - (U).length) 0).toArray n3 #[]
    rwa [Go.Sort.grow_empty] at this)
  have HT3 := hid (put_take (U ++ List.replicate (ms.length - (U).length) 0).toArray cur2 (by have := HUL.out; have := HL2.out; rw [HS2.out]; simp; omega))
  have HS3 := hid ((put_size (U ++ List.replicate (ms.length - (U).length) 0).toArray cur2).trans HS2.out)
  clear hw3
  go_wp2_with fail
  go_ret
  refine ⟨_, rfl, ownZ_row HBG.out HG3.out (by have := HUL.out; have := HL2.out; omega) HM.out HS3.out ?_, ?_⟩
  · have h := HT3.out
    have hsz : (U ++ List.replicate (ms.length - (U).length) 0).toArray.size = ms.length := by have := HUL.out; simp; omega
    rw [hsz] at h
    have h2 := congrArg (List.take (U).length) h
    rw [List.take_take, Nat.min_eq_left HUL.out] at h2
    rw [h2]
    simp [cellsZ]
  · exact HB1.out.trans ((HU2.out.trans HU3.out).below HBG.out HB1.out.size)
end Go.Proofs.YtpaobnhcbeklfaaGreatDoor
/-
  Contract: the best of two routes (best).
-/
namespace Go.Proofs.YtpaobnhcbeklfaaGreatDoor
open Go.RowKit
set_option maxRecDepth 20000

theorem Pl.hopsB_le12 {l : List Int} (h : Pl.hopsB l = true) : l.length ≤ 12 := by
  have key : ∀ k, k < l.length → (k : Int) ≤ Pl.nm l k := by
    intro k
    induction k with
    | zero => intro hk; have := Pl.hopsB_at h 0 hk; rw [Pl.hopB_zero] at this; simp at this; exact this.1
    | succ k ih =>
      intro hk
      have h1 := ih (by omega)
      have h2 := Pl.hopsB_at h (k + 1) hk
      rw [Pl.hopB_succ] at h2
      simp at h2
      omega
  rcases Nat.lt_or_ge 12 l.length with g | g
  · have h1 := key 12 g
    have h2 := Pl.hopsB_range h _ (List.getElem_mem g)
    rw [← Pl.nm_eq l 12 g] at h2
    omega
  · exact g
theorem bx5 {w : World} {b : Nat} {c0 c1 c2 c3 c4 : Value} {T : TypeId} (h : w.heap[b]? = some (.cells #[c0, c1, c2, c3, c4] T)) :
    (w.cell? ⟨b, 0, none⟩ = some c0 ∧ w.cell? ⟨b, 1, none⟩ = some c1 ∧ w.cell? ⟨b, 2, none⟩ = some c2 ∧ w.cell? ⟨b, 3, none⟩ = some c3 ∧ w.cell? ⟨b, 4, none⟩ = some c4) ∧ (∀ o, w.frozen? ⟨b, o, none⟩ = false) ∧ b < w.heap.size := by
  refine ⟨⟨?_, ?_, ?_, ?_, ?_⟩, fun o => ?_, blockLt h⟩
  iterate 5 simp [World.cell?, h]
  simp [World.frozen?, h]
theorem three {w : World} (A B C : Obj) : ((((w.alloc A).alloc B).alloc C).heap[w.heap.size]? = some A) ∧ ((((w.alloc A).alloc B).alloc C).heap[w.heap.size + 1]? = some B) ∧ ((((w.alloc A).alloc B).alloc C).heap[w.heap.size + 2]? = some C) ∧ (((w.alloc A).alloc B).alloc C).heap.size = w.heap.size + 3 ∧ Below w.heap.size w (((w.alloc A).alloc B).alloc C) := by
  have e1 : (w.alloc A).heap.size = w.heap.size + 1 := by simp
  have e2 : ((w.alloc A).alloc B).heap.size = w.heap.size + 2 := by simp
  refine ⟨?_, ?_, ?_, by simp, (((Below.refl _ _).alloc (Nat.le_refl _) _).alloc (by simp) _).alloc (by simp; omega) _⟩
  · rw [Below.heap_alloc _ _ _ (by simp; omega), Below.heap_alloc _ _ _ (by simp)]; exact heapNewZ w A
  · rw [Below.heap_alloc _ _ _ (by simp)]
    have := heapNewZ (w.alloc A) B
    rwa [e1] at this
  · have := heapNewZ ((w.alloc A).alloc B) C
    rwa [e2] at this

set_option maxHeartbeats 4000000 in
theorem best_any (base : Nat) (g h : Pl.RH) (r s : Pl.Rt) (w : World) (hg : ReadsZ w base g r) (hh : ReadsZ w base h s) (hb : base ≤ w.heap.size) (hr : Pl.hopsB r.hops = true) (hs : Pl.hopsB s.hops = true) (hne : s.cost = r.cost → r.hops ≠ []) :
    Calls Tryz.prog 28 #[.agg #[.int .i64 g.p.1, .int .i64 g.p.2, .bool g.here, .int .i64 g.cost, .slice g.ha g.hl g.hc], .agg #[.int .i64 h.p.1, .int .i64 h.p.2, .bool h.here, .int .i64 h.cost, .slice h.ha h.hl h.hc]] w fun e w' =>
      ∃ k : Pl.RH, e = .returned (.agg #[.int .i64 k.p.1, .int .i64 k.p.2, .bool k.here, .int .i64 k.cost, .slice k.ha k.hl k.hc]) ∧ ReadsZ w' base k (Pl.bestR r s) ∧ Below w.heap.size w w' := by
  have HG := hid hg
  have HH := hid hh
  have HGC : Hid (g.cost = r.cost) := hid hg.2.2.1
  have HHC : Hid (h.cost = s.cost) := hid hh.2.2.1
  have HGL : Hid (g.hl = r.hops.length) := hid (by
    obtain ⟨a, cap, e, _, _⟩ := hg.2.2.2.1.ints
    simp only [Value.slice.injEq] at e; exact e.2.1)
  have HHL : Hid (h.hl = s.hops.length) := hid (by
    obtain ⟨a, cap, e, _, _⟩ := hh.2.2.2.1.ints
    simp only [Value.slice.injEq] at e; exact e.2.1)
  have HR := hid hr
  have HS := hid hs
  have HNE := hid hne
  clear hg hh hr hs hne
  obtain ⟨⟨p1, p2⟩, gh, gc, ga, gl, gcap⟩ := g
  obtain ⟨⟨q1, q2⟩, hhr, hc, ha, hl, hcap⟩ := h
  simp only at HG HH HGC HHC HGL HHL
  simp only
  have H3 := hid (three (w := w) (.cells #[.int .i64 p1, .int .i64 p2, .bool gh, .int .i64 gc, .slice ga gl gcap] 41) (.cells #[.int .i64 q1, .int .i64 q2, .bool hhr, .int .i64 hc, .slice ha hl hcap] 41) (.cells #[.int .i64 0, .int .i64 0, .bool false, .int .i64 0, .slice none 0 0] 41))
  by_cases hlt : hc < gc
  · have hlt' : decide (hc < gc) = true := by simpa using hlt
    have HBR : Hid (Pl.bestR r s = s) := hid (by unfold Pl.bestR; rw [if_pos (by rw [← HHC.out, ← HGC.out]; exact hlt)])
    clear hlt
    go_enter Tryz.func28, Tryz.ntmps28
    go_wp2_with fail
    have HB3 := hid (three (w := w) (.cells #[.int .i64 p1, .int .i64 p2, .bool gh, .int .i64 gc, .slice ga gl gcap] 41) (.cells #[.int .i64 q1, .int .i64 q2, .bool hhr, .int .i64 hc, .slice ha hl hcap] 41) (.cells #[.int .i64 q1, .int .i64 q2, .bool hhr, .int .i64 hc, .slice ha hl hcap] 41)).2.2.2.2
    refine bodyPost_ret (v := .agg #[.int .i64 q1, .int .i64 q2, .bool hhr, .int .i64 hc, .slice ha hl hcap]) (by simp [results, Tryz.results28, go_sem]) rfl ⟨⟨(q1, q2), hhr, hc, ha, hl, hcap⟩, rfl, ?_, HB3.out⟩
    rw [HBR.out]
    exact HH.out.below HB3.out
  · have hlt' : decide (hc < gc) = false := by simpa using hlt
    by_cases heq : hc = gc
    · have heq' : (hc == gc) = true := by simpa using heq
      have HBR : Hid (Pl.bestR r s = ⟨r.p, r.here, r.cost, Pl.unite r.hops s.hops⟩) := hid (by unfold Pl.bestR; rw [if_neg (by rw [← HHC.out, ← HGC.out]; exact hlt), if_pos (by rw [← HHC.out, ← HGC.out]; exact heq)])
      obtain ⟨U, HU⟩ : ∃ U, Hid (Pl.unite r.hops s.hops = U) := ⟨_, hid rfl⟩
      rw [HU.out] at HBR
      have HL1 := hid (Pl.hopsB_le12 HR.out)
      have HL2 := hid (Pl.hopsB_le12 HS.out)
      have HN : Hid (0 < gl) := hid (by
        rw [HGL.out]
        exact List.length_pos_iff.2 (HNE.out (by rw [← HHC.out, ← HGC.out]; exact heq)))
      have HUA := hid (unite_any ga ha gl gcap hl hcap r.hops s.hops _ ((HG.out.below H3.out.2.2.2.2).reads.1.2.2.2.1) ((HH.out.below H3.out.2.2.2.2).reads.1.2.2.2.1) HN.out (by rw [HGL.out]; exact HL1.out) (by rw [HHL.out]; exact HL2.out) (Pl.hopsB_range HR.out) (Pl.hopsB_range HS.out))
      clear heq hlt
      go_enter Tryz.func28, Tryz.ntmps28
      go_wp2_with fail
      refine HUA.out.mono ?_
      rw [HU.out]
      rintro e w4 ⟨v4, rfl, ho4, hb4⟩
      obtain ⟨b0, b1, b2, bz, bb⟩ := H3.out
      rw [bz] at hb4 ho4
      obtain ⟨⟨x0, x1, x2, x3, x4⟩, xf, xl⟩ := bx5 ((hb4.block w.heap.size (by omega)).trans b0)
      obtain ⟨⟨y0, y1, y2, y3, y4⟩, yf, yl⟩ := bx5 ((hb4.block (w.heap.size + 2) (by omega)).trans b2)
      have HB4 : Hid (Below w.heap.size w w4) := hid (bb.trans (hb4.mono (by omega)))
      obtain ⟨a4, c4, rfl, _, _⟩ := ho4.ints
      have HO4 := hid ho4
      clear ho4 hb4 b0 b1 b2 bz bb HUA
      obtain ⟨n4, HN4⟩ : ∃ n, Hid (U.length = n) := ⟨_, hid rfl⟩
      rw [HN4.out] at HO4 ⊢
      go_wp2_with fail
      refine bodyPost_ret (v := .agg #[.int .i64 p1, .int .i64 p2, .bool gh, .int .i64 gc, .slice a4 n4 c4]) (by simp [results, Tryz.results28, go_sem, y0, y1, y2, y3, y4]) rfl ⟨⟨(p1, p2), gh, gc, a4, n4, c4⟩, rfl, ?_, ?_⟩
      · rw [HBR.out]
        refine ⟨HG.out.1, HG.out.2.1, HG.out.2.2.1, ?_, HG.out.2.2.2.2⟩
        refine OwnZ.mono (base := w.heap.size + 3) ?_ (by omega)
        refine OwnZ.but (B := w.heap.size + 2) (w := w4.setCell ⟨w.heap.size, 4, none⟩ (.slice a4 n4 c4)) (OwnZ.but HO4.out ((But.refl w.heap.size w4).setCell _ _) (.inl (by omega))) ?_ (.inl (by omega))
        exact (((((But.refl _ _).setCell _ _).setCell _ _).setCell _ _).setCell _ _).setCell _ _
      · have hle : w.heap.size ≤ w.heap.size + 1 + 1 := by omega
        exact ((((((HB4.out.setCell (Nat.le_refl _) _).setCell hle _).setCell hle _).setCell hle _).setCell hle _).setCell hle _)
    · have heq' : (hc == gc) = false := by simpa using heq
      have HBR : Hid (Pl.bestR r s = r) := hid (by unfold Pl.bestR; rw [if_neg (by rw [← HHC.out, ← HGC.out]; exact hlt), if_neg (by rw [← HHC.out, ← HGC.out]; exact heq)])
      clear heq hlt
      go_enter Tryz.func28, Tryz.ntmps28
      go_wp2_with fail
      have HB3 := hid (three (w := w) (.cells #[.int .i64 p1, .int .i64 p2, .bool gh, .int .i64 gc, .slice ga gl gcap] 41) (.cells #[.int .i64 q1, .int .i64 q2, .bool hhr, .int .i64 hc, .slice ha hl hcap] 41) (.cells #[.int .i64 p1, .int .i64 p2, .bool gh, .int .i64 gc, .slice ga gl gcap] 41)).2.2.2.2
      refine bodyPost_ret (v := .agg #[.int .i64 p1, .int .i64 p2, .bool gh, .int .i64 gc, .slice ga gl gcap]) (by simp [results, Tryz.results28, go_sem]) rfl ⟨⟨(p1, p2), gh, gc, ga, gl, gcap⟩, rfl, ?_, HB3.out⟩
      rw [HBR.out]
      exact HG.out.below HB3.out
end Go.Proofs.YtpaobnhcbeklfaaGreatDoor
/-
  Frames: a run of slots that a region writes, as a list of values.
-/
namespace Go.Proofs.YtpaobnhcbeklfaaGreatDoor
open Go.RowKit
set_option maxRecDepth 20000

/-- slots from s on hold the values of a list -/
def setFrom (t : Array Value) (s : Nat) : List Value → Array Value
  | [] => t
  | x :: r => setFrom (t.setIfInBounds s x) (s + 1) r
theorem setFrom_size : ∀ (xs : List Value) (t : Array Value) (s : Nat), (setFrom t s xs).size = t.size
  | [], _, _ => rfl
  | x :: r, t, s => by rw [setFrom, setFrom_size r]; simp
theorem setFrom_out : ∀ (xs : List Value) (t : Array Value) (s k : Nat), (k < s ∨ s + xs.length ≤ k) → (setFrom t s xs)[k]? = t[k]?
  | [], _, _, _, _ => rfl
  | x :: r, t, s, k, h => by
    rw [setFrom, setFrom_out r _ (s + 1) k (by simp at h; omega), Array.getElem?_setIfInBounds_ne (by simp at h; omega)]
theorem setFrom_at : ∀ (xs : List Value) (t : Array Value) (s k : Nat), k < xs.length → s + k < t.size → (setFrom t s xs)[s + k]? = xs[k]?
  | [], _, _, _, h, _ => by simp at h
  | x :: r, t, s, 0, _, hb => by
    rw [setFrom, setFrom_out r _ (s + 1) (s + 0) (by omega)]
    simp at hb
    simp [hb]
  | x :: r, t, s, k + 1, h, hb => by
    have := setFrom_at r (t.setIfInBounds s x) (s + 1) k (by simpa using h) (by simp; omega)
    rw [setFrom, show s + (k + 1) = s + 1 + k by omega, this]
    simp
theorem setFrom_comm : ∀ (xs : List Value) (t : Array Value) (s j : Nat) (v : Value), j < s → setFrom (t.setIfInBounds j v) s xs = (setFrom t s xs).setIfInBounds j v
  | [], _, _, _, _, _ => rfl
  | x :: r, t, s, j, v, h => by
    rw [setFrom, setFrom, Array.setIfInBounds_comm _ _ (by omega), setFrom_comm r _ (s + 1) j v (by omega)]
theorem setFrom_set : ∀ (xs : List Value) (t : Array Value) (s k : Nat) (v : Value), k < xs.length → (setFrom t s xs).setIfInBounds (s + k) v = setFrom t s (xs.set k v)
  | [], _, _, _, _, h => by simp at h
  | x :: r, t, s, 0, v, _ => by
    rw [List.set_cons_zero, setFrom, setFrom, ← setFrom_comm r _ (s + 1) (s + 0) v (by omega)]
    congr 1
    simp
  | x :: r, t, s, k + 1, v, h => by
    rw [List.set_cons_succ, setFrom, setFrom, show s + (k + 1) = s + 1 + k by omega, setFrom_set r _ (s + 1) k v (by simpa using h)]
theorem setFrom_self : ∀ (n : Nat) (t : Array Value) (s : Nat), s + n ≤ t.size → ∃ xs : List Value, xs.length = n ∧ setFrom t s xs = t
  | 0, t, _, _ => ⟨[], rfl, rfl⟩
  | n + 1, t, s, h => by
    obtain ⟨xs, h1, h2⟩ := setFrom_self n t (s + 1) (by omega)
    refine ⟨t[s] :: xs, by simp [h1], ?_⟩
    rw [setFrom]
    have : t.setIfInBounds s t[s] = t := by
      apply Array.ext
      · simp
      · intro i h1 h2
        rw [Array.getElem_setIfInBounds]
        split
        · rename_i e; subst e; rfl
        · rfl
    rw [this, h2]
theorem list14 (xs : List Value) (h : xs.length = 14) : ∃ x0 x1 x2 x3 x4 x5 x6 x7 x8 x9 x10 x11 x12 x13, xs = [x0, x1, x2, x3, x4, x5, x6, x7, x8, x9, x10, x11, x12, x13] := by
  match xs, h with
  | [x0, x1, x2, x3, x4, x5, x6, x7, x8, x9, x10, x11, x12, x13], _ => exact ⟨x0, x1, x2, x3, x4, x5, x6, x7, x8, x9, x10, x11, x12, x13, rfl⟩
end Go.Proofs.YtpaobnhcbeklfaaGreatDoor
/-
  A region that draws its order, where each slot that it writes gets the same value whatever the order, and each operation keeps a class of worlds (stores too).
-/
namespace Go.Proofs.YtpaobnhcbeklfaaGreatDoor
open Go.RowKit
set_option maxRecDepth 20000

/-- off k: which of the n slots from s on operation k writes; V j: what is written there -/
structure DInv (a0 : Act) (s n m : Nat) (off : Nat → Option Nat) (V : Nat → Value) (C : World → Prop) (listed : Array Bool) (a : Act) (w : World) : Prop where
  ls : listed.size = m
  fr : ∃ xs : List Value, xs.length = n ∧ a = { a0 with tmps := setFrom a0.tmps s xs } ∧ ∀ k j, off k = some j → listed.getD k false = true → xs.getD j undef = V j
  cw : C w
theorem DInv.put {a0 : Act} {s n m : Nat} {off : Nat → Option Nat} {V : Nat → Value} {C : World → Prop} {listed : Array Bool} {a : Act} {w w' : World} {i j : Nat} {v : Value}
    (h : DInv a0 s n m off V C listed a w) (ho : off i = some j) (hj : j < n) (hv : v = V j) (hc : C w') : DInv a0 s n m off V C (listed.setIfInBounds i true) (a.put (some (s + j)) v) w' := by
  subst hv
  obtain ⟨xs, hl, rfl, hf⟩ := h.fr
  refine ⟨by simp [h.ls], ⟨xs.set j (V j), by simp [hl], ?_, ?_⟩, hc⟩
  · show ({ a0 with tmps := (setFrom a0.tmps s xs).setIfInBounds (s + j) (V j) } : Act) = _
    rw [setFrom_set xs a0.tmps s j (V j) (by omega)]
  · intro k q hk hlk
    by_cases e : q = j
    · subst e
      simp [List.getD, hl, hj]
    · have e' : i ≠ k := by rintro rfl; rw [ho] at hk; cases hk; exact e rfl
      rw [getD_set_ne false e'] at hlk
      have : (xs.set j (V j)).getD q undef = xs.getD q undef := by simp [List.getD, List.getElem?_set_ne (Ne.symm e)]
      rw [this]; exact hf k q hk hlk
theorem DInv.skip {a0 : Act} {s n m : Nat} {off : Nat → Option Nat} {V : Nat → Value} {C : World → Prop} {listed : Array Bool} {a : Act} {w w' : World} {i : Nat}
    (h : DInv a0 s n m off V C listed a w) (ho : off i = none) (hc : C w') : DInv a0 s n m off V C (listed.setIfInBounds i true) a w' := by
  obtain ⟨xs, hl, rfl, hf⟩ := h.fr
  refine ⟨by simp [h.ls], ⟨xs, hl, rfl, ?_⟩, hc⟩
  intro k q hk hlk
  have e' : i ≠ k := by rintro rfl; rw [ho] at hk; cases hk
  rw [getD_set_ne false e'] at hlk
  exact hf k q hk hlk
theorem DInv.at {a0 : Act} {s n m : Nat} {off : Nat → Option Nat} {V : Nat → Value} {C : World → Prop} {listed : Array Bool} {a : Act} {w : World} {k j : Nat}
    (h : DInv a0 s n m off V C listed a w) (hs : s + n ≤ a0.tmps.size) (ho : off k = some j) (hj : j < n) (hl : listed.getD k false = true) : a.tmps[s + j]?.getD undef = V j := by
  obtain ⟨xs, hxl, rfl, hf⟩ := h.fr
  show (setFrom a0.tmps s xs)[s + j]?.getD undef = _
  rw [setFrom_at xs a0.tmps s j (by omega) (by omega), ← hf k j ho hl]
  simp [List.getD]
theorem DInv.out {a0 : Act} {s n m : Nat} {off : Nat → Option Nat} {V : Nat → Value} {C : World → Prop} {listed : Array Bool} {a : Act} {w : World} {k : Nat}
    (h : DInv a0 s n m off V C listed a w) (hk : k < s ∨ s + n ≤ k) : a.tmps[k]?.getD undef = a0.tmps[k]?.getD undef := by
  obtain ⟨xs, hxl, rfl, hf⟩ := h.fr
  show (setFrom a0.tmps s xs)[k]?.getD undef = _
  rw [setFrom_out xs a0.tmps s k (by omega)]
theorem DInv.start {a0 : Act} {s n m : Nat} {off : Nat → Option Nat} {V : Nat → Value} {C : World → Prop} {w : World} (hs : s + n ≤ a0.tmps.size) (hc : C w) : DInv a0 s n m off V C (Array.replicate m false) a0 w := by
  obtain ⟨xs, hxl, hxs⟩ := setFrom_self n a0.tmps s hs
  refine ⟨by simp, ⟨xs, hxl, by rw [hxs], ?_⟩, hc⟩
  intro k j _ h
  rw [show (Array.replicate m false).getD k false = false from by by_cases hk' : k < m <;> simp [hk']] at h
  cases h
theorem list17 (xs : List Value) (h : xs.length = 17) : ∃ x0 x1 x2 x3 x4 x5 x6 x7 x8 x9 x10 x11 x12 x13 x14 x15 x16, xs = [x0, x1, x2, x3, x4, x5, x6, x7, x8, x9, x10, x11, x12, x13, x14, x15, x16] := by
  match xs, h with
  | [x0, x1, x2, x3, x4, x5, x6, x7, x8, x9, x10, x11, x12, x13, x14, x15, x16], _ => exact ⟨x0, x1, x2, x3, x4, x5, x6, x7, x8, x9, x10, x11, x12, x13, x14, x15, x16, rfl⟩
end Go.Proofs.YtpaobnhcbeklfaaGreatDoor
/-
  Contract: a route is offered to a table (offer).
-/
namespace Go.Proofs.YtpaobnhcbeklfaaGreatDoor
open Go.RowKit
set_option maxRecDepth 20000

/-- routes in memory, each with hops of its own -/
def ZAll (w : World) (base : Nat) (hs : List Pl.RH) (rs : List Pl.Rt) : Prop := hs.length = rs.length ∧ ∀ i, i < hs.length → ReadsZ w base (Pl.rh hs i) (Pl.rt rs i)
theorem ZAll.take {w : World} {base : Nat} {hs : List Pl.RH} {rs : List Pl.Rt} (h : ZAll w base hs rs) (n : Nat) : ZAll w base (hs.take n) (rs.take n) := by
  refine ⟨by simp [h.1], fun i hi => ?_⟩
  simp only [List.length_take] at hi
  rw [Pl.rh_take hs n i (by omega) (by omega)]
  have : Pl.rt (rs.take n) i = Pl.rt rs i := by
    have := h.1
    rw [Pl.rt_eq _ _ (by simp; omega), Pl.rt_eq _ _ (by omega)]; simp
  rw [this]
  exact h.2 i (by omega)
theorem ZAll.drop {w : World} {base : Nat} {hs : List Pl.RH} {rs : List Pl.Rt} (h : ZAll w base hs rs) (n : Nat) : ZAll w base (hs.drop n) (rs.drop n) := by
  refine ⟨by simp [h.1], fun i hi => ?_⟩
  simp only [List.length_drop] at hi
  rw [Pl.rh_drop hs n i (by omega)]
  have : Pl.rt (rs.drop n) i = Pl.rt rs (n + i) := by
    have := h.1
    rw [Pl.rt_eq _ _ (by simp; omega), Pl.rt_eq _ _ (by omega)]; simp
  rw [this]
  exact h.2 (n + i) (by omega)
theorem ZAll.append {w : World} {base : Nat} {hs gs : List Pl.RH} {rs ss : List Pl.Rt} (h : ZAll w base hs rs) (k : ZAll w base gs ss) : ZAll w base (hs ++ gs) (rs ++ ss) := by
  refine ⟨by simp [h.1, k.1], fun i hi => ?_⟩
  simp only [List.length_append] at hi
  rcases Nat.lt_or_ge i hs.length with q | q
  · rw [Pl.rh_app_lt _ _ _ q, Pl.rt_app_lt _ _ _ (by rw [← h.1]; exact q)]
    exact h.2 i q
  · have e1 : Pl.rh (hs ++ gs) i = Pl.rh gs (i - hs.length) := by
      rw [Pl.rh_eq _ _ (by simp; omega), Pl.rh_eq _ _ (by omega), List.getElem_append_right q]
    have e2 : Pl.rt (rs ++ ss) i = Pl.rt ss (i - hs.length) := by
      have h1 := h.1
      have h2 := k.1
      rw [Pl.rt_eq _ _ (by simp; omega), Pl.rt_eq _ _ (by omega), List.getElem_append_right (by omega)]
      simp [h1]
    rw [e1, e2]
    exact k.2 _ (by omega)
theorem ZAll.one {w : World} {base : Nat} {x : Pl.RH} {r : Pl.Rt} (h : ReadsZ w base x r) : ZAll w base [x] [r] := ⟨rfl, fun i hi => by simp at hi; subst hi; exact h⟩
theorem DInv.revalue {a0 : Act} {s n m : Nat} {off : Nat → Option Nat} {V V' : Nat → Value} {C : World → Prop} {listed : Array Bool} {a : Act} {w : World}
    (h : DInv a0 s n m off V C listed a w) (hV : ∀ k j, off k = some j → listed.getD k false = true → V j = V' j) : DInv a0 s n m off V' C listed a w := by
  obtain ⟨xs, hl, e, hf⟩ := h.fr
  exact ⟨h.ls, ⟨xs, hl, e, fun k j h1 h2 => (hf k j h1 h2).trans (hV k j h1 h2)⟩, h.cw⟩
theorem DInv.world {a0 : Act} {s n m : Nat} {off : Nat → Option Nat} {V : Nat → Value} {listed : Array Bool} {a : Act} {w w' : World}
    (h : DInv a0 s n m off V (fun _ => True) listed a w) : DInv a0 s n m off V (fun _ => True) listed a w' := ⟨h.ls, h.fr, trivial⟩
theorem list10 (xs : List Value) (h : xs.length = 10) : ∃ x0 x1 x2 x3 x4 x5 x6 x7 x8 x9, xs = [x0, x1, x2, x3, x4, x5, x6, x7, x8, x9] := by
  match xs, h with
  | [x0, x1, x2, x3, x4, x5, x6, x7, x8, x9], _ => exact ⟨x0, x1, x2, x3, x4, x5, x6, x7, x8, x9, rfl⟩

/-- the world while a route of a table is laid anew -/
def OffW (w1 : World) (base g o : Nat) (r B : Pl.Rt) (listed : Array Bool) (x y : Value) (W : World) : Prop :=
  (listed.getD 10 false = false ∧ Below w1.heap.size w1 W ∧ (listed.getD 7 false = true → ∃ k : Pl.RH, x = .agg #[.int .i64 k.p.1, .int .i64 k.p.2, .bool k.here, .int .i64 k.cost, .slice k.ha k.hl k.hc] ∧ ReadsZ W base k r) ∧
    (listed.getD 8 false = true → ∃ k : Pl.RH, y = .agg #[.int .i64 k.p.1, .int .i64 k.p.2, .bool k.here, .int .i64 k.cost, .slice k.ha k.hl k.hc] ∧ ReadsZ W base k B)) ∨
  (listed.getD 10 false = true ∧ ∃ (k : Pl.RH) (W0 : World), ReadsZ W0 base k B ∧ Below w1.heap.size w1 W0 ∧ W = set5 W0 g o k)
theorem OffW.quiet {w1 base g o r B listed x y W} {i : Nat} (h : OffW w1 base g o r B listed x y W) (h7 : i ≠ 7) (h8 : i ≠ 8) (h10 : i ≠ 10) : OffW w1 base g o r B (listed.setIfInBounds i true) x y W := by
  unfold OffW at h ⊢
  rw [getD_set_ne false h7, getD_set_ne false h8, getD_set_ne false h10]
  exact h

set_option maxHeartbeats 8000000 in
theorem offer_any (base : Nat) (v : Value) (hs : List Pl.RH) (rs : List Pl.Rt) (x : Pl.RH) (r : Pl.Rt) (w : World) (hown : OwnTb w base v hs rs) (hbase : base ≤ w.heap.size) (hsrt : Pl.SrtR rs) (hlen : hs.length ≤ 1000) (hx : Reads w x r) (hrB : Pl.hopsB r.hops = true) (hall : ∀ q ∈ rs, Pl.hopsB q.hops = true) (hne : ∀ q ∈ rs, q.p = r.p → r.cost = q.cost → q.hops ≠ []) :
    Calls Tryz.prog 9 #[v, .agg #[.int .i64 x.p.1, .int .i64 x.p.2, .bool x.here, .int .i64 x.cost, .slice x.ha x.hl x.hc]] w fun e w' =>
      ∃ v' hs', e = .returned v' ∧ OwnTb w' base v' hs' (Pl.offR rs r) ∧ w.grownBy w' v.ownBlock := by
  have HO := hid hown
  have HX := hid hx
  have HZ : Hid (ZAll w base hs rs) := hid hown.2
  have HHP : Hid (Pl.hp hs = rs.map Pl.Rt.p) := hid hown.reads.map_p
  have has : Pl.AscP (Pl.hp hs) := hown.reads.asc hsrt
  have HXL : Hid (x.hl ≤ 1000) := hid (by have h1 := hx.2.2.2.1.1; have h2 := Pl.hopsB_le12 hrB; omega)
  have HXP : Hid (x.p = r.p) := hid hx.1
  have HOX : Hid (Pl.offR rs r = Pl.layR rs (Pl.posP (Pl.hp hs) x.p) (Pl.thereP (Pl.hp hs) x.p) (Pl.offX rs r)) := hid (by
    unfold Pl.offR
    rw [← Pl.lay_insR, Pl.offX_p, HHP.out, HXP.out])
  have HOR := hid hrB
  have HRS : Hid (hs.length = rs.length) := hid hown.2.1
  obtain ⟨⟨p1, p2⟩, here, cost, ha, hl, hc⟩ := x
  simp only at HX HXL HXP HOX ⊢
  obtain ⟨tt, HT⟩ : ∃ t, Hid (Pl.thereP (Pl.hp hs) (p1, p2) = t) := ⟨_, hid rfl⟩
  obtain ⟨ix, HI⟩ : ∃ t, Hid (Pl.posP (Pl.hp hs) (p1, p2) = t) := ⟨_, hid rfl⟩
  have HIX : Hid (ix ≤ hs.length) := hid (by rw [← HI.out]; have := Pl.posP_le (Pl.hp hs) (p1, p2); rwa [Pl.hp_len] at this)
  have HLT : Hid (tt = true → ix < hs.length) := hid fun e => by rw [← HI.out]; have := Pl.thereP_lt (by rw [HT.out]; exact e : Pl.thereP (Pl.hp hs) (p1, p2) = true); rwa [Pl.hp_len] at this
  have HF : Hid (∀ W, Below w.heap.size w W → Calls Tryz.prog 25 #[v, .agg #[.int .i64 p1, .int .i64 p2]] W fun e w' => e = .returned (.tuple #[.int .i64 ix, .bool tt]) ∧ Below W.heap.size W w') := hid fun W hW => by
    obtain ⟨a, cap, rfl, hr, _⟩ := (HO.out.1.below hW).rows
    have := find_rib a hs.length cap hs p1 p2 W hr has (by omega)
    rwa [HT.out, HI.out] at this
  have HOE : Hid (Pl.offX rs r = if tt then Pl.bestR (Pl.rt rs ix) r else r) := hid (by
    unfold Pl.offX
    rw [← HHP.out, ← HXP.out, HT.out, HI.out])
  have HNB : Hid (tt = true → Pl.hopsB (Pl.rt rs ix).hops = true ∧ (r.cost = (Pl.rt rs ix).cost → (Pl.rt rs ix).hops ≠ [])) := hid fun e => by
    have hm := Pl.rt_mem rs ix (by have := HLT.out e; have := HRS.out; omega)
    refine ⟨hall _ hm, hne _ hm ?_⟩
    have ht : Pl.thereP (Pl.hp hs) (p1, p2) = true := by rw [HT.out]; exact e
    have h1 := Pl.thereP_eq ht
    rw [HHP.out] at h1
    rw [← HHP.out, HI.out, HHP.out, Pl.pr_map rs ix (by have := HLT.out e; have := HRS.out; omega)] at h1
    rw [h1, HXP.out]
  rw [HT.out, HI.out] at HOX
  rw [HOX.out]
  clear hown has hx hrB hall hne hsrt HT HI
  cases tt
  · have HE : Hid (Pl.layR rs ix false (Pl.offX rs r) = rs.take ix ++ ([r] ++ rs.drop ix)) := hid (by rw [HOE.out]; rfl)
    rw [HE.out]
    clear HE HOE HOX HNB
    have HFR : Hid (∀ W, Below w.heap.size w W → Calls Tryz.prog 27 #[.agg #[.int .i64 p1, .int .i64 p2, .bool here, .int .i64 cost, .slice ha hl hc]] W fun e w' => ∃ g : Pl.RH, e = .returned (.agg #[.int .i64 g.p.1, .int .i64 g.p.2, .bool g.here, .int .i64 g.cost, .slice g.ha g.hl g.hc]) ∧ ReadsZ w' W.heap.size g r ∧ Below W.heap.size W w') := hid fun W hW => fresh_own ⟨(p1, p2), here, cost, ha, hl, hc⟩ r W (HX.out.below hW) HXL.out
    go_enter Tryz.func9, Tryz.ntmps9
    go_wp2_with fail
    refine (HF.out _ ((Below.refl _ _).alloc (Nat.le_refl _) _)).mono ?_
    rintro e w1 ⟨rfl, hb1⟩
    obtain ⟨⟨y0, y1, y2, y3, y4⟩, hbx, hbw⟩ := box5 (by simpa using hb1)
    have HBW := hid hbw
    clear hb1 hbw
    go_wp2_with fail
    refine (HFR.out _ HBW.out).mono ?_
    rintro e w2 ⟨k, rfl, hz2, hb2⟩
    have HZ2 := hid (hz2.mono (Nat.le_trans hbase HBW.out.size))
    have HB2 : Hid (Below w.heap.size w w2) := hid (HBW.out.trans (hb2.mono HBW.out.size))
    have HO2 := hid (HO.out.below HB2.out)
    have hz := HB2.out.size
    clear hz2 hb2
    go_wp2_with fail
    refine (Insert_any base v hs ix k w2 HO2.out.1 (by omega) (by omega) HIX.out).mono ?_
    rintro e w3 ⟨v', rfl, ho3, hg3⟩
    have HO3 := hid ho3
    have HG3 := hid hg3
    clear ho3 hg3
    go_wp2_with fail
    go_ret
    have key : ∀ x y, ReadsZ w2 base x y → ReadsZ w3 base x y := by
      intro x y ⟨q1, q2, q3, q4, q5⟩
      exact ⟨q1, q2, q3, World.ownsRow.kept (World.ownsRow.alloc q4 _) HG3.out (apartZR q4 HO2.out.1), q5⟩
    have hzz : ZAll w2 base (hs.take ix ++ ([k] ++ hs.drop ix)) (rs.take ix ++ ([r] ++ rs.drop ix)) := (ZAll.take HO2.out.2 ix).append ((ZAll.one HZ2.out).append (ZAll.drop HO2.out.2 ix))
    refine ⟨_, hs.take ix ++ ([k] ++ hs.drop ix), rfl, ⟨HO3.out, hzz.1, fun i hi => key _ _ (hzz.2 i hi)⟩, ?_⟩
    exact grown_trans (grown_below HB2.out) (grown_trans (grown_below ((Below.refl _ _).alloc (Nat.le_refl _) _)) HG3.out)
  · have hix := HLT.out rfl
    have HNB2 := hid (HNB.out rfl)
    obtain ⟨g, cap, rfl, hbg, hgl, hnc, hm, hra, hsf⟩ := HO.out.1.opened (by omega)
    unfold maxLen at hm
    obtain ⟨c0, c1, c2, c3, c4⟩ := hra ix hix
    have HZX := hid (HZ.out.2 ix hix)
    obtain ⟨n, HN⟩ : ∃ n, Hid (hs.length = n) := ⟨_, hid rfl⟩
    rw [HN.out] at HF hix hnc hlen ⊢
    obtain ⟨B, HB⟩ : ∃ B, Hid (Pl.bestR (Pl.rt rs ix) r = B) := ⟨_, hid rfl⟩
    have HE : Hid (Pl.layR rs ix true (Pl.offX rs r) = rs.set ix B) := hid (by
      rw [HOE.out]
      show rs.take ix ++ Pl.bestR (Pl.rt rs ix) r :: rs.drop (ix + 1) = _
      rw [HB.out, List.set_eq_take_append_cons_drop, if_pos (by have := HRS.out; have := HN.out; omega)])
    rw [HE.out]
    obtain ⟨old, HOLD⟩ : ∃ x, Hid (Pl.rh hs ix = x) := ⟨_, hid rfl⟩
    obtain ⟨ro, HRO⟩ : ∃ x, Hid (Pl.rt rs ix = x) := ⟨_, hid rfl⟩
    rw [HOLD.out] at c0 c1 c2 c3 c4 HZX
    rw [HRO.out] at HZX HNB2 HB
    clear hra HE HOE HOX HNB
    have HFR : Hid (∀ W, Below w.heap.size w W → Calls Tryz.prog 27 #[.agg #[.int .i64 p1, .int .i64 p2, .bool here, .int .i64 cost, .slice ha hl hc]] W fun e w' => ∃ g : Pl.RH, e = .returned (.agg #[.int .i64 g.p.1, .int .i64 g.p.2, .bool g.here, .int .i64 g.cost, .slice g.ha g.hl g.hc]) ∧ ReadsZ w' W.heap.size g r ∧ Below W.heap.size W w') := hid fun W hW => fresh_own ⟨(p1, p2), here, cost, ha, hl, hc⟩ r W (HX.out.below hW) HXL.out
    have hix' : (ix : Int) < (n : Int) := by omega
    go_enter Tryz.func9, Tryz.ntmps9
    go_wp2_with fail
    refine (HF.out _ ((Below.refl _ _).alloc (Nat.le_refl _) _)).mono ?_
    rintro e w1 ⟨rfl, hb1⟩
    obtain ⟨⟨y0, y1, y2, y3, y4⟩, hbx, hbw⟩ := box5 (by simpa using hb1)
    have HBW := hid hbw
    have HO1 := hid (HO.out.below hbw)
    have hz := hbw.size
    have D0 := hid ((hbw.cell (p := ⟨g, 0 + ix * 5, none⟩) hgl).trans c0)
    have D1 := hid ((hbw.cell (p := ⟨g, 0 + ix * 5 + 1, none⟩) hgl).trans c1)
    have D2 := hid ((hbw.cell (p := ⟨g, 0 + ix * 5 + 2, none⟩) hgl).trans c2)
    have D3 := hid ((hbw.cell (p := ⟨g, 0 + ix * 5 + 3, none⟩) hgl).trans c3)
    have D4 := hid ((hbw.cell (p := ⟨g, 0 + ix * 5 + 4, none⟩) hgl).trans c4)
    have DF : Hid (∀ o, w1.frozen? ⟨g, o, none⟩ = false) := hid fun o => (hbw.frozen (p := ⟨g, o, none⟩) hgl).trans (hsf o)
    rw [Nat.zero_add] at D0 D1 D2 D3 D4
    have HZX1 := hid (HZX.out.below hbw)
    have Y := hid (And.intro y0 (And.intro y1 (And.intro y2 (And.intro y3 y4))))
    clear hb1 hbw c0 c1 c2 c3 c4 hsf y0 y1 y2 y3 y4
    have hbxl : w.heap.size < w1.heap.size := by omega
    have hg1 : g < w1.heap.size := by omega
    go_wp2_with fail
    generalize ha0 : Act.mk _ _ = a0
    have hsz : 22 + 10 ≤ a0.tmps.size := by
      have : a0.tmps.size = 33 := by rw [← ha0]; rfl
      omega
    have q0 : a0.tmps[0]?.getD undef = .slice (some ⟨g, 0, none⟩) n cap := by rw [← ha0]; rfl
    have q3 : a0.tmps[3]?.getD undef = .pointer (some ⟨w.heap.size, 0, none⟩) := by rw [← ha0]; rfl
    have q5 : a0.tmps[5]?.getD undef = .int .i64 ix := by rw [← ha0]; rfl
    refine wp_region_any (by kernel_rfl) ?_
    refine wpAny_inv2 (fun listed a W => ∃ x y, DInv a0 22 10 11 (fun k => if k < 10 then some k else none)
      (fun j => ([.slice (some ⟨g, 0, none⟩) n cap, .int .i64 ix, .slice (some ⟨g, 0, none⟩) n cap, .int .i64 ix, .pointer (some ⟨g, ix * 5, none⟩), .agg #[.int .i64 old.p.1, .int .i64 old.p.2, .bool old.here, .int .i64 old.cost, .slice old.ha old.hl old.hc], .agg #[.int .i64 p1, .int .i64 p2, .bool here, .int .i64 cost, .slice ha hl hc], x, y, .pointer (some ⟨g, ix * 5, none⟩)] : List Value).getD j undef)
      (fun _ => True) listed a W ∧ OffW w1 base g (ix * 5) r B listed x y W) ?_ ?_ _ _ _ _ (by decide +kernel) ?_ (closed_start _ _ _)
    · rintro i listed a W hi hCl ⟨x, y, hI, hW⟩
      rw [mem_ready] at hi
      obtain ⟨hl0, o, ho, hall⟩ := hi
      have hlt11 : i < 11 := (Array.getElem?_eq_some_iff.1 ho).1
      have o0 := (hI.out (k := 0) (by omega)).trans q0
      have o3 := (hI.out (k := 3) (by omega)).trans q3
      have o5 := (hI.out (k := 5) (by omega)).trans q5
      have hnl : listed.getD i false = false := by
        have hlt : i < listed.size := by rw [hI.ls]; exact hlt11
        simp [hlt] at hl0 ⊢
        exact hl0
      have h10 : listed.getD 10 false = false := by
        cases h : listed.getD 10 false with
        | false => rfl
        | true =>
          exfalso
          have e8 := hCl 10 _ rfl h ⟨8, .data⟩ (by simp) rfl
          have e9 := hCl 10 _ rfl h ⟨9, .data⟩ (by simp) rfl
          have e5 := hCl 8 _ rfl e8 ⟨5, .data⟩ (by simp) rfl
          have e7 := hCl 8 _ rfl e8 ⟨7, .data⟩ (by simp) rfl
          have e6 := hCl 7 _ rfl e7 ⟨6, .data⟩ (by simp) rfl
          have e4 := hCl 5 _ rfl e5 ⟨4, .data⟩ (by simp) rfl
          have e2 := hCl 4 _ rfl e4 ⟨2, .data⟩ (by simp) rfl
          have e3 := hCl 4 _ rfl e4 ⟨3, .data⟩ (by simp) rfl
          have e0 := hCl 9 _ rfl e9 ⟨0, .data⟩ (by simp) rfl
          have e1 := hCl 9 _ rfl e9 ⟨1, .data⟩ (by simp) rfl
          have hcs : i = 0 ∨ i = 1 ∨ i = 2 ∨ i = 3 ∨ i = 4 ∨ i = 5 ∨ i = 6 ∨ i = 7 ∨ i = 8 ∨ i = 9 ∨ i = 10 := by omega
          rcases hcs with rfl | rfl | rfl | rfl | rfl | rfl | rfl | rfl | rfl | rfl | rfl <;> simp_all
      obtain ⟨hbW, h7, h8⟩ : Below w1.heap.size w1 W ∧ (listed.getD 7 false = true → ∃ k : Pl.RH, x = .agg #[.int .i64 k.p.1, .int .i64 k.p.2, .bool k.here, .int .i64 k.cost, .slice k.ha k.hl k.hc] ∧ ReadsZ W base k r) ∧ (listed.getD 8 false = true → ∃ k : Pl.RH, y = .agg #[.int .i64 k.p.1, .int .i64 k.p.2, .bool k.here, .int .i64 k.cost, .slice k.ha k.hl k.hc] ∧ ReadsZ W base k B) := by
        rcases hW with ⟨_, h⟩ | ⟨h, _⟩
        · exact h
        · rw [h10] at h; cases h
      have hcs : i = 0 ∨ i = 1 ∨ i = 2 ∨ i = 3 ∨ i = 4 ∨ i = 5 ∨ i = 6 ∨ i = 7 ∨ i = 8 ∨ i = 9 ∨ i = 10 := by omega
      rcases hcs with rfl | rfl | rfl | rfl | rfl | rfl | rfl | rfl | rfl | rfl | rfl
      all_goals
        simp at ho
        subst ho
        refine wpOp_of rfl rfl ?_
      · simp [Oper.wp, go_sem, o0]
        exact ⟨x, y, hI.put (i := 0) (j := 0) rfl (by omega) rfl trivial, hW.quiet (by omega) (by omega) (by omega)⟩
      · simp [Oper.wp, go_sem, o5]
        exact ⟨x, y, hI.put (i := 1) (j := 1) rfl (by omega) rfl trivial, hW.quiet (by omega) (by omega) (by omega)⟩
      · simp [Oper.wp, go_sem, o0]
        exact ⟨x, y, hI.put (i := 2) (j := 2) rfl (by omega) rfl trivial, hW.quiet (by omega) (by omega) (by omega)⟩
      · simp [Oper.wp, go_sem, o5]
        exact ⟨x, y, hI.put (i := 3) (j := 3) rfl (by omega) rfl trivial, hW.quiet (by omega) (by omega) (by omega)⟩
      · have e1 : a.tmps[24]?.getD undef = .slice (some ⟨g, 0, none⟩) n cap := hI.at (k := 2) (j := 2) hsz rfl (by omega) (hall ⟨2, .data⟩ (by simp) rfl)
        have e2 : a.tmps[25]?.getD undef = .int .i64 ix := hI.at (k := 3) (j := 3) hsz rfl (by omega) (hall ⟨3, .data⟩ (by simp) rfl)
        simp [Oper.wp, go_sem, e1, e2, hix']
        exact ⟨x, y, hI.put (i := 4) (j := 4) rfl (by omega) rfl trivial, hW.quiet (by omega) (by omega) (by omega)⟩
      · have e1 : a.tmps[26]?.getD undef = .pointer (some ⟨g, ix * 5, none⟩) := hI.at (k := 4) (j := 4) hsz rfl (by omega) (hall ⟨4, .data⟩ (by simp) rfl)
        have f0 := (hbW.cell (p := ⟨g, ix * 5, none⟩) hg1).trans D0.out
        have f1 := (hbW.cell (p := ⟨g, ix * 5 + 1, none⟩) hg1).trans D1.out
        have f2 := (hbW.cell (p := ⟨g, ix * 5 + 2, none⟩) hg1).trans D2.out
        have f3 := (hbW.cell (p := ⟨g, ix * 5 + 3, none⟩) hg1).trans D3.out
        have f4 := (hbW.cell (p := ⟨g, ix * 5 + 4, none⟩) hg1).trans D4.out
        simp [Oper.wp, go_sem, e1, f0, f1, f2, f3, f4]
        exact ⟨x, y, hI.put (i := 5) (j := 5) rfl (by omega) rfl trivial, hW.quiet (by omega) (by omega) (by omega)⟩
      · have f0 := (hbW.cell (p := ⟨w.heap.size, 0, none⟩) hbxl).trans Y.out.1
        have f1 := (hbW.cell (p := ⟨w.heap.size, 1, none⟩) hbxl).trans Y.out.2.1
        have f2 := (hbW.cell (p := ⟨w.heap.size, 2, none⟩) hbxl).trans Y.out.2.2.1
        have f3 := (hbW.cell (p := ⟨w.heap.size, 3, none⟩) hbxl).trans Y.out.2.2.2.1
        have f4 := (hbW.cell (p := ⟨w.heap.size, 4, none⟩) hbxl).trans Y.out.2.2.2.2
        simp [Oper.wp, go_sem, o3, f0, f1, f2, f3, f4]
        exact ⟨x, y, hI.put (i := 6) (j := 6) rfl (by omega) rfl trivial, hW.quiet (by omega) (by omega) (by omega)⟩
      · have e1 : a.tmps[28]?.getD undef = .agg #[.int .i64 p1, .int .i64 p2, .bool here, .int .i64 cost, .slice ha hl hc] := hI.at (k := 6) (j := 6) hsz rfl (by omega) (hall ⟨6, .data⟩ (by simp) rfl)
        simp [Oper.wp, go_sem, e1]
        refine (HFR.out W (HBW.out.trans (hbW.mono hz))).mono ?_
        rintro e W' ⟨k, rfl, hzk, hbk⟩
        refine ⟨.agg #[.int .i64 k.p.1, .int .i64 k.p.2, .bool k.here, .int .i64 k.cost, .slice k.ha k.hl k.hc], y, DInv.put (i := 7) (j := 7) (w' := W') (DInv.revalue hI fun k' j hk' hlk => ?_) rfl (by omega) rfl trivial, .inl ⟨?_, hbW.trans (hbk.mono hbW.size), fun _ => ⟨k, rfl, hzk.mono (by have := hbW.size; omega)⟩, fun h => ?_⟩⟩
        · by_cases e7 : k' = 7
          · subst e7; rw [hnl] at hlk; cases hlk
          · by_cases hk10 : k' < 10
            · rw [if_pos hk10] at hk'
              cases hk'
              have hcs : k' = 0 ∨ k' = 1 ∨ k' = 2 ∨ k' = 3 ∨ k' = 4 ∨ k' = 5 ∨ k' = 6 ∨ k' = 8 ∨ k' = 9 := by omega
              rcases hcs with rfl | rfl | rfl | rfl | rfl | rfl | rfl | rfl | rfl <;> rfl
            · rw [if_neg hk10] at hk'; cases hk'
        · rw [getD_set_ne false (by omega)]; exact h10
        · rw [getD_set_ne false (by omega)] at h
          obtain ⟨k2, e2, z2⟩ := h8 h
          exact ⟨k2, e2, z2.below hbk⟩
      · obtain ⟨k1, rfl, z1⟩ := h7 (hall ⟨7, .data⟩ (by simp) rfl)
        have e1 : a.tmps[27]?.getD undef = .agg #[.int .i64 old.p.1, .int .i64 old.p.2, .bool old.here, .int .i64 old.cost, .slice old.ha old.hl old.hc] := hI.at (k := 5) (j := 5) hsz rfl (by omega) (hall ⟨5, .data⟩ (by simp) rfl)
        have e2 : a.tmps[29]?.getD undef = .agg #[.int .i64 k1.p.1, .int .i64 k1.p.2, .bool k1.here, .int .i64 k1.cost, .slice k1.ha k1.hl k1.hc] := hI.at (k := 7) (j := 7) hsz rfl (by omega) (hall ⟨7, .data⟩ (by simp) rfl)
        simp [Oper.wp, go_sem, e1, e2]
        have hbest := best_any base old k1 ro r W (HZX1.out.below hbW) z1 (by have := hbW.size; omega) HNB2.out.1 HOR.out HNB2.out.2
        rw [HB.out] at hbest
        refine hbest.mono ?_
        rintro e W' ⟨k, rfl, hzk, hbk⟩
        refine ⟨_, .agg #[.int .i64 k.p.1, .int .i64 k.p.2, .bool k.here, .int .i64 k.cost, .slice k.ha k.hl k.hc], DInv.put (i := 8) (j := 8) (w' := W') (DInv.revalue hI fun k' j hk' hlk => ?_) rfl (by omega) rfl trivial, .inl ⟨?_, hbW.trans (hbk.mono hbW.size), fun _ => ⟨k1, rfl, z1.below hbk⟩, fun _ => ⟨k, rfl, hzk⟩⟩⟩
        · by_cases e8 : k' = 8
          · subst e8; rw [hnl] at hlk; cases hlk
          · by_cases hk10 : k' < 10
            · rw [if_pos hk10] at hk'
              cases hk'
              have hcs : k' = 0 ∨ k' = 1 ∨ k' = 2 ∨ k' = 3 ∨ k' = 4 ∨ k' = 5 ∨ k' = 6 ∨ k' = 7 ∨ k' = 9 := by omega
              rcases hcs with rfl | rfl | rfl | rfl | rfl | rfl | rfl | rfl | rfl <;> rfl
            · rw [if_neg hk10] at hk'; cases hk'
        · rw [getD_set_ne false (by omega)]; exact h10
      · have e1 : a.tmps[22]?.getD undef = .slice (some ⟨g, 0, none⟩) n cap := hI.at (k := 0) (j := 0) hsz rfl (by omega) (hall ⟨0, .data⟩ (by simp) rfl)
        have e2 : a.tmps[23]?.getD undef = .int .i64 ix := hI.at (k := 1) (j := 1) hsz rfl (by omega) (hall ⟨1, .data⟩ (by simp) rfl)
        simp [Oper.wp, go_sem, e1, e2, hix']
        exact ⟨x, y, hI.put (i := 9) (j := 9) rfl (by omega) rfl trivial, hW.quiet (by omega) (by omega) (by omega)⟩
      · obtain ⟨k1, rfl, z1⟩ := h8 (hall ⟨8, .data⟩ (by simp) rfl)
        have e1 : a.tmps[31]?.getD undef = .pointer (some ⟨g, ix * 5, none⟩) := hI.at (k := 9) (j := 9) hsz rfl (by omega) (hall ⟨9, .data⟩ (by simp) rfl)
        have e2 : a.tmps[30]?.getD undef = .agg #[.int .i64 k1.p.1, .int .i64 k1.p.2, .bool k1.here, .int .i64 k1.cost, .slice k1.ha k1.hl k1.hc] := hI.at (k := 8) (j := 8) hsz rfl (by omega) (hall ⟨8, .data⟩ (by simp) rfl)
        have f0 := (hbW.cell (p := ⟨g, ix * 5, none⟩) hg1).trans D0.out
        have f1 := (hbW.cell (p := ⟨g, ix * 5 + 1, none⟩) hg1).trans D1.out
        have f2 := (hbW.cell (p := ⟨g, ix * 5 + 2, none⟩) hg1).trans D2.out
        have f3 := (hbW.cell (p := ⟨g, ix * 5 + 3, none⟩) hg1).trans D3.out
        have f4 := (hbW.cell (p := ⟨g, ix * 5 + 4, none⟩) hg1).trans D4.out
        have ff : ∀ o, W.frozen? ⟨g, o, none⟩ = false := fun o => (hbW.frozen (p := ⟨g, o, none⟩) hg1).trans (DF.out o)
        simp [Oper.wp, go_sem, e1, e2, f0, f1, f2, f3, f4, ff]
        refine ⟨x, _, hI.skip (i := 10) rfl trivial, .inr ⟨?_, k1, W, z1, hbW, rfl⟩⟩
        have : 10 < listed.size := by rw [hI.ls]; omega
        simp [this]
    · rintro listed a W hr ⟨x, y, hI, hW⟩
      rename_i K hK
      have h10 := all_listed (by decide +kernel) hI.ls hr 10 (by decide)
      obtain ⟨xs, hxl, rfl, _⟩ := hI.fr
      obtain ⟨x0, x1, x2, x3, x4, x5, x6, x7, x8, x9, rfl⟩ := list10 xs hxl
      rcases hW with ⟨h, _⟩ | ⟨_, k, W0, hzk, hb0, hW⟩
      · rw [h10] at h; cases h
      have HZK := hid hzk
      have HB0 := hid hb0
      have HWW := hid hW
      clear hI hr hxl q0 q3 q5 hsz hzk hb0 hW h10
      rw [← ha0]
      simp only [setFrom]
      refine hK _ W ?_
      go_wp2_with fail
      go_ret
      have hO0 := HO1.out.below HB0.out
      have hOR0 := hO0.1
      refine ⟨_, hs.set ix k, rfl, ?_, ?_⟩
      · rw [HWW.out]
        have h1 := hOR0.set ix k
        rw [HN.out] at h1
        refine ⟨h1, by rw [List.length_set, List.length_set]; exact HRS.out, fun t ht => ?_⟩
        rw [List.length_set] at ht
        by_cases e : t = ix
        · subst e
          rw [Pl.rh_set_at hs t k ht, Pl.rt_eq _ _ (by rw [List.length_set, ← HRS.out]; exact ht)]
          rw [List.getElem_set_self]
          exact HZK.out.set hOR0
        · rw [Pl.rh_set_ne hs ix t k e, Pl.rt_eq _ _ (by rw [List.length_set, ← HRS.out]; exact ht), List.getElem_set_ne (Ne.symm e), ← Pl.rt_eq rs t (by rw [← HRS.out]; exact ht)]
          exact (hO0.2.2 t ht).set hOR0
      · rw [HWW.out]
        have h1 := HBW.out.trans (HB0.out.mono hz)
        exact grown_trans (grown_below h1) (But.set5 W0 g (ix * 5) k).grown
    · exact ⟨undef, undef, DInv.start hsz trivial, .inl ⟨by simp, (Below.refl _ _).drew, fun h => by simp at h, fun h => by simp at h⟩⟩
end Go.Proofs.YtpaobnhcbeklfaaGreatDoor
/-
  Contracts: two lists of the same numbers (sameInts), of the same ways (sameWays), are told the same.
-/
namespace Go.Proofs.YtpaobnhcbeklfaaGreatDoor
open Go.RowKit
set_option maxRecDepth 20000

theorem OwnI.cells {w : World} {base : Nat} {v : Value} {xs : List Int} (h : OwnI w base v xs) :
    ∃ a cap, v = .slice a xs.length cap ∧ xs.length ≤ cap ∧ cap ≤ maxLen ∧ (xs = [] ∨ ∃ g, a = some ⟨g, 0, none⟩ ∧ g < w.heap.size ∧ ∀ i, i < xs.length → w.cell? ⟨g, i, none⟩ = some (.int .i64 (xs.getD i 0))) := by
  obtain ⟨_, ⟨h, h1⟩ | ⟨g, cap, cur, rfl, hb, hh, hn, hm, hs, hx⟩⟩ := h
  · have e : xs = [] := List.length_eq_zero_iff.1 h1
    subst e
    exact ⟨none, 0, h, Nat.le_refl _, by simp, .inl rfl⟩
  · refine ⟨_, cap, rfl, hn, hm, .inr ⟨g, rfl, blockLt hh, fun i hi => ?_⟩⟩
    have hj : (cellsI xs)[i]? = some (.int .i64 (xs.getD i 0)) := by
      simp [cellsI, List.getD_eq_getElem?_getD, List.getElem?_eq_getElem hi]
    rw [← hx] at hj
    have hj' : cur[i]? = some (.int .i64 (xs.getD i 0)) := by
      rw [List.getElem?_take] at hj
      split at hj
      · rw [← Array.getElem?_toList]; exact hj
      · cases hj
    simp [World.cell?, hh, hj']
theorem cellsW_get : ∀ (ts : List (Int × Value × List Int)) (i : Nat) (hi : i < ts.length), (cellsW ts)[i * 2]? = some (.int .i64 ts[i].1) ∧ (cellsW ts)[i * 2 + 1]? = some ts[i].2.1
  | [], i, h => by simp at h
  | p :: r, 0, _ => by simp [cellsW]
  | p :: r, i + 1, h => by
    have := cellsW_get r i (by simpa using h)
    rw [show (i + 1) * 2 = i * 2 + 2 by omega]
    simpa [cellsW] using this
theorem OwnW.cells {w : World} {base : Nat} {v : Value} {ts : List (Int × Value × List Int)} (h : OwnW w base v ts) :
    ∃ a cap, v = .slice a ts.length cap ∧ ts.length ≤ cap ∧ cap ≤ maxLen ∧ (ts = [] ∨ ∃ g, a = some ⟨g, 0, none⟩ ∧ g < w.heap.size ∧ ∀ i (hi : i < ts.length), w.cell? ⟨g, i * 2, none⟩ = some (.int .i64 ts[i].1) ∧ w.cell? ⟨g, i * 2 + 1, none⟩ = some ts[i].2.1) := by
  obtain ⟨⟨_, ⟨h, h1⟩ | ⟨g, cap, cur, rfl, hb, hh, hn, hm, hs, hx⟩⟩, _⟩ := h
  · have e : ts = [] := List.length_eq_zero_iff.1 h1
    subst e
    exact ⟨none, 0, h, Nat.le_refl _, by simp, .inl rfl⟩
  · refine ⟨_, cap, rfl, hn, hm, .inr ⟨g, rfl, blockLt hh, fun i hi => ?_⟩⟩
    have hcell : ∀ j u, (cellsW ts)[j]? = some u → w.cell? ⟨g, j, none⟩ = some u := by
      intro j u hj
      rw [← hx] at hj
      have hj' : cur[j]? = some u := by
        rw [List.getElem?_take] at hj
        split at hj
        · rw [← Array.getElem?_toList]; exact hj
        · cases hj
      simp [World.cell?, hh, hj']
    obtain ⟨h0, h1⟩ := cellsW_get ts i hi
    exact ⟨hcell _ _ h0, hcell _ _ h1⟩

set_option maxHeartbeats 1000000 in
theorem sameInts_eq (v1 v2 : Value) (xs : List Int) (w : World) (h1 : OwnI w 0 v1 xs) (h2 : OwnI w 0 v2 xs) :
    Calls Tryz.prog 35 #[v1, v2] w fun e w' => e = .returned (.bool true) ∧ Below w.heap.size w w' := by
  obtain ⟨a, cap, rfl, hc, hm, hrow⟩ := h1.cells
  obtain ⟨b, capb, rfl, hcb, hmb, hrowb⟩ := h2.cells
  unfold maxLen at hm hmb
  have HR := hid hrow
  have HRB := hid hrowb
  clear hrow hrowb h1 h2
  obtain ⟨len, HL⟩ : ∃ n, Hid (xs.length = n) := ⟨_, rfl⟩
  rw [HL.out] at hc hcb ⊢
  go_enter Tryz.func35, Tryz.ntmps35
  go_wp2_with fail
  go_loopw [5] (fun i wr => ∃ k : Nat, k ≤ len ∧ i = .int .i64 k ∧ Hid (Below w.heap.size w wr)) (fun i _ => len - (intOf i).toNat)
  case atStart => exact ⟨0, Nat.zero_le _, rfl, Below.refl _ _⟩
  case round =>
    obtain ⟨k, hk, rfl, HB⟩ := hrel
    by_cases hlt : k < len
    · obtain ⟨g1, rfl, hg1, hr1⟩ : ∃ g, a = some ⟨g, 0, none⟩ ∧ g < w.heap.size ∧ ∀ i, i < xs.length → w.cell? ⟨g, i, none⟩ = some (.int .i64 (xs.getD i 0)) := by
        rcases HR.out with h | h
        · have := HL.out; rw [h] at this; simp at this; omega
        · exact h
      obtain ⟨g2, rfl, hg2, hr2⟩ : ∃ g, b = some ⟨g, 0, none⟩ ∧ g < w.heap.size ∧ ∀ i, i < xs.length → w.cell? ⟨g, i, none⟩ = some (.int .i64 (xs.getD i 0)) := by
        rcases HRB.out with h | h
        · have := HL.out; rw [h] at this; simp at this; omega
        · exact h
      have c1 := (HB.out.cell (p := ⟨g1, k, none⟩) hg1).trans (hr1 k (by have := HL.out; omega))
      have c2 := (HB.out.cell (p := ⟨g2, k, none⟩) hg2).trans (hr2 k (by have := HL.out; omega))
      generalize xs.getD k 0 = y at *
      clear hr1 hr2
      have hz := HB.out.size
      have l1 : g1 < wr.heap.size := by omega
      have l2 : g2 < wr.heap.size := by omega
      have hlt' : (k : Int) < (len : Int) := by omega
      go_wp2_with fail
      go_region
      go_wp2_with fail
      go_roundw
      case rel => exact ⟨k + 1, by omega, by go_num, HB.out.drew⟩
      case measure => simp [intOf]; omega
    · obtain rfl : k = len := by omega
      go_wp2_with fail
      go_ret
      exact ⟨rfl, HB.out⟩

end Go.Proofs.YtpaobnhcbeklfaaGreatDoor
/-
  Plain: a way is a step to a hop, and a way from there.
-/
namespace Go.Proofs.YtpaobnhcbeklfaaGreatDoor
open Go.RowKit
set_option maxRecDepth 20000

/-- a way from a node's neighbor is a way from the node, or there is a cheaper one -/
theorem Pl.way_join {L : Nat → Nat → Int} {D : Nat → Bool} {a k j v : Nat} {c : Int} (hk : k < 12) (hka : k ≠ a) (hd : D k = false) (hl : 0 < L a k) (h : Pl.Way L D k j v c) :
    v = a ∨ ∃ k' c', Pl.Way L D a k' v c' ∧ ((k' = k ∧ c' = L a k + c) ∨ c' < L a k + c) := by
  induction h with
  | base h1 h2 h3 =>
    by_cases e : j = a
    · exact .inl e
    · exact .inr ⟨k, _, (Pl.Way.base hk hka hl).step hd h1 e h3, .inl ⟨rfl, rfl⟩⟩
  | @step u b c h1 h2 h3 h4 h5 ih =>
    by_cases e : b = a
    · exact .inl e
    · right
      rcases ih with rfl | ⟨k', c', hw, hc⟩
      · have hp := h1.pos
        exact ⟨b, _, .base h3 e h5, .inr (by omega)⟩
      · refine ⟨k', _, hw.step h2 h3 e h5, ?_⟩
        rcases hc with ⟨e1, e2⟩ | e2
        · exact .inl ⟨e1, by omega⟩
        · exact .inr (by omega)
/-- and the other way round -/
theorem Pl.way_part {L : Nat → Nat → Int} {D : Nat → Bool} {a k v : Nat} {c : Int} (h : Pl.Way L D a k v c) :
    (v = k ∧ L a k ≤ c) ∨ (v ≠ k ∧ D k = false ∧ ∃ j c', Pl.Way L D k j v c' ∧ L a k + c' ≤ c) := by
  induction h with
  | base h1 h2 h3 => exact .inl ⟨rfl, Int.le_refl _⟩
  | @step u b c h1 h2 h3 h4 h5 ih =>
    by_cases e : b = k
    · left
      refine ⟨e, ?_⟩
      rcases ih with ⟨_, h⟩ | ⟨_, _, j, c', hw, hc⟩
      · omega
      · have := hw.pos; omega
    · right
      rcases ih with ⟨rfl, h⟩ | ⟨_, hd, j, c', hw, hc⟩
      · exact ⟨e, h2, b, _, .base h3 e h5, by omega⟩
      · exact ⟨e, hd, j, _, hw.step h2 h3 e h5, by omega⟩

theorem Pl.way_first {L : Nat → Nat → Int} {D : Nat → Bool} {a k v : Nat} {c : Int} (h : Pl.Way L D a k v c) : 0 < L a k := by
  induction h with
  | base _ _ h => exact h
  | step _ _ _ _ _ ih => exact ih
/-- what it costs to go over a neighbor; -1: no way leads over it -/
def Pl.over (L : Nat → Nat → Int) (D : Nat → Bool) (C : Nat → Nat → Int) (a to k : Nat) : Int :=
  if L a k = 0 then -1 else if k = to then L a k else if C k to < 0 ∨ D k = true then -1 else C k to + L a k
def Pl.ovB (o : Nat → Int) : Nat → Int
  | 0 => -1
  | k + 1 => if o k < 0 then Pl.ovB o k else if Pl.ovB o k < 0 ∨ o k < Pl.ovB o k then o k else Pl.ovB o k
def Pl.ovH (o : Nat → Int) : Nat → List Int
  | 0 => []
  | k + 1 => if o k < 0 then Pl.ovH o k else if Pl.ovB o k < 0 ∨ o k < Pl.ovB o k then [(k : Int)] else if o k = Pl.ovB o k then Pl.ovH o k ++ [(k : Int)] else Pl.ovH o k
theorem Pl.hopsL_none {h : Nat → Bool} (k : Nat) (e : ∀ i, i < k → h i = false) : Pl.hopsL h k = [] := by
  induction k with
  | zero => rfl
  | succ k ih => rw [Pl.hopsL_off (e k (by omega))]; exact ih fun i hi => e i (by omega)
theorem Pl.hopsL_ext {h g : Nat → Bool} (k : Nat) (e : ∀ i, i < k → h i = g i) : Pl.hopsL h k = Pl.hopsL g k := by
  induction k with
  | zero => rfl
  | succ k ih =>
    unfold Pl.hopsL
    rw [e k (by omega), ih fun i hi => e i (by omega)]
theorem Pl.ov_inv (o : Nat → Int) (k : Nat) :
    (Pl.ovB o k = -1 ∧ Pl.ovH o k = [] ∧ ∀ j, j < k → o j < 0) ∨
    (0 ≤ Pl.ovB o k ∧ (∃ j, j < k ∧ o j = Pl.ovB o k) ∧ (∀ j, j < k → 0 ≤ o j → Pl.ovB o k ≤ o j) ∧ Pl.ovH o k = Pl.hopsL (fun j => decide (o j = Pl.ovB o k)) k) := by
  induction k with
  | zero => exact .inl ⟨rfl, rfl, by omega⟩
  | succ k ih =>
    by_cases h0 : o k < 0
    · have eB : Pl.ovB o (k + 1) = Pl.ovB o k := by show (if o k < 0 then _ else _) = _; rw [if_pos h0]
      have eH : Pl.ovH o (k + 1) = Pl.ovH o k := by show (if o k < 0 then _ else _) = _; rw [if_pos h0]
      rw [eB, eH]
      rcases ih with ⟨h1, h2, h3⟩ | ⟨h1, ⟨j, h2, h2'⟩, h3, h4⟩
      · refine .inl ⟨h1, h2, fun j hj => ?_⟩
        by_cases e : j = k
        · subst e; exact h0
        · exact h3 j (by omega)
      · refine .inr ⟨h1, ⟨j, by omega, h2'⟩, fun i hi g => ?_, ?_⟩
        · by_cases e : i = k
          · subst e; omega
          · exact h3 i (by omega) g
        · rw [Pl.hopsL_off (by simp; omega)]; exact h4
    · by_cases h5 : Pl.ovB o k < 0 ∨ o k < Pl.ovB o k
      · have eB : Pl.ovB o (k + 1) = o k := by show (if o k < 0 then _ else _) = _; rw [if_neg h0, if_pos h5]
        have eH : Pl.ovH o (k + 1) = [(k : Int)] := by show (if o k < 0 then _ else _) = _; rw [if_neg h0, if_pos h5]
        rw [eB, eH]
        refine .inr ⟨by omega, ⟨k, by omega, rfl⟩, fun i hi g => ?_, ?_⟩
        · by_cases e : i = k
          · subst e; omega
          · rcases ih with ⟨h1, h2, h3⟩ | ⟨h1, _, h3, h4⟩
            · have := h3 i (by omega); omega
            · have := h3 i (by omega) g; omega
        · rw [Pl.hopsL_on (by simp), Pl.hopsL_none k (fun i hi => ?_)]
          · rfl
          · simp only [decide_eq_false_iff_not]
            intro e
            rcases ih with ⟨h1, h2, h3⟩ | ⟨h1, _, h3, h4⟩
            · have := h3 i hi; omega
            · have := h3 i hi (by omega); omega
      · have eB : Pl.ovB o (k + 1) = Pl.ovB o k := by show (if o k < 0 then _ else _) = _; rw [if_neg h0, if_neg h5]
        rw [eB]
        rcases ih with ⟨h1, h2, h3⟩ | ⟨h1, ⟨j, h2, h2'⟩, h3, h4⟩
        · omega
        · refine .inr ⟨h1, ⟨j, by omega, h2'⟩, fun i hi g => ?_, ?_⟩
          · by_cases e : i = k
            · subst e; omega
            · exact h3 i (by omega) g
          · by_cases e : o k = Pl.ovB o k
            · have eH : Pl.ovH o (k + 1) = Pl.ovH o k ++ [(k : Int)] := by show (if o k < 0 then _ else _) = _; rw [if_neg h0, if_neg h5, if_pos e]
              rw [eH, h4, Pl.hopsL_on (by simpa using e)]
            · have eH : Pl.ovH o (k + 1) = Pl.ovH o k := by show (if o k < 0 then _ else _) = _; rw [if_neg h0, if_neg h5, if_neg e]
              rw [eH, h4, Pl.hopsL_off (by simpa using e)]

/-- A WAY IS A STEP TO A HOP, AND A WAY FROM THERE -/
theorem Pl.step_same {L M : Nat → Nat → Int} {D : Nat → Bool} (hM : ∀ a b, a ≠ b → M a b = L a b) (hL : ∀ a, L a a = 0) (h0 : ∀ a b, 0 ≤ L a b) {a to : Nat} (ha : a < 12) (ht : to < 12) (hta : to ≠ a) :
    Pl.ovB (Pl.over L D (fun k => (Pl.dIter M D k 12).cost) a to) 12 = (Pl.dIter M D a 12).cost to ∧
    Pl.ovH (Pl.over L D (fun k => (Pl.dIter M D k 12).cost) a to) 12 = Pl.hopsL ((Pl.dIter M D a 12).hops to) 12 := by
  have hmin := Pl.found_min (D := D) hM hL ha hta
  have hh := fun k => Pl.found_hops (D := D) hM hL ha to k
  -- what is over k is no less, and as much only if k is a hop
  have one : ∀ k, k < 12 → 0 ≤ Pl.over L D (fun k => (Pl.dIter M D k 12).cost) a to k →
      0 ≤ (Pl.dIter M D a 12).cost to ∧ (Pl.dIter M D a 12).cost to ≤ Pl.over L D (fun k => (Pl.dIter M D k 12).cost) a to k ∧
      (Pl.over L D (fun k => (Pl.dIter M D k 12).cost) a to k = (Pl.dIter M D a 12).cost to → (Pl.dIter M D a 12).hops to k = true) := by
    intro k hk hv
    have key : ∀ c, (∃ k' c', Pl.Way L D a k' to c' ∧ ((k' = k ∧ c' = c) ∨ c' < c)) →
        0 ≤ (Pl.dIter M D a 12).cost to ∧ (Pl.dIter M D a 12).cost to ≤ c ∧ (c = (Pl.dIter M D a 12).cost to → (Pl.dIter M D a 12).hops to k = true) := by
      rintro c ⟨k', c', hw, hc⟩
      rcases hmin with ⟨_, hx⟩ | ⟨m0, _, m2⟩
      · exact absurd ⟨k', hw⟩ (hx c')
      · have hm := m2 c' ⟨k', hw⟩
        refine ⟨m0, ?_, fun e => ?_⟩
        · rcases hc with ⟨_, e⟩ | e <;> omega
        · rcases hc with ⟨e1, e2⟩ | e2
          · subst e1; subst e2; rw [hh]; rw [e] at hw; exact hw
          · omega
    unfold Pl.over at hv ⊢
    by_cases hl : L a k = 0
    · rw [if_pos hl] at hv; omega
    · have hl' : 0 < L a k := by have := h0 a k; omega
      have hka : k ≠ a := fun e => by rw [e, hL] at hl; exact hl rfl
      rw [if_neg hl] at hv ⊢
      by_cases hkt : k = to
      · rw [if_pos hkt] at hv ⊢
        subst hkt
        exact key _ ⟨k, _, .base hk hka hl', .inl ⟨rfl, rfl⟩⟩
      · rw [if_neg hkt] at hv ⊢
        by_cases hx : (Pl.dIter M D k 12).cost to < 0 ∨ D k = true
        · rw [if_pos hx] at hv; omega
        · rw [if_neg hx] at hv ⊢
          have hd : D k = false := Pl.bfalse fun g => hx (.inr g)
          rcases Pl.found_min (D := D) hM hL hk (v := to) (fun e => hkt e.symm) with ⟨h, _⟩ | ⟨_, ⟨j, hw⟩, _⟩
          · omega
          · rcases Pl.way_join hk hka hd hl' hw with e | ⟨k', c', hw', hc⟩
            · exact absurd e hta
            · rw [Int.add_comm]
              exact key _ ⟨k', c', hw', hc⟩
  have two : ∀ k, (Pl.dIter M D a 12).hops to k = true → k < 12 ∧ 0 ≤ Pl.over L D (fun k => (Pl.dIter M D k 12).cost) a to k ∧ Pl.over L D (fun k => (Pl.dIter M D k 12).cost) a to k = (Pl.dIter M D a 12).cost to := by
    intro k hk
    have hw := (hh k).1 hk
    have hkl := hw.klt
    have hp := hw.pos
    have hl' : 0 < L a k := Pl.way_first hw
    have lo : 0 ≤ Pl.over L D (fun k => (Pl.dIter M D k 12).cost) a to k ∧ Pl.over L D (fun k => (Pl.dIter M D k 12).cost) a to k ≤ (Pl.dIter M D a 12).cost to := by
      unfold Pl.over
      rw [if_neg (by omega)]
      rcases Pl.way_part hw with ⟨e, h⟩ | ⟨e, hd, j, c', hw', hc⟩
      · rw [if_pos e.symm]; omega
      · rw [if_neg (Ne.symm e)]
        rcases Pl.found_min (D := D) hM hL hkl.1 (v := to) e with ⟨_, hx⟩ | ⟨m0, _, m2⟩
        · exact absurd ⟨j, hw'⟩ (hx c')
        · have := m2 c' ⟨j, hw'⟩
          have hng : ¬ ((Pl.dIter M D k 12).cost to < 0 ∨ D k = true) := by
            rintro (g | g)
            · omega
            · rw [hd] at g; cases g
          simp only [if_neg hng]
          have := h0 a k
          omega
    have := one k hkl.1 lo.1
    exact ⟨hkl.1, lo.1, by omega⟩
  rcases Pl.ov_inv (Pl.over L D (fun k => (Pl.dIter M D k 12).cost) a to) 12 with ⟨h1, h2, h3⟩ | ⟨h1, ⟨j, h2, h2'⟩, h3, h4⟩
  · have hc : (Pl.dIter M D a 12).cost to = -1 := by
      rcases hmin with ⟨h, _⟩ | ⟨m0, ⟨k, hw⟩, _⟩
      · exact h
      · obtain ⟨g1, g2, _⟩ := two k ((hh k).2 hw)
        have := h3 k g1; omega
    refine ⟨by rw [h1, hc], ?_⟩
    rw [h2, Pl.hopsL_none 12 fun i hi => ?_]
    cases e : (Pl.dIter M D a 12).hops to i with
    | false => rfl
    | true => obtain ⟨g1, g2, _⟩ := two i e; have := h3 i g1; omega
  · have ho := one j h2 (by omega)
    have hc : Pl.ovB (Pl.over L D (fun k => (Pl.dIter M D k 12).cost) a to) 12 = (Pl.dIter M D a 12).cost to := by
      rcases hmin with ⟨h, _⟩ | ⟨m0, ⟨k, hw⟩, _⟩
      · omega
      · obtain ⟨g1, g2, g3⟩ := two k ((hh k).2 hw)
        have := h3 k g1 g2; omega
    refine ⟨hc, ?_⟩
    rw [h4, hc]
    refine Pl.hopsL_ext 12 fun i hi => ?_
    cases e : (Pl.dIter M D a 12).hops to i with
    | false =>
      simp only [decide_eq_false_iff_not]
      intro g
      have := (one i hi (by omega)).2.2 g
      rw [e] at this; cases this
    | true => exact decide_eq_true (two i e).2.2
end Go.Proofs.YtpaobnhcbeklfaaGreatDoor
/-
  Ways in memory, node by node: what each costs, and its hops as a slice of numbers.
-/
namespace Go.Proofs.YtpaobnhcbeklfaaGreatDoor
open Go.RowKit
set_option maxRecDepth 20000

theorem Pl.wayL_len (s : Pl.DS) : ∀ k, (Pl.wayL s k).length = k
  | 0 => rfl
  | k + 1 => by simp [Pl.wayL, Pl.wayL_len s k]
theorem Pl.wayL_at (s : Pl.DS) : ∀ k i, i < k → (Pl.wayL s k)[i]? = some (s.cost i, Pl.hopsL (s.hops i) 12)
  | 0, i, h => by omega
  | k + 1, i, h => by
    unfold Pl.wayL
    rcases Nat.lt_or_ge i k with g | g
    · rw [List.getElem?_append_left (by rw [Pl.wayL_len]; exact g)]; exact Pl.wayL_at s k i g
    · obtain rfl : i = k := by omega
      rw [List.getElem?_append_right (by rw [Pl.wayL_len]; exact Nat.le_refl _), Pl.wayL_len]
      simp
/-- the ways from a node in their block -/
def WAt (w : World) (es : List Pl.Ent) (f g : Nat) : Prop := g < w.heap.size ∧ ∀ i, i < 12 → w.cell? ⟨g, i * 2, none⟩ = some (.int .i64 (Pl.wC es f i)) ∧
  ∃ ah ch, w.cell? ⟨g, i * 2 + 1, none⟩ = some (.slice ah (Pl.wH es f i).length ch) ∧ IsInts w ah (Pl.wH es f i).length ch (Pl.wH es f i)
theorem WAt.below {w w' : World} {es f g} (h : WAt w es f g) (k : Below w.heap.size w w') : WAt w' es f g := by
  refine ⟨Nat.lt_of_lt_of_le h.1 k.size, fun i hi => ?_⟩
  obtain ⟨h1, ah, ch, h2, h3⟩ := h.2 i hi
  exact ⟨(k.cell (p := ⟨g, _, none⟩) h.1).trans h1, ah, ch, (k.cell (p := ⟨g, _, none⟩) h.1).trans h2, h3.below k⟩
theorem OwnW.at12 {w : World} {base : Nat} {v : Value} {ts : List (Int × Value × List Int)} {es : List Pl.Ent} {f : Nat} (h : OwnW w base v ts) (e : Pl.flat ts = Pl.wayA es (f : Int)) (hc : Pl.wayC es (f : Int) = 0) :
    ∃ g cap, v = .slice (some ⟨g, 0, none⟩) 12 cap ∧ 12 ≤ cap ∧ cap ≤ maxLen ∧ WAt w es f g := by
  have e2 : Pl.wayA es (f : Int) = Pl.wayL (Pl.dIter (Pl.lnk (Pl.tS es)) (Pl.tD es) f 12) 12 := by
    unfold Pl.wayA; rw [if_pos hc, Int.toNat_natCast]
  rw [e2] at e
  have hl : ts.length = 12 := by
    have := congrArg List.length e
    rw [Pl.wayL_len] at this
    simpa [Pl.flat] using this
  obtain ⟨a, cap, rfl, hc1, hm, hr⟩ := h.cells
  rcases hr with rfl | ⟨g, rfl, hg, hr⟩
  · simp at hl
  · rw [hl] at hc1 ⊢
    refine ⟨g, cap, rfl, hc1, hm, hg, fun i hi => ?_⟩
    have hi' : i < ts.length := by omega
    obtain ⟨r1, r2⟩ := hr i hi'
    have q : (Pl.flat ts)[i]? = some (Pl.wC es f i, Pl.wH es f i) := by rw [e]; exact Pl.wayL_at _ 12 i hi
    simp only [Pl.flat, List.getElem?_map, List.getElem?_eq_getElem hi', Option.map_some, Option.some.injEq, Prod.mk.injEq] at q
    have ho : OwnZ w 0 ts[i].2.1 ts[i].2.2 := h.2 _ (List.getElem_mem hi')
    obtain ⟨ah, ch, ev, hi2, _⟩ := ho.ints
    refine ⟨by rw [r1, q.1], ah, ch, ?_, ?_⟩
    · rw [r2, ev, q.2]
    · rw [q.2] at hi2; exact hi2
theorem Pl.wayC_ok {es : List Pl.Ent} {f : Nat} (hf : Pl.fault es = 0) (h : f < 12) : Pl.wayC es (f : Int) = 0 := by
  unfold Pl.wayC; rw [if_neg (by simp [hf]), if_pos (by omega)]
theorem Pl.ovH_len (o : Nat → Int) : ∀ k, (Pl.ovH o k).length ≤ k
  | 0 => Nat.le_refl _
  | k + 1 => by
    have := Pl.ovH_len o k
    unfold Pl.ovH
    split
    · omega
    · split
      · simp
      · split
        · simp; omega
        · omega
theorem Pl.ov_skip (o : Nat → Int) (k : Nat) (h : o k < 0) : Pl.ovB o (k + 1) = Pl.ovB o k ∧ Pl.ovH o (k + 1) = Pl.ovH o k := by
  constructor
  · show (if _ then _ else _) = _; rw [if_pos h]
  · show (if _ then _ else _) = _; rw [if_pos h]
theorem Pl.ov_new (o : Nat → Int) (k : Nat) (h : 0 ≤ o k) (g : Pl.ovB o k < 0 ∨ o k < Pl.ovB o k) : Pl.ovB o (k + 1) = o k ∧ Pl.ovH o (k + 1) = [(k : Int)] := by
  constructor
  · show (if _ then _ else _) = _; rw [if_neg (by omega), if_pos g]
  · show (if _ then _ else _) = _; rw [if_neg (by omega), if_pos g]
theorem Pl.ov_same (o : Nat → Int) (k : Nat) (h : 0 ≤ o k) (g : ¬ (Pl.ovB o k < 0 ∨ o k < Pl.ovB o k)) (e : o k = Pl.ovB o k) : Pl.ovB o (k + 1) = Pl.ovB o k ∧ Pl.ovH o (k + 1) = Pl.ovH o k ++ [(k : Int)] := by
  constructor
  · show (if _ then _ else _) = _; rw [if_neg (by omega), if_neg g]
  · show (if _ then _ else _) = _; rw [if_neg (by omega), if_neg g, if_pos e]
theorem Pl.ov_more (o : Nat → Int) (k : Nat) (h : 0 ≤ o k) (g : ¬ (Pl.ovB o k < 0 ∨ o k < Pl.ovB o k)) (e : ¬ o k = Pl.ovB o k) : Pl.ovB o (k + 1) = Pl.ovB o k ∧ Pl.ovH o (k + 1) = Pl.ovH o k := by
  constructor
  · show (if _ then _ else _) = _; rw [if_neg (by omega), if_neg g]
  · show (if _ then _ else _) = _; rw [if_neg (by omega), if_neg g, if_neg e]
end Go.Proofs.YtpaobnhcbeklfaaGreatDoor
/-
  Contract: the table of a node, of a store (Table).
-/
namespace Go.Proofs.YtpaobnhcbeklfaaGreatDoor
open Go.RowKit
set_option maxRecDepth 20000

/-- what rib.Table answers -/
def Pl.tabA (es : List Pl.Ent) (f : Int) : List Pl.Rt := if Pl.wayC es f = 0 then Pl.tabL es f.toNat else []
theorem apartPR {w : World} {b1 b2 : Nat} {u v : Value} {ps : List (Int × Int)} {hs : List Pl.RH} (h1 : OwnP 38 w b1 u ps) (h2 : OwnR w b2 v hs) : u.ownBlock = none ∨ u.ownBlock ≠ v.ownBlock := by
  obtain ⟨_, ⟨rfl, _⟩ | ⟨g, cap, cur, rfl, _, hh, _⟩⟩ := h1
  · exact .inl rfl
  · right
    obtain ⟨_, ⟨rfl, _⟩ | ⟨g2, cap2, cur2, rfl, _, hh2, _⟩⟩ := h2
    · simp [Value.ownBlock]
    · simp only [Value.ownBlock, ne_eq, Option.some.injEq]
      intro e
      subst e
      rw [hh] at hh2
      simp at hh2
theorem apartBR {w : World} {b2 b : Nat} {v : Value} {hs : List Pl.RH} {cs : Array Value} {T : TypeId} (h1 : w.heap[b]? = some (.cells cs T)) (hT : T ≠ 41) (h2 : OwnR w b2 v hs) : some b ≠ v.ownBlock := by
  obtain ⟨_, ⟨rfl, _⟩ | ⟨g2, cap2, cur2, rfl, _, hh2, _⟩⟩ := h2
  · simp [Value.ownBlock]
  · simp only [Value.ownBlock, ne_eq, Option.some.injEq]
    intro e
    subst e
    rw [h1] at hh2
    simp at hh2
    exact hT hh2.2

set_option maxHeartbeats 8000000 in
theorem Table_any (a : Option Addr) (len cap : Nat) (es : List Pl.Ent) (f : Int) (w : World) (h : IsEnts w a len cap es) (hT : Tab w) :
    Calls Tryz.prog 4 #[.slice a len cap, .int .i64 f] w fun e w' => ∃ v hs, e = .returned (.tuple #[v, .int .i64 (Pl.wayC es f)]) ∧ OwnTb w' w.heap.size v hs (Pl.tabA es f) ∧ Below w.heap.size w w' := by
  have HE := hid h
  have HTab := hid hT
  clear h hT
  obtain ⟨cd, HCD⟩ : ∃ x, Hid (Pl.wayC es f = x) := ⟨_, hid rfl⟩
  rw [HCD.out]
  go_enter Tryz.func4, Tryz.ntmps4
  go_wp2_with fail
  refine (Ways_any a len cap es f w HE.out HTab.out).mono ?_
  rw [HCD.out]
  rintro e w2 ⟨v2, ts, rfl, ho2, hf2, hb2⟩
  have HB2 := hid hb2
  by_cases hcd : cd = 0
  · subst hcd
    have hfr : 0 ≤ f ∧ f ≤ 11 := by
      have := HCD.out
      unfold Pl.wayC at this
      split at this
      · rename_i h; exact absurd this h
      · split at this
        · assumption
        · cases this
    obtain ⟨n, rfl⟩ : ∃ n : Nat, f = n := ⟨f.toNat, by omega⟩
    have hn : n < 12 := by omega
    have HTA : Hid (Pl.tabA es (n : Int) = Pl.tabK (Pl.wC es n) (Pl.wH es n) (Pl.tP es) n 12) := hid (by unfold Pl.tabA; rw [HCD.out, if_pos rfl, Int.toNat_natCast]; rfl)
    obtain ⟨g2, c2, rfl, hc2, hm2, ha2⟩ := ho2.at12 hf2 HCD.out
    unfold maxLen at hm2
    have HW2 := hid ha2
    have HE2 := hid (HE.out.below hb2)
    have HT2 := hid (HTab.out.below hb2)
    have hg2 := ha2.1
    clear ho2 hf2 hb2 ha2 hfr
    go_wp2_with fail
    go_loopw [8, 24] (fun v i wr => ∃ (k : Nat) (hs : List Pl.RH), k ≤ 12 ∧ i = .int .i64 k ∧ Hid (OwnTb wr w2.heap.size v hs (Pl.tabK (Pl.wC es n) (Pl.wH es n) (Pl.tP es) n k)) ∧ Hid (Below w2.heap.size w2 wr)) (fun _ i _ => 12 - (intOf i).toNat)
    case atStart => exact ⟨0, [], by omega, rfl, hid (OwnTb.nil _ _), hid (Below.refl _ _)⟩
    case round =>
      obtain ⟨k, hs, hk, rfl, HO, HB⟩ := hrel
      have hzr := HB.out.size
      by_cases hlt : k < 12
      · obtain ⟨z0, ah, ch, z1, z2⟩ := HW2.out.2 k hlt
        have HZI := hid z2
        have z0 := (HB.out.cell (p := ⟨g2, k * 2, none⟩) hg2).trans z0
        have z1 := (HB.out.cell (p := ⟨g2, k * 2 + 1, none⟩) hg2).trans z1
        have hgr : g2 < wr.heap.size := by omega
        have hbd := Pl.wC_bound es n k
        have HNEXT := hid (fun h => Pl.tabK_next es n k h)
        have HSKIP := hid (fun h => Pl.tabK_skip es n k h)
        have HREADY := hid (fun h j hj => Pl.offs_ready es (j := j) hn hlt h hj)
        have HHB : Hid (Pl.hopsB (Pl.wH es n k) = true) := hid (Pl.hopsL_B _ (Nat.le_refl _))
        have HMK : Hid (∀ p, Pl.mkR (Pl.wC es n) (Pl.wH es n) n k p = ⟨p, ((k : Int) == (n : Int)), Pl.wC es n k, Pl.wH es n k⟩) := hid fun p => rfl
        obtain ⟨bb, hbb⟩ : ∃ b, ((k : Int) == (n : Int)) = b := ⟨_, rfl⟩
        rw [hbb] at HMK
        obtain ⟨hl, HHL⟩ : ∃ m, Hid ((Pl.wH es n k).length = m) := ⟨_, hid rfl⟩
        rw [HHL.out] at z1 HZI
        obtain ⟨c, HC⟩ : ∃ c, Hid (Pl.wC es n k = c) := ⟨_, hid rfl⟩
        rw [HC.out] at z0 hbd HNEXT HSKIP HREADY HMK
        clear z2
        obtain ⟨W1, HW1⟩ : ∃ W1, Hid (W1 = wr.alloc (.cells #[.int .i64 c, .slice ah hl ch] 34)) := ⟨_, hid rfl⟩
        have HBX : Hid (W1.heap[wr.heap.size]? = some (.cells #[.int .i64 c, .slice ah hl ch] 34)) := hid (by rw [HW1.out]; exact heapNewZ wr _)
        have HB1 : Hid (Below wr.heap.size wr W1) := hid (by rw [HW1.out]; exact (Below.refl _ _).alloc (Nat.le_refl _) _)
        have HB21 : Hid (Below w2.heap.size w2 W1) := hid (HB.out.trans (HB1.out.mono hzr))
        by_cases hneg : c < 0
        · have hneg' : decide (c < 0) = true := by simpa using hneg
          have HSK := hid (HSKIP.out hneg)
          clear hneg
          go_wp2_with fail
          rw [← HW1.out]
          go_roundw
          case rel => exact ⟨k + 1, hs, by omega, by go_num, hid (by rw [HSK.out]; exact HO.out.below HB1.out), HB21⟩
          case measure => simp [intOf]; omega
        · have hneg' : decide (c < 0) = false := by simpa using hneg
          have HNX := hid (HNEXT.out (by omega))
          have HRD := hid (HREADY.out (by omega))
          clear hneg HNEXT HSKIP HREADY
          go_wp2_with fail
          rw [← HW1.out]
          refine (ToldPrefixes_any a len cap es k W1 (HE2.out.below HB21.out) hlt (HT2.out.below HB21.out)).mono ?_
          rintro e w4 ⟨vl, rfl, ho4, hb4⟩
          obtain ⟨pa, pc, rfl, hp4, _, hx4⟩ := OwnP.shape ho4 (Pl.rpS_ok _)
          have HB4 : Hid (Below w2.heap.size w2 w4) := hid (HB21.out.trans (hb4.mono HB21.out.size))
          have HBX4 : Hid (w4.heap[wr.heap.size]? = some (.cells #[.int .i64 c, .slice ah hl ch] 34)) := hid ((hb4.block _ (by rw [HW1.out]; simp)).trans HBX.out)
          have HO4 := hid ((HO.out.below HB1.out).below hb4)
          have HP4 := hid (OwnP.mono ho4 (Nat.le_trans hzr HB1.out.size))
          have hpc := hp4.2.1
          have hpm := hp4.2.2.1
          unfold maxLen at hpm
          obtain ⟨m, HM⟩ : ∃ m, Hid ((Pl.tP es k).length = m) := ⟨_, hid rfl⟩
          rw [HM.out] at HRD HP4 hpc ⊢
          clear ho4 hb4 hp4 hx4
          go_wp2_with fail
          go_loopw [8, 36] (fun v i wq => ∃ (j : Nat) (hs : List Pl.RH), j ≤ m ∧ i = .int .i64 j ∧ Hid (OwnTb wq w2.heap.size v hs (Pl.offs (Pl.wC es n) (Pl.wH es n) n k (Pl.tabK (Pl.wC es n) (Pl.wH es n) (Pl.tP es) n k) ((Pl.tP es k).take j))) ∧ Hid (OwnP 38 wq w2.heap.size (.slice pa m pc) (Pl.tP es k)) ∧ Hid (wq.heap[wr.heap.size]? = some (.cells #[.int .i64 c, .slice ah hl ch] 34)) ∧ Hid (Below w2.heap.size w2 wq)) (fun _ i _ => m - (intOf i).toNat)
          case atStart => exact ⟨0, hs, Nat.zero_le _, rfl, HO4, HP4, HBX4, HB4⟩
          case round =>
            obtain ⟨j, hs', hj, rfl, HOj, HPj, HBXj, HBj⟩ := hrel
            rename World => wq
            obtain ⟨x0, x1, xf0, xf1, hxl⟩ := adjAt_cells HBXj.out
            by_cases hjm : j < m
            · obtain ⟨pa', pc', e1, hpj, _, _⟩ := HPj.out.shape (Pl.rpS_ok _)
              have HIP : Hid (IsPairs wq pa m pc (Pl.tP es k)) := hid (by
                simp only [Value.slice.injEq] at e1
                obtain ⟨u1, u2, u3⟩ := e1
                rw [u1, u2, u3]; exact hpj)
              clear e1 hpj
              have HPO : Hid (Pl.pairOk (Pl.pr (Pl.tP es k) j)) := hid (Pl.rpS_ok _ _ (Pl.pr_mem (Pl.tP es k) j (by rw [HM.out]; exact hjm)))
              obtain ⟨b, off, rfl, hbw, hr⟩ : ∃ b off, pa = some ⟨b, off, none⟩ ∧ b < wq.heap.size ∧ PairsAt wq b off (Pl.tP es k) := by
                rcases HIP.out.2.2.2.2 with h | h
                · have := HM.out; rw [h] at this; simp at this; omega
                · exact h
              obtain ⟨p0, p1⟩ := hr j (by rw [HM.out]; exact hjm)
              obtain ⟨r1, r2, r3, r4⟩ := HRD.out j hjm
              have HRR := hid (And.intro r1 (And.intro r2 (And.intro r3 r4)))
              have HSU := hid (Pl.offs_take_succ (Pl.wC es n) (Pl.wH es n) n k (Pl.tabK (Pl.wC es n) (Pl.wH es n) (Pl.tP es) n k) (Pl.tP es k) j (by rw [HM.out]; exact hjm))
              obtain ⟨q1, q2, hpq⟩ : ∃ x y, Pl.pr (Pl.tP es k) j = (x, y) := ⟨_, _, rfl⟩
              rw [hpq] at p0 p1 HPO HRR HSU
              rw [HMK.out] at HSU
              simp only at p0 p1
              clear hr hpq r1 r2 r3 r4 HIP
              obtain ⟨rs, HRS⟩ : ∃ rs, Hid (Pl.offs (Pl.wC es n) (Pl.wH es n) n k (Pl.tabK (Pl.wC es n) (Pl.wH es n) (Pl.tP es) n k) ((Pl.tP es k).take j) = rs) := ⟨_, hid rfl⟩
              rw [HRS.out] at HOj HRR HSU
              obtain ⟨W2, HW2'⟩ : ∃ W2, Hid (W2 = wq.alloc (.cells #[.int .i64 q1, .int .i64 q2] 38)) := ⟨_, hid rfl⟩
              have HBq : Hid (Below wq.heap.size wq W2) := hid (by rw [HW2'.out]; exact (Below.refl _ _).alloc (Nat.le_refl _) _)
              have HBq2 : Hid (Below w2.heap.size w2 W2) := hid (HBj.out.trans (HBq.out.mono HBj.out.size))
              have HOq := hid (HOj.out.below HBq.out)
              have HPq := hid (HPj.out.below HBq.out)
              have HXq : Hid (W2.heap[wr.heap.size]? = some (.cells #[.int .i64 c, .slice ah hl ch] 34)) := hid ((HBq.out.block _ hxl).trans HBXj.out)
              have hjm' : (j : Int) < (m : Int) := by omega
              have HOF : Hid (∀ vv, OwnTb W2 w2.heap.size vv hs' rs → Calls Tryz.prog 9 #[vv, .agg #[.int .i64 q1, .int .i64 q2, .bool bb, .int .i64 c, .slice ah hl ch]] W2 fun e w' => ∃ v' hs', e = .returned v' ∧ OwnTb w' w2.heap.size v' hs' (Pl.offR rs ⟨(q1, q2), bb, c, Pl.wH es n k⟩) ∧ W2.grownBy w' vv.ownBlock) := hid fun vv hvv =>
                offer_any w2.heap.size vv hs' rs ⟨(q1, q2), bb, c, ah, hl, ch⟩ ⟨(q1, q2), bb, c, Pl.wH es n k⟩ W2 hvv HBq2.out.size HRR.out.1 (by have := HRR.out.2.1; have := hvv.2.1; omega) ⟨rfl, rfl, rfl, HZI.out.below HBq2.out, HPO.out⟩ HHB.out HRR.out.2.2.1 HRR.out.2.2.2
              go_wp2_with fail
              rw [← HW2'.out]
              refine (HOF.out _ HOq.out).mono ?_
              rintro e w6 ⟨v6, hs6, rfl, ho6, hg6⟩
              have HO6 := hid ho6
              have HP6 : Hid (OwnP 38 w6 w2.heap.size (.slice (some ⟨b, off, none⟩) m pc) (Pl.tP es k)) := hid (World.ownsRow.kept HPq.out hg6 (apartPR HPq.out HOq.out.1))
              have HX6 : Hid (w6.heap[wr.heap.size]? = some (.cells #[.int .i64 c, .slice ah hl ch] 34)) := hid ((hg6.block _ (blockLt HXq.out) (apartBR HXq.out (by decide) HOq.out.1)).trans HXq.out)
              have HB6 : Hid (Below w2.heap.size w2 w6) := hid (HBq2.out.grown hg6 HBq2.out.size (fun i hi => (World.ownsRow.lt HOq.out.1 i hi).1))
              clear ho6 hg6
              go_wp2_with fail
              go_roundw
              case rel => exact ⟨j + 1, hs6, by omega, by go_num, hid (by rw [HSU.out]; exact HO6.out), HP6, HX6, HB6⟩
              case measure => simp [intOf]; omega
            · obtain rfl : j = m := by omega
              have HTK : Hid ((Pl.tP es k).take j = Pl.tP es k) := hid (List.take_of_length_le (by rw [HM.out]; exact Nat.le_refl _))
              go_wp2_with fail
              go_roundw
              case rel => exact ⟨k + 1, hs', by omega, by go_num, hid (by have := HOj.out; rw [HTK.out] at this; rw [HNX.out]; exact this), HBj⟩
              case measure => simp [intOf]; omega
      · obtain rfl : k = 12 := by omega
        go_wp2_with fail
        refine bodyPost_ret (results_tmp2 rfl _ _ _) rfl ⟨_, hs, ret_two rfl rfl, by rw [HTA.out]; exact HO.out.mono HB2.out.size, HB2.out.trans (HB.out.mono HB2.out.size)⟩
  · have HTA : Hid (Pl.tabA es f = []) := hid (by unfold Pl.tabA; rw [HCD.out, if_neg hcd])
    have hcd' : (cd != 0) = true := by simpa using hcd
    clear ho2 hf2 hb2 hcd
    go_wp2_with fail
    refine bodyPost_ret (results_tmp2 rfl _ _ _) rfl ⟨_, [], ret_two rfl rfl, by rw [HTA.out]; exact OwnTb.nil _ _, HB2.out⟩
end Go.Proofs.YtpaobnhcbeklfaaGreatDoor
/-
  Contract: what a text tells of links: the document's AdjOf.
-/
namespace Go.Proofs.YtpaobnhcbeklfaaGreatDoor
open Go.RowKit
set_option maxRecDepth 20000

theorem below_set {C B : Nat} {X W : World} {d c u v : Value} {T : TypeId} (hX : X.heap[B]? = some (.cells #[d, c] T)) (h : Below C (X.setCell ⟨B, 1, none⟩ u) W) (hC : B < C) :
    Below C (X.setCell ⟨B, 1, none⟩ v) (W.setCell ⟨B, 1, none⟩ v) := by
  have hz := h.size
  simp only [World.setCell, Array.size_modify] at hz
  have hWB : W.heap[B]? = some (.cells #[d, u] T) := (h.block B hC).trans (adjAt_set hX u)
  refine ⟨h.os, h.tape, h.output, by simp only [World.setCell, Array.size_modify]; exact hz, fun k hk => ?_⟩
  by_cases e : k = B
  · subst e
    rw [adjAt_set hX v, adjAt_set hWB v]
  · rw [Below.heap_setCell _ _ _ _ e, Below.heap_setCell _ _ _ _ e, h.block k hk, Below.heap_setCell _ _ _ _ e]
theorem below_set0 {C B : Nat} {X : World} {d c : Value} {T : TypeId} (hX : X.heap[B]? = some (.cells #[d, c] T)) : Below C (X.setCell ⟨B, 1, none⟩ c) X := by
  refine ⟨rfl, rfl, rfl, by simp [World.setCell], fun k hk => ?_⟩
  by_cases e : k = B
  · subst e
    rw [adjAt_set hX c, hX]
  · rw [Below.heap_setCell _ _ _ _ e]
theorem Pl.pairsL_cuts (m : UInt8) (l : List UInt8) : Pl.pairsL m l = Pl.pairsP m (Pl.cutsL l) := by
  unfold Pl.pairsL Pl.cutsL
  split <;> rfl
theorem Pl.lists_drop (ks : List ByteArray) (k : Nat) (h : k < ks.length) : Pl.lists (ks.drop k) = ks[k].data.toList :: Pl.lists (ks.drop (k + 1)) := by
  rw [List.drop_eq_getElem_cons h]; rfl

set_option maxHeartbeats 4000000 in
theorem AdjOf_any (s : ByteArray) (w : World) (hs : s.size ≤ 4398046511103) :
    Calls Tryz.prog 72 #[.string s] w fun e w' => ∃ vl : Value, e = .returned (.tuple #[.agg #[.bool (Pl.adjD s.data.toList), vl], .int .i64 (Pl.adjC s.data.toList)]) ∧
      OwnP 109 w' w.heap.size vl (Pl.adjS s.data.toList) ∧ Below w.heap.size w w' := by
  obtain ⟨np, HP⟩ : ∃ x, Hid (Pl.sidesL s.data.toList = x) := ⟨_, rfl⟩
  obtain ⟨hd, HH⟩ : ∃ x, Hid (Pl.headB 33 s.data.toList = x) := ⟨_, rfl⟩
  have HSM : Hid (s.size ≤ maxLen) := hid (by unfold maxLen; omega)
  obtain ⟨rc, HRC⟩ : ∃ x, Hid (Pl.adjC s.data.toList = x) := ⟨_, rfl⟩
  obtain ⟨rd, HRD⟩ : ∃ x, Hid (Pl.adjD s.data.toList = x) := ⟨_, rfl⟩
  obtain ⟨rs, HRS⟩ : ∃ x, Hid (Pl.adjS s.data.toList = x) := ⟨_, rfl⟩
  rw [HRC.out, HRD.out, HRS.out]
  have HR0 : Hid (np = none → rc = 4 ∧ rd = false ∧ rs = []) := by
    refine hid fun h => ?_
    have hp := HP.out
    rw [h] at hp
    have h4 : Pl.adjC s.data.toList = 4 := by unfold Pl.adjC; rw [hp]
    refine ⟨HRC.out ▸ h4, ?_, ?_⟩
    · rw [← HRD.out]; unfold Pl.adjD; rw [h4]; rfl
    · rw [← HRS.out]; unfold Pl.adjS; rw [h4]; rfl
  have HR1 : Hid (∀ ps, np = some ps → rc = Pl.adjF ps ∧ (rc = 0 → rd = hd ∧ rs = ps) ∧ (rc ≠ 0 → rd = false ∧ rs = [])) := by
    refine hid fun ps h => ?_
    have hp := HP.out
    rw [h] at hp
    have h4 : Pl.adjC s.data.toList = Pl.adjF ps := by unfold Pl.adjC; rw [hp]
    refine ⟨HRC.out ▸ h4, fun h0 => ⟨?_, ?_⟩, fun h0 => ⟨?_, ?_⟩⟩
    · rw [← HRD.out]; unfold Pl.adjD; rw [HRC.out, h0, HH.out]; rfl
    · rw [← HRS.out]; unfold Pl.adjS; rw [HRC.out, h0, hp]; rfl
    · rw [← HRD.out]; unfold Pl.adjD; rw [HRC.out]; simp [h0]
    · rw [← HRS.out]; unfold Pl.adjS; rw [HRC.out, if_neg h0]
  have HCASE : (∃ h0 : 0 < s.size, (s[0].toNat : Int) = 33 ∧ Hid (hd = true) ∧ Hid ((s.extract 1 s.size).data.toList = Pl.tailB 33 s.data.toList)) ∨ (∃ h0 : 0 < s.size, ((s[0].toNat : Int) == 33) = false ∧ Hid (hd = false) ∧ Hid (s.data.toList = Pl.tailB 33 s.data.toList)) ∨ (s.size = 0 ∧ Hid (hd = false) ∧ Hid (s.data.toList = Pl.tailB 33 s.data.toList)) := by
    rcases Nat.eq_zero_or_pos s.size with h0 | h0
    · right; right
      have hl : s.data.toList = [] := List.length_eq_zero_iff.1 (by rw [sz_list]; omega)
      refine ⟨h0, hid ?_, hid ?_⟩
      · rw [← HH.out, hl]; rfl
      · rw [hl]; rfl
    · have hg := Pl.head_get s h0
      by_cases e : (s[0].toNat : Int) = 33
      · left
        have e' : s[0] = 33 := by apply UInt8.toNat_inj.1; show _ = 33; omega
        have hh : Pl.headB 33 s.data.toList = true := by unfold Pl.headB; rw [hg, e']; rfl
        refine ⟨h0, e, hid (by rw [← HH.out, hh]), hid ?_⟩
        unfold Pl.tailB
        rw [hh, ext_list, List.take_of_length_le (by simp)]; simp
      · right; left
        have hh : Pl.headB 33 s.data.toList = false := by
          unfold Pl.headB; rw [hg]; simp; intro h; rw [h] at e; exact e rfl
        refine ⟨h0, by simpa using e, hid (by rw [← HH.out, hh]), hid ?_⟩
        unfold Pl.tailB
        rw [hh]; rfl
  rcases HCASE with ⟨h0, hc, H1, H2⟩ | ⟨h0, hc, H1, H2⟩ | ⟨h0, H1, H2⟩
  all_goals
    go_enter Tryz.func72, Tryz.ntmps72
    go_wp2_with fail
    refine (cuts_any _ _ (by first | (simp; omega) | omega)).mono ?_
    rw [H2.out]
    rintro e w2 ⟨vk, ks, rfl, hok, hks, hkz, hkl, hb2⟩
    obtain ⟨ak, kcap, rfl, hkc, hkm, hkr⟩ := OwnT.shape hok
    clear hok
    have HKR := hid hkr
    clear hkr
    have HKZ : Hid (∀ x ∈ ks, x.size ≤ maxLen) := hid fun x hx => by have := hkz x hx; (try simp at this); unfold maxLen; omega
    clear hkz
    have hkl' : ks.length ≤ s.size + 1 := by (try simp at hkl); omega
    clear hkl
    unfold maxLen at hkm
    have HNP : Hid (np = Pl.pairsP 61 (Pl.lists ks)) := hid (by rw [← HP.out]; unfold Pl.sidesL; rw [Pl.pairsL_cuts, hks])
    clear hks
    have hbA : Below (w.heap.size + 2) ((w.alloc (.cells #[.bool false, .slice none 0 0] 50)).alloc (.cells #[.bool hd, .slice none 0 0] 50)) w2 := by
      rw [H1.out]; simpa using hb2
    clear hb2
    have hz2 : w.heap.size + 1 < w2.heap.size := by have := hbA.size; simp at this; omega
    have HX : Hid (w2.heap[w.heap.size + 1]? = some (.cells #[.bool hd, .slice none 0 0] 50)) := by
      refine hid ((hbA.block _ (by omega)).trans ?_)
      have := heapNew (w.alloc (.cells #[.bool false, .slice none 0 0] 50)) (.cells #[.bool hd, .slice none 0 0] 50)
      simpa using this
    have hbR : Below (w.heap.size + 1) (w.alloc (.cells #[.bool false, .slice none 0 0] 50)) w2 := ((Below.refl _ _).alloc (by simp) _).trans (hbA.mono (by omega))
    clear hbA
    go_wp2_with fail
    go_loopw [6] (fun i wr => ∃ (k : Nat) (v : Value) (acc : List (Int × Int)), k ≤ ks.length ∧ i = .int .i64 k ∧ Hid (acc.length = k) ∧ Hid (np = Pl.andThen acc (Pl.pairsP 61 (Pl.lists (ks.drop k)))) ∧ Hid (Below w2.heap.size (w2.setCell ⟨w.heap.size + 1, 1, none⟩ v) wr) ∧ Hid (OwnP 109 wr w2.heap.size v acc)) (fun i _ => ks.length - (intOf i).toNat)
    case atStart => exact ⟨0, _, [], Nat.zero_le _, rfl, hid rfl, hid (by rw [HNP.out]; cases h : Pl.pairsP 61 (Pl.lists ks) <;> simp [Pl.andThen, h]), hid (below_set0 HX.out), hid (OwnP.nil _ _ _)⟩
    case round =>
      obtain ⟨k, v, acc, hk, rfl, hak, HN, HB, HO⟩ := hrel
      have HBB := hid ((HB.out.block _ hz2).trans (adjAt_set HX.out v))
      obtain ⟨y0, y1, g0, g1, hzr⟩ := adjAt_cells HBB.out
      have hbR' : Below (w.heap.size + 1) (w.alloc (.cells #[.bool false, .slice none 0 0] 50)) wr := (hbR.setCell (by simp) _).trans (HB.out.mono (by omega))
      obtain ⟨x0, x1, xs, hbb⟩ := box2 hbR'
      obtain ⟨f0, f1⟩ := box2f hbR'
      have hw2r : w2.heap.size ≤ wr.heap.size := by have := HB.out.size; simpa [World.setCell] using this
      by_cases hlt : k < ks.length
      · obtain ⟨b, rfl, hbase, hbw, hcell⟩ : ∃ b, ak = some ⟨b, 0, none⟩ ∧ w.heap.size + 2 ≤ b ∧ b < w2.heap.size ∧ ∀ (i : Nat) (hi : i < ks.length), w2.cell? ⟨b, 0 + i, none⟩ = some (.string ks[i]) := by
          rcases HKR.out with rfl | ⟨b, h1, h2, h3⟩
          · simp at hlt
          · exact ⟨b, h1, by simpa using h2, h3⟩
        have hbr : b < wr.heap.size := by omega
        have hc0 : wr.cell? ⟨b, 0 + k, none⟩ = some (.string ks[k]) := (HB.out.cell (p := ⟨b, 0 + k, none⟩) hbw).trans ((World.cell?_of_block (w := w2) (Below.heap_setCell _ _ _ _ (by simp; omega))).trans (hcell k hlt))
        clear hcell
        rw [Nat.zero_add] at hc0
        have HKK := hid (HKZ.out ks[k] (List.getElem_mem hlt))
        obtain ⟨q, HQ⟩ : ∃ x, Hid (Pl.pairL 61 ks[k].data.toList = x) := ⟨_, hid rfl⟩
        obtain ⟨kk, HKE⟩ : ∃ x, Hid (ks[k] = x) := ⟨_, hid rfl⟩
        rw [HKE.out] at hc0 HKK HQ
        cases q with
        | none =>
          have HNN := hid (HR0.out (by rw [HN.out, Pl.lists_drop ks k hlt, HKE.out, Pl.pairsP_none HQ.out]; rfl))
          go_wp2_with fail
          refine (pairOf_any kk 61 _ HKK.out).mono ?_
          rw [HQ.out]
          rintro e w3 ⟨x, y, rfl, _, rfl⟩
          go_wp2_with fail
          exact bodyPost_ret (v := .tuple #[.agg #[.bool false, .slice none 0 0], .int .i64 4]) (by simp [results, Tryz.results72, go_sem, x0, x1]) rfl ⟨_, by rw [HNN.out.1, HNN.out.2.1], by rw [HNN.out.2.2]; exact OwnP.nil _ _ _, ((hbb.setCell (Nat.le_refl _) _).setCell (Nat.le_refl _) _)⟩
        | some p =>
          have HNN : Hid (np = Pl.andThen (acc ++ [p]) (Pl.pairsP 61 (Pl.lists (ks.drop (k + 1))))) := hid (by rw [HN.out, Pl.lists_drop ks k hlt, HKE.out, Pl.pairsP_some HQ.out])
          go_wp2_with fail
          refine (pairOf_any kk 61 _ HKK.out).mono ?_
          rw [HQ.out]
          rintro e w3 ⟨x, y, rfl, hxy, rfl⟩
          obtain rfl := hxy p rfl
          clear hxy
          go_wp2_with (at_builtin; refine append_pairT Tryz.underlying48 infoSide rfl (.tmp 44) (.tmp 48) rfl w2.heap.size v acc (x, y) rfl HO.out hw2r rfl (by have := hak.out; omega) ?_; intro v5 w5 ho5 hb5 _; obtain ⟨a5, n5, cap5, rfl⟩ := ho5.slice; have HO5 := hid ho5; clear ho5; have HB5 := hid ((hb5.block _ hz2).trans HBB.out); obtain ⟨z0, z1, q0, q1, hz5⟩ := adjAt_cells HB5.out)
          go_roundw
          case rel => exact ⟨k + 1, .slice a5 n5 cap5, acc ++ [(x, y)], by omega, by go_num, hid (by simp [hak.out]), HNN, hid (below_set HX.out (HB.out.trans hb5) hz2), hid (ownsRow_setCell_below HO5.out (by simpa using hz2) _)⟩
          case measure => simp [intOf]; omega
      · obtain rfl : k = ks.length := by omega
        have HNP' : Hid (np = some acc) := hid (by rw [HN.out]; simp [Pl.lists, Pl.pairsP, Pl.andThen])
        have HR := hid (HR1.out acc HNP'.out)
        have HOK : Hid (∀ p ∈ acc, Pl.pairOk p) := hid fun p hp => Pl.pairOk_of (Pl.pairsP_ok (m := 61) (ps := Pl.lists ks) (a := acc) (by rw [← HNP.out, HNP'.out]) p hp)
        obtain ⟨a3, cap3, rfl, hp3, _, _⟩ := OwnP.shape HO.out HOK.out
        have HP3 := hid hp3
        clear hp3
        obtain ⟨cc, HCC⟩ : ∃ x, Hid (Pl.adjF acc = x) := ⟨_, rfl⟩
        obtain rfl : rc = cc := by rw [HR.out.1, HCC.out]
        by_cases hc0 : rc = 0
        · subst hc0
          have HR' := hid (HR.out.2.1 rfl)
          clear HR HR0 HR1
          go_wp2_with fail
          refine (AdjFault_any _ _ _ _ acc _ HP3.out).mono ?_
          rw [HCC.out]
          rintro e w4 ⟨rfl, hb4⟩
          have hbx4 := hbR'.trans (hb4.mono (by omega))
          obtain ⟨x0', x1', xs', hbb'⟩ := box2 hbx4
          obtain ⟨f0', f1'⟩ := box2f hbx4
          have z0 := (hb4.cell (p := ⟨w.heap.size + 1, 0, none⟩) hzr).trans y0
          have z1 := (hb4.cell (p := ⟨w.heap.size + 1, 1, none⟩) hzr).trans y1
          go_wp2_with fail
          refine bodyPost_ret (v := .tuple #[.agg #[.bool hd, .slice a3 acc.length cap3], .int .i64 0]) (by simp [results, Tryz.results72, go_sem, x0', x1']) rfl ⟨_, by rw [HR'.out.1], ?_, ((hbb'.setCell (Nat.le_refl _) _).setCell (Nat.le_refl _) _)⟩
          rw [HR'.out.2]
          have h5 := HO.out.below hb4
          exact OwnP.mono (base := w2.heap.size) (ownsRow_setCell_below (ownsRow_setCell_below h5 (by simp; omega) _) (by simp; omega) _) (by omega)
        · have HR' := hid (HR.out.2.2 hc0)
          clear HR HR0 HR1
          have hd0 : (rc == 0) = false := by simpa using hc0
          go_wp2_with fail
          refine (AdjFault_any _ _ _ _ acc _ HP3.out).mono ?_
          rw [HCC.out]
          rintro e w4 ⟨rfl, hb4⟩
          have hbx4 := hbR'.trans (hb4.mono (by omega))
          obtain ⟨x0', x1', xs', hbb'⟩ := box2 hbx4
          obtain ⟨f0', f1'⟩ := box2f hbx4
          go_wp2_with fail
          exact bodyPost_ret (v := .tuple #[.agg #[.bool false, .slice none 0 0], .int .i64 rc]) (by simp [results, Tryz.results72, go_sem, x0', x1']) rfl ⟨_, by rw [HR'.out.1], by rw [HR'.out.2]; exact OwnP.nil _ _ _, ((hbb'.setCell (Nat.le_refl _) _).setCell (Nat.le_refl _) _)⟩
end Go.Proofs.YtpaobnhcbeklfaaGreatDoor
/-
  Contracts, the document's side: what a node tells in a store (adjIn), a side (sideOf), a link's cost (LinkCost).
-/
namespace Go.Proofs.YtpaobnhcbeklfaaGreatDoor
open Go.RowKit
set_option maxRecDepth 20000

theorem Pl.adj_none : Pl.adjD ([] : List UInt8) = false ∧ Pl.adjS ([] : List UInt8) = [] := by decide

set_option maxHeartbeats 2000000 in
theorem adjIn_any (a : Option Addr) (len cap : Nat) (es : List Pl.Ent) (n : Nat) (w : World) (h : IsEnts w a len cap es) (h0 : Pl.fault es = 0) (hn : n ≤ 1000) :
    Calls Tryz.prog 53 #[.slice a len cap, .int .i64 n] w fun e w' => ∃ vl : Value, e = .returned (.agg #[.bool (Pl.adjD (Pl.toldV es n).data.toList), vl]) ∧
      OwnP 109 w' w.heap.size vl (Pl.adjS (Pl.toldV es n).data.toList) ∧ Below w.heap.size w w' := by
  have HH := hid h
  clear h
  have hvz : (Pl.toldV es n).size ≤ 120 := Pl.gotE_val _ _
  obtain ⟨g1, g2, g3⟩ := Pl.good_of_fault h0
  have hlen : es.length = len := HH.out.1
  have hl60 : len ≤ 60 := by omega
  have HA : Hid (Pl.Asc es) := g3
  clear g1 g2 g3
  have HD := hid (dec_any n (w.alloc (.cells #[.bool false, .slice none 0 0] 50)) (by omega))
  obtain ⟨ky, HKY⟩ : ∃ ky, Hid (Pl.adjKey n = ky) := ⟨_, rfl⟩
  have HK : Hid (ky = ⟨#[97, 58]⟩ ++ Pl.dec n) := hid HKY.out.symm
  have HV : Hid (Pl.toldV es n = (if Pl.there es ky then Pl.ent es (Pl.pos es ky) else Pl.Ent.none).val) := hid (by
    unfold Pl.toldV Pl.gotE; rw [h0, if_pos rfl, HKY.out])
  have HPL := hid (fun w' (hb : Below w.heap.size w w') => placeOf_any a len cap es ky w' (HH.out.below hb))
  rw [Pl.idxI_asc HA.out] at HPL
  rw [HK.out] at HPL HV
  clear HK HKY ky
  have hdz := Pl.dec_le n (by omega) (by omega)
  generalize Pl.dec (n : Int) = ds at *
  have b1 : Below w.heap.size w (w.alloc (.cells #[.bool false, .slice none 0 0] 50)) := (Below.refl _ _).alloc (Nat.le_refl _) _
  obtain ⟨t, HT⟩ : ∃ t, Hid (Pl.there es (⟨#[97, 58]⟩ ++ ds) = t) := ⟨_, rfl⟩
  obtain ⟨p, HP⟩ : ∃ t, Hid (Pl.pos es (⟨#[97, 58]⟩ ++ ds) = t) := ⟨_, rfl⟩
  rw [HT.out, HP.out] at HPL HV
  cases t
  · have HE : Hid (Pl.toldV es n = ByteArray.empty) := hid HV.out
    have HAN := hid Pl.adj_none
    simp only [Bool.false_eq_true, ↓reduceIte] at HPL
    rw [HE.out]
    rw [show ByteArray.empty.data.toList = ([] : List UInt8) from rfl, HAN.out.1, HAN.out.2]
    go_enter Tryz.func53, Tryz.ntmps53
    go_wp2_with fail
    refine HD.out.mono ?_
    rintro e w1 ⟨rfl, hb1⟩
    have hbA : Below (w.heap.size + 1) (w.alloc (.cells #[.bool false, .slice none 0 0] 50)) w1 := by simpa using hb1
    have hw1 : Below w.heap.size w w1 := b1.trans (hb1.mono b1.size)
    clear hb1
    go_wp2_with fail
    refine (HPL.out w1 hw1).mono ?_
    rintro e w2 ⟨rfl, hw2⟩
    rw [hw2]
    clear hw2 w2
    obtain ⟨x0, x1, xs, hbb⟩ := box2 hbA
    obtain ⟨f0, f1⟩ := box2f hbA
    go_wp2_with fail
    have hblk : w1.heap[w.heap.size]? = some (.cells #[.bool false, .slice none 0 0] 50) := (hbA.block _ (Nat.lt_succ_self _)).trans (heapNew w _)
    obtain ⟨z0, z1, _, _⟩ := adjAt_cells (adjAt_set (adjAt_set0 hblk (.bool false)) (.slice none 0 0))
    refine bodyPost_ret (v := .agg #[.bool false, .slice none 0 0]) (by simp [results, Tryz.results53, go_sem, z0, z1]) rfl ⟨_, rfl, OwnP.nil _ _ _, ?_⟩
    exact (hbb.setCell (Nat.le_refl _) _).setCell (Nat.le_refl _) _
  · have hplt : p < len := by
      have := HT.out
      unfold Pl.there at this
      simp only [Bool.and_eq_true, decide_eq_true_eq] at this
      have := HP.out
      omega
    have HE : Hid (Pl.toldV es n = (Pl.ent es p).val) := hid HV.out
    simp only [↓reduceIte] at HPL
    rw [HE.out] at hvz ⊢
    obtain ⟨b, off, rfl, hbw, hr⟩ : ∃ b off, a = some ⟨b, off, none⟩ ∧ b < w.heap.size ∧ RowAt w b off es := by
      rcases HH.out.2.2.2.2 with h | h
      · rw [h] at hlen; simp at hlen; omega
      · exact h
    have hcap := HH.out.2.1
    have hm := HH.out.2.2.1
    unfold maxLen at hm
    have HR := hid hr
    clear hr
    obtain ⟨gx, HGX⟩ : ∃ x, Hid ((Pl.ent es p).val = x) := ⟨_, rfl⟩
    rw [HGX.out] at hvz ⊢
    obtain ⟨rc, HRC⟩ : ∃ x, Hid (Pl.adjC gx.data.toList = x) := ⟨_, hid rfl⟩
    obtain ⟨rd, HRD⟩ : ∃ x, Hid (Pl.adjD gx.data.toList = x) := ⟨_, hid rfl⟩
    obtain ⟨rs, HRS⟩ : ∃ x, Hid (Pl.adjS gx.data.toList = x) := ⟨_, hid rfl⟩
    rw [HRD.out, HRS.out]
    go_enter Tryz.func53, Tryz.ntmps53
    go_wp2_with fail
    refine HD.out.mono ?_
    rintro e w1 ⟨rfl, hb1⟩
    have hbA : Below (w.heap.size + 1) (w.alloc (.cells #[.bool false, .slice none 0 0] 50)) w1 := by simpa using hb1
    have hw1 : Below w.heap.size w w1 := b1.trans (hb1.mono b1.size)
    clear hb1
    go_wp2_with fail
    refine (HPL.out w1 hw1).mono ?_
    rintro e w2 ⟨rfl, hw2⟩
    rw [hw2]
    clear hw2 w2
    obtain ⟨_, _, _, q3⟩ := HR.out.below hbw hw1 p (by omega)
    rw [HGX.out] at q3
    have hlt' : (p : Int) < (len : Int) := by omega
    have hbr : b < w1.heap.size := by have := hw1.size; omega
    have hz1 := hbA.size
    simp at hz1
    go_wp2_with fail
    refine (AdjOf_any gx _ (by omega)).mono ?_
    rw [HRC.out, HRD.out, HRS.out]
    rintro e w3 ⟨v3, rfl, ho3, hb3⟩
    have hbA3 : Below (w.heap.size + 1) (w.alloc (.cells #[.bool false, .slice none 0 0] 50)) w3 := hbA.trans (hb3.mono (by omega))
    obtain ⟨a3, n3, cap3, rfl⟩ := ho3.slice
    have HO3 := hid ho3
    obtain ⟨x0, x1, xs, hbb⟩ := box2 hbA3
    obtain ⟨f0, f1⟩ := box2f hbA3
    have hz3 := hb3.size
    clear ho3 hb3
    go_wp2_with fail
    have hblk : w3.heap[w.heap.size]? = some (.cells #[.bool false, .slice none 0 0] 50) := (hbA3.block _ (Nat.lt_succ_self _)).trans (heapNew w _)
    have hfin := heapOld (adjAt_set (adjAt_set0 hblk (.bool rd)) (.slice a3 n3 cap3)) (.cells #[.bool rd, .slice a3 n3 cap3] 50)
    obtain ⟨z0, z1, _, _⟩ := adjAt_cells hfin
    refine bodyPost_ret (v := .agg #[.bool rd, .slice a3 n3 cap3]) (by simp [results, Tryz.results53, go_sem, z0, z1]) rfl ⟨_, rfl, ?_, ?_⟩
    · exact OwnP.mono (World.ownsRow.alloc (ownsRow_setCell_below (ownsRow_setCell_below HO3.out (by simp; omega) _) (by simp; omega) _) _) (by omega)
    · exact ((hbb.setCell (Nat.le_refl _) _).setCell (Nat.le_refl _) _).alloc (by simp [World.setCell]; omega) _
end Go.Proofs.YtpaobnhcbeklfaaGreatDoor
/-
  Contracts, the document's side: a side (sideOf), a link's cost (LinkCost).
-/
namespace Go.Proofs.YtpaobnhcbeklfaaGreatDoor
open Go.RowKit
set_option maxRecDepth 20000

def Pl.sideN (ps : List (Int × Int)) : Nat → Nat → Int → Int
  | 0, _, _ => 0
  | n + 1, i, to => if (Pl.pr ps i).1 = to then (Pl.pr ps i).2 else Pl.sideN ps n (i + 1) to
theorem Pl.sidesUp.lt {ps : List (Int × Int)} (h : Pl.sidesUp ps) (j : Nat) : ∀ k, j < k → k < ps.length → (Pl.pr ps j).1 < (Pl.pr ps k).1 := by
  intro k
  induction k with
  | zero => intro h; omega
  | succ k ih =>
    intro h1 h2
    have h3 := (h (k + 1) h2).2 (by omega)
    simp only [Nat.add_sub_cancel] at h3
    by_cases hj : j = k
    · subst hj; exact h3
    · have := ih (by omega) (by omega); omega
theorem Pl.sayN_none {ps : List (Int × Int)} (h : Pl.sidesUp ps) (b k : Nat) (hk : k ≤ ps.length) (hn : ∀ j, j < k → (Pl.pr ps j).1 ≠ (b : Int)) : Pl.sayN ps k b = 0 := by
  induction k with
  | zero => rfl
  | succ k ih =>
    have h1 := hn k (by omega)
    have h2 := (h k (by omega)).1.1
    show Pl.upd (Pl.sayN ps k) (Pl.pr ps k).1.toNat (Pl.pr ps k).2 b = 0
    rw [Pl.upd_ne _ _ (by omega)]
    exact ih (by omega) fun j hj => hn j (by omega)
theorem Pl.sayN_at {ps : List (Int × Int)} (h : Pl.sidesUp ps) (b j k : Nat) (hj : j < k) (hk : k ≤ ps.length) (e : (Pl.pr ps j).1 = (b : Int)) : Pl.sayN ps k b = (Pl.pr ps j).2 := by
  induction k with
  | zero => omega
  | succ k ih =>
    show Pl.upd (Pl.sayN ps k) (Pl.pr ps k).1.toNat (Pl.pr ps k).2 b = _
    by_cases hjk : j = k
    · subst hjk; rw [e, Int.toNat_natCast, Pl.upd_same]
    · have h1 := h.lt j k (by omega) (by omega)
      rw [Pl.upd_ne _ _ (by omega)]
      exact ih (by omega) (by omega)
theorem Pl.sideN_say {ps : List (Int × Int)} (h : Pl.sidesUp ps) (b : Nat) : ∀ n i, i + n = ps.length → (∀ j, j < i → (Pl.pr ps j).1 ≠ (b : Int)) → Pl.sideN ps n i b = Pl.say ps b := by
  intro n
  induction n with
  | zero => intro i hi hn; exact (Pl.sayN_none h b ps.length (Nat.le_refl _) fun j hj => hn j (by omega)).symm
  | succ n ih =>
    intro i hi hn
    unfold Pl.sideN
    by_cases e : (Pl.pr ps i).1 = (b : Int)
    · rw [if_pos e]; exact (Pl.sayN_at h b i ps.length (by omega) (Nat.le_refl _) e).symm
    · rw [if_neg e]
      refine ih (i + 1) (by omega) fun j hj => ?_
      by_cases hji : j = i
      · subst hji; exact e
      · exact hn j (by omega)

set_option maxHeartbeats 1000000 in
theorem sideOf_any (d : Bool) (a : Option Addr) (len cap : Nat) (ps : List (Int × Int)) (b : Nat) (w : World) (h : IsPairs w a len cap ps) (hu : Pl.sidesUp ps) :
    Calls Tryz.prog 73 #[.agg #[.bool d, .slice a len cap], .int .i64 b] w fun e w' => e = .returned (.int .i64 (Pl.say ps b)) ∧ Below w.heap.size w w' := by
  obtain ⟨hl, hc, hm, hok, hrow⟩ := h
  unfold maxLen at hm
  have HU : Hid (Pl.say ps b = Pl.sideN ps len 0 b) := hid (Pl.sideN_say hu b len 0 (by omega) (by omega)).symm
  clear hu hok
  go_enter Tryz.func73, Tryz.ntmps73
  go_wp2
  go_loopw [5] (fun i wr => ∃ k : Nat, k ≤ len ∧ i = .int .i64 k ∧ Hid (Pl.say ps b = Pl.sideN ps (len - k) k b) ∧ Hid (Below (w.heap.size + 1) (w.alloc (.cells #[.bool d, .slice a len cap] 50)) wr)) (fun i _ => len - (intOf i).toNat)
  case atStart => exact ⟨0, Nat.zero_le _, rfl, HU, Below.refl _ _⟩
  case round =>
    obtain ⟨k, hk, rfl, HF, HB⟩ := hrel
    obtain ⟨x0, x1, xs, hbb⟩ := box2 HB.out
    by_cases hlt : k < len
    · obtain ⟨bb, off, rfl, hbw, hr⟩ : ∃ b off, a = some ⟨b, off, none⟩ ∧ b < w.heap.size ∧ PairsAt w b off ps := by
        rcases hrow with rfl | h
        · simp at hl; omega
        · exact h
      clear hrow
      obtain ⟨c0, c1⟩ := hr.below hbw hbb k (by omega)
      clear hr
      obtain ⟨n, hn⟩ : ∃ n, len - k = n + 1 := ⟨len - k - 1, by omega⟩
      have HN : Hid (len - k = n + 1) := hn
      clear hn
      have hbr : bb < wr.heap.size := by omega
      obtain ⟨q0, HQ0⟩ : ∃ q0, Hid ((Pl.pr ps k).1 = q0) := ⟨_, rfl⟩
      obtain ⟨q1, HQ1⟩ : ∃ q1, Hid ((Pl.pr ps k).2 = q1) := ⟨_, rfl⟩
      rw [HQ0.out] at c0
      rw [HQ1.out] at c1
      have HS : Hid (Pl.say ps b = if q0 = (b : Int) then q1 else Pl.sideN ps n (k + 1) b) := hid (by
        rw [HF.out, HN.out]
        show (if (Pl.pr ps k).1 = (b : Int) then (Pl.pr ps k).2 else _) = _
        rw [HQ0.out, HQ1.out])
      by_cases hq : q0 = (b : Int)
      · subst hq
        go_wp2
        go_ret
        exact ⟨ret_int (by rw [HS.out]; simp), hbb⟩
      · go_wp2
        go_roundw
        case rel => exact ⟨k + 1, by omega, by go_num, hid (by rw [HS.out, if_neg hq]; congr 1; have := HN.out; omega), HB⟩
        case measure => simp [intOf]; omega
    · obtain rfl : k = len := by omega
      go_wp2
      go_ret
      exact ⟨ret_int (by rw [HF.out]; simp [Pl.sideN]), hbb⟩

/-- a link's cost, as the document has it -/
def Pl.lnkD (ps : Nat → List (Int × Int)) : Nat → Nat → Int := fun a b => if a = b then 0 else Pl.lnk ps a b

set_option maxHeartbeats 1000000 in
theorem LinkCost_any (a : Option Addr) (len cap : Nat) (es : List Pl.Ent) (x y : Nat) (w : World) (h : IsEnts w a len cap es) (h0 : Pl.fault es = 0) (hx : x < 12) (hy : y < 12) :
    Calls Tryz.prog 54 #[.slice a len cap, .int .i64 x, .int .i64 y] w fun e w' => e = .returned (.int .i64 (Pl.lnkD (Pl.tS es) x y)) ∧ Below w.heap.size w w' := by
  have HE := hid h
  have H0 := hid h0
  clear h h0
  obtain ⟨p, HP⟩ : ∃ p, Hid (Pl.say (Pl.tS es y) x = p) := ⟨_, rfl⟩
  obtain ⟨q, HQ⟩ : ∃ p, Hid (Pl.say (Pl.tS es x) y = p) := ⟨_, rfl⟩
  have hp0 : 0 ≤ p := by rw [← HP.out]; exact (Pl.say_le (Pl.adjS_up _).ok x).1
  by_cases hxy : x = y
  · subst hxy
    have HL : Hid (Pl.lnkD (Pl.tS es) x x = 0) := hid (by unfold Pl.lnkD; rw [if_pos rfl])
    go_enter Tryz.func54, Tryz.ntmps54
    go_wp2_with fail
    go_ret
    exact ⟨ret_int HL.out.symm, Below.refl _ _⟩
  · have hxy' : ((x : Int) == (y : Int)) = false := by simp; omega
    go_enter Tryz.func54, Tryz.ntmps54
    go_wp2_with fail
    refine (adjIn_any a len cap es y w HE.out H0.out (by omega)).mono ?_
    rintro e w1 ⟨vl, rfl, ho1, hb1⟩
    obtain ⟨a1, cap1, rfl, hp1, _, _⟩ := OwnP.shape ho1 (Pl.adjS_up _).ok.pairs
    have HP1 := hid hp1
    have HB1 := hid hb1
    clear ho1 hp1 hb1
    go_wp2_with fail
    refine (sideOf_any _ _ _ _ _ x w1 HP1.out (Pl.adjS_up _)).mono ?_
    rw [show Pl.say (Pl.adjS (Pl.toldV es y).data.toList) x = p from HP.out]
    rintro e w2 ⟨rfl, hb2⟩
    have HB2 := hid (HB1.out.trans (hb2.mono HB1.out.size))
    clear hb2
    by_cases hpz : p = 0
    · subst hpz
      have HL : Hid (Pl.lnkD (Pl.tS es) x y = 0) := hid (by unfold Pl.lnkD Pl.lnk; rw [if_neg hxy, HP.out, if_neg (by omega)])
      go_wp2_with fail
      go_ret
      exact ⟨ret_int HL.out.symm, HB2.out⟩
    · have hpz' : (p == 0) = false := by simp [hpz]
      have HL : Hid (Pl.lnkD (Pl.tS es) x y = q) := hid (by unfold Pl.lnkD Pl.lnk; rw [if_neg hxy, HP.out, if_pos (by omega), HQ.out])
      go_wp2_with fail
      refine (adjIn_any a len cap es x w2 (HE.out.below HB2.out) H0.out (by omega)).mono ?_
      rintro e w3 ⟨vl, rfl, ho3, hb3⟩
      obtain ⟨a3, cap3, rfl, hp3, _, _⟩ := OwnP.shape ho3 (Pl.adjS_up _).ok.pairs
      have HP3 := hid hp3
      have HB3 := hid (HB2.out.trans (hb3.mono HB2.out.size))
      clear ho3 hp3 hb3
      go_wp2_with fail
      refine (sideOf_any _ _ _ _ _ y w3 HP3.out (Pl.adjS_up _)).mono ?_
      rw [show Pl.say (Pl.adjS (Pl.toldV es x).data.toList) y = q from HQ.out]
      rintro e w4 ⟨rfl, hb4⟩
      have HB4 := hid (HB3.out.trans (hb4.mono HB3.out.size))
      clear hb4
      go_wp2_with fail
      go_ret
      exact ⟨ret_int HL.out.symm, HB4.out⟩
end Go.Proofs.YtpaobnhcbeklfaaGreatDoor
