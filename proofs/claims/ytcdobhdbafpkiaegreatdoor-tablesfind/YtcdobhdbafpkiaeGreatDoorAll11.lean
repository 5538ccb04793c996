/-
  Contracts and facts that the proof rests on, put together out of several texts.
-/
import Derived.Test.YtcdobhdbafpkiaeGreatDoorAll7
import Derived.Test.YtcdobhdbafpkiaeGreatDoorAll5
import Derived.Test.YtcdobhdbafpkiaeGreatDoorAll8
import Derived.Test.YtcdobhdbafpkiaeGreatDoorAll10
import Derived.OpenShut
import Derived.Test.YtcdobhdbafpkiaeGreatDoorProg
import Derived.ProofKit
import Derived.ShutString
import Derived.ChangeOld
import Derived.Lib.SmallJoins
import Derived.Deep.Slices
import Derived.SizedLaws
import Derived.Test.YtcdobhdbafpkiaeGreatDoorAll1
import Derived.Test.YtcdobhdbafpkiaeGreatDoorAll3
/-
  Contracts: two lists of the same numbers (sameInts), of the same ways (sameWays), are told the same.
-/
namespace Go.Proofs.YtcdobhdbafpkiaeGreatDoor
open Go.RowKit
set_option maxRecDepth 20000

theorem OwnI.cells {w : World} {base : Nat} {v : Value} {xs : List Int} (h : OwnI w base v xs) :
    ∃ a cap, v = .slice a xs.length cap ∧ xs.length ≤ cap ∧ cap ≤ maxLen ∧ (xs = [] ∨ ∃ g, a = some ⟨g, 0, none⟩ ∧ g < w.heap.size ∧ ∀ i, i < xs.length → w.cell? ⟨g, i, none⟩ = some (.int .i64 (xs.getD i 0))) := by
  obtain ⟨_, ⟨h, h1⟩ | ⟨g, cap, cur, rfl, hb, hh, hn, hm, hs, hx⟩⟩ := h
  · have e : xs = [] := List.length_eq_zero_iff.1 h1
    subst e
    exact ⟨none, 0, h, Nat.le_refl _, by simp, .inl rfl⟩
  · refine ⟨_, cap, rfl, hn, hm, .inr ⟨g, rfl, blockLt hh, fun i hi => ?_⟩⟩
    have hj : (cellsI xs)[i]? = some (.int .i64 (xs.getD i 0)) := by
      simp [cellsI, List.getD_eq_getElem?_getD, List.getElem?_eq_getElem hi]
    rw [← hx] at hj
    have hj' : cur[i]? = some (.int .i64 (xs.getD i 0)) := by
      rw [List.getElem?_take] at hj
      split at hj
      · rw [← Array.getElem?_toList]; exact hj
      · cases hj
    simp [World.cell?, hh, hj']
theorem cellsW_get : ∀ (ts : List (Int × Value × List Int)) (i : Nat) (hi : i < ts.length), (cellsW ts)[i * 2]? = some (.int .i64 ts[i].1) ∧ (cellsW ts)[i * 2 + 1]? = some ts[i].2.1
  | [], i, h => by simp at h
  | p :: r, 0, _ => by simp [cellsW]
  | p :: r, i + 1, h => by
    have := cellsW_get r i (by simpa using h)
    rw [show (i + 1) * 2 = i * 2 + 2 by omega]
    simpa [cellsW] using this
theorem OwnW.cells {w : World} {base : Nat} {v : Value} {ts : List (Int × Value × List Int)} (h : OwnW w base v ts) :
    ∃ a cap, v = .slice a ts.length cap ∧ ts.length ≤ cap ∧ cap ≤ maxLen ∧ (ts = [] ∨ ∃ g, a = some ⟨g, 0, none⟩ ∧ g < w.heap.size ∧ ∀ i (hi : i < ts.length), w.cell? ⟨g, i * 2, none⟩ = some (.int .i64 ts[i].1) ∧ w.cell? ⟨g, i * 2 + 1, none⟩ = some ts[i].2.1) := by
  obtain ⟨⟨_, ⟨h, h1⟩ | ⟨g, cap, cur, rfl, hb, hh, hn, hm, hs, hx⟩⟩, _⟩ := h
  · have e : ts = [] := List.length_eq_zero_iff.1 h1
    subst e
    exact ⟨none, 0, h, Nat.le_refl _, by simp, .inl rfl⟩
  · refine ⟨_, cap, rfl, hn, hm, .inr ⟨g, rfl, blockLt hh, fun i hi => ?_⟩⟩
    have hcell : ∀ j u, (cellsW ts)[j]? = some u → w.cell? ⟨g, j, none⟩ = some u := by
      intro j u hj
      rw [← hx] at hj
      have hj' : cur[j]? = some u := by
        rw [List.getElem?_take] at hj
        split at hj
        · rw [← Array.getElem?_toList]; exact hj
        · cases hj
      simp [World.cell?, hh, hj']
    obtain ⟨h0, h1⟩ := cellsW_get ts i hi
    exact ⟨hcell _ _ h0, hcell _ _ h1⟩

set_option maxHeartbeats 1000000 in
theorem sameInts_eq (v1 v2 : Value) (xs : List Int) (w : World) (h1 : OwnI w 0 v1 xs) (h2 : OwnI w 0 v2 xs) :
    Calls Tryz.prog 50 #[v1, v2] w fun e w' => e = .returned (.bool true) ∧ Below w.heap.size w w' := by
  obtain ⟨a, cap, rfl, hc, hm, hrow⟩ := h1.cells
  obtain ⟨b, capb, rfl, hcb, hmb, hrowb⟩ := h2.cells
  unfold maxLen at hm hmb
  have HR := hid hrow
  have HRB := hid hrowb
  clear hrow hrowb h1 h2
  obtain ⟨len, HL⟩ : ∃ n, Hid (xs.length = n) := ⟨_, rfl⟩
  rw [HL.out] at hc hcb ⊢
  go_enter Tryz.func50, Tryz.ntmps50
  go_wp2_with fail
  go_loopw [5] (fun i wr => ∃ k : Nat, k ≤ len ∧ i = .int .i64 k ∧ Hid (Below w.heap.size w wr)) (fun i _ => len - (intOf i).toNat)
  case atStart => exact ⟨0, Nat.zero_le _, rfl, Below.refl _ _⟩
  case round =>
    obtain ⟨k, hk, rfl, HB⟩ := hrel
    by_cases hlt : k < len
    · obtain ⟨g1, rfl, hg1, hr1⟩ : ∃ g, a = some ⟨g, 0, none⟩ ∧ g < w.heap.size ∧ ∀ i, i < xs.length → w.cell? ⟨g, i, none⟩ = some (.int .i64 (xs.getD i 0)) := by
        rcases HR.out with h | h
        · have := HL.out; rw [h] at this; simp at this; omega
        · exact h
      obtain ⟨g2, rfl, hg2, hr2⟩ : ∃ g, b = some ⟨g, 0, none⟩ ∧ g < w.heap.size ∧ ∀ i, i < xs.length → w.cell? ⟨g, i, none⟩ = some (.int .i64 (xs.getD i 0)) := by
        rcases HRB.out with h | h
        · have := HL.out; rw [h] at this; simp at this; omega
        · exact h
      have c1 := (HB.out.cell (p := ⟨g1, k, none⟩) hg1).trans (hr1 k (by have := HL.out; omega))
      have c2 := (HB.out.cell (p := ⟨g2, k, none⟩) hg2).trans (hr2 k (by have := HL.out; omega))
      generalize xs.getD k 0 = y at *
      clear hr1 hr2
      have hz := HB.out.size
      have l1 : g1 < wr.heap.size := by omega
      have l2 : g2 < wr.heap.size := by omega
      have hlt' : (k : Int) < (len : Int) := by omega
      go_wp2_with fail
      go_region
      go_wp2_with fail
      go_roundw
      case rel => exact ⟨k + 1, by omega, by go_num, HB.out.drew⟩
      case measure => simp [intOf]; omega
    · obtain rfl : k = len := by omega
      go_wp2_with fail
      go_ret
      exact ⟨rfl, HB.out⟩

end Go.Proofs.YtcdobhdbafpkiaeGreatDoor
/-
  Ways in memory, node by node: what each costs, and its hops as a slice of numbers.
-/
namespace Go.Proofs.YtcdobhdbafpkiaeGreatDoor
open Go.RowKit
set_option maxRecDepth 20000

theorem Pl.wayL_len (s : Pl.DS) : ∀ k, (Pl.wayL s k).length = k
  | 0 => rfl
  | k + 1 => by simp [Pl.wayL, Pl.wayL_len s k]
theorem Pl.wayL_at (s : Pl.DS) : ∀ k i, i < k → (Pl.wayL s k)[i]? = some (s.cost i, Pl.hopsL (s.hops i) 12)
  | 0, i, h => by omega
  | k + 1, i, h => by
    unfold Pl.wayL
    rcases Nat.lt_or_ge i k with g | g
    · rw [List.getElem?_append_left (by rw [Pl.wayL_len]; exact g)]; exact Pl.wayL_at s k i g
    · obtain rfl : i = k := by omega
      rw [List.getElem?_append_right (by rw [Pl.wayL_len]; exact Nat.le_refl _), Pl.wayL_len]
      simp
/-- the ways from a node in their block -/
def WAt (w : World) (es : List Pl.Ent) (f g : Nat) : Prop := g < w.heap.size ∧ ∀ i, i < 12 → w.cell? ⟨g, i * 2, none⟩ = some (.int .i64 (Pl.wC es f i)) ∧
  ∃ ah ch, w.cell? ⟨g, i * 2 + 1, none⟩ = some (.slice ah (Pl.wH es f i).length ch) ∧ IsInts w ah (Pl.wH es f i).length ch (Pl.wH es f i)
theorem WAt.below {w w' : World} {es f g} (h : WAt w es f g) (k : Below w.heap.size w w') : WAt w' es f g := by
  refine ⟨Nat.lt_of_lt_of_le h.1 k.size, fun i hi => ?_⟩
  obtain ⟨h1, ah, ch, h2, h3⟩ := h.2 i hi
  exact ⟨(k.cell (p := ⟨g, _, none⟩) h.1).trans h1, ah, ch, (k.cell (p := ⟨g, _, none⟩) h.1).trans h2, h3.below k⟩
theorem OwnW.at12 {w : World} {base : Nat} {v : Value} {ts : List (Int × Value × List Int)} {es : List Pl.Ent} {f : Nat} (h : OwnW w base v ts) (e : Pl.flat ts = Pl.wayA es (f : Int)) (hc : Pl.wayC es (f : Int) = 0) :
    ∃ g cap, v = .slice (some ⟨g, 0, none⟩) 12 cap ∧ 12 ≤ cap ∧ cap ≤ maxLen ∧ WAt w es f g := by
  have e2 : Pl.wayA es (f : Int) = Pl.wayL (Pl.dIter (Pl.lnk (Pl.tS es)) (Pl.tD es) f 12) 12 := by
    unfold Pl.wayA; rw [if_pos hc, Int.toNat_natCast]
  rw [e2] at e
  have hl : ts.length = 12 := by
    have := congrArg List.length e
    rw [Pl.wayL_len] at this
    simpa [Pl.flat] using this
  obtain ⟨a, cap, rfl, hc1, hm, hr⟩ := h.cells
  rcases hr with rfl | ⟨g, rfl, hg, hr⟩
  · simp at hl
  · rw [hl] at hc1 ⊢
    refine ⟨g, cap, rfl, hc1, hm, hg, fun i hi => ?_⟩
    have hi' : i < ts.length := by omega
    obtain ⟨r1, r2⟩ := hr i hi'
    have q : (Pl.flat ts)[i]? = some (Pl.wC es f i, Pl.wH es f i) := by rw [e]; exact Pl.wayL_at _ 12 i hi
    simp only [Pl.flat, List.getElem?_map, List.getElem?_eq_getElem hi', Option.map_some, Option.some.injEq, Prod.mk.injEq] at q
    have ho : OwnZ w 0 ts[i].2.1 ts[i].2.2 := h.2 _ (List.getElem_mem hi')
    obtain ⟨ah, ch, ev, hi2, _⟩ := ho.ints
    refine ⟨by rw [r1, q.1], ah, ch, ?_, ?_⟩
    · rw [r2, ev, q.2]
    · rw [q.2] at hi2; exact hi2
theorem Pl.wayC_ok {es : List Pl.Ent} {f : Nat} (hf : Pl.fault es = 0) (h : f < 12) : Pl.wayC es (f : Int) = 0 := by
  unfold Pl.wayC; rw [if_neg (by simp [hf]), if_pos (by omega)]
theorem Pl.ovH_len (o : Nat → Int) : ∀ k, (Pl.ovH o k).length ≤ k
  | 0 => Nat.le_refl _
  | k + 1 => by
    have := Pl.ovH_len o k
    unfold Pl.ovH
    split
    · omega
    · split
      · simp
      · split
        · simp; omega
        · omega
theorem Pl.ov_skip (o : Nat → Int) (k : Nat) (h : o k < 0) : Pl.ovB o (k + 1) = Pl.ovB o k ∧ Pl.ovH o (k + 1) = Pl.ovH o k := by
  constructor
  · show (if _ then _ else _) = _; rw [if_pos h]
  · show (if _ then _ else _) = _; rw [if_pos h]
theorem Pl.ov_new (o : Nat → Int) (k : Nat) (h : 0 ≤ o k) (g : Pl.ovB o k < 0 ∨ o k < Pl.ovB o k) : Pl.ovB o (k + 1) = o k ∧ Pl.ovH o (k + 1) = [(k : Int)] := by
  constructor
  · show (if _ then _ else _) = _; rw [if_neg (by omega), if_pos g]
  · show (if _ then _ else _) = _; rw [if_neg (by omega), if_pos g]
theorem Pl.ov_same (o : Nat → Int) (k : Nat) (h : 0 ≤ o k) (g : ¬ (Pl.ovB o k < 0 ∨ o k < Pl.ovB o k)) (e : o k = Pl.ovB o k) : Pl.ovB o (k + 1) = Pl.ovB o k ∧ Pl.ovH o (k + 1) = Pl.ovH o k ++ [(k : Int)] := by
  constructor
  · show (if _ then _ else _) = _; rw [if_neg (by omega), if_neg g]
  · show (if _ then _ else _) = _; rw [if_neg (by omega), if_neg g, if_pos e]
theorem Pl.ov_more (o : Nat → Int) (k : Nat) (h : 0 ≤ o k) (g : ¬ (Pl.ovB o k < 0 ∨ o k < Pl.ovB o k)) (e : ¬ o k = Pl.ovB o k) : Pl.ovB o (k + 1) = Pl.ovB o k ∧ Pl.ovH o (k + 1) = Pl.ovH o k := by
  constructor
  · show (if _ then _ else _) = _; rw [if_neg (by omega), if_neg g]
  · show (if _ then _ else _) = _; rw [if_neg (by omega), if_neg g, if_neg e]
end Go.Proofs.YtcdobhdbafpkiaeGreatDoor
/-
  Contract: the table of a node, of a store (Table).
-/
namespace Go.Proofs.YtcdobhdbafpkiaeGreatDoor
open Go.RowKit
set_option maxRecDepth 20000

/-- what rib.Table answers -/
def Pl.tabA (es : List Pl.Ent) (f : Int) : List Pl.Rt := if Pl.wayC es f = 0 then Pl.tabL es f.toNat else []
theorem apartPR {w : World} {b1 b2 : Nat} {u v : Value} {ps : List (Int × Int)} {hs : List Pl.RH} (h1 : OwnP 44 w b1 u ps) (h2 : OwnR w b2 v hs) : u.ownBlock = none ∨ u.ownBlock ≠ v.ownBlock := by
  obtain ⟨_, ⟨rfl, _⟩ | ⟨g, cap, cur, rfl, _, hh, _⟩⟩ := h1
  · exact .inl rfl
  · right
    obtain ⟨_, ⟨rfl, _⟩ | ⟨g2, cap2, cur2, rfl, _, hh2, _⟩⟩ := h2
    · simp [Value.ownBlock]
    · simp only [Value.ownBlock, ne_eq, Option.some.injEq]
      intro e
      subst e
      rw [hh] at hh2
      simp at hh2
theorem apartBR {w : World} {b2 b : Nat} {v : Value} {hs : List Pl.RH} {cs : Array Value} {T : TypeId} (h1 : w.heap[b]? = some (.cells cs T)) (hT : T ≠ 47) (h2 : OwnR w b2 v hs) : some b ≠ v.ownBlock := by
  obtain ⟨_, ⟨rfl, _⟩ | ⟨g2, cap2, cur2, rfl, _, hh2, _⟩⟩ := h2
  · simp [Value.ownBlock]
  · simp only [Value.ownBlock, ne_eq, Option.some.injEq]
    intro e
    subst e
    rw [h1] at hh2
    simp at hh2
    exact hT hh2.2

set_option maxHeartbeats 8000000 in
theorem Table_any (a : Option Addr) (len cap : Nat) (es : List Pl.Ent) (f : Int) (w : World) (h : IsEnts w a len cap es) (hT : Tab w) :
    Calls Tryz.prog 5 #[.slice a len cap, .int .i64 f] w fun e w' => ∃ v hs, e = .returned (.tuple #[v, .int .i64 (Pl.wayC es f)]) ∧ OwnTb w' w.heap.size v hs (Pl.tabA es f) ∧ Below w.heap.size w w' := by
  have HE := hid h
  have HTab := hid hT
  clear h hT
  obtain ⟨cd, HCD⟩ : ∃ x, Hid (Pl.wayC es f = x) := ⟨_, hid rfl⟩
  rw [HCD.out]
  go_enter Tryz.func5, Tryz.ntmps5
  go_wp2_with fail
  refine (Ways_any a len cap es f w HE.out HTab.out).mono ?_
  rw [HCD.out]
  rintro e w2 ⟨v2, ts, rfl, ho2, hf2, hb2⟩
  have HB2 := hid hb2
  by_cases hcd : cd = 0
  · subst hcd
    have hfr : 0 ≤ f ∧ f ≤ 11 := by
      have := HCD.out
      unfold Pl.wayC at this
      split at this
      · rename_i h; exact absurd this h
      · split at this
        · assumption
        · cases this
    obtain ⟨n, rfl⟩ : ∃ n : Nat, f = n := ⟨f.toNat, by omega⟩
    have hn : n < 12 := by omega
    have HTA : Hid (Pl.tabA es (n : Int) = Pl.tabK (Pl.wC es n) (Pl.wH es n) (Pl.tP es) n 12) := hid (by unfold Pl.tabA; rw [HCD.out, if_pos rfl, Int.toNat_natCast]; rfl)
    obtain ⟨g2, c2, rfl, hc2, hm2, ha2⟩ := ho2.at12 hf2 HCD.out
    unfold maxLen at hm2
    have HW2 := hid ha2
    have HE2 := hid (HE.out.below hb2)
    have HT2 := hid (HTab.out.below hb2)
    have hg2 := ha2.1
    clear ho2 hf2 hb2 ha2 hfr
    go_wp2_with fail
    go_loopw [8, 24] (fun v i wr => ∃ (k : Nat) (hs : List Pl.RH), k ≤ 12 ∧ i = .int .i64 k ∧ Hid (OwnTb wr w2.heap.size v hs (Pl.tabK (Pl.wC es n) (Pl.wH es n) (Pl.tP es) n k)) ∧ Hid (Below w2.heap.size w2 wr)) (fun _ i _ => 12 - (intOf i).toNat)
    case atStart => exact ⟨0, [], by omega, rfl, hid (OwnTb.nil _ _), hid (Below.refl _ _)⟩
    case round =>
      obtain ⟨k, hs, hk, rfl, HO, HB⟩ := hrel
      have hzr := HB.out.size
      by_cases hlt : k < 12
      · obtain ⟨z0, ah, ch, z1, z2⟩ := HW2.out.2 k hlt
        have HZI := hid z2
        have z0 := (HB.out.cell (p := ⟨g2, k * 2, none⟩) hg2).trans z0
        have z1 := (HB.out.cell (p := ⟨g2, k * 2 + 1, none⟩) hg2).trans z1
        have hgr : g2 < wr.heap.size := by omega
        have hbd := Pl.wC_bound es n k
        have HNEXT := hid (fun h => Pl.tabK_next es n k h)
        have HSKIP := hid (fun h => Pl.tabK_skip es n k h)
        have HREADY := hid (fun h j hj => Pl.offs_ready es (j := j) hn hlt h hj)
        have HHB : Hid (Pl.hopsB (Pl.wH es n k) = true) := hid (Pl.hopsL_B _ (Nat.le_refl _))
        have HMK : Hid (∀ p, Pl.mkR (Pl.wC es n) (Pl.wH es n) n k p = ⟨p, ((k : Int) == (n : Int)), Pl.wC es n k, Pl.wH es n k⟩) := hid fun p => rfl
        obtain ⟨bb, hbb⟩ : ∃ b, ((k : Int) == (n : Int)) = b := ⟨_, rfl⟩
        rw [hbb] at HMK
        obtain ⟨hl, HHL⟩ : ∃ m, Hid ((Pl.wH es n k).length = m) := ⟨_, hid rfl⟩
        rw [HHL.out] at z1 HZI
        obtain ⟨c, HC⟩ : ∃ c, Hid (Pl.wC es n k = c) := ⟨_, hid rfl⟩
        rw [HC.out] at z0 hbd HNEXT HSKIP HREADY HMK
        clear z2
        obtain ⟨W1, HW1⟩ : ∃ W1, Hid (W1 = wr.alloc (.cells #[.int .i64 c, .slice ah hl ch] 51)) := ⟨_, hid rfl⟩
        have HBX : Hid (W1.heap[wr.heap.size]? = some (.cells #[.int .i64 c, .slice ah hl ch] 51)) := hid (by rw [HW1.out]; exact heapNewZ wr _)
        have HB1 : Hid (Below wr.heap.size wr W1) := hid (by rw [HW1.out]; exact (Below.refl _ _).alloc (Nat.le_refl _) _)
        have HB21 : Hid (Below w2.heap.size w2 W1) := hid (HB.out.trans (HB1.out.mono hzr))
        by_cases hneg : c < 0
        · have hneg' : decide (c < 0) = true := by simpa using hneg
          have HSK := hid (HSKIP.out hneg)
          clear hneg
          go_wp2_with fail
          rw [← HW1.out]
          go_roundw
          case rel => exact ⟨k + 1, hs, by omega, by go_num, hid (by rw [HSK.out]; exact HO.out.below HB1.out), HB21⟩
          case measure => simp [intOf]; omega
        · have hneg' : decide (c < 0) = false := by simpa using hneg
          have HNX := hid (HNEXT.out (by omega))
          have HRD := hid (HREADY.out (by omega))
          clear hneg HNEXT HSKIP HREADY
          go_wp2_with fail
          rw [← HW1.out]
          refine (ToldPrefixes_any a len cap es k W1 (HE2.out.below HB21.out) hlt (HT2.out.below HB21.out)).mono ?_
          rintro e w4 ⟨vl, rfl, ho4, hb4⟩
          obtain ⟨pa, pc, rfl, hp4, _, hx4⟩ := OwnP.shape ho4 (Pl.rpS_ok _)
          have HB4 : Hid (Below w2.heap.size w2 w4) := hid (HB21.out.trans (hb4.mono HB21.out.size))
          have HBX4 : Hid (w4.heap[wr.heap.size]? = some (.cells #[.int .i64 c, .slice ah hl ch] 51)) := hid ((hb4.block _ (by rw [HW1.out]; simp)).trans HBX.out)
          have HO4 := hid ((HO.out.below HB1.out).below hb4)
          have HP4 := hid (OwnP.mono ho4 (Nat.le_trans hzr HB1.out.size))
          have hpc := hp4.2.1
          have hpm := hp4.2.2.1
          unfold maxLen at hpm
          obtain ⟨m, HM⟩ : ∃ m, Hid ((Pl.tP es k).length = m) := ⟨_, hid rfl⟩
          rw [HM.out] at HRD HP4 hpc ⊢
          clear ho4 hb4 hp4 hx4
          go_wp2_with fail
          go_loopw [8, 36] (fun v i wq => ∃ (j : Nat) (hs : List Pl.RH), j ≤ m ∧ i = .int .i64 j ∧ Hid (OwnTb wq w2.heap.size v hs (Pl.offs (Pl.wC es n) (Pl.wH es n) n k (Pl.tabK (Pl.wC es n) (Pl.wH es n) (Pl.tP es) n k) ((Pl.tP es k).take j))) ∧ Hid (OwnP 44 wq w2.heap.size (.slice pa m pc) (Pl.tP es k)) ∧ Hid (wq.heap[wr.heap.size]? = some (.cells #[.int .i64 c, .slice ah hl ch] 51)) ∧ Hid (Below w2.heap.size w2 wq)) (fun _ i _ => m - (intOf i).toNat)
          case atStart => exact ⟨0, hs, Nat.zero_le _, rfl, HO4, HP4, HBX4, HB4⟩
          case round =>
            obtain ⟨j, hs', hj, rfl, HOj, HPj, HBXj, HBj⟩ := hrel
            rename World => wq
            obtain ⟨x0, x1, xf0, xf1, hxl⟩ := adjAt_cells HBXj.out
            by_cases hjm : j < m
            · obtain ⟨pa', pc', e1, hpj, _, _⟩ := HPj.out.shape (Pl.rpS_ok _)
              have HIP : Hid (IsPairs wq pa m pc (Pl.tP es k)) := hid (by
                simp only [Value.slice.injEq] at e1
                obtain ⟨u1, u2, u3⟩ := e1
                rw [u1, u2, u3]; exact hpj)
              clear e1 hpj
              have HPO : Hid (Pl.pairOk (Pl.pr (Pl.tP es k) j)) := hid (Pl.rpS_ok _ _ (Pl.pr_mem (Pl.tP es k) j (by rw [HM.out]; exact hjm)))
              obtain ⟨b, off, rfl, hbw, hr⟩ : ∃ b off, pa = some ⟨b, off, none⟩ ∧ b < wq.heap.size ∧ PairsAt wq b off (Pl.tP es k) := by
                rcases HIP.out.2.2.2.2 with h | h
                · have := HM.out; rw [h] at this; simp at this; omega
                · exact h
              obtain ⟨p0, p1⟩ := hr j (by rw [HM.out]; exact hjm)
              obtain ⟨r1, r2, r3, r4⟩ := HRD.out j hjm
              have HRR := hid (And.intro r1 (And.intro r2 (And.intro r3 r4)))
              have HSU := hid (Pl.offs_take_succ (Pl.wC es n) (Pl.wH es n) n k (Pl.tabK (Pl.wC es n) (Pl.wH es n) (Pl.tP es) n k) (Pl.tP es k) j (by rw [HM.out]; exact hjm))
              obtain ⟨q1, q2, hpq⟩ : ∃ x y, Pl.pr (Pl.tP es k) j = (x, y) := ⟨_, _, rfl⟩
              rw [hpq] at p0 p1 HPO HRR HSU
              rw [HMK.out] at HSU
              simp only at p0 p1
              clear hr hpq r1 r2 r3 r4 HIP
              obtain ⟨rs, HRS⟩ : ∃ rs, Hid (Pl.offs (Pl.wC es n) (Pl.wH es n) n k (Pl.tabK (Pl.wC es n) (Pl.wH es n) (Pl.tP es) n k) ((Pl.tP es k).take j) = rs) := ⟨_, hid rfl⟩
              rw [HRS.out] at HOj HRR HSU
              obtain ⟨W2, HW2'⟩ : ∃ W2, Hid (W2 = wq.alloc (.cells #[.int .i64 q1, .int .i64 q2] 44)) := ⟨_, hid rfl⟩
              have HBq : Hid (Below wq.heap.size wq W2) := hid (by rw [HW2'.out]; exact (Below.refl _ _).alloc (Nat.le_refl _) _)
              have HBq2 : Hid (Below w2.heap.size w2 W2) := hid (HBj.out.trans (HBq.out.mono HBj.out.size))
              have HOq := hid (HOj.out.below HBq.out)
              have HPq := hid (HPj.out.below HBq.out)
              have HXq : Hid (W2.heap[wr.heap.size]? = some (.cells #[.int .i64 c, .slice ah hl ch] 51)) := hid ((HBq.out.block _ hxl).trans HBXj.out)
              have hjm' : (j : Int) < (m : Int) := by omega
              have HOF : Hid (∀ vv, OwnTb W2 w2.heap.size vv hs' rs → Calls Tryz.prog 15 #[vv, .agg #[.int .i64 q1, .int .i64 q2, .bool bb, .int .i64 c, .slice ah hl ch]] W2 fun e w' => ∃ v' hs', e = .returned v' ∧ OwnTb w' w2.heap.size v' hs' (Pl.offR rs ⟨(q1, q2), bb, c, Pl.wH es n k⟩) ∧ W2.grownBy w' vv.ownBlock) := hid fun vv hvv =>
                offer_any w2.heap.size vv hs' rs ⟨(q1, q2), bb, c, ah, hl, ch⟩ ⟨(q1, q2), bb, c, Pl.wH es n k⟩ W2 hvv HBq2.out.size HRR.out.1 (by have := HRR.out.2.1; have := hvv.2.1; omega) ⟨rfl, rfl, rfl, HZI.out.below HBq2.out, HPO.out⟩ HHB.out HRR.out.2.2.1 HRR.out.2.2.2
              go_wp2_with fail
              rw [← HW2'.out]
              refine (HOF.out _ HOq.out).mono ?_
              rintro e w6 ⟨v6, hs6, rfl, ho6, hg6⟩
              have HO6 := hid ho6
              have HP6 : Hid (OwnP 44 w6 w2.heap.size (.slice (some ⟨b, off, none⟩) m pc) (Pl.tP es k)) := hid (World.ownsRow.kept HPq.out hg6 (apartPR HPq.out HOq.out.1))
              have HX6 : Hid (w6.heap[wr.heap.size]? = some (.cells #[.int .i64 c, .slice ah hl ch] 51)) := hid ((hg6.block _ (blockLt HXq.out) (apartBR HXq.out (by decide) HOq.out.1)).trans HXq.out)
              have HB6 : Hid (Below w2.heap.size w2 w6) := hid (HBq2.out.grown hg6 HBq2.out.size (fun i hi => (World.ownsRow.lt HOq.out.1 i hi).1))
              clear ho6 hg6
              go_wp2_with fail
              go_roundw
              case rel => exact ⟨j + 1, hs6, by omega, by go_num, hid (by rw [HSU.out]; exact HO6.out), HP6, HX6, HB6⟩
              case measure => simp [intOf]; omega
            · obtain rfl : j = m := by omega
              have HTK : Hid ((Pl.tP es k).take j = Pl.tP es k) := hid (List.take_of_length_le (by rw [HM.out]; exact Nat.le_refl _))
              go_wp2_with fail
              go_roundw
              case rel => exact ⟨k + 1, hs', by omega, by go_num, hid (by have := HOj.out; rw [HTK.out] at this; rw [HNX.out]; exact this), HBj⟩
              case measure => simp [intOf]; omega
      · obtain rfl : k = 12 := by omega
        go_wp2_with fail
        refine bodyPost_ret (results_tmp2 rfl _ _ _) rfl ⟨_, hs, ret_two rfl rfl, by rw [HTA.out]; exact HO.out.mono HB2.out.size, HB2.out.trans (HB.out.mono HB2.out.size)⟩
  · have HTA : Hid (Pl.tabA es f = []) := hid (by unfold Pl.tabA; rw [HCD.out, if_neg hcd])
    have hcd' : (cd != 0) = true := by simpa using hcd
    clear ho2 hf2 hb2 hcd
    go_wp2_with fail
    refine bodyPost_ret (results_tmp2 rfl _ _ _) rfl ⟨_, [], ret_two rfl rfl, by rw [HTA.out]; exact OwnTb.nil _ _, HB2.out⟩
end Go.Proofs.YtcdobhdbafpkiaeGreatDoor
/-
  Plain: a table that is patched by a difference is the one that was wanted; no program in sight.
-/
namespace Go.Proofs.YtcdobhdbafpkiaeGreatDoor
open Go.RowKit
set_option maxRecDepth 20000

theorem Pl.getR_filter {rs : List Pl.Rt} (hs : Pl.SrtR rs) (f : Pl.Rt → Bool) (q : Int × Int) : Pl.getR (rs.filter f) q = match Pl.getR rs q with | none => none | some r => if f r then some r else none := by
  cases h : Pl.getR rs q with
  | none =>
    refine Pl.getR_none fun r hr e => ?_
    have := Pl.getR_mem hs (List.mem_filter.1 hr).1
    rw [e, h] at this; cases this
  | some r =>
    obtain ⟨h1, h2⟩ := Pl.getR_some h
    show _ = if f r then some r else none
    split
    · rename_i g
      rw [← h2]
      exact Pl.getR_mem (Pl.filter_srt f hs) (List.mem_filter.2 ⟨h1, g⟩)
    · rename_i g
      refine Pl.getR_none fun x hx e => ?_
      obtain ⟨hx1, hx2⟩ := List.mem_filter.1 hx
      have := Pl.getR_mem hs hx1
      rw [e, h] at this
      cases this
      exact g hx2
theorem Pl.getR_inss : ∀ (ss rs : List Pl.Rt) (q : Int × Int), Pl.SrtR rs → Pl.SrtR ss → Pl.getR (Pl.inssR rs ss) q = match Pl.getR ss q with | none => Pl.getR rs q | some r => some r
  | [], rs, q, _, _ => rfl
  | x :: ss, rs, q, h, hs => by
    have hs' := hs
    unfold Pl.SrtR at hs
    rw [List.pairwise_cons] at hs
    show Pl.getR (Pl.inssR (Pl.insR rs x) ss) q = _
    rw [Pl.getR_inss ss _ q (Pl.insR_srt h) hs.2, Pl.getR_ins h]
    by_cases g : x.p = q
    · have e : Pl.getR ss q = none := Pl.getR_none fun r hr e => by
        have := hs.1 r hr
        rw [e, g, Pl.pltB_irrefl] at this; cases this
      rw [e]
      simp [Pl.getR, g]
    · simp only [Pl.getR, if_neg g]
theorem Pl.there_get {rs : List Pl.Rt} (hs : Pl.SrtR rs) (q : Int × Int) : Pl.thereP (rs.map Pl.Rt.p) q = (Pl.getR rs q).isSome := by
  rw [Pl.getR_there hs]
  cases Pl.thereP (rs.map Pl.Rt.p) q <;> simp
theorem Pl.kept_iff {a : List Pl.Rt} (hs : Pl.SrtR a) (r : Pl.Rt) : Pl.keptB a r = true ↔ Pl.getR a r.p = some r := by
  unfold Pl.keptB
  rw [Pl.getR_there hs]
  cases h : Pl.thereP (a.map Pl.Rt.p) r.p
  · simp
  · have h1 := Pl.thereP_eq h
    have h2 := Pl.thereP_lt h
    rw [Pl.pr_map a _ (by simpa using h2)] at h1
    generalize Pl.rt a (Pl.posP (a.map Pl.Rt.p) r.p) = x at *
    obtain ⟨xp, xh, xc, xl⟩ := x
    obtain ⟨rp, rh, rc, rl⟩ := r
    simp only at h1
    subst h1
    simp [Pl.sameR, and_assoc]
theorem Pl.setL_srt {a b : List Pl.Rt} (hb : Pl.SrtR b) : Pl.SrtR (Pl.setL a b) := Pl.filter_srt _ hb
/-- the patched table is the wanted one -/
theorem Pl.patR_diff {a b : List Pl.Rt} (ha : Pl.SrtR a) (hb : Pl.SrtR b) : Pl.patR a (Pl.setL a b) (Pl.goneL a b) = b := by
  unfold Pl.patR
  refine Pl.srtR_ext (Pl.inssR_srt _ _ (Pl.delsR_srt ha)) hb fun q => ?_
  rw [Pl.getR_inss _ _ q (Pl.delsR_srt ha) (Pl.setL_srt hb), Pl.delsR_filter _ _ ha, Pl.getR_filter ha]
  unfold Pl.setL
  rw [Pl.getR_filter hb]
  cases hy : Pl.getR b q with
  | none =>
    simp only
    cases hx : Pl.getR a q with
    | none => rfl
    | some r =>
      simp only
      rw [if_neg]
      simp only [decide_not, Bool.not_eq_true', decide_eq_false_iff_not, Decidable.not_not]
      obtain ⟨h1, h2⟩ := Pl.getR_some hx
      unfold Pl.goneL
      refine List.mem_map.2 ⟨r, List.mem_filter.2 ⟨h1, ?_⟩, rfl⟩
      rw [Pl.there_get hb, h2, hy]; rfl
  | some r =>
    obtain ⟨h1, h2⟩ := Pl.getR_some hy
    simp only
    cases hk : Pl.keptB a r
    · simp
    · have hx := (Pl.kept_iff ha r).1 hk
      rw [h2] at hx
      rw [hx]
      simp only [Bool.not_true, Bool.false_eq_true, if_false]
      rw [if_pos]
      simp only [decide_not, Bool.not_eq_true', decide_eq_false_iff_not]
      intro hm
      unfold Pl.goneL at hm
      obtain ⟨x, hx1, hx2⟩ := List.mem_map.1 hm
      obtain ⟨_, hx3⟩ := List.mem_filter.1 hx1
      rw [hx2, h2, Pl.there_get hb, hy] at hx3
      cases hx3
theorem Pl.setL_self {a : List Pl.Rt} (ha : Pl.SrtR a) : Pl.setL a a = [] := by
  unfold Pl.setL
  rw [List.filter_eq_nil_iff]
  intro r hr
  rw [(Pl.kept_iff ha r).2 (Pl.getR_mem ha hr)]; decide
theorem Pl.goneL_self {a : List Pl.Rt} (ha : Pl.SrtR a) : Pl.goneL a a = [] := by
  unfold Pl.goneL
  rw [List.map_eq_nil_iff, List.filter_eq_nil_iff]
  intro r hr
  rw [Pl.there_get ha, Pl.getR_mem ha hr]; simp
theorem Pl.patL_diff {a b : List Pl.Rt} (ha : Pl.tabF a = 0) (hb : Pl.tabF b = 0) : Pl.patC a (Pl.setL a b) (Pl.goneL a b) = 0 ∧ Pl.patL a (Pl.setL a b) (Pl.goneL a b) = b := by
  have e := Pl.patR_diff ((Pl.goodT_iff a).1 ha).2.2 ((Pl.goodT_iff b).1 hb).2.2
  unfold Pl.patC Pl.patL
  rw [if_pos ha, if_pos ha, e, hb]
  exact ⟨rfl, if_pos rfl⟩
end Go.Proofs.YtcdobhdbafpkiaeGreatDoor
/-
  Plain: the longest prefix of an address, and the cheapest node that tells it; no program in sight.
-/
namespace Go.Proofs.YtcdobhdbafpkiaeGreatDoor
open Go.RowKit
set_option maxRecDepth 20000

theorem Pl.mask_all : (List.range 9).all (fun b => (List.range 256).all fun x => decide (bits BinOp.andNot IntKind.i64 (x : Int) (255 / 2 ^ b) = (x : Int) - (x : Int) % Pl.span (b : Int))) = true := by decide +kernel
theorem Pl.mask_span {x b : Int} (hx : 0 ≤ x ∧ x ≤ 255) (hb : 0 ≤ b ∧ b ≤ 8) : bits BinOp.andNot IntKind.i64 x (255 / 2 ^ b.toNat) = x - x % Pl.span b := by
  have h := List.all_eq_true.1 Pl.mask_all b.toNat (List.mem_range.2 (by omega))
  have h2 := List.all_eq_true.1 h x.toNat (List.mem_range.2 (by omega))
  have h3 := of_decide_eq_true h2
  rw [show ((x.toNat : Nat) : Int) = x by omega, show ((b.toNat : Nat) : Int) = b by omega] at h3
  exact h3

/-- a node that is reached tells a prefix of an address -/
def Pl.Hit (C : Nat → Int) (x : Int) (k : Nat) (p : Int × Int) : Prop := 0 ≤ C k ∧ p.1 = x - x % Pl.span p.2
/-- what has been found among what was seen: the most bits, and the least cost of those -/
def Pl.Most (C : Nat → Int) (x : Int) (S : Nat → Int × Int → Prop) (b c : Int) : Prop :=
  (b = -1 ∧ c = -1 ∧ ∀ k p, S k p → ¬ Pl.Hit C x k p) ∨
  (0 ≤ b ∧ (∃ k p, S k p ∧ Pl.Hit C x k p ∧ p.2 = b ∧ C k = c) ∧ ∀ k p, S k p → Pl.Hit C x k p → p.2 < b ∨ (p.2 = b ∧ c ≤ C k))
theorem Pl.Most.miss {C x S b c} (h : Pl.Most C x S b c) {k : Nat} {p : Int × Int} (hn : ¬ Pl.Hit C x k p) : Pl.Most C x (fun k' p' => S k' p' ∨ (k' = k ∧ p' = p)) b c := by
  rcases h with ⟨h1, h2, h3⟩ | ⟨h1, ⟨k0, p0, g1, g2⟩, h3⟩
  · refine .inl ⟨h1, h2, ?_⟩
    rintro k' p' (h | ⟨rfl, rfl⟩)
    · exact h3 _ _ h
    · exact hn
  · refine .inr ⟨h1, ⟨k0, p0, .inl g1, g2⟩, ?_⟩
    rintro k' p' (h | ⟨rfl, rfl⟩) hh
    · exact h3 _ _ h hh
    · exact absurd hh hn
theorem Pl.Most.new {C x S b c} (h : Pl.Most C x S b c) {k : Nat} {p : Int × Int} (hy : Pl.Hit C x k p) (hp : 0 ≤ p.2) (hg : b < p.2 ∨ (p.2 = b ∧ C k < c)) : Pl.Most C x (fun k' p' => S k' p' ∨ (k' = k ∧ p' = p)) p.2 (C k) := by
  refine .inr ⟨hp, ⟨k, p, .inr ⟨rfl, rfl⟩, hy, rfl, rfl⟩, ?_⟩
  rintro k' p' (h' | ⟨rfl, rfl⟩) hh
  · rcases h with ⟨_, _, h3⟩ | ⟨_, _, h3⟩
    · exact absurd hh (h3 _ _ h')
    · rcases h3 _ _ h' hh with q | q <;> omega
  · exact .inr ⟨rfl, Int.le_refl _⟩
theorem Pl.Most.old {C x S b c} (h : Pl.Most C x S b c) {k : Nat} {p : Int × Int} (hp : 0 ≤ p.2) (hg : ¬ (b < p.2 ∨ (p.2 = b ∧ C k < c))) : Pl.Most C x (fun k' p' => S k' p' ∨ (k' = k ∧ p' = p)) b c := by
  rcases h with ⟨h1, h2, h3⟩ | ⟨h1, ⟨k0, p0, g1, g2⟩, h3⟩
  · omega
  · refine .inr ⟨h1, ⟨k0, p0, .inl g1, g2⟩, ?_⟩
    rintro k' p' (h' | ⟨rfl, rfl⟩) hh
    · exact h3 _ _ h' hh
    · omega
theorem Pl.Most.ext {C x S S' b c} (h : Pl.Most C x S b c) (e : ∀ k p, S k p ↔ S' k p) : Pl.Most C x S' b c := by
  have : S = S' := by funext k p; exact propext (e k p)
  rw [← this]; exact h
/-- seen: all prefixes of the first k nodes, and so many of the next one -/
def Pl.Seen (P : Nat → List (Int × Int)) (k j : Nat) : Nat → Int × Int → Prop := fun k' p => (k' < k ∧ p ∈ P k') ∨ (k' = k ∧ p ∈ (P k).take j)
theorem Pl.seen_succ {P : Nat → List (Int × Int)} {k j : Nat} (h : j < (P k).length) (k' : Nat) (p : Int × Int) : (Pl.Seen P k j k' p ∨ (k' = k ∧ p = Pl.pr (P k) j)) ↔ Pl.Seen P k (j + 1) k' p := by
  unfold Pl.Seen
  rw [List.take_add_one, List.getElem?_eq_getElem h, Pl.pr_eq (P k) j h]
  simp only [Option.toList_some, List.mem_append, List.mem_singleton]
  constructor
  · rintro ((h1 | ⟨h1, h2⟩) | ⟨h1, h2⟩)
    · exact .inl h1
    · exact .inr ⟨h1, .inl h2⟩
    · exact .inr ⟨h1, .inr h2⟩
  · rintro (h1 | ⟨h1, h2 | h2⟩)
    · exact .inl (.inl h1)
    · exact .inl (.inr ⟨h1, h2⟩)
    · exact .inr ⟨h1, h2⟩
theorem Pl.seen_next {P : Nat → List (Int × Int)} {k j : Nat} (h : (P k).length ≤ j) (k' : Nat) (p : Int × Int) : Pl.Seen P k j k' p ↔ Pl.Seen P (k + 1) 0 k' p := by
  unfold Pl.Seen
  rw [List.take_of_length_le h]
  constructor
  · rintro (⟨h1, h2⟩ | ⟨rfl, h2⟩)
    · exact .inl ⟨by omega, h2⟩
    · exact .inl ⟨by omega, h2⟩
  · rintro (⟨h1, h2⟩ | ⟨_, h2⟩)
    · rcases Nat.lt_or_ge k' k with g | g
      · exact .inl ⟨g, h2⟩
      · have e : k' = k := by omega
        subst e; exact .inr ⟨rfl, h2⟩
    · simp at h2
theorem Pl.most_start (C : Nat → Int) (x : Int) (P : Nat → List (Int × Int)) : Pl.Most C x (Pl.Seen P 0 0) (-1) (-1) := by
  refine .inl ⟨rfl, rfl, ?_⟩
  rintro k p (⟨h, _⟩ | ⟨_, h⟩)
  · omega
  · simp at h

/-- what stands at a prefix in a table: the least cost of those that tell it -/
theorem Pl.getT_min {C H P node} (q : Int × Int) : ∀ k, (Pl.getT C H P node q k = none ∧ ∀ n, n < k → C n < 0 ∨ ¬ q ∈ P n) ∨ (∃ a, Pl.getT C H P node q k = some a ∧ (∃ n, n < k ∧ 0 ≤ C n ∧ q ∈ P n ∧ a.cost = C n) ∧ ∀ n, n < k → 0 ≤ C n → q ∈ P n → a.cost ≤ C n)
  | 0 => .inl ⟨rfl, fun n h => by omega⟩
  | k + 1 => by
    have ih := Pl.getT_min (C := C) (H := H) (P := P) (node := node) q k
    by_cases g : C k < 0 ∨ ¬ q ∈ P k
    · have e : Pl.getT C H P node q (k + 1) = Pl.getT C H P node q k := by show (if _ then _ else _) = _; rw [if_pos g]
      rw [e]
      rcases ih with ⟨h1, h2⟩ | ⟨a, h1, ⟨n, n1, n2, n3, n4⟩, h3⟩
      · refine .inl ⟨h1, fun n hn => ?_⟩
        rcases Nat.lt_or_ge n k with q' | q'
        · exact h2 n q'
        · rw [show n = k by omega]; exact g
      · refine .inr ⟨a, h1, ⟨n, by omega, n2, n3, n4⟩, fun m hm hm2 hm3 => ?_⟩
        rcases Nat.lt_or_ge m k with q' | q'
        · exact h3 m q' hm2 hm3
        · rw [show m = k by omega] at hm2 hm3
          rcases g with g | g
          · omega
          · exact absurd hm3 g
    · have g1 : 0 ≤ C k := by omega
      have g2 : q ∈ P k := Decidable.byContradiction fun h => g (.inr h)
      have e : Pl.getT C H P node q (k + 1) = some (Pl.more (Pl.getT C H P node q k) (Pl.mkR C H node k q)) := by show (if _ then _ else _) = _; rw [if_neg g]
      right
      refine ⟨_, e, ?_⟩
      rcases ih with ⟨h1, h2⟩ | ⟨a, h1, ⟨n, n1, n2, n3, n4⟩, h3⟩
      · rw [h1]
        refine ⟨⟨k, by omega, g1, g2, rfl⟩, fun m hm hm2 hm3 => ?_⟩
        show C k ≤ C m
        rcases Nat.lt_or_ge m k with q' | q'
        · rcases h2 m q' with h | h
          · omega
          · exact absurd hm3 h
        · rw [show m = k by omega]; exact Int.le_refl _
      · rw [h1]
        have hb : (Pl.bestR a (Pl.mkR C H node k q)).cost = if C k < a.cost then C k else a.cost := by
          have e : (Pl.mkR C H node k q).cost = C k := rfl
          unfold Pl.bestR
          rw [e]
          by_cases hh : C k < a.cost
          · rw [if_pos hh, if_pos hh]; rfl
          · rw [if_neg hh, if_neg hh]; split <;> rfl
        show (∃ n, _ ∧ _ ∧ _ ∧ (Pl.bestR a (Pl.mkR C H node k q)).cost = C n) ∧ ∀ n, _ → _ → _ → (Pl.bestR a (Pl.mkR C H node k q)).cost ≤ C n
        rw [hb]
        split
        · rename_i hlt
          refine ⟨⟨k, by omega, g1, g2, rfl⟩, fun m hm hm2 hm3 => ?_⟩
          rcases Nat.lt_or_ge m k with q' | q'
          · have := h3 m q' hm2 hm3; omega
          · rw [show m = k by omega]; exact Int.le_refl _
        · rename_i hlt
          refine ⟨⟨n, by omega, n2, n3, n4⟩, fun m hm hm2 hm3 => ?_⟩
          rcases Nat.lt_or_ge m k with q' | q'
          · exact h3 m q' hm2 hm3
          · rw [show m = k by omega]; omega
/-- what the law TablesFind asks of what is found in a table -/
theorem Pl.find_most (es : List Pl.Ent) {f : Nat} (hf : f < 12) {x b c : Int} (hx : 0 ≤ x ∧ x ≤ 255) (h : Pl.Most (Pl.wC es f) x (Pl.Seen (Pl.tP es) 12 0) b c) :
    (b < 0 ∧ Pl.lookC (Pl.tabL es f) x = 6) ∨ (0 ≤ b ∧ Pl.lookC (Pl.tabL es f) x = 0 ∧ (Pl.lookR (Pl.tabL es f) x).p.2 = b ∧ (Pl.lookR (Pl.tabL es f) x).cost = c ∧ (Pl.lookR (Pl.tabL es f) x).here = decide (c = 0)) := by
  have hgood := Pl.tabL_good es hf
  have hft := Pl.tabL_fault es hf
  have hsrt := hgood.1.2.2
  have hbits : ∀ k p, p ∈ Pl.tP es k → (0 ≤ p.2 ∧ p.2 ≤ 8) := fun k p hp => (Pl.pfx1_zero ((Pl.rpS_good _).2.1 p hp)).1
  have hlk : Pl.lookC (Pl.tabL es f) x = (match Pl.lookN ((Pl.tabL es f).map Pl.Rt.p) x 9 with | some _ => 0 | none => 6) := by
    unfold Pl.lookC; rw [if_pos hft, if_pos hx]; cases Pl.lookN ((Pl.tabL es f).map Pl.Rt.p) x 9 <;> rfl
  have hlr : Pl.lookR (Pl.tabL es f) x = (match Pl.lookN ((Pl.tabL es f).map Pl.Rt.p) x 9 with | some i => Pl.rt (Pl.tabL es f) i | none => Pl.Rt.none) := by
    unfold Pl.lookR; rw [if_pos hft, if_pos hx]; cases Pl.lookN ((Pl.tabL es f).map Pl.Rt.p) x 9 <;> rfl
  have hth : ∀ n : Nat, Pl.thereP ((Pl.tabL es f).map Pl.Rt.p) (Pl.pfxAt x n) = true ↔ ∃ k, k < 12 ∧ 0 ≤ Pl.wC es f k ∧ Pl.pfxAt x n ∈ Pl.tP es k := by
    intro n
    rw [Pl.there_get hsrt, Pl.tabL_get]
    rcases Pl.getT_min (C := Pl.wC es f) (H := Pl.wH es f) (P := Pl.tP es) (node := f) (Pl.pfxAt x n) 12 with ⟨h1, h2⟩ | ⟨a, h1, ⟨k, n1, n2, n3, n4⟩, h3⟩
    · rw [h1]
      constructor
      · intro h; cases h
      · rintro ⟨k, k1, k2, k3⟩
        rcases h2 k k1 with q | q
        · omega
        · exact absurd k3 q
    · rw [h1]
      exact ⟨fun _ => ⟨k, n1, n2, n3⟩, fun _ => rfl⟩
  have hseen : ∀ k p, k < 12 → p ∈ Pl.tP es k → Pl.Seen (Pl.tP es) 12 0 k p := fun k p h1 h2 => .inl ⟨h1, h2⟩
  have hof : ∀ k p, Pl.Seen (Pl.tP es) 12 0 k p → k < 12 ∧ p ∈ Pl.tP es k := by
    rintro k p (h | ⟨_, h⟩)
    · exact h
    · simp at h
  have hpa : ∀ p : Int × Int, 0 ≤ p.2 → p.1 = x - x % Pl.span p.2 → p = Pl.pfxAt x p.2.toNat := by
    intro p h1 h2
    unfold Pl.pfxAt
    rw [show ((p.2.toNat : Nat) : Int) = p.2 by omega, ← h2]
  rcases h with ⟨h1, h2, h3⟩ | ⟨h1, ⟨k0, p0, s0, ⟨y0, y1⟩, y2, y3⟩, h3⟩
  · left
    refine ⟨by omega, ?_⟩
    rw [hlk]
    have hno : ∀ n, Pl.lookN ((Pl.tabL es f).map Pl.Rt.p) x n = none := by
      intro n
      induction n with
      | zero => rfl
      | succ n ih =>
        show (if _ then _ else _) = _
        rw [if_neg ?_]
        · exact ih
        · intro ht
          obtain ⟨k, k1, k2, k3⟩ := (hth n).1 ht
          exact h3 k _ (hseen k _ k1 k3) ⟨k2, rfl⟩
    rw [hno]
  · right
    have hm := hof _ _ s0
    have hbb := hbits k0 p0 hm.2
    have hp0 := hpa p0 hbb.1 y1
    obtain ⟨m, hmb⟩ : ∃ m : Nat, b = m := ⟨b.toNat, by omega⟩
    have hpm : p0 = Pl.pfxAt x m := by rw [hp0]; congr 1; omega
    have ht : Pl.thereP ((Pl.tabL es f).map Pl.Rt.p) (Pl.pfxAt x m) = true := (hth m).2 ⟨k0, hm.1, y0, by rw [← hpm]; exact hm.2⟩
    have hup : ∀ n, m < n → n ≤ 9 → Pl.lookN ((Pl.tabL es f).map Pl.Rt.p) x n = some (Pl.posP ((Pl.tabL es f).map Pl.Rt.p) (Pl.pfxAt x m)) := by
      intro n
      induction n with
      | zero => intro h; omega
      | succ n ih =>
        intro hn hn9
        show (if _ then _ else _) = _
        by_cases e : n = m
        · subst e; rw [if_pos ht]
        · rw [if_neg ?_]
          · exact ih (by omega) (by omega)
          · intro ht'
            obtain ⟨k, k1, k2, k3⟩ := (hth n).1 ht'
            rcases h3 k _ (hseen k _ k1 k3) ⟨k2, rfl⟩ with q | ⟨q, _⟩
            · have : (n : Int) < b := q
              omega
            · have : (n : Int) = b := q
              omega
    have hl9 := hup 9 (by omega) (Nat.le_refl _)
    rw [hlk, hlr, hl9]
    have hg := Pl.getR_there hsrt (Pl.pfxAt x m)
    rw [if_pos ht] at hg
    have hgt := hg
    rw [Pl.tabL_get] at hgt
    obtain ⟨r, hr⟩ : ∃ r, Pl.rt (Pl.tabL es f) (Pl.posP ((Pl.tabL es f).map Pl.Rt.p) (Pl.pfxAt x m)) = r := ⟨_, rfl⟩
    simp only [hr] at hg hgt ⊢
    obtain ⟨hmem, hrp⟩ := Pl.getR_some hg
    have hok := (hgood.2 r hmem).2
    have hcost : r.cost = c := by
      rcases Pl.getT_min (C := Pl.wC es f) (H := Pl.wH es f) (P := Pl.tP es) (node := f) (Pl.pfxAt x m) 12 with ⟨g1, _⟩ | ⟨a, g1, ⟨k, n1, n2, n3, n4⟩, g3⟩
      · rw [g1] at hgt; cases hgt
      · rw [g1] at hgt
        cases hgt
        have a1 := g3 k0 hm.1 y0 (by rw [← hpm]; exact hm.2)
        rcases h3 k _ (hseen k _ n1 n3) ⟨n2, rfl⟩ with q | ⟨_, q⟩
        · have : (m : Int) < b := q
          omega
        · omega
    refine ⟨h1, trivial, ?_, hcost, ?_⟩
    · rw [hrp]; show (m : Int) = b; omega
    · rw [hok, hcost]
end Go.Proofs.YtcdobhdbafpkiaeGreatDoor
/-
  Small facts that the opening of parameters needs.
-/
namespace Go.Proofs.YtcdobhdbafpkiaeGreatDoor
open Go.ChangeShapes Go.WideShapes Go.ChangeAt Go.RowKit
set_option maxRecDepth 20000

theorem cell_lt {W : World} {x : Addr} {v : Value} (h : W.cell? x = some v) : x.block < W.heap.size := by
  rcases Nat.lt_or_ge x.block W.heap.size with h' | h'
  · exact h'
  · simp [World.cell?, Array.getElem?_eq_none h'] at h

theorem own : ownKnob Tryz.prog.godebug = none := by kernel_rfl
theorem laidOut : laidOutB Tryz.prog = true := by kernel_rfl
end Go.Proofs.YtcdobhdbafpkiaeGreatDoor
/-
  What a parameter holds when it is read as data: an entry, a slice of entries.
-/
namespace Go.Proofs.YtcdobhdbafpkiaeGreatDoor
open Go.ChangeShapes Go.WideShapes Go.ChangeAt Go.RowKit
set_option maxRecDepth 20000

theorem cellsEntry : Tryz.prog.cellsOf 74 = 4 := by kernel_rfl

theorem entry_of_trod {H : Type} {enc : TypeId × Value → H} {w : World} {base : Nat} {spare : Nat → Bool} {held : Bool} {n : Nat} {cs : List Value} {x : DataW H × List MemPlace}
    (h : DataW.trod enc Tryz.prog w base spare held n 74 cs = some x) : ∃ e : Pl.Ent, cs = [.string e.key, .int .i64 e.ver, .int .i64 e.org, .string e.val] ∧ e.ok := by
  obtain ⟨y0, y1, y2, y3, m, _, hl, h0, h1, h2, h3⟩ := Go.Joins.trod_struct4 Tryz.underlying74 h
  rw [cellsEntry] at hl
  match cs, hl with
  | [c0, c1, c2, c3], _ =>
    have e9 : Tryz.prog.cellsOf 9 = 1 := by kernel_rfl
    have e3 : Tryz.prog.cellsOf 3 = 1 := by kernel_rfl
    simp only [e9, e3] at h0 h1 h2 h3
    obtain ⟨s0, a0, _, b0⟩ := DataW.trod_string Tryz.underlying9 h0
    obtain ⟨s1, a1, _, b1⟩ := DataW.trod_int Tryz.underlying3 h1
    obtain ⟨s2, a2, _, b2⟩ := DataW.trod_int Tryz.underlying3 h2
    obtain ⟨s3, a3, _, b3⟩ := DataW.trod_string Tryz.underlying9 h3
    simp at a0 a1 a2 a3
    subst a0 a1 a2 a3
    exact ⟨⟨s0, s1, s2, s3⟩, rfl, b0, b1, b2, b3⟩

theorem open_ent {H : Type} {enc : TypeId × Value → H} {w : World} {r : Reach} {b0 base : Nat} {spare : Nat → Bool} {held : Bool} {v : Value} {d : DataW H} {p : List MemPlace}
    (hv : Value.okWide Tryz.prog w r b0 74 v) (h : DataW.Trod enc Tryz.prog w base spare held 74 v d p) :
    ∃ e : Pl.Ent, v = .agg #[.string e.key, .int .i64 e.ver, .int .i64 e.org, .string e.val] ∧ e.ok := by
  obtain ⟨fuel, hf⟩ := h
  obtain ⟨cs, rfl, hsz⟩ := okWide_struct Tryz.underlying74 hv
  obtain ⟨e, he, hok⟩ := entry_of_trod hf
  refine ⟨e, ?_, hok⟩
  simp [Value.cells] at he
  rw [← he]

theorem open_ents {H : Type} {enc : TypeId × Value → H} {w : World} {r : Reach} {b0 : Nat} {held : Bool} {v : Value} {d : DataW H} {p : List MemPlace}
    (hv : Value.okWide Tryz.prog w r b0 22 v) (h : DataW.Trod enc Tryz.prog w 0 (fun _ => true) held 22 v d p) :
    ∃ a len cap es, v = .slice a len cap ∧ IsEnts w a len cap es := by
  obtain ⟨a, len, cap, rfl⟩ := okWide_slice Tryz.underlying22 hv
  obtain ⟨fuel, hf⟩ := h
  rcases Go.Deep.open_slice Tryz.underlying22 hf with ⟨hcs, _⟩ | ⟨x, l, c, m, n, D, Q, hcs, _, hl, hm, hmm, _, hx⟩
  · simp [Value.cells] at hcs
    obtain ⟨rfl, rfl, rfl⟩ := hcs
    exact ⟨_, _, _, [], rfl, rfl, Nat.le_refl _, by simp, by simp, .inl rfl⟩
  · simp [Value.cells] at hcs
    obtain ⟨rfl, rfl, rfl⟩ := hcs
    simp only [if_true] at hmm
    subst hmm
    rw [cellsEntry] at hx
    have hx' : ∀ i, i < len → ∃ e : Pl.Ent, w.cells? 0 (x.add (i * 4)) 4 = some [.string e.key, .int .i64 e.ver, .int .i64 e.org, .string e.val] ∧ e.ok := by
      intro i hi
      obtain ⟨cs', h1, h2⟩ := hx i (by omega)
      obtain ⟨e, rfl, hok⟩ := entry_of_trod h2
      exact ⟨e, h1, hok⟩
    obtain ⟨F, hF⟩ := @Go.Deep.choose_lt Pl.Ent ⟨Pl.Ent.none⟩ len _ hx'
    have hlen : ((List.range len).map F).length = len := by simp
    have hent : ∀ i, i < len → Pl.ent ((List.range len).map F) i = F i := by
      intro i hi
      rw [Pl.ent_eq _ _ (by simpa using hi)]; simp
    refine ⟨_, _, _, (List.range len).map F, rfl, hlen, hl, hm, ?_, ?_⟩
    · intro e he
      simp only [List.mem_map, List.mem_range] at he
      obtain ⟨i, hi, rfl⟩ := he
      exact (hF i hi).2
    · rcases Nat.eq_zero_or_pos len with h0 | hpos
      · subst h0; exact .inl rfl
      · right
        obtain ⟨b, off, spot⟩ := x
        have hc0 := (World.cells?_some (hF 0 hpos).1).2.2 0 (by omega)
        simp only [List.getElem?_cons_zero] at hc0
        have hsp : spot = none := by simpa [Addr.add] using World.cell?_spot hc0
        subst hsp
        refine ⟨b, off, rfl, ?_, ?_⟩
        · have := cell_lt hc0; simpa [Addr.add] using this
        · intro i hi
          rw [hlen] at hi
          rw [hent i hi]
          have hc := (World.cells?_some (hF i hi).1).2.2
          have c0 := hc 0 (by omega)
          have c1 := hc 1 (by omega)
          have c2 := hc 2 (by omega)
          have c3 := hc 3 (by omega)
          simp only [add_none, List.getElem?_cons_zero, List.getElem?_cons_succ, Nat.add_zero] at c0 c1 c2 c3
          exact ⟨c0, c1, c2, c3⟩

theorem open_ents_sized {H : Type} {enc : TypeId × Value → H} {w : World} {r : Reach} {b0 : Nat} {held : Bool} {v : Value} {d : DataW H} {p : List MemPlace}
    (hv : Value.okWide Tryz.prog w r b0 22 v) (h : DataW.Trod enc Tryz.prog w 0 (fun _ => true) held 22 v d p) :
    ∃ a len cap es, v = .slice a len cap ∧ IsEnts w a len cap es ∧ (a = none → cap = 0) ∧ ((d = .nil ∧ len = 0) ∨ ∃ el sp, d = .slice el sp ∧ el.length = len) := by
  obtain ⟨a, len, cap, es, rfl, hE⟩ := open_ents hv h
  refine ⟨a, len, cap, es, rfl, hE, ?_⟩
  obtain ⟨fuel, hf⟩ := h
  rcases Go.Deep.open_slice Tryz.underlying22 hf with ⟨hcs, hx⟩ | ⟨x, l, c, m, n, D, Q, hcs, _, hl, hm, hmm, hx, _⟩
  · simp [Value.cells] at hcs
    obtain ⟨rfl, rfl, rfl⟩ := hcs
    simp only [Prod.mk.injEq] at hx
    exact ⟨fun _ => rfl, .inl ⟨hx.1, rfl⟩⟩
  · simp [Value.cells] at hcs
    obtain ⟨rfl, rfl, rfl⟩ := hcs
    simp only [Prod.mk.injEq] at hx
    exact ⟨by simp, .inr ⟨_, _, hx.1, by simp⟩⟩
end Go.Proofs.YtcdobhdbafpkiaeGreatDoor
/-
  What a parameter holds when it is read as data: a slice of raw things.
-/
namespace Go.Proofs.YtcdobhdbafpkiaeGreatDoor
open Go.ChangeShapes Go.WideShapes Go.ChangeAt Go.RowKit
set_option maxRecDepth 20000

theorem cellsRaw : Tryz.prog.cellsOf 65 = 4 := by kernel_rfl
theorem raw_of_trod {H : Type} {enc : TypeId × Value → H} {w : World} {base : Nat} {spare : Nat → Bool} {held : Bool} {n : Nat} {cs : List Value} {x : DataW H × List MemPlace}
    (h : DataW.trod enc Tryz.prog w base spare held n 65 cs = some x) : ∃ k0 k1 k2 k3 : Int, cs = [.int .i64 k0, .int .i64 k1, .int .i64 k2, .int .i64 k3] ∧
      (Lit.int .i64 k0).wf = true ∧ (Lit.int .i64 k1).wf = true ∧ (Lit.int .i64 k2).wf = true ∧ (Lit.int .i64 k3).wf = true := by
  obtain ⟨y0, y1, y2, y3, m, _, hl, h0, h1, h2, h3⟩ := Go.Joins.trod_struct4 Tryz.underlying65 h
  rw [cellsRaw] at hl
  match cs, hl with
  | [c0, c1, c2, c3], _ =>
    have e3 : Tryz.prog.cellsOf 3 = 1 := by kernel_rfl
    simp only [e3] at h0 h1 h2 h3
    obtain ⟨s0, a0, _, b0⟩ := DataW.trod_int Tryz.underlying3 h0
    obtain ⟨s1, a1, _, b1⟩ := DataW.trod_int Tryz.underlying3 h1
    obtain ⟨s2, a2, _, b2⟩ := DataW.trod_int Tryz.underlying3 h2
    obtain ⟨s3, a3, _, b3⟩ := DataW.trod_int Tryz.underlying3 h3
    simp at a0 a1 a2 a3
    subst a0 a1 a2 a3
    exact ⟨s0, s1, s2, s3, rfl, b0, b1, b2, b3⟩

theorem open_raw {H : Type} {enc : TypeId × Value → H} {w : World} {r : Reach} {b0 base : Nat} {spare : Nat → Bool} {held : Bool} {v : Value} {d : DataW H} {p : List MemPlace}
    (hv : Value.okWide Tryz.prog w r b0 65 v) (h : DataW.Trod enc Tryz.prog w base spare held 65 v d p) :
    ∃ k0 k1 k2 k3 : Int, v = .agg #[.int .i64 k0, .int .i64 k1, .int .i64 k2, .int .i64 k3] ∧
      ((Lit.int .i64 k0).wf = true ∧ (Lit.int .i64 k1).wf = true ∧ (Lit.int .i64 k2).wf = true ∧ (Lit.int .i64 k3).wf = true) := by
  obtain ⟨fuel, hf⟩ := h
  obtain ⟨cs, rfl, hsz⟩ := okWide_struct Tryz.underlying65 hv
  obtain ⟨k0, k1, k2, k3, he, hw⟩ := raw_of_trod hf
  refine ⟨k0, k1, k2, k3, ?_, hw⟩
  simp [Value.cells] at he
  rw [← he]

theorem open_raws {H : Type} {enc : TypeId × Value → H} {w : World} {r : Reach} {b0 : Nat} {held : Bool} {v : Value} {d : DataW H} {p : List MemPlace}
    (hv : Value.okWide Tryz.prog w r b0 29 v) (h : DataW.Trod enc Tryz.prog w 0 (fun _ => true) held 29 v d p) :
    ∃ a len cap, v = .slice a len cap ∧ IsRaws w a len cap := by
  obtain ⟨a, len, cap, rfl⟩ := okWide_slice Tryz.underlying29 hv
  obtain ⟨fuel, hf⟩ := h
  rcases Go.Deep.open_slice Tryz.underlying29 hf with ⟨hcs, _⟩ | ⟨x, l, c, m, n, D, Q, hcs, _, hl, hm, hmm, _, hx⟩
  · simp [Value.cells] at hcs
    obtain ⟨rfl, rfl, rfl⟩ := hcs
    exact ⟨_, _, _, rfl, Nat.le_refl _, by simp, .inl rfl⟩
  · simp [Value.cells] at hcs
    obtain ⟨rfl, rfl, rfl⟩ := hcs
    simp only [if_true] at hmm
    subst hmm
    rw [cellsRaw] at hx
    refine ⟨_, _, _, rfl, hl, hm, ?_⟩
    rcases Nat.eq_zero_or_pos len with h0 | hpos
    · exact .inl h0
    · right
      obtain ⟨b, off, spot⟩ := x
      obtain ⟨cs0, g1, g2⟩ := hx 0 (by omega)
      obtain ⟨k0, k1, k2, k3, rfl, _⟩ := raw_of_trod g2
      have hc0 := (World.cells?_some g1).2.2 0 (by omega)
      simp only [List.getElem?_cons_zero] at hc0
      have hsp : spot = none := by simpa [Addr.add] using World.cell?_spot hc0
      subst hsp
      refine ⟨b, off, rfl, ?_, ?_⟩
      · have := cell_lt hc0; simpa [Addr.add] using this
      · intro i hi
        obtain ⟨cs1, f1, f2⟩ := hx i (by omega)
        obtain ⟨k0, k1, k2, k3, rfl, hw⟩ := raw_of_trod f2
        have hc := (World.cells?_some f1).2.2
        have c0 := hc 0 (by omega)
        have c1 := hc 1 (by omega)
        have c2 := hc 2 (by omega)
        have c3 := hc 3 (by omega)
        simp only [add_none, List.getElem?_cons_zero, List.getElem?_cons_succ, Nat.add_zero] at c0 c1 c2 c3
        exact ⟨k0, k1, k2, k3, ⟨c0, c1, c2, c3⟩, hw⟩
end Go.Proofs.YtcdobhdbafpkiaeGreatDoor
