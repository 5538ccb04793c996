/-
  Contracts: two tables that are the same, two lists of the same prefixes, are told the same (the law's own sameTable, samePrefixes).
-/
import Derived.Test.YtcdobhdbafpkiaeRib9
import Derived.Test.YtcdobhdbafpkiaeRib2
namespace Go.Proofs.Ytcdobhdbafpkiae
open Go.RowKit

set_option maxHeartbeats 2000000 in
theorem sameTable_law (a : Option Addr) (len ca : Nat) (hs : List Pl.RH) (b : Option Addr) (cb : Nat) (gs : List Pl.RH) (rs : List Pl.Rt) (w : World) (h1 : IsRows w a len ca hs) (d1 : ReadsAll w hs rs) (h2 : IsRows w b len cb gs) (d2 : ReadsAll w gs rs) :
    Calls Try.prog 14 #[.slice a len ca, .slice b len cb] w fun e w' => e = .returned (.bool true) ∧ Below w.heap.size w w' := by
  have H1 := hid h1
  have D1 := hid d1
  have H2 := hid h2
  have D2 := hid d2
  have HL1 : Hid (hs.length = len) := hid h1.1
  have HL2 : Hid (gs.length = len) := hid h2.1
  have hc1 := h1.2.1
  have hm1 := h1.2.2.1
  have hc2 := h2.2.1
  have hm2 := h2.2.2.1
  unfold maxLen at hm1 hm2
  clear h1 d1 h2 d2
  go_enter Try.func14, Try.ntmps14
  go_wp2_with fail
  go_loopw [5] (fun i wr => ∃ k : Nat, k ≤ len ∧ i = .int .i64 k ∧ Hid (Below w.heap.size w wr)) (fun i _ => len - (intOf i).toNat)
  case atStart => exact ⟨0, Nat.zero_le _, rfl, Below.refl _ _⟩
  case round =>
    obtain ⟨k, hk, rfl, HB⟩ := hrel
    by_cases hlt : k < len
    · obtain ⟨b1, o1, rfl, hb1, hr1⟩ := H1.out.at hlt
      obtain ⟨b2, o2, rfl, hb2, hr2⟩ := H2.out.at hlt
      obtain ⟨c0, c1, c2, c3, c4⟩ := hr1.below hb1 HB.out k (by rw [HL1.out]; exact hlt)
      obtain ⟨d0, d1, d2, d3, d4⟩ := hr2.below hb2 HB.out k (by rw [HL2.out]; exact hlt)
      have HR1 := hid ((D1.out.2 k (by rw [HL1.out]; exact hlt)).below HB.out)
      have HR2 := hid ((D2.out.2 k (by rw [HL2.out]; exact hlt)).below HB.out)
      generalize Pl.rh hs k = g at *
      generalize Pl.rh gs k = h at *
      generalize Pl.rt rs k = r at *
      clear hr1 hr2
      have hz := HB.out.size
      have l1 : b1 < wr.heap.size := by omega
      have l2 : b2 < wr.heap.size := by omega
      have hlt' : (k : Int) < (len : Int) := by omega
      go_wp2_with fail
      have i0 := in_cell l1 c0
      have i1 := in_cell l1 c1
      have i2 := in_cell l1 c2
      have i3 := in_cell l1 c3
      have i4 := in_cell l1 c4
      have j0 := in_cell l2 d0
      have j1 := in_cell l2 d1
      have j2 := in_cell l2 d2
      have j3 := in_cell l2 d3
      have j4 := in_cell l2 d4
      have HAA := hid (fun x : WIn wr => sameRoute_law g h r x.w (HR1.out.below x.h) (HR2.out.below x.h))
      have hne := in_some wr
      clear c0 c1 c2 c3 c4 d0 d1 d2 d3 d4
      refine wp_region_in (by kernel_rfl) (by kernel_rfl) ?_
      repeat (go_big_quiet_step ((go_at_call 11; exact in_call (HAA.out _))))
      refine wpQuiet_nil ?_
      intro w5 hw'
      have hb5 := in_out hw'
      clear hw' i0 i1 i2 i3 i4 j0 j1 j2 j3 j4 hne
      go_wp2_with fail
      go_roundw
      case rel => exact ⟨k + 1, by omega, by go_num, HB.out.trans (hb5.mono hz)⟩
      case measure => simp [intOf]; omega
    · obtain rfl : k = len := by omega
      go_wp2_with fail
      go_ret
      exact ⟨rfl, HB.out⟩

set_option maxHeartbeats 2000000 in
theorem samePrefixes_law (a : Option Addr) (len ca : Nat) (b : Option Addr) (cb : Nat) (ps : List (Int × Int)) (w : World) (h1 : IsPairs w a len ca ps) (h2 : IsPairs w b len cb ps) :
    Calls Try.prog 15 #[.slice a len ca, .slice b len cb] w fun e w' => e = .returned (.bool true) ∧ Below w.heap.size w w' := by
  obtain ⟨hl, hc, hm, _, hrow⟩ := h1
  obtain ⟨_, hc', hm', _, hrow'⟩ := h2
  unfold maxLen at hm hm'
  have HL := hid hl
  have HROW := hid hrow
  have HROW' := hid hrow'
  clear hl hrow hrow'
  go_enter Try.func15, Try.ntmps15
  go_wp2_with fail
  go_loopw [5] (fun i wr => ∃ k : Nat, k ≤ len ∧ i = .int .i64 k ∧ Hid (Below w.heap.size w wr)) (fun i _ => len - (intOf i).toNat)
  case atStart => exact ⟨0, Nat.zero_le _, rfl, hid (Below.refl _ _)⟩
  case round =>
    obtain ⟨k, hk, rfl, HB⟩ := hrel
    by_cases hlt : k < len
    · obtain ⟨b1, o1, rfl, hb1, hr1⟩ : ∃ b off, a = some ⟨b, off, none⟩ ∧ b < w.heap.size ∧ PairsAt w b off ps := by
        rcases HROW.out with rfl | h
        · have := HL.out; simp at this; omega
        · exact h
      obtain ⟨b2, o2, rfl, hb2, hr2⟩ : ∃ b' off, b = some ⟨b', off, none⟩ ∧ b' < w.heap.size ∧ PairsAt w b' off ps := by
        rcases HROW'.out with rfl | h
        · have := HL.out; simp at this; omega
        · exact h
      obtain ⟨c0, c1⟩ := hr1.below hb1 HB.out k (by rw [HL.out]; exact hlt)
      obtain ⟨e0, e1⟩ := hr2.below hb2 HB.out k (by rw [HL.out]; exact hlt)
      clear hr1 hr2
      generalize Pl.pr ps k = y at *
      obtain ⟨y0, y2⟩ := y
      simp only at c0 c1 e0 e1
      have hlt' : (k : Int) < (len : Int) := by omega
      go_wp2_with fail
      go_quiet (fail)
      go_wp2_with fail
      go_roundw
      case rel => exact ⟨k + 1, by omega, by go_num, hid (below_drew HB.out _)⟩
      case measure => simp [intOf]; omega
    · obtain rfl : k = len := by omega
      go_wp2_with fail
      go_ret
      exact ⟨rfl, HB.out⟩
end Go.Proofs.Ytcdobhdbafpkiae
