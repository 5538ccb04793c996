/-
  Contracts: a copy of a list of bytes; one byte of a row of the call's own changed.
-/
import Derived.Test.YtcdobhdbafpkiadBytes
import Derived.Test.YtcdobhdbafpkiadRaw2
import Derived.Laws.Cover3
namespace Go.Proofs.Ytcdobhdbafpkiad
open Go.RowKit
set_option maxRecDepth 20000

set_option maxHeartbeats 1000000 in
theorem CloneB_any (ad : Addr) (len cap : Nat) (bs : List UInt8) (w : World) (h : IsBytes w (some ad) len cap bs) (hb : len ≤ 140737488351232) :
    Calls Try.prog 21 #[.slice (some ad) len cap] w fun e w' => ∃ v, e = .returned v ∧ OwnB w' w.heap.size v bs ∧ Below w.heap.size w w' := by
  have HH := hid h
  have hbA : Below w.heap.size w (w.alloc (.cells #[] 5)) := (Below.refl _ _).alloc (Nat.le_refl _) _
  have HO : Hid (OwnB (w.alloc (.cells #[] 5)) w.heap.size (.slice (some ⟨w.heap.size, 0, none⟩) 0 0) []) := by
    refine hid ⟨rfl, .inr ⟨w.heap.size, 0, #[], rfl, Nat.le_refl _, ?_, Nat.le_refl _, by decide, rfl, rfl⟩⟩
    show (w.heap.push _)[w.heap.size]? = _
    simp
  have HI := hid (HH.out.below hbA)
  have HB := hid hbA
  clear h hbA
  have hnil : ∀ W, (binOp .eql 43 (.slice (some ad) len cap) (.slice none 0 0)).run Try.prog W = .ok (.bool false) W := fun W => by
    simp only [binOp]
    simp [run_equal_slice_nil W 43 5 (some ad) len cap Try.underlying43]
  go_enter Try.func21, Try.ntmps21
  go_wp2_with (at_builtin; (refine append_bs rfl (.tmp 5) (.tmp 6) rfl w.heap.size (.slice (some ⟨w.heap.size, 0, none⟩) 0 0) [] (some ad) len cap bs rfl HO.out (by simp) rfl HI.out (by intro h; cases h) (by simp; omega) ?_); intro v5 w5 ho5 hk5)
  go_ret
  exact ⟨_, rfl, by simpa using ho5, HB.out.trans hk5.1⟩

theorem OwnB.opened {w : World} {base : Nat} {v : Value} {bs : List UInt8} (h : OwnB w base v bs) (hne : 0 < bs.length) :
    ∃ g cap, v = .slice (some ⟨g, 0, none⟩) bs.length cap ∧ base ≤ g ∧ g < w.heap.size ∧ bs.length ≤ cap ∧ cap ≤ maxLen ∧
      (∀ (i : Nat) (hi : i < bs.length), w.cell? ⟨g, i, none⟩ = some (.int .u8 (bs[i].toNat : Int)) ∧ w.frozen? ⟨g, i, none⟩ = false) ∧
      (∀ (i : Nat) (x : UInt8), OwnB (w.setCell ⟨g, i, none⟩ (.int .u8 (x.toNat : Int))) base v (bs.set i x)) := by
  obtain ⟨hl, h | ⟨g, cap, cur, rfl, hb, hh, hn, hm, hs, hx⟩⟩ := h
  · obtain ⟨_, hn⟩ := h; omega
  · refine ⟨g, cap, rfl, hb, lt_of_block hh, hn, hm, ?_, ?_⟩
    · intro i hi
      constructor
      · have hj : (bcells bs)[i]? = some (.int .u8 (bs[i].toNat : Int)) := by simp [bcells, hi]
        rw [← hx] at hj
        have hj' : cur[i]? = some (.int .u8 (bs[i].toNat : Int)) := by
          rw [List.getElem?_take] at hj
          split at hj
          · rw [← Array.getElem?_toList]; exact hj
          · cases hj
        simp [World.cell?, hh, hj']
      · simp [World.frozen?, hh]
    · intro i x
      refine ⟨by simp [bcells], .inr ⟨g, cap, cur.setIfInBounds i (.int .u8 (x.toNat : Int)), by simp, hb, rblk_set hh, by simpa using hn, hm, by simpa using hs, ?_⟩⟩
      rw [Array.toList_setIfInBounds, List.take_set, List.length_set, hx]
      simp [bcells]
end Go.Proofs.Ytcdobhdbafpkiad
