/-
  Contract: which of two prefixes comes first.
-/
import Derived.Test.YtcdobhdbafpkiadDoorPfx
import Derived.Test.YtcdobhdbafpkiadDoorInv
namespace Go.Proofs.YtcdobhdbafpkiadDoor
open Go.RowKit
set_option maxRecDepth 20000

def PF (p1 p2 q1 q2 c1 c2 r : Int) (R : Nat) (w : World) : Nat → Value → Prop
  | 0, v => v = .pointer (some ⟨R, 0, none⟩)
  | 1, v => v = .int .i64 p1
  | 2, v => v = .pointer (some ⟨R + 1, 0, none⟩)
  | 3, v => v = .int .i64 q1
  | 4, v => v = .int .i64 c1
  | 5, v => v = .pointer (some ⟨R, 1, none⟩)
  | 6, v => v = .int .i64 p2
  | 7, v => v = .pointer (some ⟨R + 1, 1, none⟩)
  | 8, v => v = .int .i64 q2
  | 9, v => v = .int .i64 c2
  | 10, v => ∃ b, v = .slice (some ⟨b, 0, none⟩) 2 2 ∧ b < w.heap.size ∧ w.cell? ⟨b, 0, none⟩ = some (.int .i64 c1) ∧ w.cell? ⟨b, 1, none⟩ = some (.int .i64 c2)
  | 11, v => v = .int .i64 r
  | _, _ => True
theorem PF.mono {p1 p2 q1 q2 c1 c2 r : Int} {R : Nat} {w w' : World} {k : Nat} {v : Value} (h : PF p1 p2 q1 q2 c1 c2 r R w k v) (hb : Below w.heap.size w w') : PF p1 p2 q1 q2 c1 c2 r R w' k v := by
  have hz := hb.size
  match k, h with
  | 10, ⟨b, h1, h2, h3, h4⟩ => exact ⟨b, h1, by omega, ((bcell hb).1 b 0 h2).trans h3, ((bcell hb).1 b 1 h2).trans h4⟩
  | 0, h => exact h
  | 1, h => exact h
  | 2, h => exact h
  | 3, h => exact h
  | 4, h => exact h
  | 5, h => exact h
  | 6, h => exact h
  | 7, h => exact h
  | 8, h => exact h
  | 9, h => exact h
  | 11, h => exact h
  | n + 12, h => exact h
structure PInv (p1 p2 q1 q2 c1 c2 r : Int) (R : Nat) (W0 : World) (listed : Array Bool) (a : Act) (w : World) : Prop where
  ls : listed.size = 13
  sz : a.tmps.size = 17
  df : a.defers = []
  s2 : a.tmps[2]?.getD undef = .pointer (some ⟨R, 0, none⟩)
  s3 : a.tmps[3]?.getD undef = .pointer (some ⟨R + 1, 0, none⟩)
  f : ∀ k, k < 12 → listed.getD k false = true → PF p1 p2 q1 q2 c1 c2 r R w k (a.tmps[k + 5]?.getD undef)
  nb : Below W0.heap.size W0 w
  dn : listed.getD 12 false = true → a.tmps[4]?.getD undef = .int .i64 r
theorem PInv.put {p1 p2 q1 q2 c1 c2 r : Int} {R : Nat} {W0 : World} {listed : Array Bool} {a : Act} {w w' : World} {i : Nat} {v : Value} (h : PInv p1 p2 q1 q2 c1 c2 r R W0 listed a w) (hi : i < 12) (hb : Below w.heap.size w w') (hv : PF p1 p2 q1 q2 c1 c2 r R w' i v) :
    PInv p1 p2 q1 q2 c1 c2 r R W0 (listed.setIfInBounds i true) (a.put (some (i + 5)) v) w' := by
  refine ⟨by simp [h.ls], by simp [Act.put, h.sz], h.df, by rw [eval_ne (by omega)]; exact h.s2, by rw [eval_ne (by omega)]; exact h.s3, ?_, h.nb.trans (hb.mono h.nb.size), fun h' => ?_⟩
  · intro k hk hl
    by_cases hki : i = k
    · subst hki
      rw [eval_eq (by rw [h.sz]; omega)]
      exact hv
    · rw [getD_set_ne false hki] at hl
      rw [eval_ne (by omega)]
      exact (h.f k hk hl).mono hb
  · rw [getD_set_ne false (by omega)] at h'
    rw [eval_ne (by omega)]
    exact h.dn h'

set_option maxHeartbeats 4000000 in
theorem comparePrefixes_any (p q : Int × Int) (w : World) :
    Calls Tryd.prog 40 #[.agg #[.int .i64 p.1, .int .i64 p.2], .agg #[.int .i64 q.1, .int .i64 q.2]] w fun e w' => e = .returned (.int .i64 (Pl.pfxC p q)) ∧ Below w.heap.size w w' := by
  obtain ⟨p1, p2⟩ := p
  obtain ⟨q1, q2⟩ := q
  obtain ⟨c1, H1⟩ : ∃ c, Hid (Pl.cmpI p1 q1 = c) := ⟨_, rfl⟩
  obtain ⟨c2, H2⟩ : ∃ c, Hid (Pl.cmpI p2 q2 = c) := ⟨_, rfl⟩
  obtain ⟨r, HR⟩ : ∃ c, Hid ((if c1 ≠ 0 then c1 else c2) = c) := ⟨_, rfl⟩
  have HF : Hid (Pl.pfxC (p1, p2) (q1, q2) = r) := hid (by unfold Pl.pfxC; rw [H1.out, H2.out, HR.out])
  go_enter Tryd.func40, Tryd.ntmps40
  go_wp2_with fail
  refine wp_region_any (by kernel_rfl) ?_
  obtain ⟨W0, hW0⟩ : ∃ W0 : World, W0 = ((w.alloc (.cells #[.int .i64 p1, .int .i64 p2] 33)).alloc (.cells #[.int .i64 q1, .int .i64 q2] 33)) := ⟨_, rfl⟩
  have hR : w.heap.size < W0.heap.size := by rw [hW0]; simp; omega
  have hR1 : w.heap.size + 1 < W0.heap.size := by rw [hW0]; simp
  have d0 : W0.cell? ⟨w.heap.size, 0, none⟩ = some (.int .i64 p1) := by rw [hW0]; simp
  have d1 : W0.cell? ⟨w.heap.size, 1, none⟩ = some (.int .i64 p2) := by rw [hW0]; simp
  have d2 : W0.cell? ⟨w.heap.size + 1, 0, none⟩ = some (.int .i64 q1) := by rw [hW0]; simp
  have d3 : W0.cell? ⟨w.heap.size + 1, 1, none⟩ = some (.int .i64 q2) := by rw [hW0]; simp
  have hB0 : Below w.heap.size w W0 := by rw [hW0]; exact ((Below.refl _ _).alloc (Nat.le_refl _) _).alloc (by simp) _
  refine wpAny_inv (PInv p1 p2 q1 q2 c1 c2 r w.heap.size W0) ?_ ?_ _ _ _ _ (by decide +kernel) ?_
  · intro i listed a W hi hI
    rw [mem_ready] at hi
    obtain ⟨hl, o, ho, hall⟩ := hi
    have hlt : i < 13 := (Array.getElem?_eq_some_iff.1 ho).1
    have hcs : i = 0 ∨ i = 1 ∨ i = 2 ∨ i = 3 ∨ i = 4 ∨ i = 5 ∨ i = 6 ∨ i = 7 ∨ i = 8 ∨ i = 9 ∨ i = 10 ∨ i = 11 ∨ i = 12 := by omega
    rcases hcs with rfl | rfl | rfl | rfl | rfl | rfl | rfl | rfl | rfl | rfl | rfl | rfl | rfl
    all_goals
      simp at ho
      subst ho
      refine wpOp_of rfl rfl ?_
    · have e1 := hI.s2
      simp [Oper.wp, go_sem, e1]
      exact hI.put (i := 0) (by omega) (Below.refl _ _) rfl
    · have e1 : a.tmps[5]?.getD undef = .pointer (some ⟨w.heap.size, 0, none⟩) := hI.f 0 (by omega) (hall ⟨0, .data⟩ (by simp) rfl)
      have e2 := ((bcell hI.nb).1 w.heap.size 0 hR).trans d0
      simp [Oper.wp, go_sem, e1, e2]
      exact hI.put (i := 1) (by omega) (Below.refl _ _) rfl
    · have e1 := hI.s3
      simp [Oper.wp, go_sem, e1]
      exact hI.put (i := 2) (by omega) (Below.refl _ _) rfl
    · have e1 : a.tmps[7]?.getD undef = .pointer (some ⟨w.heap.size + 1, 0, none⟩) := hI.f 2 (by omega) (hall ⟨2, .data⟩ (by simp) rfl)
      have e2 := ((bcell hI.nb).1 (w.heap.size + 1) 0 hR1).trans d2
      simp [Oper.wp, go_sem, e1, e2]
      exact hI.put (i := 3) (by omega) (Below.refl _ _) rfl
    · have e1 : a.tmps[6]?.getD undef = .int .i64 p1 := hI.f 1 (by omega) (hall ⟨1, .data⟩ (by simp) rfl)
      have e2 : a.tmps[8]?.getD undef = .int .i64 q1 := hI.f 3 (by omega) (hall ⟨3, .data⟩ (by simp) rfl)
      simp [Oper.wp, go_sem, e1, e2]
      refine (cmpi_any p1 q1 W).mono ?_
      rw [H1.out]
      rintro e w1 ⟨rfl, rfl⟩
      exact hI.put (i := 4) (by omega) (Below.refl _ _) rfl
    · have e1 := hI.s2
      simp [Oper.wp, go_sem, e1]
      exact hI.put (i := 5) (by omega) (Below.refl _ _) rfl
    · have e1 : a.tmps[10]?.getD undef = .pointer (some ⟨w.heap.size, 1, none⟩) := hI.f 5 (by omega) (hall ⟨5, .data⟩ (by simp) rfl)
      have e2 := ((bcell hI.nb).1 w.heap.size 1 hR).trans d1
      simp [Oper.wp, go_sem, e1, e2]
      exact hI.put (i := 6) (by omega) (Below.refl _ _) rfl
    · have e1 := hI.s3
      simp [Oper.wp, go_sem, e1]
      exact hI.put (i := 7) (by omega) (Below.refl _ _) rfl
    · have e1 : a.tmps[12]?.getD undef = .pointer (some ⟨w.heap.size + 1, 1, none⟩) := hI.f 7 (by omega) (hall ⟨7, .data⟩ (by simp) rfl)
      have e2 := ((bcell hI.nb).1 (w.heap.size + 1) 1 hR1).trans d3
      simp [Oper.wp, go_sem, e1, e2]
      exact hI.put (i := 8) (by omega) (Below.refl _ _) rfl
    · have e1 : a.tmps[11]?.getD undef = .int .i64 p2 := hI.f 6 (by omega) (hall ⟨6, .data⟩ (by simp) rfl)
      have e2 : a.tmps[13]?.getD undef = .int .i64 q2 := hI.f 8 (by omega) (hall ⟨8, .data⟩ (by simp) rfl)
      simp [Oper.wp, go_sem, e1, e2]
      refine (cmpi_any p2 q2 W).mono ?_
      rw [H2.out]
      rintro e w1 ⟨rfl, rfl⟩
      exact hI.put (i := 9) (by omega) (Below.refl _ _) rfl
    · have e1 : a.tmps[9]?.getD undef = .int .i64 c1 := hI.f 4 (by omega) (hall ⟨4, .data⟩ (by simp) rfl)
      have e2 : a.tmps[14]?.getD undef = .int .i64 c2 := hI.f 9 (by omega) (hall ⟨9, .data⟩ (by simp) rfl)
      simp [Oper.wp, go_sem, e1, e2]
      exact hI.put (i := 10) (by omega) ((Below.refl _ _).alloc (Nat.le_refl _) _) ⟨W.heap.size, rfl, by simp, by simp, by simp⟩
    · obtain ⟨b, e1, hb, hc0, hc1⟩ := hI.f 10 (by omega) (hall ⟨10, .data⟩ (by simp) rfl)
      simp only [Nat.reduceAdd] at e1
      simp [Oper.wp, go_sem, e1]
      refine (Or_any b 0 c1 c2 W hc0 hc1).mono ?_
      rw [HR.out]
      rintro e w1 ⟨rfl, rfl⟩
      exact hI.put (i := 11) (by omega) (Below.refl _ _) rfl
    · have e1 : a.tmps[16]?.getD undef = .int .i64 r := hI.f 11 (by omega) (hall ⟨11, .data⟩ (by simp) rfl)
      simp [Oper.wp, go_sem, e1]
      refine ⟨by simp [hI.ls], by simp [hI.sz], hI.df, ?_, ?_, ?_, hI.nb, ?_⟩
      · have := eval_ne (a := a) (m := 4) (n := 2) (v := .int .i64 r) (by omega); exact this.trans hI.s2
      · have := eval_ne (a := a) (m := 4) (n := 3) (v := .int .i64 r) (by omega); exact this.trans hI.s3
      · intro k hk hlk
        rw [getD_set_ne false (by omega)] at hlk
        have := eval_ne (a := a) (m := 4) (n := k + 5) (v := .int .i64 r) (by omega)
        exact this ▸ hI.f k hk hlk
      · intro _
        exact eval_eq (a := a) (m := 4) (v := .int .i64 r) (by rw [hI.sz]; omega)
  · intro listed a W hr hI
    rename_i K hK
    have hal := all_listed (by decide +kernel) hI.ls hr 12 (by decide)
    have e4 := hI.dn hal
    refine hK a W ?_
    refine wp_ret ?_
    show bodyPost Tryd.prog Tryd.f40 _ Exit.ret a W
    refine bodyPost_ret (v := .int .i64 r) (by simp [results, Tryd.results40, go_sem, e4]) hI.df ⟨ret_int HF.out.symm, hB0.trans (hI.nb.mono hB0.size)⟩
  · rw [← hW0]
    refine ⟨by rfl, by rfl, rfl, by rfl, by rfl, ?_, Below.drew (Below.refl _ _), ?_⟩
    · intro k hk h
      have : (Array.replicate 13 false).getD k false = true := h
      rw [show (Array.replicate 13 false).getD k false = false from by by_cases hk' : k < 13 <;> simp [hk']] at this
      cases this
    · intro h
      have : (Array.replicate 13 false).getD 12 false = true := h
      simp at this
end Go.Proofs.YtcdobhdbafpkiadDoor
