/-
  Contract: the entry of a raw thing: the walk.
-/
import Derived.Test.YtcdobhdbafpkiadDoorRaw2
namespace Go.Proofs.YtcdobhdbafpkiadDoor
open Go.RowKit
set_option maxRecDepth 20000

theorem wf_bounds {n : Int} (h : (Lit.int .i64 n).wf = true) : -9223372036854775808 ≤ n ∧ n ≤ 9223372036854775807 := by
  unfold Lit.wf at h
  simp only [Bool.and_eq_true, decide_eq_true_eq] at h
  exact h

set_option maxHeartbeats 4000000 in
set_option maxRecDepth 20000 in
theorem Entry_any4 (k0 k1 k2 k3 : Int) (w : World) (h0 : (Lit.int .i64 k0).wf = true) (h1 : (Lit.int .i64 k1).wf = true) (h2 : (Lit.int .i64 k2).wf = true) (h3 : (Lit.int .i64 k3).wf = true) :
    Calls Tryd.prog 50 #[.agg #[.int .i64 k0, .int .i64 k1, .int .i64 k2, .int .i64 k3]] w fun e w' =>
      ∃ x : Pl.Ent, e = .returned (.agg #[.string x.key, .int .i64 x.ver, .int .i64 x.org, .string x.val]) ∧ (x.may = true ∧ x.ver ≤ 4) ∧ Below w.heap.size w w' := by
  have b0 := wf_bounds h0
  have b1 := wf_bounds h1
  have b2 := wf_bounds h2
  have b3 := wf_bounds h3
  go_enter Tryd.func50, Tryd.ntmps50
  go_wp2_with fail
  refine wp_region_any (by kernel_rfl) ?_
  have hW0 : ∃ W0 : World, W0 = ((w.alloc (.cells #[.int .i64 k0, .int .i64 k1, .int .i64 k2, .int .i64 k3] 29)).alloc (.cells #[.string ⟨#[]⟩, .int .i64 0, .int .i64 0, .string ⟨#[]⟩] 64)) := ⟨_, rfl⟩
  obtain ⟨W0, hW0⟩ := hW0
  have hR : w.heap.size < W0.heap.size := by rw [hW0]; simp; omega
  have c0 : W0.cell? ⟨w.heap.size, 0, none⟩ = some (.int .i64 k0) := by rw [hW0]; simp
  have c1 : W0.cell? ⟨w.heap.size, 1, none⟩ = some (.int .i64 k1) := by rw [hW0]; simp
  have c2 : W0.cell? ⟨w.heap.size, 2, none⟩ = some (.int .i64 k2) := by rw [hW0]; simp
  have c3 : W0.cell? ⟨w.heap.size, 3, none⟩ = some (.int .i64 k3) := by rw [hW0]; simp
  have hR1 : w.heap.size + 1 < W0.heap.size := by rw [hW0]; simp
  have cB : W0.heap[w.heap.size + 1]? = some (.cells #[.string ⟨#[]⟩, .int .i64 0, .int .i64 0, .string ⟨#[]⟩] 64 (0, 0)) := by
    rw [hW0]
    have := heap_new (w.alloc (.cells #[.int .i64 k0, .int .i64 k1, .int .i64 k2, .int .i64 k3] 29)) (.cells #[.string ⟨#[]⟩, .int .i64 0, .int .i64 0, .string ⟨#[]⟩] 64)
    simpa using this
  have hB0 : Below w.heap.size w W0 := by rw [hW0]; exact ((Below.refl _ _).alloc (Nat.le_refl _) _).alloc (by simp) _
  refine wpAny_inv (EInv k0 k1 k2 k3 w.heap.size W0) ?_ ?_ _ _ _ _ (by decide +kernel) ?_
  · intro i listed a W hi hI
    rw [mem_ready] at hi
    obtain ⟨hl, o, ho, hall⟩ := hi
    have hlt : i < 21 := (Array.getElem?_eq_some_iff.1 ho).1
    have hn20 : i < 20 → listed.getD 20 false = false := by
      intro hi
      cases hx : listed.getD 20 false with
      | false => rfl
      | true =>
        have := hI.al hx i hi
        have hls := hI.ls
        have hil : i < listed.size := by omega
        simp [hil] at this hl
        rw [this] at hl
        cases hl
    have hcs : i = 0 ∨ i = 1 ∨ i = 2 ∨ i = 3 ∨ i = 4 ∨ i = 5 ∨ i = 6 ∨ i = 7 ∨ i = 8 ∨ i = 9 ∨ i = 10 ∨ i = 11 ∨ i = 12 ∨ i = 13 ∨ i = 14 ∨ i = 15 ∨ i = 16 ∨ i = 17 ∨ i = 18 ∨ i = 19 ∨ i = 20 := by omega
    rcases hcs with rfl | rfl | rfl | rfl | rfl | rfl | rfl | rfl | rfl | rfl | rfl | rfl | rfl | rfl | rfl | rfl | rfl | rfl | rfl | rfl | rfl
    all_goals
      simp at ho
      subst ho
      refine wpOp_of rfl rfl ?_
    · simp [Oper.wp, go_sem]
      refine hI.put (by omega) (hn20 (by omega)) ((Below.refl _ _).alloc (Nat.le_refl _) _) ⟨W.heap.size, rfl, by simp, ?_⟩
      intro j hj
      have hjs : j = 0 ∨ j = 1 ∨ j = 2 ∨ j = 3 ∨ j = 4 ∨ j = 5 := by omega
      rcases hjs with rfl | rfl | rfl | rfl | rfl | rfl
      all_goals exact ⟨_, by simp; rfl, by decide⟩
    · have e1 := hI.s1
      simp [Oper.wp, go_sem, e1]
      exact hI.put (i := 1) (by omega) (hn20 (by omega)) (Below.refl _ _) rfl
    · have e1 : a.tmps[4]?.getD undef = .pointer (some ⟨w.heap.size, 0, none⟩) := hI.f (hn20 (by omega)) 1 (by omega) (hall ⟨1, .data⟩ (by simp) rfl)
      have e2 := ((bcell (hI.nb (hn20 (by omega)))).1 w.heap.size 0 hR).trans c0
      simp [Oper.wp, go_sem, e1, e2]
      exact hI.put (by omega) (hn20 (by omega)) (Below.refl _ _) rfl
    · have e1 : a.tmps[5]?.getD undef = .int .i64 k0 := hI.f (hn20 (by omega)) 2 (by omega) (hall ⟨2, .data⟩ (by simp) rfl)
      simp [Oper.wp, go_sem, e1]
      refine (picked_any k0 6 W b0.1 b0.2 (by omega) (by omega)).mono ?_
      rintro e w1 ⟨rfl, rfl⟩
      have hr := Pl.pk_range k0 6 (by omega)
      obtain ⟨n, hn⟩ := Int.eq_ofNat_of_zero_le hr.1
      rw [hn] at hr ⊢
      exact hI.put (by omega) (hn20 (by omega)) (Below.refl _ _) ⟨n, rfl, by omega⟩
    · obtain ⟨b, e1, hb, hc⟩ := hI.f (hn20 (by omega)) 0 (by omega) (hall ⟨0, .data⟩ (by simp) rfl)
      obtain ⟨n, e2, hn⟩ := hI.f (hn20 (by omega)) 3 (by omega) (hall ⟨3, .data⟩ (by simp) rfl)
      obtain ⟨s, hs, hp⟩ := hc n hn
      simp only [Nat.reduceAdd] at e1 e2
      have hn' : (n : Int) < 6 := by omega
      simp [Oper.wp, go_sem, e1, e2, hn']
      exact hI.put (by omega) (hn20 (by omega)) (Below.refl _ _) ⟨b, n, s, by simp, hb, hs, hp⟩
    · obtain ⟨b, j, s, e1, hb, hc, hp⟩ := hI.f (hn20 (by omega)) 4 (by omega) (hall ⟨4, .data⟩ (by simp) rfl)
      simp only [Nat.reduceAdd] at e1
      simp [Oper.wp, go_sem, e1, hc]
      exact hI.put (by omega) (hn20 (by omega)) (Below.refl _ _) ⟨s, rfl, hp⟩
    · have e1 := hI.s1
      simp [Oper.wp, go_sem, e1]
      exact hI.put (i := 6) (by omega) (hn20 (by omega)) (Below.refl _ _) rfl
    · have e1 : a.tmps[9]?.getD undef = .pointer (some ⟨w.heap.size, 1, none⟩) := hI.f (hn20 (by omega)) 6 (by omega) (hall ⟨6, .data⟩ (by simp) rfl)
      have e2 := ((bcell (hI.nb (hn20 (by omega)))).1 w.heap.size 1 hR).trans c1
      simp [Oper.wp, go_sem, e1, e2]
      exact hI.put (by omega) (hn20 (by omega)) (Below.refl _ _) rfl
    · have e1 : a.tmps[10]?.getD undef = .int .i64 k1 := hI.f (hn20 (by omega)) 7 (by omega) (hall ⟨7, .data⟩ (by simp) rfl)
      simp [Oper.wp, go_sem, e1]
      refine (picked_any k1 4 W b1.1 b1.2 (by omega) (by omega)).mono ?_
      rintro e w1 ⟨rfl, rfl⟩
      have hr := Pl.pk_range k1 4 (by omega)
      obtain ⟨n, hn⟩ := Int.eq_ofNat_of_zero_le hr.1
      rw [hn] at hr ⊢
      exact hI.put (by omega) (hn20 (by omega)) (Below.refl _ _) ⟨n, rfl, by omega⟩
    · obtain ⟨n, e1, hn⟩ := hI.f (hn20 (by omega)) 8 (by omega) (hall ⟨8, .data⟩ (by simp) rfl)
      simp only [Nat.reduceAdd] at e1
      have hw : IntKind.i64.wrap (1 + (n : Int)) = 1 + (n : Int) := by rw [IntKind.wrap_i64]; omega
      simp [Oper.wp, go_sem, e1, hw]
      exact hI.put (by omega) (hn20 (by omega)) (Below.refl _ _) ⟨_, rfl, by omega, by omega⟩
    · have e1 := hI.s1
      simp [Oper.wp, go_sem, e1]
      exact hI.put (i := 10) (by omega) (hn20 (by omega)) (Below.refl _ _) rfl
    · have e1 : a.tmps[13]?.getD undef = .pointer (some ⟨w.heap.size, 2, none⟩) := hI.f (hn20 (by omega)) 10 (by omega) (hall ⟨10, .data⟩ (by simp) rfl)
      have e2 := ((bcell (hI.nb (hn20 (by omega)))).1 w.heap.size 2 hR).trans c2
      simp [Oper.wp, go_sem, e1, e2]
      exact hI.put (by omega) (hn20 (by omega)) (Below.refl _ _) rfl
    · have e1 : a.tmps[14]?.getD undef = .int .i64 k2 := hI.f (hn20 (by omega)) 11 (by omega) (hall ⟨11, .data⟩ (by simp) rfl)
      simp [Oper.wp, go_sem, e1]
      refine (picked_any k2 3 W b2.1 b2.2 (by omega) (by omega)).mono ?_
      rintro e w1 ⟨rfl, rfl⟩
      have hr := Pl.pk_range k2 3 (by omega)
      obtain ⟨n, hn⟩ := Int.eq_ofNat_of_zero_le hr.1
      rw [hn] at hr ⊢
      exact hI.put (by omega) (hn20 (by omega)) (Below.refl _ _) ⟨n, rfl, by omega⟩
    · simp [Oper.wp, go_sem]
      refine hI.put (by omega) (hn20 (by omega)) ((Below.refl _ _).alloc (Nat.le_refl _) _) ⟨W.heap.size, rfl, by simp, ?_⟩
      intro j hj
      have hjs : j = 0 ∨ j = 1 ∨ j = 2 ∨ j = 3 ∨ j = 4 := by omega
      rcases hjs with rfl | rfl | rfl | rfl | rfl
      all_goals exact ⟨_, by simp; rfl, by decide⟩
    · have e1 := hI.s1
      simp [Oper.wp, go_sem, e1]
      exact hI.put (i := 14) (by omega) (hn20 (by omega)) (Below.refl _ _) rfl
    · have e1 : a.tmps[17]?.getD undef = .pointer (some ⟨w.heap.size, 3, none⟩) := hI.f (hn20 (by omega)) 14 (by omega) (hall ⟨14, .data⟩ (by simp) rfl)
      have e2 := ((bcell (hI.nb (hn20 (by omega)))).1 w.heap.size 3 hR).trans c3
      simp [Oper.wp, go_sem, e1, e2]
      exact hI.put (by omega) (hn20 (by omega)) (Below.refl _ _) rfl
    · have e1 : a.tmps[18]?.getD undef = .int .i64 k3 := hI.f (hn20 (by omega)) 15 (by omega) (hall ⟨15, .data⟩ (by simp) rfl)
      simp [Oper.wp, go_sem, e1]
      refine (picked_any k3 5 W b3.1 b3.2 (by omega) (by omega)).mono ?_
      rintro e w1 ⟨rfl, rfl⟩
      have hr := Pl.pk_range k3 5 (by omega)
      obtain ⟨n, hn⟩ := Int.eq_ofNat_of_zero_le hr.1
      rw [hn] at hr ⊢
      exact hI.put (by omega) (hn20 (by omega)) (Below.refl _ _) ⟨n, rfl, by omega⟩
    · obtain ⟨b, e1, hb, hc⟩ := hI.f (hn20 (by omega)) 13 (by omega) (hall ⟨13, .data⟩ (by simp) rfl)
      obtain ⟨n, e2, hn⟩ := hI.f (hn20 (by omega)) 16 (by omega) (hall ⟨16, .data⟩ (by simp) rfl)
      obtain ⟨s, hs, hp⟩ := hc n hn
      simp only [Nat.reduceAdd] at e1 e2
      have hn' : (n : Int) < 5 := by omega
      simp [Oper.wp, go_sem, e1, e2, hn']
      exact hI.put (by omega) (hn20 (by omega)) (Below.refl _ _) ⟨b, n, s, by simp, hb, hs, hp⟩
    · obtain ⟨b, j, s, e1, hb, hc, hp⟩ := hI.f (hn20 (by omega)) 17 (by omega) (hall ⟨17, .data⟩ (by simp) rfl)
      simp only [Nat.reduceAdd] at e1
      simp [Oper.wp, go_sem, e1, hc]
      exact hI.put (by omega) (hn20 (by omega)) (Below.refl _ _) ⟨s, rfl, hp⟩
    · obtain ⟨s, e1, p1⟩ := hI.f (hn20 (by omega)) 5 (by omega) (hall ⟨5, .data⟩ (by simp) rfl)
      obtain ⟨v, e2, p2, p2'⟩ := hI.f (hn20 (by omega)) 9 (by omega) (hall ⟨9, .data⟩ (by simp) rfl)
      obtain ⟨n, e3, p3⟩ := hI.f (hn20 (by omega)) 12 (by omega) (hall ⟨12, .data⟩ (by simp) rfl)
      obtain ⟨t, e4, p4⟩ := hI.f (hn20 (by omega)) 18 (by omega) (hall ⟨18, .data⟩ (by simp) rfl)
      simp only [Nat.reduceAdd] at e1 e2 e3 e4
      simp [Oper.wp, go_sem, e1, e2, e3, e4]
      refine hI.put (by omega) (hn20 (by omega)) (Below.refl _ _) ⟨⟨s, v, n, t⟩, rfl, ?_, p2'⟩
      unfold Pl.Ent.may Pl.entB
      simp only [p1, Bool.true_and, Bool.and_eq_true, decide_eq_true_eq]
      exact ⟨⟨⟨p2, by omega⟩, by omega, by omega⟩, p4⟩
    · have hn : listed.getD 20 false = false := by
        have hls := hI.ls
        have hil : 20 < listed.size := by omega
        simp [hil] at hl ⊢
        exact hl
      obtain ⟨x, e1, p1⟩ := hI.f hn 19 (by omega) (hall ⟨19, .data⟩ (by simp) rfl)
      have e2 := hI.s2
      simp only [Nat.reduceAdd] at e1
      have hal : ∀ k, k < 20 → listed.getD k false = true := by
        intro k hk
        have hcs : k = 0 ∨ k = 1 ∨ k = 2 ∨ k = 3 ∨ k = 4 ∨ k = 5 ∨ k = 6 ∨ k = 7 ∨ k = 8 ∨ k = 9 ∨ k = 10 ∨ k = 11 ∨ k = 12 ∨ k = 13 ∨ k = 14 ∨ k = 15 ∨ k = 16 ∨ k = 17 ∨ k = 18 ∨ k = 19 := by omega
        rcases hcs with rfl | rfl | rfl | rfl | rfl | rfl | rfl | rfl | rfl | rfl | rfl | rfl | rfl | rfl | rfl | rfl | rfl | rfl | rfl | rfl
        all_goals exact hall ⟨_, .phase⟩ (by simp) rfl
      have hb := hI.nb hn
      have hblk := (hb.block (w.heap.size + 1) hR1).trans cB
      obtain ⟨⟨x0, x1, x2, x3⟩, ⟨y0, y1, y2, y3⟩⟩ := rblk4 hblk
      simp [Oper.wp, go_sem, e1, e2, x0, x1, x2, x3, y0, y1, y2, y3]
      refine ⟨by simp [hI.ls], hI.sz, hI.df, hI.s1, hI.s2, ?_, ?_, ?_, ?_⟩
      · intro h
        have hls := hI.ls
        have hil : 20 < listed.size := by omega
        simp [hil] at h
      · intro h
        have hls := hI.ls
        have hil : 20 < listed.size := by omega
        simp [hil] at h
      · intro _ k hk
        rw [getD_set_ne false (by omega)]
        exact hal k hk
      · intro _
        refine ⟨x, p1, rbelow_set (rbelow_set (rbelow_set (rbelow_set (hb.mono (by omega)) (by omega)) (by omega)) (by omega)) (by omega), ?_⟩
        have := rblk_set (o := 3) (v := .string x.val) (rblk_set (o := 2) (v := .int .i64 x.org) (rblk_set (o := 1) (v := .int .i64 x.ver) (rblk_set (o := 0) (v := .string x.key) hblk)))
        simpa using this
  · intro listed a W hr hI
    rename_i K hK
    have hal := all_listed (by decide +kernel) hI.ls hr 20 (by decide)
    obtain ⟨x, hx, hb, hblk⟩ := hI.dn hal
    obtain ⟨⟨x0, x1, x2, x3⟩, _⟩ := rblk4 hblk
    have e2 := hI.s2
    refine hK a W ?_
    refine wp_ret ?_
    show bodyPost Tryd.prog Tryd.f50 _ Exit.ret a W
    refine bodyPost_ret (v := .agg #[.string x.key, .int .i64 x.ver, .int .i64 x.org, .string x.val]) (by simp [results, Tryd.results50, go_sem, e2, x0, x1, x2, x3]) hI.df ⟨x, rfl, hx, hB0.trans hb⟩
  · rw [← hW0]
    refine ⟨by rfl, by rfl, rfl, by rfl, by rfl, ?_, ?_, ?_, ?_⟩
    · intro _ k hk h
      have : (Array.replicate 21 false).getD k false = true := h
      rw [show (Array.replicate 21 false).getD k false = false from by by_cases hk' : k < 21 <;> simp [hk']] at this
      cases this
    · intro _
      exact Below.drew (Below.refl _ _)
    · intro h
      have : (Array.replicate 21 false).getD 20 false = true := h
      simp at this
    · intro h
      have : (Array.replicate 21 false).getD 20 false = true := h
      simp at this
theorem Entry_any (k0 k1 k2 k3 : Int) (w : World) (h0 : (Lit.int .i64 k0).wf = true) (h1 : (Lit.int .i64 k1).wf = true) (h2 : (Lit.int .i64 k2).wf = true) (h3 : (Lit.int .i64 k3).wf = true) :
    Calls Tryd.prog 50 #[.agg #[.int .i64 k0, .int .i64 k1, .int .i64 k2, .int .i64 k3]] w fun e w' =>
      ∃ x : Pl.Ent, e = .returned (.agg #[.string x.key, .int .i64 x.ver, .int .i64 x.org, .string x.val]) ∧ x.may = true ∧ Below w.heap.size w w' :=
  (Entry_any4 k0 k1 k2 k3 w h0 h1 h2 h3).mono fun _ _ ⟨x, e, m, b⟩ => ⟨x, e, m.1, b⟩
end Go.Proofs.YtcdobhdbafpkiadDoor
