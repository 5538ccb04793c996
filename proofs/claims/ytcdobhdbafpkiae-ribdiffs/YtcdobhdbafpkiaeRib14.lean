/-
  Contract: what parts two tables, as the document says it (DiffOf).
-/
import Derived.Test.YtcdobhdbafpkiaeRib4
import Derived.Test.YtcdobhdbafpkiaeRib12
import Derived.Test.YtcdobhdbafpkiaeRib13
namespace Go.Proofs.Ytcdobhdbafpkiae
open Go.RowKit

set_option maxRecDepth 20000 in
set_option maxHeartbeats 4000000 in
theorem DiffOf_any (a : Option Addr) (la ca : Nat) (hs : List Pl.RH) (rs : List Pl.Rt) (b : Option Addr) (lb cb : Nat) (gs : List Pl.RH) (ss : List Pl.Rt) (w : World) (h1 : IsRows w a la ca hs) (d1 : ReadsAll w hs rs) (h2 : IsRows w b lb cb gs) (d2 : ReadsAll w gs ss) :
    Calls Try.prog 13 #[.slice a la ca, .slice b lb cb] w fun e w' =>
      ∃ vs vg es, e = .returned (.tuple #[vs, vg, .int .i64 (Pl.diffC rs ss)]) ∧ (OwnR w' w.heap.size vs es ∧ ReadsAll w es (Pl.diffS rs ss)) ∧ OwnP 27 w' w.heap.size vg (Pl.diffG rs ss) ∧ Below w.heap.size w w' := by
  have H1 := hid h1
  have D1 := hid d1
  have H2 := hid h2
  have D2 := hid d2
  have HL1 : Hid (hs.length = la) := hid h1.1
  have HL2 : Hid (gs.length = lb) := hid h2.1
  have HR1 : Hid (rs.length = la) := hid (by rw [← d1.1]; exact h1.1)
  have HR2 : Hid (ss.length = lb) := hid (by rw [← d2.1]; exact h2.1)
  have hc1 := h1.2.1
  have hm1 := h1.2.2.1
  have hc2 := h2.2.1
  have hm2 := h2.2.2.1
  unfold maxLen at hm1 hm2
  clear h1 d1 h2 d2
  obtain ⟨DC, HDC⟩ : ∃ x, Hid (Pl.diffC rs ss = x) := ⟨_, rfl⟩
  obtain ⟨DS, HDS⟩ : ∃ x, Hid (Pl.diffS rs ss = x) := ⟨_, rfl⟩
  obtain ⟨DG, HDG⟩ : ∃ x, Hid (Pl.diffG rs ss = x) := ⟨_, rfl⟩
  rw [HDC.out, HDS.out, HDG.out]
  obtain ⟨c1, HC1⟩ : ∃ c, Hid (Pl.tabF rs = c) := ⟨_, rfl⟩
  obtain ⟨c2, HC2⟩ : ∃ c, Hid (Pl.tabF ss = c) := ⟨_, rfl⟩
  by_cases hz1 : c1 = 0
  · subst hz1
    by_cases hz2 : c2 = 0
    · subst hz2
      have HE : Hid (DC = 0 ∧ DS = Pl.setL rs ss ∧ DG = Pl.goneL rs ss) := hid (by
        have e : Pl.diffC rs ss = 0 := by unfold Pl.diffC; rw [HC1.out, if_pos rfl, HC2.out]
        rw [← HDC.out, ← HDS.out, ← HDG.out]
        unfold Pl.diffS Pl.diffG
        rw [e, if_pos rfl, if_pos rfl]
        exact ⟨rfl, rfl, rfl⟩)
      have hg1 := Pl.good_of_tabF HC1.out
      have hg2 := Pl.good_of_tabF HC2.out
      have HA1 : Hid (Pl.AscP (Pl.hp hs)) := hid (by unfold Pl.hp; rw [D1.out.map_p]; exact hg1.2.2)
      have HA2 : Hid (Pl.AscP (Pl.hp gs)) := hid (by unfold Pl.hp; rw [D2.out.map_p]; exact hg2.2.2)
      have hb1 : la ≤ 200 := by have := hg1.1; rw [HR1.out] at this; exact this
      have hb2 : lb ≤ 200 := by have := hg2.1; rw [HR2.out] at this; exact this
      have HP1 : Hid (rs.map Pl.Rt.p = Pl.hp hs) := hid D1.out.map_p.symm
      have HP2 : Hid (ss.map Pl.Rt.p = Pl.hp gs) := hid D2.out.map_p.symm
      have HLP : Hid ((Pl.hp hs).length = la) := hid (by rw [Pl.hp_len, HL1.out])
      clear hg1 hg2
      go_enter Try.func13, Try.ntmps13
      go_wp2_with fail
      refine (TableFault_any _ _ _ hs rs _ H1.out D1.out).mono ?_
      rw [HC1.out]
      rintro e w1 ⟨rfl, hbA⟩
      go_wp2_with fail
      refine (TableFault_any _ _ _ gs ss _ (H2.out.below hbA) (D2.out.below hbA)).mono ?_
      rw [HC2.out]
      rintro e w2 ⟨rfl, hbB⟩
      have HB0 := hid (hbA.trans (hbB.mono hbA.size))
      clear hbA hbB
      go_wp2_with fail
      go_loopw [8, 9] (fun v i wr => ∃ (k : Nat) (es : List Pl.RH), k ≤ lb ∧ i = .int .i64 k ∧ Hid (OwnR wr w.heap.size v es) ∧ Hid (ReadsAll w es (Pl.setL rs (ss.take k))) ∧ Hid (Below w.heap.size w wr)) (fun _ i _ => lb - (intOf i).toNat)
      case atStart => exact ⟨0, [], Nat.zero_le _, rfl, hid (OwnR.nil _ _), hid (ReadsAll.nil _), HB0⟩
      case round =>
        obtain ⟨k, es, hk, rfl, HO, HO2, HB⟩ := hrel
        by_cases hlt : k < lb
        · obtain ⟨bb, off, rfl, hbw, hr⟩ := H2.out.at hlt
          have hz := HB.out.size
          have HXS := hid (hr k (by rw [HL2.out]; exact hlt))
          obtain ⟨x0, x1, x2, x3, x4⟩ := hr.below hbw HB.out k (by rw [HL2.out]; exact hlt)
          have HRD := hid (D2.out.2 k (by rw [HL2.out]; exact hlt))
          have HSU := hid (Pl.setL_succ rs ss k (by rw [HR2.out]; exact hlt))
          obtain ⟨kb, HKB⟩ : ∃ x, Hid (Pl.keptB rs (Pl.rt ss k) = x) := ⟨_, rfl⟩
          have HKE : Hid (kb = (Pl.thereP (Pl.hp hs) (Pl.rh gs k).p && Pl.sameR (Pl.rt rs (Pl.posP (Pl.hp hs) (Pl.rh gs k).p)) (Pl.rt ss k))) := hid (by
            rw [← HKB.out]; unfold Pl.keptB; rw [HP1.out, HRD.out.1])
          rw [HKB.out] at HSU
          obtain ⟨r, HRR⟩ : ∃ x, Hid (Pl.rt ss k = x) := ⟨_, rfl⟩
          rw [HRR.out] at HRD HSU HKE
          generalize Pl.rh gs k = hh at *
          obtain ⟨⟨p1, p2⟩, here, cost, hha, hhl', hhc⟩ := hh
          simp only at x0 x1 x2 x3 x4 HKE HXS
          obtain ⟨tt, HT⟩ : ∃ x, Hid (Pl.thereP (Pl.hp hs) (p1, p2) = x) := ⟨_, rfl⟩
          have HFI : Hid (∀ W, Below w.heap.size w W → Calls Try.prog 29 #[.slice a la ca, .agg #[.int .i64 p1, .int .i64 p2]] W fun e w' => ∃ g : Pl.RH, e = .returned (.tuple #[.agg #[.int .i64 g.p.1, .int .i64 g.p.2, .bool g.here, .int .i64 g.cost, .slice g.ha g.hl g.hc], .bool tt]) ∧ (tt = true → g = Pl.rh hs (Pl.posP (Pl.hp hs) (p1, p2))) ∧ Below W.heap.size W w') := hid fun W hW => by
            have := routeAt_any a la ca hs p1 p2 W (H1.out.below hW) HA1.out
            rwa [HT.out] at this
          have HPL : Hid (tt = true → Pl.posP (Pl.hp hs) (p1, p2) < la ∧ (Pl.rh hs (Pl.posP (Pl.hp hs) (p1, p2))).p = (p1, p2)) := hid fun e => by
            have ht : Pl.thereP (Pl.hp hs) (p1, p2) = true := by rw [HT.out]; exact e
            have e1 := Pl.thereP_lt ht
            rw [HLP.out] at e1
            refine ⟨e1, ?_⟩
            rw [← Pl.pr_hp hs _ (by rw [HL1.out]; exact e1)]
            exact Pl.thereP_eq ht
          rw [HT.out] at HKE
          generalize Pl.posP (Pl.hp hs) (p1, p2) = ix at *
          have HLE : Hid (es.length ≤ 200) := hid (by
            rw [HO2.out.1]
            have e1 := Pl.setL_len rs (ss.take k)
            have e2 := List.length_take_le k ss
            omega)
          have hlt' : (k : Int) < (lb : Int) := by omega
          have hbbr : bb < wr.heap.size := by omega
          cases tt
          · have HK0 : Hid (kb = false) := hid (by rw [HKE.out]; rfl)
            go_wp2_with fail
            refine (HFI.out _ HB.out).mono ?_
            rintro e w3 ⟨gg, rfl, _, hb3⟩
            have HB3 := hid (HB.out.trans (hb3.mono hz))
            have HO3 := hid (HO.out.below hb3)
            clear hb3 x0 x1 x2 x3 x4
            go_wp2_with fail
            obtain ⟨w4, HW4⟩ : ∃ x, Hid (x = w3.alloc (.cells #[.int .i64 gg.p.1, .int .i64 gg.p.2, .bool gg.here, .int .i64 gg.cost, .slice gg.ha gg.hl gg.hc] 30)) := ⟨_, rfl⟩
            have HB4 : Hid (Below w.heap.size w w4) := hid (by rw [HW4.out]; exact HB3.out.alloc HB3.out.size _)
            have HO4 : Hid (OwnR w4 w.heap.size u8 es) := hid (by rw [HW4.out]; exact HO3.out.below ((Below.refl _ _).alloc (Nat.le_refl _) _))
            rw [← HW4.out]
            have hne := in_some w4
            refine wp_region_in (by kernel_rfl) (by kernel_rfl) ?_
            repeat (go_big_quiet_step (fail))
            refine wpQuiet_nil ?_
            intro w5 hw'
            have hb5 := in_out hw'
            clear hw' hne
            have HB5 := hid (HB4.out.trans (hb5.mono HB4.out.size))
            have HO5 := hid (HO4.out.below hb5)
            have t0 := (HB5.out.cell (p := ⟨bb, off + k * 5, none⟩) hbw).trans HXS.out.1
            have t1 := (HB5.out.cell (p := ⟨bb, off + k * 5 + 1, none⟩) hbw).trans HXS.out.2.1
            have t2 := (HB5.out.cell (p := ⟨bb, off + k * 5 + 2, none⟩) hbw).trans HXS.out.2.2.1
            have t3 := (HB5.out.cell (p := ⟨bb, off + k * 5 + 3, none⟩) hbw).trans HXS.out.2.2.2.1
            have t4 := (HB5.out.cell (p := ⟨bb, off + k * 5 + 4, none⟩) hbw).trans HXS.out.2.2.2.2
            have hz5 := HB5.out.size
            clear hb5
            go_wp2_with (at_builtin; refine append_rt rfl (.tmp 52) (.tmp 57) rfl w.heap.size u8 es ⟨(p1, p2), here, cost, hha, hhl', hhc⟩ rfl HO5.out hz5 rfl (by have := HLE.out; omega) ?_; intro v7 w7 hown7 _ hb7; have HO7 := hid hown7; have HB7 := hid (HB5.out.trans hb7); clear hown7 hb7)
            go_roundw
            case rel => exact ⟨k + 1, es ++ [⟨(p1, p2), here, cost, hha, hhl', hhc⟩], by omega, by go_num, HO7, hid (by rw [HSU.out, HK0.out]; exact HO2.out.snoc HRD.out), HB7⟩
            case measure => simp [intOf]; omega
          · obtain ⟨hix, hgp⟩ := HPL.out rfl
            have HRA := hid (D1.out.2 ix (by rw [HL1.out]; exact hix))
            obtain ⟨sm, HSM⟩ : ∃ x, Hid (Pl.sameR (Pl.rt rs ix) r = x) := ⟨_, rfl⟩
            have HKS : Hid (kb = sm) := hid (by rw [HKE.out, HSM.out]; rfl)
            generalize Pl.rh hs ix = ga at *
            have HSC : Hid (∀ W, Below w.heap.size w W → Calls Try.prog 30 #[.agg #[.int .i64 ga.p.1, .int .i64 ga.p.2, .bool ga.here, .int .i64 ga.cost, .slice ga.ha ga.hl ga.hc], .agg #[.int .i64 p1, .int .i64 p2, .bool here, .int .i64 cost, .slice hha hhl' hhc]] W fun e w' => e = .returned (.bool sm) ∧ Below W.heap.size W w') := hid fun W hW => by
              have := sameRoute_ref ga ⟨(p1, p2), here, cost, hha, hhl', hhc⟩ (Pl.rt rs ix) r W (HRA.out.below hW) (HRD.out.below hW) hgp
              rwa [HSM.out] at this
            clear hgp
            cases sm
            all_goals
              go_wp2_with fail
              refine (HFI.out _ HB.out).mono ?_
              rintro e w3 ⟨gg, rfl, hgg, hb3⟩
              obtain rfl := hgg (by trivial)
              have HB3 := hid (HB.out.trans (hb3.mono hz))
              have HO3 := hid (HO.out.below hb3)
              clear hb3 x0 x1 x2 x3 x4 hgg
              go_wp2_with fail
              obtain ⟨w4, HW4⟩ : ∃ x, Hid (x = w3.alloc (.cells #[.int .i64 gg.p.1, .int .i64 gg.p.2, .bool gg.here, .int .i64 gg.cost, .slice gg.ha gg.hl gg.hc] 30)) := ⟨_, rfl⟩
              have HB4 : Hid (Below w.heap.size w w4) := hid (by rw [HW4.out]; exact HB3.out.alloc HB3.out.size _)
              have HO4 : Hid (OwnR w4 w.heap.size u8 es) := hid (by rw [HW4.out]; exact HO3.out.below ((Below.refl _ _).alloc (Nat.le_refl _) _))
              obtain ⟨⟨y0, y1, y2, y3, y4⟩, hbx, _⟩ : (w4.cell? ⟨w3.heap.size, 0, none⟩ = some (.int .i64 gg.p.1) ∧ w4.cell? ⟨w3.heap.size, 1, none⟩ = some (.int .i64 gg.p.2) ∧ w4.cell? ⟨w3.heap.size, 2, none⟩ = some (.bool gg.here) ∧ w4.cell? ⟨w3.heap.size, 3, none⟩ = some (.int .i64 gg.cost) ∧ w4.cell? ⟨w3.heap.size, 4, none⟩ = some (.slice gg.ha gg.hl gg.hc)) ∧ w3.heap.size < w4.heap.size ∧ Below w3.heap.size w3 w4 := by
                rw [HW4.out]; exact box5 (Below.refl _ _)
              rw [← HW4.out]
              have t0 := (HB4.out.cell (p := ⟨bb, off + k * 5, none⟩) hbw).trans HXS.out.1
              have t1 := (HB4.out.cell (p := ⟨bb, off + k * 5 + 1, none⟩) hbw).trans HXS.out.2.1
              have t2 := (HB4.out.cell (p := ⟨bb, off + k * 5 + 2, none⟩) hbw).trans HXS.out.2.2.1
              have t3 := (HB4.out.cell (p := ⟨bb, off + k * 5 + 3, none⟩) hbw).trans HXS.out.2.2.2.1
              have t4 := (HB4.out.cell (p := ⟨bb, off + k * 5 + 4, none⟩) hbw).trans HXS.out.2.2.2.2
              have hbb4 : bb < w4.heap.size := by have := HB4.out.size; omega
              have i0 := in_cell hbb4 t0
              have i1 := in_cell hbb4 t1
              have i2 := in_cell hbb4 t2
              have i3 := in_cell hbb4 t3
              have i4 := in_cell hbb4 t4
              have j0 := in_cell hbx y0
              have j1 := in_cell hbx y1
              have j2 := in_cell hbx y2
              have j3 := in_cell hbx y3
              have j4 := in_cell hbx y4
              have hne := in_some w4
              have HSX := hid (fun x : WIn w4 => HSC.out x.w (HB4.out.trans (x.h.mono HB4.out.size)))
              refine wp_region_in (by kernel_rfl) (by kernel_rfl) ?_
              repeat (go_big_quiet_step ((go_at_call 30; exact in_call (HSX.out _))))
              refine wpQuiet_nil ?_
              intro w5 hw'
              have hb5 := in_out hw'
              clear hw' hne i0 i1 i2 i3 i4 j0 j1 j2 j3 j4 t0 t1 t2 t3 t4 y0 y1 y2 y3 y4
            · have HK0 : Hid (kb = false) := HKS
              have HB5 := hid (HB4.out.trans (hb5.mono HB4.out.size))
              have HO5 := hid (HO4.out.below hb5)
              have t0 := (HB5.out.cell (p := ⟨bb, off + k * 5, none⟩) hbw).trans HXS.out.1
              have t1 := (HB5.out.cell (p := ⟨bb, off + k * 5 + 1, none⟩) hbw).trans HXS.out.2.1
              have t2 := (HB5.out.cell (p := ⟨bb, off + k * 5 + 2, none⟩) hbw).trans HXS.out.2.2.1
              have t3 := (HB5.out.cell (p := ⟨bb, off + k * 5 + 3, none⟩) hbw).trans HXS.out.2.2.2.1
              have t4 := (HB5.out.cell (p := ⟨bb, off + k * 5 + 4, none⟩) hbw).trans HXS.out.2.2.2.2
              have hz5 := HB5.out.size
              clear hb5
              go_wp2_with (at_builtin; refine append_rt rfl (.tmp 52) (.tmp 57) rfl w.heap.size u8 es ⟨(p1, p2), here, cost, hha, hhl', hhc⟩ rfl HO5.out hz5 rfl (by have := HLE.out; omega) ?_; intro v7 w7 hown7 _ hb7; have HO7 := hid hown7; have HB7 := hid (HB5.out.trans hb7); clear hown7 hb7)
              go_roundw
              case rel => exact ⟨k + 1, es ++ [⟨(p1, p2), here, cost, hha, hhl', hhc⟩], by omega, by go_num, HO7, hid (by rw [HSU.out, HK0.out]; exact HO2.out.snoc HRD.out), HB7⟩
              case measure => simp [intOf]; omega
            · go_wp2_with fail
              go_roundw
              case rel => exact ⟨k + 1, es, by omega, by go_num, hid (HO4.out.below hb5), hid (by rw [HSU.out, HKS.out]; simpa using HO2.out), hid (HB4.out.trans (hb5.mono HB4.out.size))⟩
              case measure => simp [intOf]; omega
        · have HO9 : Hid (ReadsAll w es (Pl.setL rs ss)) := hid (by
            have := HO2.out
            rwa [List.take_of_length_le (by rw [HR2.out]; omega)] at this)
          have hnl : ¬ ((k : Int) < (lb : Int)) := by omega
          clear HO2
          generalize u8 = v8 at *
          generalize wr = W9 at *
          go_wp2_with fail
          go_loopw [12, 13] (fun v i wq => ∃ k : Nat, k ≤ la ∧ i = .int .i64 k ∧ Hid (OwnP 27 wq W9.heap.size v (Pl.goneL (rs.take k) ss)) ∧ Hid (Below W9.heap.size W9 wq)) (fun _ i _ => la - (intOf i).toNat)
          case atStart => exact ⟨0, Nat.zero_le _, rfl, hid (OwnP.nil _ _ _), hid (Below.refl _ _)⟩
          case round =>
            obtain ⟨j, hj, rfl, HP, HQ⟩ := hrel
            have HBQ := hid (HB.out.trans (HQ.out.mono HB.out.size))
            by_cases hlt : j < la
            · obtain ⟨ba, offa, rfl, hbaw, hra⟩ := H1.out.at hlt
              have hz := HBQ.out.size
              have hzq := HQ.out.size
              obtain ⟨s0, s1, _, _, _⟩ := hra j (by rw [HL1.out]; exact hlt)
              have HRD := hid (D1.out.2 j (by rw [HL1.out]; exact hlt))
              have HSU := hid (Pl.goneL_succ rs ss j (by rw [HR1.out]; exact hlt))
              have HLE : Hid ((Pl.goneL (rs.take j) ss).length ≤ 200) := hid (by
                have e1 := Pl.goneL_len (rs.take j) ss
                have e2 := List.length_take_le j rs
                omega)
              rw [HP2.out, ← HRD.out.1] at HSU
              generalize Pl.rh hs j = hh at *
              obtain ⟨⟨p1, p2⟩, here, cost, hha, hhl', hhc⟩ := hh
              simp only at s0 s1 HSU
              have x0 := (HBQ.out.cell (p := ⟨ba, offa + j * 5, none⟩) hbaw).trans s0
              have x1 := (HBQ.out.cell (p := ⟨ba, offa + j * 5 + 1, none⟩) hbaw).trans s1
              obtain ⟨tt, HT⟩ : ∃ x, Hid (Pl.thereP (Pl.hp gs) (p1, p2) = x) := ⟨_, rfl⟩
              rw [HT.out] at HSU
              have HFI : Hid (∀ W, Below w.heap.size w W → Calls Try.prog 29 #[.slice b lb cb, .agg #[.int .i64 p1, .int .i64 p2]] W fun e w' => ∃ g : Pl.RH, e = .returned (.tuple #[.agg #[.int .i64 g.p.1, .int .i64 g.p.2, .bool g.here, .int .i64 g.cost, .slice g.ha g.hl g.hc], .bool tt]) ∧ (tt = true → g = Pl.rh gs (Pl.posP (Pl.hp gs) (p1, p2))) ∧ Below W.heap.size W w') := hid fun W hW => by
                have := routeAt_any b lb cb gs p1 p2 W (H2.out.below hW) HA2.out
                rwa [HT.out] at this
              have hlt' : (j : Int) < (la : Int) := by omega
              have hbar : ba < wr.heap.size := by omega
              cases tt
              · go_wp2_with fail
                refine (HFI.out _ HBQ.out).mono ?_
                rintro e w3 ⟨gg, rfl, _, hb3⟩
                have HQ3 := hid (HQ.out.trans (hb3.mono hzq))
                have HP3 := hid (HP.out.below hb3)
                have HBQ3 := hid (HBQ.out.trans (hb3.mono hz))
                clear hb3 x0 x1
                have HAL : Hid (Below w3.heap.size w3 (w3.alloc (.cells #[.int .i64 gg.p.1, .int .i64 gg.p.2, .bool gg.here, .int .i64 gg.cost, .slice gg.ha gg.hl gg.hc] 30))) := hid ((Below.refl _ _).alloc (Nat.le_refl _) _)
                have HQ4 := hid (HQ3.out.trans (HAL.out.mono HQ3.out.size))
                have hz4 := HQ4.out.size
                have HBQ4 := hid (HBQ3.out.trans (HAL.out.mono HBQ3.out.size))
                have HP4 := hid (HP3.out.below HAL.out)
                have x0 := (HBQ4.out.cell (p := ⟨ba, offa + j * 5, none⟩) hbaw).trans s0
                have x1 := (HBQ4.out.cell (p := ⟨ba, offa + j * 5 + 1, none⟩) hbaw).trans s1
                have y0 := (HBQ3.out.cell (p := ⟨ba, offa + j * 5, none⟩) hbaw).trans s0
                have y1 := (HBQ3.out.cell (p := ⟨ba, offa + j * 5 + 1, none⟩) hbaw).trans s1
                have hba3 : ba < w3.heap.size := by have := HBQ3.out.size; omega
                go_wp2_with (at_builtin; refine append_pairT Try.underlying35 infoPfxR rfl (.tmp 77) (.tmp 83) rfl W9.heap.size u12 (Pl.goneL (rs.take j) ss) (p1, p2) rfl HP4.out hz4 (by simp; rfl) (by have := HLE.out; omega) ?_; intro v5 w5 ho5 hb5 _; have HP5 := hid ho5; have HQ5 := hid (HQ4.out.trans hb5); clear ho5 hb5)
                go_roundw
                case rel => exact ⟨j + 1, by omega, by go_num, hid (by rw [HSU.out]; exact HP5.out), HQ5⟩
                case measure => simp [intOf]; omega
              · go_wp2_with fail
                refine (HFI.out _ HBQ.out).mono ?_
                rintro e w3 ⟨gg, rfl, _, hb3⟩
                have HQ3 := hid (HQ.out.trans (hb3.mono hzq))
                have HP3 := hid (HP.out.below hb3)
                clear hb3 x0 x1
                go_wp2_with fail
                go_roundw
                case rel => exact ⟨j + 1, by omega, by go_num, hid (by rw [HSU.out]; simpa using HP3.out.below ((Below.refl _ _).alloc (Nat.le_refl _) _)), hid (HQ3.out.alloc HQ3.out.size _)⟩
                case measure => simp [intOf]; omega
            · have HPE : Hid (OwnP 27 wr W9.heap.size u12 (Pl.goneL rs ss)) := hid (by
                have := HP.out
                rwa [List.take_of_length_le (by rw [HR1.out]; omega)] at this)
              have hnl2 : ¬ ((j : Int) < (la : Int)) := by omega
              go_wp2_with fail
              go_ret3
              exact ⟨_, _, by rw [HE.out.1]; rfl, ⟨es, HO.out.below HQ.out, by rw [HE.out.2.1]; exact HO9.out⟩, by rw [HE.out.2.2]; exact HPE.out.mono HB.out.size, HBQ.out⟩
    · have HE : Hid (DC = c2 ∧ DS = [] ∧ DG = []) := hid (by
        have e : Pl.diffC rs ss = c2 := by unfold Pl.diffC; rw [HC1.out, if_pos rfl, HC2.out]
        rw [← HDC.out, ← HDS.out, ← HDG.out]
        unfold Pl.diffS Pl.diffG
        rw [e, if_neg hz2, if_neg hz2]
        exact ⟨rfl, rfl, rfl⟩)
      have hd0 : (c2 != 0) = true := by simpa using hz2
      clear hz2
      go_enter Try.func13, Try.ntmps13
      go_wp2_with fail
      refine (TableFault_any _ _ _ hs rs _ H1.out D1.out).mono ?_
      rw [HC1.out]
      rintro e w1 ⟨rfl, hbA⟩
      go_wp2_with fail
      refine (TableFault_any _ _ _ gs ss _ (H2.out.below hbA) (D2.out.below hbA)).mono ?_
      rw [HC2.out]
      rintro e w2 ⟨rfl, hbB⟩
      have HB0 := hid (hbA.trans (hbB.mono hbA.size))
      clear hbA hbB
      go_wp2_with fail
      go_ret3
      exact ⟨_, _, [], by rw [HE.out.1]; rfl, by rw [HE.out.2.1]; exact ⟨OwnR.nil _ _, ReadsAll.nil _⟩, by rw [HE.out.2.2]; exact OwnP.nil _ _ _, HB0.out⟩
  · have HE : Hid (DC = c1 ∧ DS = [] ∧ DG = []) := hid (by
      have e : Pl.diffC rs ss = c1 := by unfold Pl.diffC; rw [HC1.out, if_neg hz1]
      rw [← HDC.out, ← HDS.out, ← HDG.out]
      unfold Pl.diffS Pl.diffG
      rw [e, if_neg hz1, if_neg hz1]
      exact ⟨rfl, rfl, rfl⟩)
    have hd0 : (c1 != 0) = true := by simpa using hz1
    have hd1 : (c1 == 0) = false := by simpa using hz1
    clear hz1
    go_enter Try.func13, Try.ntmps13
    go_wp2_with fail
    refine (TableFault_any _ _ _ hs rs _ H1.out D1.out).mono ?_
    rw [HC1.out]
    rintro e w1 ⟨rfl, hbA⟩
    go_wp2_with fail
    go_ret3
    exact ⟨_, _, [], by rw [HE.out.1]; rfl, by rw [HE.out.2.1]; exact ⟨OwnR.nil _ _, ReadsAll.nil _⟩, by rw [HE.out.2.2]; exact OwnP.nil _ _ _, hbA⟩
end Go.Proofs.Ytcdobhdbafpkiae
