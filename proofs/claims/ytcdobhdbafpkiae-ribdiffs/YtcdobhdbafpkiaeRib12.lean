/-
  Contract: what parts two tables (rib.Diff).
-/
import Derived.Test.YtcdobhdbafpkiaeRib10
import Derived.Test.YtcdobhdbafpkiaeRib11
namespace Go.Proofs.Ytcdobhdbafpkiae
open Go.RowKit

def Pl.diffC (a b : List Pl.Rt) : Int := if Pl.tabF a = 0 then Pl.tabF b else Pl.tabF a
def Pl.diffS (a b : List Pl.Rt) : List Pl.Rt := if Pl.diffC a b = 0 then Pl.setL a b else []
def Pl.diffG (a b : List Pl.Rt) : List (Int × Int) := if Pl.diffC a b = 0 then Pl.goneL a b else []
theorem Pl.take_rt (rs : List Pl.Rt) (k : Nat) (h : k < rs.length) : rs.take (k + 1) = rs.take k ++ [Pl.rt rs k] := by
  rw [List.take_succ_eq_append_getElem h, Pl.rt_eq rs k h]
theorem Pl.setL_succ (a b : List Pl.Rt) (k : Nat) (h : k < b.length) : Pl.setL a (b.take (k + 1)) = Pl.setL a (b.take k) ++ (if Pl.keptB a (Pl.rt b k) then [] else [Pl.rt b k]) := by
  unfold Pl.setL
  rw [Pl.take_rt b k h, List.filter_append]
  cases hk : Pl.keptB a (Pl.rt b k) <;> simp [hk]
theorem Pl.goneL_succ (a b : List Pl.Rt) (k : Nat) (h : k < a.length) : Pl.goneL (a.take (k + 1)) b = Pl.goneL (a.take k) b ++ (if Pl.thereP (b.map Pl.Rt.p) (Pl.rt a k).p then [] else [(Pl.rt a k).p]) := by
  unfold Pl.goneL
  rw [Pl.take_rt a k h, List.filter_append, List.map_append]
  cases hk : Pl.thereP (b.map Pl.Rt.p) (Pl.rt a k).p <;> simp [hk]
theorem Pl.setL_len (a b : List Pl.Rt) : (Pl.setL a b).length ≤ b.length := List.length_filter_le _ _
theorem Pl.goneL_len (a b : List Pl.Rt) : (Pl.goneL a b).length ≤ a.length := by
  unfold Pl.goneL
  rw [List.length_map]
  exact List.length_filter_le _ _

theorem infoPfxR : (Try.prog.info? 27).map (fun i => (i.zero, i.size, i.bytes)) = some (some (.agg #[.int .i64 0, .int .i64 0]), 2, 16) := by kernel_rfl
theorem ret3 {v1 v2 v3 : Value} {P : Prop} (h : P) : Ending.returned (.tuple #[v1, v2, v3]) = .returned (.tuple #[v1, v2, v3]) ∧ P := ⟨rfl, h⟩

set_option maxRecDepth 20000 in
set_option maxHeartbeats 4000000 in
theorem Diff_any (a : Option Addr) (la ca : Nat) (hs : List Pl.RH) (rs : List Pl.Rt) (b : Option Addr) (lb cb : Nat) (gs : List Pl.RH) (ss : List Pl.Rt) (w : World) (h1 : IsRows w a la ca hs) (d1 : ReadsAll w hs rs) (h2 : IsRows w b lb cb gs) (d2 : ReadsAll w gs ss) :
    Calls Try.prog 12 #[.slice a la ca, .slice b lb cb] w fun e w' =>
      ∃ vs vg es, e = .returned (.tuple #[vs, vg, .int .i64 (Pl.diffC rs ss)]) ∧ OwnTb w' w.heap.size vs es (Pl.diffS rs ss) ∧ OwnP 27 w' w.heap.size vg (Pl.diffG rs ss) ∧ Below w.heap.size w w' := by
  have H1 := hid h1
  have D1 := hid d1
  have H2 := hid h2
  have D2 := hid d2
  have HL1 : Hid (hs.length = la) := hid h1.1
  have HL2 : Hid (gs.length = lb) := hid h2.1
  have HR1 : Hid (rs.length = la) := hid (by rw [← d1.1]; exact h1.1)
  have HR2 : Hid (ss.length = lb) := hid (by rw [← d2.1]; exact h2.1)
  have hc1 := h1.2.1
  have hm1 := h1.2.2.1
  have hc2 := h2.2.1
  have hm2 := h2.2.2.1
  unfold maxLen at hm1 hm2
  clear h1 d1 h2 d2
  obtain ⟨DC, HDC⟩ : ∃ x, Hid (Pl.diffC rs ss = x) := ⟨_, rfl⟩
  obtain ⟨DS, HDS⟩ : ∃ x, Hid (Pl.diffS rs ss = x) := ⟨_, rfl⟩
  obtain ⟨DG, HDG⟩ : ∃ x, Hid (Pl.diffG rs ss = x) := ⟨_, rfl⟩
  rw [HDC.out, HDS.out, HDG.out]
  obtain ⟨c1, HC1⟩ : ∃ c, Hid (Pl.tabF rs = c) := ⟨_, rfl⟩
  obtain ⟨c2, HC2⟩ : ∃ c, Hid (Pl.tabF ss = c) := ⟨_, rfl⟩
  by_cases hz1 : c1 = 0
  · subst hz1
    by_cases hz2 : c2 = 0
    · subst hz2
      have HE : Hid (DC = 0 ∧ DS = Pl.setL rs ss ∧ DG = Pl.goneL rs ss) := hid (by
        have e : Pl.diffC rs ss = 0 := by unfold Pl.diffC; rw [HC1.out, if_pos rfl, HC2.out]
        rw [← HDC.out, ← HDS.out, ← HDG.out]
        unfold Pl.diffS Pl.diffG
        rw [e, if_pos rfl, if_pos rfl]
        exact ⟨rfl, rfl, rfl⟩)
      have hg1 := Pl.good_of_tabF HC1.out
      have hg2 := Pl.good_of_tabF HC2.out
      have HA1 : Hid (Pl.AscP (Pl.hp hs)) := hid (by unfold Pl.hp; rw [D1.out.map_p]; exact hg1.2.2)
      have HA2 : Hid (Pl.AscP (Pl.hp gs)) := hid (by unfold Pl.hp; rw [D2.out.map_p]; exact hg2.2.2)
      have hb1 : la ≤ 200 := by have := hg1.1; rw [HR1.out] at this; exact this
      have hb2 : lb ≤ 200 := by have := hg2.1; rw [HR2.out] at this; exact this
      have HRB2 : Hid (∀ i, i < lb → Pl.routeB (Pl.rt ss i) = true) := hid fun i hi => hg2.2.1 i (by rw [HR2.out]; exact hi)
      have HP1 : Hid (rs.map Pl.Rt.p = Pl.hp hs) := hid D1.out.map_p.symm
      have HP2 : Hid (ss.map Pl.Rt.p = Pl.hp gs) := hid D2.out.map_p.symm
      have HLP : Hid ((Pl.hp hs).length = la) := hid (by rw [Pl.hp_len, HL1.out])
      clear hg1 hg2
      go_enter Try.func12, Try.ntmps12
      go_wp2_with fail
      refine (Check_rib _ _ _ hs rs _ H1.out D1.out).mono ?_
      rw [HC1.out]
      rintro e w1 ⟨rfl, hbA⟩
      go_wp2_with fail
      refine (Check_rib _ _ _ gs ss _ (H2.out.below hbA) (D2.out.below hbA)).mono ?_
      rw [HC2.out]
      rintro e w2 ⟨rfl, hbB⟩
      have HB0 := hid (hbA.trans (hbB.mono hbA.size))
      clear hbA hbB
      go_wp2_with fail
      go_loopw [9, 31] (fun v i wr => ∃ (k : Nat) (es : List Pl.RH), k ≤ lb ∧ i = .int .i64 k ∧ Hid (OwnTb wr w.heap.size v es (Pl.setL rs (ss.take k))) ∧ Hid (Below w.heap.size w wr)) (fun _ i _ => lb - (intOf i).toNat)
      case atStart => exact ⟨0, [], Nat.zero_le _, rfl, hid (OwnTb.nil _ _), HB0⟩
      case round =>
        obtain ⟨k, es, hk, rfl, HO, HB⟩ := hrel
        by_cases hlt : k < lb
        · obtain ⟨bb, off, rfl, hbw, hr⟩ := H2.out.at hlt
          have hz := HB.out.size
          obtain ⟨x0, x1, x2, x3, x4⟩ := hr.below hbw HB.out k (by rw [HL2.out]; exact hlt)
          have HRD := hid (D2.out.2 k (by rw [HL2.out]; exact hlt))
          have HSU := hid (Pl.setL_succ rs ss k (by rw [HR2.out]; exact hlt))
          have hhl : (Pl.rh gs k).hl ≤ 1000 := by
            have e1 := HRD.out.2.2.2.1.1
            have e2 := Pl.routeB_hops (HRB2.out k hlt)
            omega
          obtain ⟨kb, HKB⟩ : ∃ x, Hid (Pl.keptB rs (Pl.rt ss k) = x) := ⟨_, rfl⟩
          have HKE : Hid (kb = (Pl.thereP (Pl.hp hs) (Pl.rh gs k).p && Pl.sameR (Pl.rt rs (Pl.posP (Pl.hp hs) (Pl.rh gs k).p)) (Pl.rt ss k))) := hid (by
            rw [← HKB.out]; unfold Pl.keptB; rw [HP1.out, HRD.out.1])
          rw [HKB.out] at HSU
          obtain ⟨r, HRR⟩ : ∃ x, Hid (Pl.rt ss k = x) := ⟨_, rfl⟩
          rw [HRR.out] at HRD HSU HKE
          generalize Pl.rh gs k = hh at *
          obtain ⟨⟨p1, p2⟩, here, cost, hha, hhl', hhc⟩ := hh
          simp only at x0 x1 x2 x3 x4 hhl HKE
          obtain ⟨tt, HT⟩ : ∃ x, Hid (Pl.thereP (Pl.hp hs) (p1, p2) = x) := ⟨_, rfl⟩
          have HFI : Hid (∀ W, Below w.heap.size w W → Calls Try.prog 23 #[.slice a la ca, .agg #[.int .i64 p1, .int .i64 p2]] W fun e w' => e = .returned (.tuple #[.int .i64 (Pl.posP (Pl.hp hs) (p1, p2)), .bool tt]) ∧ Below W.heap.size W w') := hid fun W hW => by
            have := find_rib a la ca hs p1 p2 W (H1.out.below hW) HA1.out (by omega)
            rwa [HT.out] at this
          have HPL : Hid (tt = true → Pl.posP (Pl.hp hs) (p1, p2) < la) := hid fun e => by
            have := Pl.thereP_lt (by rw [HT.out]; exact e : Pl.thereP (Pl.hp hs) (p1, p2) = true)
            rwa [HLP.out] at this
          rw [HT.out] at HKE
          generalize Pl.posP (Pl.hp hs) (p1, p2) = ix at *
          have HFR : Hid (∀ W, Below w.heap.size w W → Calls Try.prog 25 #[.agg #[.int .i64 p1, .int .i64 p2, .bool here, .int .i64 cost, .slice hha hhl' hhc]] W fun e w' => ∃ g : Pl.RH, e = .returned (.agg #[.int .i64 g.p.1, .int .i64 g.p.2, .bool g.here, .int .i64 g.cost, .slice g.ha g.hl g.hc]) ∧ ReadsZ w' W.heap.size g r ∧ Below W.heap.size W w') := hid fun W hW => fresh_own ⟨(p1, p2), here, cost, hha, hhl', hhc⟩ r W (HRD.out.below hW) hhl
          have HLE : Hid (es.length ≤ 200) := hid (by
            rw [HO.out.2.1]
            have e1 := Pl.setL_len rs (ss.take k)
            have e2 := List.length_take_le k ss
            omega)
          cases tt
          · have HK0 : Hid (kb = false) := hid (by rw [HKE.out]; rfl)
            go_wp2_with fail
            refine (HFI.out _ (HB.out.alloc hz _)).mono ?_
            rintro e w3 ⟨rfl, hb3⟩
            obtain ⟨⟨y0, y1, y2, y3, y4⟩, hbx, hbb⟩ := box5 (by simpa using hb3)
            have HB3 := hid (HB.out.trans (hbb.mono hz))
            have HO3 := hid (HO.out.below hbb)
            clear hb3 x0 x1 x2 x3 x4
            go_wp2_with fail
            have hne := in_some w3
            refine wp_region_in (by kernel_rfl) (by kernel_rfl) ?_
            repeat (go_big_quiet_step (fail))
            refine wpQuiet_nil ?_
            intro w4 hw'
            have hb4 := in_out hw'
            clear hw' hne
            have HB4 := hid (HB3.out.trans (hb4.mono HB3.out.size))
            have HO4 := hid (HO3.out.below hb4)
            have z0 := (hb4.cell (p := ⟨wr.heap.size, 0, none⟩) hbx).trans y0
            have z1 := (hb4.cell (p := ⟨wr.heap.size, 1, none⟩) hbx).trans y1
            have z2 := (hb4.cell (p := ⟨wr.heap.size, 2, none⟩) hbx).trans y2
            have z3 := (hb4.cell (p := ⟨wr.heap.size, 3, none⟩) hbx).trans y3
            have z4 := (hb4.cell (p := ⟨wr.heap.size, 4, none⟩) hbx).trans y4
            clear hb4 y0 y1 y2 y3 y4 hbb
            go_wp2_with fail
            refine (HFR.out _ HB4.out).mono ?_
            rintro e w6 ⟨g, rfl, hg6, hb6⟩
            have HB6 := hid (HB4.out.trans (hb6.mono HB4.out.size))
            have HO6 := hid (HO4.out.below hb6)
            have HG6 := hid (hg6.mono HB4.out.size)
            have hz6 := HB6.out.size
            clear hg6 hb6
            go_wp2_with (at_builtin; refine append_rt rfl (.tmp 53) (.tmp 56) rfl w.heap.size u9 es g rfl HO6.out.1 hz6 rfl (by have := HLE.out; omega) ?_; intro v7 w7 hown7 hg7 hb7; have HO7 := hid (HO6.out.snoc HG6.out hown7 hg7); have HB7 := hid (HB6.out.trans hb7); clear hown7 hg7 hb7)
            go_roundw
            case rel => exact ⟨k + 1, es ++ [g], by omega, by go_num, hid (by rw [HSU.out, HK0.out]; exact HO7.out), HB7⟩
            case measure => simp [intOf]; omega
          · have hix := HPL.out rfl
            obtain ⟨ba, offa, rfl, hbaw, hra⟩ := H1.out.at hix
            obtain ⟨s0, s1, s2, s3, s4⟩ := hra ix (by rw [HL1.out]; exact hix)
            have HRA := hid (D1.out.2 ix (by rw [HL1.out]; exact hix))
            generalize Pl.rh hs ix = ga at *
            obtain ⟨⟨q1, q2⟩, here2, cost2, ga2, gl2, gc2⟩ := ga
            simp only at s0 s1 s2 s3 s4
            obtain ⟨sm, HSM⟩ : ∃ x, Hid (Pl.sameR (Pl.rt rs ix) r = x) := ⟨_, rfl⟩
            have HKS : Hid (kb = sm) := hid (by rw [HKE.out, HSM.out]; rfl)
            have HSC : Hid (∀ W, Below w.heap.size w W → Calls Try.prog 28 #[.agg #[.int .i64 q1, .int .i64 q2, .bool here2, .int .i64 cost2, .slice ga2 gl2 gc2], .agg #[.int .i64 p1, .int .i64 p2, .bool here, .int .i64 cost, .slice hha hhl' hhc]] W fun e w' => e = .returned (.bool sm) ∧ Below W.heap.size W w') := hid fun W hW => by
              have := same_any ⟨(q1, q2), here2, cost2, ga2, gl2, gc2⟩ ⟨(p1, p2), here, cost, hha, hhl', hhc⟩ (Pl.rt rs ix) r W (HRA.out.below hW) (HRD.out.below hW)
              rwa [HSM.out] at this
            have hix' : (ix : Int) < (la : Int) := by omega
            cases sm
            all_goals
              go_wp2_with fail
              refine (HFI.out _ (HB.out.alloc hz _)).mono ?_
              rintro e w3 ⟨rfl, hb3⟩
              obtain ⟨⟨y0, y1, y2, y3, y4⟩, hbx, hbb⟩ := box5 (by simpa using hb3)
              have HB3 := hid (HB.out.trans (hbb.mono hz))
              have HO3 := hid (HO.out.below hbb)
              clear hb3 x0 x1 x2 x3 x4
              have t0 := (HB3.out.cell (p := ⟨ba, offa + ix * 5, none⟩) hbaw).trans s0
              have t1 := (HB3.out.cell (p := ⟨ba, offa + ix * 5 + 1, none⟩) hbaw).trans s1
              have t2 := (HB3.out.cell (p := ⟨ba, offa + ix * 5 + 2, none⟩) hbaw).trans s2
              have t3 := (HB3.out.cell (p := ⟨ba, offa + ix * 5 + 3, none⟩) hbaw).trans s3
              have t4 := (HB3.out.cell (p := ⟨ba, offa + ix * 5 + 4, none⟩) hbaw).trans s4
              have hba3 : ba < w3.heap.size := by have := HB3.out.size; omega
              go_wp2_with fail
              have i0 := in_cell hba3 t0
              have i1 := in_cell hba3 t1
              have i2 := in_cell hba3 t2
              have i3 := in_cell hba3 t3
              have i4 := in_cell hba3 t4
              have j0 := in_cell hbx y0
              have j1 := in_cell hbx y1
              have j2 := in_cell hbx y2
              have j3 := in_cell hbx y3
              have j4 := in_cell hbx y4
              have hne := in_some w3
              have HSX := hid (fun x : WIn w3 => HSC.out x.w (HB3.out.trans (x.h.mono HB3.out.size)))
              refine wp_region_in (by kernel_rfl) (by kernel_rfl) ?_
              repeat (go_big_quiet_step ((go_at_call 28; exact in_call (HSX.out _))))
              refine wpQuiet_nil ?_
              intro w4 hw'
              have hb4 := in_out hw'
              clear hw' hne i0 i1 i2 i3 i4 j0 j1 j2 j3 j4 t0 t1 t2 t3 t4 s0 s1 s2 s3 s4
            · have HK0 : Hid (kb = false) := HKS
              have HB4 := hid (HB3.out.trans (hb4.mono HB3.out.size))
              have HO4 := hid (HO3.out.below hb4)
              have z0 := (hb4.cell (p := ⟨wr.heap.size, 0, none⟩) hbx).trans y0
              have z1 := (hb4.cell (p := ⟨wr.heap.size, 1, none⟩) hbx).trans y1
              have z2 := (hb4.cell (p := ⟨wr.heap.size, 2, none⟩) hbx).trans y2
              have z3 := (hb4.cell (p := ⟨wr.heap.size, 3, none⟩) hbx).trans y3
              have z4 := (hb4.cell (p := ⟨wr.heap.size, 4, none⟩) hbx).trans y4
              clear hb4 y0 y1 y2 y3 y4 hbb
              go_wp2_with fail
              refine (HFR.out _ HB4.out).mono ?_
              rintro e w6 ⟨g, rfl, hg6, hb6⟩
              have HB6 := hid (HB4.out.trans (hb6.mono HB4.out.size))
              have HO6 := hid (HO4.out.below hb6)
              have HG6 := hid (hg6.mono HB4.out.size)
              have hz6 := HB6.out.size
              clear hg6 hb6
              go_wp2_with (at_builtin; refine append_rt rfl (.tmp 53) (.tmp 56) rfl w.heap.size u9 es g rfl HO6.out.1 hz6 rfl (by have := HLE.out; omega) ?_; intro v7 w7 hown7 hg7 hb7; have HO7 := hid (HO6.out.snoc HG6.out hown7 hg7); have HB7 := hid (HB6.out.trans hb7); clear hown7 hg7 hb7)
              go_roundw
              case rel => exact ⟨k + 1, es ++ [g], by omega, by go_num, hid (by rw [HSU.out, HK0.out]; exact HO7.out), HB7⟩
              case measure => simp [intOf]; omega
            · go_wp2_with fail
              go_roundw
              case rel => exact ⟨k + 1, es, by omega, by go_num, hid (by rw [HSU.out, HKS.out]; simpa using HO3.out.below hb4), hid (HB3.out.trans (hb4.mono HB3.out.size))⟩
              case measure => simp [intOf]; omega
        · obtain rfl : k = lb := by omega
          have HO9 : Hid (OwnTb wr w.heap.size u9 es (Pl.setL rs ss)) := hid (by
            have := HO.out
            rwa [List.take_of_length_le (by rw [HR2.out]; exact Nat.le_refl _)] at this)
          clear HO
          generalize u9 = v9 at *
          generalize wr = W9 at *
          go_wp2_with fail
          go_loopw [14, 61] (fun v i wq => ∃ k : Nat, k ≤ la ∧ i = .int .i64 k ∧ Hid (OwnP 27 wq W9.heap.size v (Pl.goneL (rs.take k) ss)) ∧ Hid (Below W9.heap.size W9 wq)) (fun _ i _ => la - (intOf i).toNat)
          case atStart => exact ⟨0, Nat.zero_le _, rfl, hid (OwnP.nil _ _ _), hid (Below.refl _ _)⟩
          case round =>
            obtain ⟨j, hj, rfl, HP, HQ⟩ := hrel
            have HBQ := hid (HB.out.trans (HQ.out.mono HB.out.size))
            by_cases hlt : j < la
            · obtain ⟨ba, offa, rfl, hbaw, hra⟩ := H1.out.at hlt
              have hz := HBQ.out.size
              have hzq := HQ.out.size
              obtain ⟨x0, x1, x2, x3, x4⟩ := hra.below hbaw HBQ.out j (by rw [HL1.out]; exact hlt)
              have HRD := hid (D1.out.2 j (by rw [HL1.out]; exact hlt))
              have HSU := hid (Pl.goneL_succ rs ss j (by rw [HR1.out]; exact hlt))
              have HLE : Hid ((Pl.goneL (rs.take j) ss).length ≤ 200) := hid (by
                have e1 := Pl.goneL_len (rs.take j) ss
                have e2 := List.length_take_le j rs
                omega)
              rw [HP2.out, ← HRD.out.1] at HSU
              generalize Pl.rh hs j = hh at *
              obtain ⟨⟨p1, p2⟩, here, cost, hha, hhl', hhc⟩ := hh
              simp only at x0 x1 x2 x3 x4 HSU
              obtain ⟨tt, HT⟩ : ∃ x, Hid (Pl.thereP (Pl.hp gs) (p1, p2) = x) := ⟨_, rfl⟩
              rw [HT.out] at HSU
              have HFI : Hid (∀ W, Below w.heap.size w W → Calls Try.prog 23 #[.slice b k cb, .agg #[.int .i64 p1, .int .i64 p2]] W fun e w' => e = .returned (.tuple #[.int .i64 (Pl.posP (Pl.hp gs) (p1, p2)), .bool tt]) ∧ Below W.heap.size W w') := hid fun W hW => by
                have := find_rib b k cb gs p1 p2 W (H2.out.below hW) HA2.out (by omega)
                rwa [HT.out] at this
              generalize Pl.posP (Pl.hp gs) (p1, p2) = ix at *
              cases tt
              · go_wp2_with fail
                refine (HFI.out _ (HBQ.out.alloc hz _)).mono ?_
                rintro e w3 ⟨rfl, hb3⟩
                obtain ⟨⟨y0, y1, y2, y3, y4⟩, hbx, hbb⟩ := box5 (by simpa using hb3)
                have HQ3 := hid (HQ.out.trans (hbb.mono hzq))
                have HP3 := hid (HP.out.below hbb)
                have hz3 := HQ3.out.size
                clear hb3 x0 x1 x2 x3 x4
                go_wp2_with (at_builtin; refine append_pairT Try.underlying35 infoPfxR rfl (.tmp 74) (.tmp 77) rfl W9.heap.size u14 (Pl.goneL (rs.take j) ss) (p1, p2) rfl HP3.out hz3 rfl (by have := HLE.out; omega) ?_; intro v5 w5 ho5 hb5 _; have HP5 := hid ho5; have HQ5 := hid (HQ3.out.trans hb5); clear ho5 hb5)
                go_roundw
                case rel => exact ⟨j + 1, by omega, by go_num, hid (by rw [HSU.out]; exact HP5.out), HQ5⟩
                case measure => simp [intOf]; omega
              · go_wp2_with fail
                refine (HFI.out _ (HBQ.out.alloc hz _)).mono ?_
                rintro e w3 ⟨rfl, hb3⟩
                obtain ⟨⟨y0, y1, y2, y3, y4⟩, hbx, hbb⟩ := box5 (by simpa using hb3)
                have HQ3 := hid (HQ.out.trans (hbb.mono hzq))
                have HP3 := hid (HP.out.below hbb)
                clear hb3 x0 x1 x2 x3 x4
                go_wp2_with fail
                go_roundw
                case rel => exact ⟨j + 1, by omega, by go_num, hid (by rw [HSU.out]; simpa using HP3.out), HQ3⟩
                case measure => simp [intOf]; omega
            · have HPE : Hid (OwnP 27 wr W9.heap.size u14 (Pl.goneL rs ss)) := hid (by
                have := HP.out
                rwa [List.take_of_length_le (by rw [HR1.out]; omega)] at this)
              have hnl : ¬ ((j : Int) < (la : Int)) := by omega
              go_wp2_with fail
              go_ret3
              exact ⟨_, _, by rw [HE.out.1]; rfl, ⟨es, by rw [HE.out.2.1]; exact HO9.out.below HQ.out⟩, by rw [HE.out.2.2]; exact HPE.out.mono HB.out.size, HBQ.out⟩
    · have HE : Hid (DC = c2 ∧ DS = [] ∧ DG = []) := hid (by
        have e : Pl.diffC rs ss = c2 := by unfold Pl.diffC; rw [HC1.out, if_pos rfl, HC2.out]
        rw [← HDC.out, ← HDS.out, ← HDG.out]
        unfold Pl.diffS Pl.diffG
        rw [e, if_neg hz2, if_neg hz2]
        exact ⟨rfl, rfl, rfl⟩)
      have hd0 : (c2 != 0) = true := by simpa using hz2
      clear hz2
      go_enter Try.func12, Try.ntmps12
      go_wp2_with fail
      refine (Check_rib _ _ _ hs rs _ H1.out D1.out).mono ?_
      rw [HC1.out]
      rintro e w1 ⟨rfl, hbA⟩
      go_wp2_with fail
      refine (Check_rib _ _ _ gs ss _ (H2.out.below hbA) (D2.out.below hbA)).mono ?_
      rw [HC2.out]
      rintro e w2 ⟨rfl, hbB⟩
      have HB0 := hid (hbA.trans (hbB.mono hbA.size))
      clear hbA hbB
      go_wp2_with fail
      go_ret3
      exact ⟨_, _, [], by rw [HE.out.1]; rfl, by rw [HE.out.2.1]; exact OwnTb.nil _ _, by rw [HE.out.2.2]; exact OwnP.nil _ _ _, HB0.out⟩
  · have HE : Hid (DC = c1 ∧ DS = [] ∧ DG = []) := hid (by
      have e : Pl.diffC rs ss = c1 := by unfold Pl.diffC; rw [HC1.out, if_neg hz1]
      rw [← HDC.out, ← HDS.out, ← HDG.out]
      unfold Pl.diffS Pl.diffG
      rw [e, if_neg hz1, if_neg hz1]
      exact ⟨rfl, rfl, rfl⟩)
    have hd0 : (c1 != 0) = true := by simpa using hz1
    clear hz1
    go_enter Try.func12, Try.ntmps12
    go_wp2_with fail
    refine (Check_rib _ _ _ hs rs _ H1.out D1.out).mono ?_
    rw [HC1.out]
    rintro e w1 ⟨rfl, hbA⟩
    go_wp2_with fail
    go_ret3
    exact ⟨_, _, [], by rw [HE.out.1]; rfl, by rw [HE.out.2.1]; exact OwnTb.nil _ _, by rw [HE.out.2.2]; exact OwnP.nil _ _ _, hbA⟩
end Go.Proofs.Ytcdobhdbafpkiae
