/-
  Contract: a table that is patched, as the document says it (PatchedOf).
-/
import Derived.Test.YtcdobhdbafpkiaeRib22
namespace Go.Proofs.Ytcdobhdbafpkiae
open Go.RowKit

/-- what stays of a table -/
def Pl.stay (rs : List Pl.Rt) (ps : List (Int × Int)) : List Pl.Rt := rs.filter fun r => decide (¬ r.p ∈ ps)
theorem Pl.stay_succ (rs : List Pl.Rt) (ps : List (Int × Int)) (k : Nat) (h : k < rs.length) : Pl.stay (rs.take (k + 1)) ps = Pl.stay (rs.take k) ps ++ (if (Pl.rt rs k).p ∈ ps then [] else [Pl.rt rs k]) := by
  unfold Pl.stay
  rw [Pl.take_rt rs k h, List.filter_append]
  by_cases hm : (Pl.rt rs k).p ∈ ps <;> simp [hm]
theorem Pl.wR_step (os : List Pl.Rt) (k : Nat) (h : k < os.length) (b : Bool) (x : Pl.Rt) : Pl.wR (os.drop k) b x = (if !b && !Pl.pltB (Pl.rt os k).p x.p then [x] else []) ++ ((if (Pl.rt os k).p = x.p then [] else [Pl.rt os k]) ++ Pl.wR (os.drop (k + 1)) (b || !Pl.pltB (Pl.rt os k).p x.p) x) := by
  rw [Pl.drop_rt os k h]; rfl
theorem Pl.wR_end (os : List Pl.Rt) (b : Bool) (x : Pl.Rt) : Pl.wR (os.drop os.length) b x = if b then [] else [x] := by
  rw [List.drop_length]; rfl

set_option maxRecDepth 20000 in
set_option maxHeartbeats 8000000 in
theorem PatchedOf_any (a : Option Addr) (la ca : Nat) (hs : List Pl.RH) (rs : List Pl.Rt) (b : Option Addr) (lb cb : Nat) (gs : List Pl.RH) (ss : List Pl.Rt) (d : Option Addr) (gl gc : Nat) (ps : List (Int × Int)) (w : World) (h1 : IsRows w a la ca hs) (d1 : ReadsAll w hs rs) (h2 : IsRows w b lb cb gs) (d2 : ReadsAll w gs ss) (h3 : IsPairs w d gl gc ps) (hlb : lb ≤ 3000000000000) :
    Calls Try.prog 17 #[.slice a la ca, .slice b lb cb, .slice d gl gc] w fun e w' =>
      ∃ v es, e = .returned (.tuple #[v, .int .i64 (Pl.patC rs ss ps)]) ∧ OwnR w' w.heap.size v es ∧ ReadsAll w es (Pl.patL rs ss ps) ∧ Below w.heap.size w w' := by
  have H1 := hid h1
  have D1 := hid d1
  have H2 := hid h2
  have D2 := hid d2
  have H3 := hid h3
  have HL1 : Hid (hs.length = la) := hid h1.1
  have HL2 : Hid (gs.length = lb) := hid h2.1
  have HR1 : Hid (rs.length = la) := hid (by rw [← d1.1]; exact h1.1)
  have HR2 : Hid (ss.length = lb) := hid (by rw [← d2.1]; exact h2.1)
  have hc1 := h1.2.1
  have hm1 := h1.2.2.1
  have hc2 := h2.2.1
  have hm2 := h2.2.2.1
  unfold maxLen at hm1 hm2
  clear h1 d1 h2 d2 h3
  obtain ⟨PC, HPC⟩ : ∃ x, Hid (Pl.patC rs ss ps = x) := ⟨_, rfl⟩
  obtain ⟨PL, HPL⟩ : ∃ x, Hid (Pl.patL rs ss ps = x) := ⟨_, rfl⟩
  rw [HPC.out, HPL.out]
  obtain ⟨c1, HC1⟩ : ∃ c, Hid (Pl.tabF rs = c) := ⟨_, rfl⟩
  by_cases hz1 : c1 = 0
  · subst hz1
    have hg1 := Pl.good_of_tabF HC1.out
    have HSRT : Hid (Pl.SrtR rs) := hid ((Pl.ascP_srt rs).1 hg1.2.2)
    have hla : la ≤ 200 := by have := hg1.1; rw [HR1.out] at this; exact this
    clear hg1
    go_enter Try.func17, Try.ntmps17
    go_wp2_with fail
    refine (TableFault_any _ _ _ hs rs _ H1.out D1.out).mono ?_
    rw [HC1.out]
    rintro e w1 ⟨rfl, hbA⟩
    have HBA := hid hbA
    clear hbA
    go_wp2_with fail
    go_loopw [9, 10] (fun v i wr => ∃ (k : Nat) (es : List Pl.RH), k ≤ la ∧ i = .int .i64 k ∧ Hid (OwnR wr w.heap.size v es) ∧ Hid (ReadsAll w es (Pl.stay (rs.take k) ps)) ∧ Hid (es.length ≤ k) ∧ Hid (Below w.heap.size w wr)) (fun _ i _ => la - (intOf i).toNat)
    case atStart => exact ⟨0, [], Nat.zero_le _, rfl, hid (OwnR.nil _ _), hid (ReadsAll.nil _), hid (Nat.le_refl _), HBA⟩
    case round =>
      obtain ⟨k, es, hk, rfl, HO, HR, HLE, HB⟩ := hrel
      by_cases hlt : k < la
      · obtain ⟨bb, off, rfl, hbw, hr⟩ := H1.out.at hlt
        have hz := HB.out.size
        obtain ⟨c0, c1, c2, c3, c4⟩ := hr k (by rw [HL1.out]; exact hlt)
        have HRD := hid (D1.out.2 k (by rw [HL1.out]; exact hlt))
        have HST := hid (Pl.stay_succ rs ps k (by rw [HR1.out]; exact hlt))
        rw [← HRD.out.1] at HST
        obtain ⟨rr, HRR⟩ : ∃ x, Hid (Pl.rt rs k = x) := ⟨_, rfl⟩
        rw [HRR.out] at HRD HST
        generalize Pl.rh hs k = hh at *
        obtain ⟨⟨p1, p2⟩, here, cost, hha, hhl, hhc⟩ := hh
        simp only at c0 c1 c2 c3 c4 HST
        obtain ⟨tt, HT⟩ : ∃ x, Hid (decide ((p1, p2) ∈ ps) = x) := ⟨_, rfl⟩
        have HHP : Hid (∀ W, Below w.heap.size w W → Calls Try.prog 33 #[.slice d gl gc, .agg #[.int .i64 p1, .int .i64 p2]] W fun e w' => e = .returned (.bool tt) ∧ Below W.heap.size W w') := hid fun W hW => by
          have := hasPrefix_any d gl gc ps p1 p2 W (H3.out.below hW)
          rwa [HT.out] at this
        have x0 := (HB.out.cell (p := ⟨bb, off + k * 5, none⟩) hbw).trans c0
        have x1 := (HB.out.cell (p := ⟨bb, off + k * 5 + 1, none⟩) hbw).trans c1
        have hlt' : (k : Int) < (la : Int) := by omega
        cases tt
        · have HNM : Hid (¬ (p1, p2) ∈ ps) := hid (of_decide_eq_false HT.out)
          go_wp2_with fail
          refine (HHP.out _ HB.out).mono ?_
          rintro e w3 ⟨rfl, hb3⟩
          have HB3 := hid (HB.out.trans (hb3.mono hz))
          have HO3 := hid (HO.out.below hb3)
          have y0 := (HB3.out.cell (p := ⟨bb, off + k * 5, none⟩) hbw).trans c0
          have y1 := (HB3.out.cell (p := ⟨bb, off + k * 5 + 1, none⟩) hbw).trans c1
          have y2 := (HB3.out.cell (p := ⟨bb, off + k * 5 + 2, none⟩) hbw).trans c2
          have y3 := (HB3.out.cell (p := ⟨bb, off + k * 5 + 3, none⟩) hbw).trans c3
          have y4 := (HB3.out.cell (p := ⟨bb, off + k * 5 + 4, none⟩) hbw).trans c4
          have hz3 := HB3.out.size
          clear hb3 x0 x1
          go_wp2_with (at_builtin; refine append_rt rfl (.tmp 34) (.tmp 39) rfl w.heap.size u9 es ⟨(p1, p2), here, cost, hha, hhl, hhc⟩ rfl HO3.out hz3 rfl (by have := HLE.out; omega) ?_; intro v7 w7 hown7 _ hb7; have HO7 := hid hown7; have HB7 := hid (HB3.out.trans hb7); clear hown7 hb7)
          go_roundw
          case rel => exact ⟨k + 1, es ++ [⟨(p1, p2), here, cost, hha, hhl, hhc⟩], by omega, by go_num, HO7, hid (by rw [HST.out, if_neg HNM.out]; exact HR.out.snoc HRD.out), hid (by have := HLE.out; simp; omega), HB7⟩
          case measure => simp [intOf]; omega
        · have HMM : Hid ((p1, p2) ∈ ps) := hid (of_decide_eq_true HT.out)
          go_wp2_with fail
          refine (HHP.out _ HB.out).mono ?_
          rintro e w3 ⟨rfl, hb3⟩
          have HB3 := hid (HB.out.trans (hb3.mono hz))
          have HO3 := hid (HO.out.below hb3)
          clear hb3 x0 x1
          go_wp2_with fail
          go_roundw
          case rel => exact ⟨k + 1, es, by omega, by go_num, HO3, hid (by rw [HST.out, if_pos HMM.out, List.append_nil]; exact HR.out), hid (by have := HLE.out; omega), HB3⟩
          case measure => simp [intOf]; omega
      · have hnl : ¬ ((k : Int) < (la : Int)) := by omega
        have HRE : Hid (ReadsAll w es (Pl.inssR (Pl.delsR rs ps) (ss.take 0))) := hid (by
          have := HR.out
          rw [List.take_of_length_le (by rw [HR1.out]; omega)] at this
          rw [Pl.delsR_filter ps rs HSRT.out]
          exact this)
        have HLE2 : Hid (es.length ≤ 200 + 0) := hid (by have := HLE.out; omega)
        have HSD : Hid (Pl.SrtR (Pl.delsR rs ps)) := hid (Pl.delsR_srt HSRT.out)
        clear HR HLE
        go_wp2_with fail
        go_loopw [9, 11] (fun v i wr => ∃ (k : Nat) (es : List Pl.RH), k ≤ lb ∧ i = .int .i64 k ∧ Hid (OwnR wr w.heap.size v es) ∧ Hid (ReadsAll w es (Pl.inssR (Pl.delsR rs ps) (ss.take k))) ∧ Hid (es.length ≤ 200 + k) ∧ Hid (Below w.heap.size w wr)) (fun _ i _ => lb - (intOf i).toNat)
        case atStart => exact ⟨0, es, Nat.zero_le _, rfl, HO, HRE, HLE2, HB⟩
        case round =>
          clear HO HRE HLE2 HB hnl
          obtain ⟨k, es, hk, rfl, HO, HR, HLE, HB⟩ := hrel
          by_cases hlt : k < lb
          · obtain ⟨bS, oS, rfl, hbS, hrS⟩ := H2.out.at hlt
            have HXS := hid (hrS k (by rw [HL2.out]; exact hlt))
            have HXR := hid (D2.out.2 k (by rw [HL2.out]; exact hlt))
            have HST := hid (Pl.inssR_succ (Pl.delsR rs ps) ss k (by rw [HR2.out]; exact hlt))
            have HSK : Hid (Pl.SrtR (Pl.inssR (Pl.delsR rs ps) (ss.take k))) := hid (Pl.inssR_srt _ _ HSD.out)
            clear hrS
            generalize Pl.rt ss k = xr at *
            generalize Pl.inssR (Pl.delsR rs ps) (ss.take k) = os at *
            generalize Pl.rh gs k = xh at *
            obtain ⟨⟨p1, p2⟩, xhere, xcost, xa, xl, xc⟩ := xh
            simp only at HXS
            have HXP : Hid ((p1, p2) = xr.p) := hid HXR.out.1
            have hlt' : (k : Int) < (lb : Int) := by omega
            obtain ⟨a9, cap9, rfl, hrow9, _⟩ := HO.out.rows
            have hc9 := hrow9.2.1
            have hm9 := hrow9.2.2.1
            unfold maxLen at hm9
            obtain ⟨n9, HN9⟩ : ∃ n, Hid (es.length = n) := ⟨_, rfl⟩
            have HNO : Hid (os.length = n9) := hid (by rw [← HR.out.1]; exact HN9.out)
            have HROW := hid hrow9
            rw [HN9.out] at HO HLE hc9 HROW ⊢
            clear hrow9
            have HIL : Hid ((Pl.wR os false xr).length ≤ n9 + 1) := hid (by
              rw [Pl.wR_insR os xr HSK.out, Pl.insR_len, HNO.out]
              split <;> omega)
            have hn9 : n9 ≤ 3100000000000 := by have := HLE.out; omega
            generalize wr = WL at *
            have HBL := HB
            have hzL := HBL.out.size
            clear HB
            go_wp2_with fail
            go_loopw [12, 13, 14] (fun v dn i wq => ∃ (j : Nat) (bb : Bool) (ns : List Pl.RH) (nd : List Pl.Rt), j ≤ n9 ∧ dn = .bool bb ∧ i = .int .i64 j ∧ Hid (OwnR wq WL.heap.size v ns) ∧ Hid (ReadsAll w ns nd) ∧ Hid (nd ++ Pl.wR (os.drop j) bb xr = Pl.wR os false xr) ∧ Hid (Below WL.heap.size WL wq)) (fun _ _ i _ => n9 - (intOf i).toNat)
            case atStart => exact ⟨0, false, [], [], Nat.zero_le _, rfl, rfl, hid (OwnR.nil _ _), hid (ReadsAll.nil _), hid rfl, hid (Below.refl _ _)⟩
            case round =>
              obtain ⟨j, bb, ns, nd, hj, rfl, rfl, HOJ, HRJ, HEJ, HBJ⟩ := hrel
              have hzJ := HBJ.out.size
              have HLN : Hid (ns.length ≤ n9 + 1) := hid (by
                rw [HRJ.out.1]
                have e := congrArg List.length HEJ.out
                rw [List.length_append] at e
                have := HIL.out
                omega)
              by_cases hltj : j < n9
              · obtain ⟨gO, oO, rfl, hgO, hrO⟩ := HROW.out.at hltj
                have HES := hid (hrO j (by rw [HN9.out]; exact hltj))
                have HER := hid (HR.out.2 j (by rw [HN9.out]; exact hltj))
                have HWS := hid (Pl.wR_step os j (by rw [HNO.out]; exact hltj) bb xr)
                rw [HWS.out] at HEJ
                clear hrO HWS
                generalize Pl.rt os j = er at *
                generalize Pl.rh es j = eh at *
                obtain ⟨⟨q1, q2⟩, ehere, ecost, ea, el, ec⟩ := eh
                simp only at HES
                have HEP : Hid ((q1, q2) = er.p) := hid HER.out.1
                rw [← HEP.out, ← HXP.out] at HEJ
                have hltj' : (j : Int) < (n9 : Int) := by omega
                obtain ⟨lt, HLT⟩ : ∃ c, Hid (Pl.pltB (q1, q2) (p1, p2) = c) := ⟨_, rfl⟩
                rw [HLT.out] at HEJ
                have HBH : Hid (∀ W, Calls Try.prog 22 #[.agg #[.int .i64 p1, .int .i64 p2], .agg #[.int .i64 q1, .int .i64 q2]] W fun e w' => e = .returned (.bool lt) ∧ Below W.heap.size W w') := hid fun W => by
                  have := behind_any p1 p2 q1 q2 W
                  rwa [HLT.out] at this
                obtain ⟨e1, g1⟩ : ∃ c, (q1 == p1) = c := ⟨_, rfl⟩
                obtain ⟨e2, g2⟩ : ∃ c, (q2 == p2) = c := ⟨_, rfl⟩
                have HEQ : Hid (((q1, q2) = (p1, p2)) ↔ (e1 && e2) = true) := hid (by rw [← g1, ← g2]; simp)
                have hgJ : gO < wr.heap.size := by omega
                have hbJ : bS < wr.heap.size := by omega
                have HSTG : Hid (∀ (nd5 : List Pl.Rt) (b5 : Bool), nd5 ++ ((if (q1, q2) = (p1, p2) then [] else [er]) ++ Pl.wR (os.drop (j + 1)) b5 xr) = Pl.wR os false xr → ((e1 && e2) = true → nd5 ++ Pl.wR (os.drop (j + 1)) b5 xr = Pl.wR os false xr) ∧ ((e1 && e2) = false → (nd5 ++ [er]) ++ Pl.wR (os.drop (j + 1)) b5 xr = Pl.wR os false xr) ∧ nd5.length ≤ n9 + 1) := hid fun nd5 b5 h => by
                  refine ⟨fun e => ?_, fun e => ?_, ?_⟩
                  · rw [if_pos (HEQ.out.2 e)] at h
                    simpa using h
                  · rw [if_neg (fun q => by rw [HEQ.out.1 q] at e; cases e)] at h
                    simpa using h
                  · have e := congrArg List.length h
                    rw [List.length_append] at e
                    have := HIL.out
                    omega
                cases bb
                · cases lt
                  · have u0 := (HBJ.out.cell (p := ⟨gO, oO + j * 5, none⟩) hgO).trans HES.out.1
                    have u1 := (HBJ.out.cell (p := ⟨gO, oO + j * 5 + 1, none⟩) hgO).trans HES.out.2.1
                    have y0 := ((HBL.out.trans (HBJ.out.mono hzL)).cell (p := ⟨bS, oS + k * 5, none⟩) hbS).trans HXS.out.1
                    have y1 := ((HBL.out.trans (HBJ.out.mono hzL)).cell (p := ⟨bS, oS + k * 5 + 1, none⟩) hbS).trans HXS.out.2.1
                    go_wp2_with fail
                    have i0 := in_cell hgJ u0
                    have i1 := in_cell hgJ u1
                    have i2 := in_cell hbJ y0
                    have i3 := in_cell hbJ y1
                    have hne := in_some wr
                    refine wp_region_in (by kernel_rfl) (by kernel_rfl) ?_
                    repeat (go_big_quiet_step ((go_at_call 22; exact in_call (HBH.out _))))
                    refine wpQuiet_nil ?_
                    intro w4 hw'
                    have hb4 := in_out hw'
                    clear hw' hne i0 i1 i2 i3 u0 u1 y0 y1
                    have HB4 := hid (HBJ.out.trans (hb4.mono hzJ))
                    have HO4 := hid (HOJ.out.below hb4)
                    have hz4 := HB4.out.size
                    clear hb4
                    have y0 := ((HBL.out.trans (HB4.out.mono hzL)).cell (p := ⟨bS, oS + k * 5, none⟩) hbS).trans HXS.out.1
                    have y1 := ((HBL.out.trans (HB4.out.mono hzL)).cell (p := ⟨bS, oS + k * 5 + 1, none⟩) hbS).trans HXS.out.2.1
                    have y2 := ((HBL.out.trans (HB4.out.mono hzL)).cell (p := ⟨bS, oS + k * 5 + 2, none⟩) hbS).trans HXS.out.2.2.1
                    have y3 := ((HBL.out.trans (HB4.out.mono hzL)).cell (p := ⟨bS, oS + k * 5 + 3, none⟩) hbS).trans HXS.out.2.2.2.1
                    have y4 := ((HBL.out.trans (HB4.out.mono hzL)).cell (p := ⟨bS, oS + k * 5 + 4, none⟩) hbS).trans HXS.out.2.2.2.2
                    have hbS4 : bS < w4.heap.size := by omega
                    go_wp2_with (at_builtin; refine append_rt rfl (.tmp 69) (.tmp 74) rfl WL.heap.size u12 ns ⟨(p1, p2), xhere, xcost, xa, xl, xc⟩ rfl HO4.out hz4 rfl (by have := HLN.out; omega) ?_; intro v5 w5 hown5 _ hb5; have HO5' := hid hown5; have HB5 := hid (HB4.out.trans hb5); clear hown5 hb5)
                    obtain ⟨ns5, hns5⟩ : ∃ l, l = ns ++ [⟨(p1, p2), xhere, xcost, xa, xl, xc⟩] := ⟨_, rfl⟩
                    obtain ⟨nd5, hnd5⟩ : ∃ l, l = nd ++ [xr] := ⟨_, rfl⟩
                    have HO5 : Hid (OwnR w5 WL.heap.size v5 ns5) := hid (by rw [hns5]; exact HO5'.out)
                    have HR5 : Hid (ReadsAll w ns5 nd5) := hid (by rw [hns5, hnd5]; exact HRJ.out.snoc HXR.out)
                    have HE5 : Hid (nd5 ++ ((if (q1, q2) = (p1, p2) then [] else [er]) ++ Pl.wR (os.drop (j + 1)) true xr) = Pl.wR os false xr) := hid (by rw [hnd5, ← HEJ.out]; simp)
                    clear hns5 hnd5 HO5' y0 y1 y2 y3 y4
                    have hz5 := HB5.out.size
                    have HQ5 := hid (HSTG.out nd5 true HE5.out)
                    have t0 := (HB5.out.cell (p := ⟨gO, oO + j * 5, none⟩) hgO).trans HES.out.1
                    have t1 := (HB5.out.cell (p := ⟨gO, oO + j * 5 + 1, none⟩) hgO).trans HES.out.2.1
                    have s0 := ((HBL.out.trans (HB5.out.mono hzL)).cell (p := ⟨bS, oS + k * 5, none⟩) hbS).trans HXS.out.1
                    have s1 := ((HBL.out.trans (HB5.out.mono hzL)).cell (p := ⟨bS, oS + k * 5 + 1, none⟩) hbS).trans HXS.out.2.1
                    have l1 : gO < w5.heap.size := by omega
                    have l2 : bS < w5.heap.size := by omega
                    have i0 := in_cell l1 t0
                    have i1 := in_cell l1 t1
                    have i2 := in_cell l2 s0
                    have i3 := in_cell l2 s1
                    have hne := in_some w5
                    cases e1
                    all_goals cases e2
                    all_goals
                      refine wp_region_in (by kernel_rfl) (by kernel_rfl) ?_
                      repeat (go_big_quiet_step (fail))
                      refine wpQuiet_nil ?_
                      intro w6 hw'
                      have hb6 := in_out hw'
                      clear hw' hne i0 i1 i2 i3 t0 t1 s0 s1
                      have HB6 := hid (HB5.out.trans (hb6.mono hz5))
                      have HO6 := hid (HO5.out.below hb6)
                      have hz6 := HB6.out.size
                      clear hb6
                      first
                        | (have HEQ2 := hid (HQ5.out.1 rfl)
                           go_wp2_with fail
                           go_roundw
                           case rel => exact ⟨j + 1, true, ns5, nd5, by omega, rfl, by go_num, HO6, HR5, HEQ2, HB6⟩
                           case measure => simp [intOf]; omega)
                        | (have HNE2 := hid (HQ5.out.2.1 rfl)
                           have v0 := (HB6.out.cell (p := ⟨gO, oO + j * 5, none⟩) hgO).trans HES.out.1
                           have v1 := (HB6.out.cell (p := ⟨gO, oO + j * 5 + 1, none⟩) hgO).trans HES.out.2.1
                           have v2 := (HB6.out.cell (p := ⟨gO, oO + j * 5 + 2, none⟩) hgO).trans HES.out.2.2.1
                           have v3 := (HB6.out.cell (p := ⟨gO, oO + j * 5 + 3, none⟩) hgO).trans HES.out.2.2.2.1
                           have v4 := (HB6.out.cell (p := ⟨gO, oO + j * 5 + 4, none⟩) hgO).trans HES.out.2.2.2.2
                           have l6 : gO < w6.heap.size := by omega
                           go_wp2_with (at_builtin; refine append_rt rfl (.tmp 87) (.tmp 92) rfl WL.heap.size v5 ns5 ⟨(q1, q2), ehere, ecost, ea, el, ec⟩ rfl HO6.out hz6 rfl (by have := HQ5.out.2.2; rw [← HR5.out.1] at this; omega) ?_; intro v8 w8 hown8 _ hb8; have HO8 := hid hown8; have HB8 := hid (HB6.out.trans hb8); clear hown8 hb8)
                           go_roundw
                           case rel => exact ⟨j + 1, true, ns5 ++ [⟨(q1, q2), ehere, ecost, ea, el, ec⟩], nd5 ++ [er], by omega, rfl, by go_num, HO8, hid (HR5.out.snoc HER.out), HNE2, HB8⟩
                           case measure => simp [intOf]; omega)
                  · have u0 := (HBJ.out.cell (p := ⟨gO, oO + j * 5, none⟩) hgO).trans HES.out.1
                    have u1 := (HBJ.out.cell (p := ⟨gO, oO + j * 5 + 1, none⟩) hgO).trans HES.out.2.1
                    have y0 := ((HBL.out.trans (HBJ.out.mono hzL)).cell (p := ⟨bS, oS + k * 5, none⟩) hbS).trans HXS.out.1
                    have y1 := ((HBL.out.trans (HBJ.out.mono hzL)).cell (p := ⟨bS, oS + k * 5 + 1, none⟩) hbS).trans HXS.out.2.1
                    go_wp2_with fail
                    have i0 := in_cell hgJ u0
                    have i1 := in_cell hgJ u1
                    have i2 := in_cell hbJ y0
                    have i3 := in_cell hbJ y1
                    have hne := in_some wr
                    refine wp_region_in (by kernel_rfl) (by kernel_rfl) ?_
                    repeat (go_big_quiet_step ((go_at_call 22; exact in_call (HBH.out _))))
                    refine wpQuiet_nil ?_
                    intro w5 hw'
                    have hb5 := in_out hw'
                    clear hw' hne i0 i1 i2 i3 u0 u1 y0 y1
                    have HB5 := hid (HBJ.out.trans (hb5.mono hzJ))
                    have HO5 := hid (HOJ.out.below hb5)
                    clear hb5
                    have HR5 := HRJ
                    have HE5 : Hid (nd ++ ((if (q1, q2) = (p1, p2) then [] else [er]) ++ Pl.wR (os.drop (j + 1)) false xr) = Pl.wR os false xr) := hid (by rw [← HEJ.out]; simp)
                    generalize u12 = v5 at *
                    generalize ns = ns5 at *
                    generalize nd = nd5 at *
                    go_wp2_with fail
                    have hz5 := HB5.out.size
                    have HQ5 := hid (HSTG.out nd5 false HE5.out)
                    have t0 := (HB5.out.cell (p := ⟨gO, oO + j * 5, none⟩) hgO).trans HES.out.1
                    have t1 := (HB5.out.cell (p := ⟨gO, oO + j * 5 + 1, none⟩) hgO).trans HES.out.2.1
                    have s0 := ((HBL.out.trans (HB5.out.mono hzL)).cell (p := ⟨bS, oS + k * 5, none⟩) hbS).trans HXS.out.1
                    have s1 := ((HBL.out.trans (HB5.out.mono hzL)).cell (p := ⟨bS, oS + k * 5 + 1, none⟩) hbS).trans HXS.out.2.1
                    have l1 : gO < w5.heap.size := by omega
                    have l2 : bS < w5.heap.size := by omega
                    have i0 := in_cell l1 t0
                    have i1 := in_cell l1 t1
                    have i2 := in_cell l2 s0
                    have i3 := in_cell l2 s1
                    have hne := in_some w5
                    cases e1
                    all_goals cases e2
                    all_goals
                      refine wp_region_in (by kernel_rfl) (by kernel_rfl) ?_
                      repeat (go_big_quiet_step (fail))
                      refine wpQuiet_nil ?_
                      intro w6 hw'
                      have hb6 := in_out hw'
                      clear hw' hne i0 i1 i2 i3 t0 t1 s0 s1
                      have HB6 := hid (HB5.out.trans (hb6.mono hz5))
                      have HO6 := hid (HO5.out.below hb6)
                      have hz6 := HB6.out.size
                      clear hb6
                      first
                        | (have HEQ2 := hid (HQ5.out.1 rfl)
                           go_wp2_with fail
                           go_roundw
                           case rel => exact ⟨j + 1, false, ns5, nd5, by omega, rfl, by go_num, HO6, HR5, HEQ2, HB6⟩
                           case measure => simp [intOf]; omega)
                        | (have HNE2 := hid (HQ5.out.2.1 rfl)
                           have v0 := (HB6.out.cell (p := ⟨gO, oO + j * 5, none⟩) hgO).trans HES.out.1
                           have v1 := (HB6.out.cell (p := ⟨gO, oO + j * 5 + 1, none⟩) hgO).trans HES.out.2.1
                           have v2 := (HB6.out.cell (p := ⟨gO, oO + j * 5 + 2, none⟩) hgO).trans HES.out.2.2.1
                           have v3 := (HB6.out.cell (p := ⟨gO, oO + j * 5 + 3, none⟩) hgO).trans HES.out.2.2.2.1
                           have v4 := (HB6.out.cell (p := ⟨gO, oO + j * 5 + 4, none⟩) hgO).trans HES.out.2.2.2.2
                           have l6 : gO < w6.heap.size := by omega
                           go_wp2_with (at_builtin; refine append_rt rfl (.tmp 87) (.tmp 92) rfl WL.heap.size v5 ns5 ⟨(q1, q2), ehere, ecost, ea, el, ec⟩ rfl HO6.out hz6 rfl (by have := HQ5.out.2.2; rw [← HR5.out.1] at this; omega) ?_; intro v8 w8 hown8 _ hb8; have HO8 := hid hown8; have HB8 := hid (HB6.out.trans hb8); clear hown8 hb8)
                           go_roundw
                           case rel => exact ⟨j + 1, false, ns5 ++ [⟨(q1, q2), ehere, ecost, ea, el, ec⟩], nd5 ++ [er], by omega, rfl, by go_num, HO8, hid (HR5.out.snoc HER.out), HNE2, HB8⟩
                           case measure => simp [intOf]; omega)
                · go_wp2_with fail
                  have hne := in_some wr
                  refine wp_region_in (by kernel_rfl) (by kernel_rfl) ?_
                  repeat (go_big_quiet_step (fail))
                  refine wpQuiet_nil ?_
                  intro w5 hw'
                  have hb5 := in_out hw'
                  clear hw' hne
                  have HB5 := hid (HBJ.out.trans (hb5.mono hzJ))
                  have HO5 := hid (HOJ.out.below hb5)
                  clear hb5
                  have HR5 := HRJ
                  have HE5 : Hid (nd ++ ((if (q1, q2) = (p1, p2) then [] else [er]) ++ Pl.wR (os.drop (j + 1)) true xr) = Pl.wR os false xr) := hid (by rw [← HEJ.out]; simp)
                  generalize u12 = v5 at *
                  generalize ns = ns5 at *
                  generalize nd = nd5 at *
                  go_wp2_with fail
                  have hz5 := HB5.out.size
                  have HQ5 := hid (HSTG.out nd5 true HE5.out)
                  have t0 := (HB5.out.cell (p := ⟨gO, oO + j * 5, none⟩) hgO).trans HES.out.1
                  have t1 := (HB5.out.cell (p := ⟨gO, oO + j * 5 + 1, none⟩) hgO).trans HES.out.2.1
                  have s0 := ((HBL.out.trans (HB5.out.mono hzL)).cell (p := ⟨bS, oS + k * 5, none⟩) hbS).trans HXS.out.1
                  have s1 := ((HBL.out.trans (HB5.out.mono hzL)).cell (p := ⟨bS, oS + k * 5 + 1, none⟩) hbS).trans HXS.out.2.1
                  have l1 : gO < w5.heap.size := by omega
                  have l2 : bS < w5.heap.size := by omega
                  have i0 := in_cell l1 t0
                  have i1 := in_cell l1 t1
                  have i2 := in_cell l2 s0
                  have i3 := in_cell l2 s1
                  have hne := in_some w5
                  cases e1
                  all_goals cases e2
                  all_goals
                    refine wp_region_in (by kernel_rfl) (by kernel_rfl) ?_
                    repeat (go_big_quiet_step (fail))
                    refine wpQuiet_nil ?_
                    intro w6 hw'
                    have hb6 := in_out hw'
                    clear hw' hne i0 i1 i2 i3 t0 t1 s0 s1
                    have HB6 := hid (HB5.out.trans (hb6.mono hz5))
                    have HO6 := hid (HO5.out.below hb6)
                    have hz6 := HB6.out.size
                    clear hb6
                    first
                      | (have HEQ2 := hid (HQ5.out.1 rfl)
                         go_wp2_with fail
                         go_roundw
                         case rel => exact ⟨j + 1, true, ns5, nd5, by omega, rfl, by go_num, HO6, HR5, HEQ2, HB6⟩
                         case measure => simp [intOf]; omega)
                      | (have HNE2 := hid (HQ5.out.2.1 rfl)
                         have v0 := (HB6.out.cell (p := ⟨gO, oO + j * 5, none⟩) hgO).trans HES.out.1
                         have v1 := (HB6.out.cell (p := ⟨gO, oO + j * 5 + 1, none⟩) hgO).trans HES.out.2.1
                         have v2 := (HB6.out.cell (p := ⟨gO, oO + j * 5 + 2, none⟩) hgO).trans HES.out.2.2.1
                         have v3 := (HB6.out.cell (p := ⟨gO, oO + j * 5 + 3, none⟩) hgO).trans HES.out.2.2.2.1
                         have v4 := (HB6.out.cell (p := ⟨gO, oO + j * 5 + 4, none⟩) hgO).trans HES.out.2.2.2.2
                         have l6 : gO < w6.heap.size := by omega
                         go_wp2_with (at_builtin; refine append_rt rfl (.tmp 87) (.tmp 92) rfl WL.heap.size v5 ns5 ⟨(q1, q2), ehere, ecost, ea, el, ec⟩ rfl HO6.out hz6 rfl (by have := HQ5.out.2.2; rw [← HR5.out.1] at this; omega) ?_; intro v8 w8 hown8 _ hb8; have HO8 := hid hown8; have HB8 := hid (HB6.out.trans hb8); clear hown8 hb8)
                         go_roundw
                         case rel => exact ⟨j + 1, true, ns5 ++ [⟨(q1, q2), ehere, ecost, ea, el, ec⟩], nd5 ++ [er], by omega, rfl, by go_num, HO8, hid (HR5.out.snoc HER.out), HNE2, HB8⟩
                         case measure => simp [intOf]; omega)
              · have hnlj : ¬ ((j : Int) < (n9 : Int)) := by omega
                have HEN : Hid (nd ++ (if bb then [] else [xr]) = Pl.wR os false xr) := hid (by
                  have e := HEJ.out
                  rw [show j = os.length by rw [HNO.out]; omega, Pl.wR_end] at e
                  exact e)
                have HFI : Hid (∀ (ns' : List Pl.RH) (nd' : List Pl.Rt), ReadsAll w ns' nd' → nd' = Pl.wR os false xr → ReadsAll w ns' (Pl.inssR (Pl.delsR rs ps) (ss.take (k + 1))) ∧ ns'.length ≤ 200 + (k + 1)) := hid fun ns' nd' h1 h2 => by
                  subst h2
                  have hl := h1.1
                  rw [Pl.wR_insR os xr HSK.out] at h1 hl
                  refine ⟨by rw [HST.out]; exact h1, ?_⟩
                  rw [hl, Pl.insR_len, HNO.out]
                  have := HLE.out
                  split <;> omega
                cases bb
                · have y0 := ((HBL.out.trans (HBJ.out.mono hzL)).cell (p := ⟨bS, oS + k * 5, none⟩) hbS).trans HXS.out.1
                  have y1 := ((HBL.out.trans (HBJ.out.mono hzL)).cell (p := ⟨bS, oS + k * 5 + 1, none⟩) hbS).trans HXS.out.2.1
                  have y2 := ((HBL.out.trans (HBJ.out.mono hzL)).cell (p := ⟨bS, oS + k * 5 + 2, none⟩) hbS).trans HXS.out.2.2.1
                  have y3 := ((HBL.out.trans (HBJ.out.mono hzL)).cell (p := ⟨bS, oS + k * 5 + 3, none⟩) hbS).trans HXS.out.2.2.2.1
                  have y4 := ((HBL.out.trans (HBJ.out.mono hzL)).cell (p := ⟨bS, oS + k * 5 + 4, none⟩) hbS).trans HXS.out.2.2.2.2
                  have hbJ : bS < wr.heap.size := by omega
                  go_wp2_with (at_builtin; refine append_rt rfl (.tmp 96) (.tmp 101) rfl WL.heap.size u12 ns ⟨(p1, p2), xhere, xcost, xa, xl, xc⟩ rfl HOJ.out hzJ rfl (by have := HLN.out; omega) ?_; intro v5 w5 hown5 _ hb5; have HO5 := hid hown5; have HB5 := hid (HBJ.out.trans hb5); clear hown5 hb5)
                  go_roundw
                  case rel =>
                    have hq := HFI.out _ _ (HRJ.out.snoc HXR.out) (by rw [← HEN.out]; rfl)
                    exact ⟨k + 1, _, by omega, by go_num, hid (HO5.out.mono hzL), hid hq.1, hid hq.2, hid (HBL.out.trans (HB5.out.mono hzL))⟩
                  case measure => simp [intOf]; omega
                · go_wp2_with fail
                  go_roundw
                  case rel =>
                    have hq := HFI.out _ _ HRJ.out (by rw [← HEN.out]; simp)
                    exact ⟨k + 1, _, by omega, by go_num, hid (HOJ.out.mono hzL), hid hq.1, hid hq.2, hid (HBL.out.trans (HBJ.out.mono hzL))⟩
                  case measure => simp [intOf]; omega
          · have hnl : ¬ ((k : Int) < (lb : Int)) := by omega
            have HRE : Hid (ReadsAll w es (Pl.patR rs ss ps)) := hid (by
              have := HR.out
              rwa [List.take_of_length_le (by rw [HR2.out]; omega)] at this)
            obtain ⟨a9, cap9, rfl, hrow9, _⟩ := HO.out.rows
            obtain ⟨c2, HC2⟩ : ∃ c, Hid (Pl.tabF (Pl.patR rs ss ps) = c) := ⟨_, rfl⟩
            have HCK : Hid (Calls Try.prog 8 #[.slice a9 es.length cap9] wr fun e w' => e = .returned (.int .i64 c2) ∧ Below wr.heap.size wr w') := hid (by
              have := TableFault_any a9 es.length cap9 es (Pl.patR rs ss ps) wr hrow9 (HRE.out.below HB.out)
              rwa [HC2.out] at this)
            clear hrow9
            obtain ⟨n9, HN9⟩ : ∃ n, Hid (es.length = n) := ⟨_, rfl⟩
            rw [HN9.out] at HCK HO ⊢
            by_cases hz2 : c2 = 0
            · subst hz2
              have HE : Hid (PC = 0 ∧ PL = Pl.patR rs ss ps) := hid (by
                rw [← HPC.out, ← HPL.out]
                unfold Pl.patC Pl.patL
                rw [HC1.out, if_pos rfl, if_pos rfl, HC2.out, if_pos rfl]
                exact ⟨rfl, rfl⟩)
              go_wp2_with fail
              refine HCK.out.mono ?_
              rintro e w9 ⟨rfl, hb9⟩
              have HB9 := hid (HB.out.trans (hb9.mono HB.out.size))
              have HO9 := hid (HO.out.below hb9)
              clear hb9
              go_wp2_with fail
              go_ret2
              exact ⟨_, es, by rw [HE.out.1]; rfl, HO9.out, by rw [HE.out.2]; exact HRE.out, HB9.out⟩
            · have HE : Hid (PC = c2 ∧ PL = []) := hid (by
                rw [← HPC.out, ← HPL.out]
                unfold Pl.patC Pl.patL
                rw [HC1.out, if_pos rfl, if_pos rfl, HC2.out, if_neg hz2]
                exact ⟨rfl, rfl⟩)
              have hd0 : (c2 != 0) = true := by simpa using hz2
              clear hz2
              go_wp2_with fail
              refine HCK.out.mono ?_
              rintro e w9 ⟨rfl, hb9⟩
              have HB9 := hid (HB.out.trans (hb9.mono HB.out.size))
              clear hb9
              go_wp2_with fail
              go_ret2
              exact ⟨_, [], by rw [HE.out.1]; rfl, OwnR.nil _ _, by rw [HE.out.2]; exact ReadsAll.nil _, HB9.out⟩
  · have HE : Hid (PC = c1 ∧ PL = []) := hid (by
      rw [← HPC.out, ← HPL.out]
      unfold Pl.patC Pl.patL
      rw [HC1.out, if_neg hz1, if_neg hz1]
      exact ⟨rfl, rfl⟩)
    have hd0 : (c1 != 0) = true := by simpa using hz1
    clear hz1
    go_enter Try.func17, Try.ntmps17
    go_wp2_with fail
    refine (TableFault_any _ _ _ hs rs _ H1.out D1.out).mono ?_
    rw [HC1.out]
    rintro e w1 ⟨rfl, hbA⟩
    go_wp2_with fail
    go_ret2
    exact ⟨_, [], by rw [HE.out.1]; rfl, OwnR.nil _ _, by rw [HE.out.2]; exact ReadsAll.nil _, hbA⟩
end Go.Proofs.Ytcdobhdbafpkiae
