/-
  Contract: a table that is patched (rib.Patch).
-/
import Derived.Test.YtcdobhdbafpkiaeRib7
import Derived.Test.YtcdobhdbafpkiaeRib12
import Derived.Test.YtcdobhdbafpkiaeRib20
namespace Go.Proofs.Ytcdobhdbafpkiae
open Go.RowKit

theorem Pl.inssR_cut (rs ss : List Pl.Rt) (k : Nat) : Pl.inssR rs ss = Pl.inssR (Pl.inssR rs (ss.take k)) (ss.drop k) := by
  unfold Pl.inssR
  rw [← List.foldl_append, List.take_append_drop]
theorem Pl.inssR_succ (rs ss : List Pl.Rt) (k : Nat) (h : k < ss.length) : Pl.inssR rs (ss.take (k + 1)) = Pl.insR (Pl.inssR rs (ss.take k)) (Pl.rt ss k) := by
  unfold Pl.inssR
  rw [Pl.take_rt ss k h, List.foldl_append]; rfl
theorem Pl.pat_size {a set : List Pl.Rt} {gone : List (Int × Int)} {k : Nat} (ha : Pl.tabF a = 0) (h : 200 < (Pl.inssR (Pl.delsR a gone) (set.take k)).length) : Pl.patC a set gone = 1 ∧ Pl.patL a set gone = [] := by
  have h1 : 200 < (Pl.patR a set gone).length := by
    unfold Pl.patR
    rw [Pl.inssR_cut _ set k]
    exact Nat.lt_of_lt_of_le h (Pl.inssR_len_ge _ _)
  have h2 := Pl.tabF_size h1
  unfold Pl.patC Pl.patL
  rw [if_pos ha, if_pos ha, h2]
  exact ⟨rfl, by rw [if_neg (by decide)]⟩
theorem Pl.rh_set_ne (hs : List Pl.RH) (k j : Nat) (x : Pl.RH) (h : j ≠ k) : Pl.rh (hs.set k x) j = Pl.rh hs j := by
  unfold Pl.rh
  rw [List.getD_eq_getElem?_getD, List.getD_eq_getElem?_getD, List.getElem?_set_ne (Ne.symm h)]
theorem Pl.rh_set_at (hs : List Pl.RH) (k : Nat) (x : Pl.RH) (h : k < hs.length) : Pl.rh (hs.set k x) k = x := by
  rw [Pl.rh_eq _ _ (by simpa using h)]; simp
/-- what a row of routes bears that one route of it is laid anew -/
theorem ReadsZ.set {w : World} {base b2 g o cap : Nat} {h x : Pl.RH} {r : Pl.Rt} {es : List Pl.RH} (hz : ReadsZ w base h r) (ho : OwnR w b2 (.slice (some ⟨g, 0, none⟩) es.length cap) es) : ReadsZ (set5 w g o x) base h r := by
  obtain ⟨q1, q2, q3, q4, q5⟩ := hz
  refine ⟨q1, q2, q3, q4.but (But.set5 w g o x) ?_, q5⟩
  rcases apartZR q4 ho with h | h
  · exact .inr (by rw [h]; simp)
  · exact .inr h

set_option maxRecDepth 20000 in
set_option maxHeartbeats 4000000 in
theorem Patch_any (a : Option Addr) (la ca : Nat) (hs : List Pl.RH) (rs : List Pl.Rt) (b : Option Addr) (lb cb : Nat) (gs : List Pl.RH) (ss : List Pl.Rt) (d : Option Addr) (gl gc : Nat) (ps : List (Int × Int)) (w : World) (h1 : IsRows w a la ca hs) (d1 : ReadsAll w hs rs) (h2 : IsRows w b lb cb gs) (d2 : ReadsAll w gs ss) (h3 : IsPairs w d gl gc ps) :
    Calls Try.prog 16 #[.slice a la ca, .slice b lb cb, .slice d gl gc] w fun e w' =>
      ∃ v es, e = .returned (.tuple #[v, .int .i64 (Pl.patC rs ss ps)]) ∧ OwnTb w' w.heap.size v es (Pl.patL rs ss ps) ∧ Below w.heap.size w w' := by
  have H1 := hid h1
  have D1 := hid d1
  have H2 := hid h2
  have D2 := hid d2
  have H3 := hid h3
  have HL2 : Hid (gs.length = lb) := hid h2.1
  have HR1 : Hid (rs.length = la) := hid (by rw [← d1.1]; exact h1.1)
  have HR2 : Hid (ss.length = lb) := hid (by rw [← d2.1]; exact h2.1)
  have hc2 := h2.2.1
  have hm2 := h2.2.2.1
  unfold maxLen at hm2
  clear h1 d1 h2 d2 h3
  obtain ⟨PC, HPC⟩ : ∃ x, Hid (Pl.patC rs ss ps = x) := ⟨_, rfl⟩
  obtain ⟨PL, HPL⟩ : ∃ x, Hid (Pl.patL rs ss ps = x) := ⟨_, rfl⟩
  rw [HPC.out, HPL.out]
  obtain ⟨c1, HC1⟩ : ∃ c, Hid (Pl.tabF rs = c) := ⟨_, rfl⟩
  by_cases hz1 : c1 = 0
  · subst hz1
    have hg1 := Pl.good_of_tabF HC1.out
    have HSRT : Hid (Pl.SrtR rs) := hid ((Pl.ascP_srt rs).1 hg1.2.2)
    have hla : la ≤ 200 := by have := hg1.1; rw [HR1.out] at this; exact this
    clear hg1
    go_enter Try.func16, Try.ntmps16
    go_wp2_with fail
    refine (Check_rib _ _ _ hs rs _ H1.out D1.out).mono ?_
    rw [HC1.out]
    rintro e w1 ⟨rfl, hbA⟩
    have HBA := hid hbA
    clear hbA
    go_wp2_with fail
    refine (without_any _ _ _ hs rs _ _ _ ps _ (H1.out.below HBA.out) (D1.out.below HBA.out) HSRT.out hla (H3.out.below HBA.out)).mono ?_
    rintro e w2 ⟨v2, hs2, rfl, ho2, hr2, hb2⟩
    have HO2 := hid ho2
    have HR2' := hid hr2
    have HB2 := hid hb2
    have HLE2 : Hid (hs2.length ≤ 200) := hid (by
      rw [hr2.1]
      have := Pl.delsR_len (ps := ps) HSRT.out
      rw [HR1.out] at this
      omega)
    have HSD : Hid (Pl.SrtR (Pl.delsR rs ps)) := hid (Pl.delsR_srt HSRT.out)
    clear ho2 hr2 hb2
    have hzA := HBA.out.size
    go_wp2_with fail
    go_loopw [9, 25] (fun v i wr => ∃ (k : Nat) (hs' : List Pl.RH), k ≤ lb ∧ i = .int .i64 k ∧ Hid (OwnR wr w1.heap.size v hs') ∧ Hid (ReadsAll w1 hs' (Pl.inssR (Pl.delsR rs ps) (ss.take k))) ∧ Hid (hs'.length ≤ 200) ∧ Hid (Below w1.heap.size w1 wr)) (fun _ i _ => lb - (intOf i).toNat)
    case atStart => exact ⟨0, hs2, Nat.zero_le _, rfl, HO2, HR2', HLE2, HB2⟩
    case round =>
      obtain ⟨k, hs', hk, rfl, HO, HR, HLE, HB⟩ := hrel
      have hzB := HB.out.size
      have HBW := hid (HBA.out.trans (HB.out.mono hzA))
      by_cases hlt : k < lb
      · obtain ⟨bb, off, rfl, hbw, hr⟩ := H2.out.at hlt
        obtain ⟨x0, x1, x2, x3, x4⟩ := hr.below hbw HBW.out k (by rw [HL2.out]; exact hlt)
        have HRD := hid ((D2.out.2 k (by rw [HL2.out]; exact hlt)).below HBA.out)
        have HST := hid (Pl.inssR_succ (Pl.delsR rs ps) ss k (by rw [HR2.out]; exact hlt))
        have HSK : Hid (Pl.SrtR (Pl.inssR (Pl.delsR rs ps) (ss.take k))) := hid (Pl.inssR_srt _ _ HSD.out)
        generalize Pl.rh gs k = hh at *
        generalize Pl.rt ss k = rr at *
        have HLY : Hid (∀ W, Below wr.heap.size wr W → Calls Try.prog 32 #[u9, .agg #[.int .i64 hh.p.1, .int .i64 hh.p.2, .bool hh.here, .int .i64 hh.cost, .slice hh.ha hh.hl hh.hc]] W fun e w' => ∃ v' hs3, e = .returned v' ∧ OwnR w' w1.heap.size v' hs3 ∧ ReadsAll w1 hs3 (Pl.insR (Pl.inssR (Pl.delsR rs ps) (ss.take k)) rr) ∧ Below w1.heap.size w1 w') := hid fun W hW => by
          have hBW := HB.out.trans (hW.mono hzB)
          refine (lay_rib w1.heap.size u9 hs' hh W (HO.out.below hW) hBW.size (HR.out.asc HSK.out) (by have := HLE.out; omega)).mono fun e w' ⟨v', e1, e2, e3⟩ => ⟨v', _, e1, e2, HR.out.lay HRD.out, hBW.grown e3 hBW.size (fun k hk => HO.out.block k hk)⟩
        have hlt' : (k : Int) < (lb : Int) := by omega
        obtain ⟨⟨hp1, hp2⟩, hhere, hcost, hha, hhl, hhc⟩ := hh
        simp only at x0 x1 x2 x3 x4 HLY
        go_wp2_with fail
        refine (HLY.out _ ((Below.refl _ _).alloc (Nat.le_refl _) _)).mono ?_
        rintro e w3 ⟨v3, hs3, rfl, ho3, hr3, hb3⟩
        obtain ⟨a3, cap3, rfl, hrow3, _⟩ := ho3.rows
        have HO3 := hid ho3
        have HR3 := hid hr3
        have HB3 := hid hb3
        obtain ⟨n3, HN3⟩ : ∃ n, Hid (hs3.length = n) := ⟨_, rfl⟩
        rw [HN3.out] at HO3 ⊢
        clear ho3 hr3 hb3 hrow3 x0 x1 x2 x3 x4
        by_cases hbig : 200 < n3
        · have HSZ : Hid (PC = 1 ∧ PL = []) := hid (by
            have := Pl.pat_size (set := ss) (gone := ps) (k := k + 1) HC1.out (by rw [HST.out, ← HR3.out.1, HN3.out]; exact hbig)
            rwa [HPC.out, HPL.out] at this)
          go_wp2_with fail
          go_ret2
          exact ⟨_, [], by rw [HSZ.out.1]; rfl, by rw [HSZ.out.2]; exact OwnTb.nil _ _, HBA.out.trans (HB3.out.mono hzA)⟩
        · go_wp2_with fail
          go_roundw
          case rel => exact ⟨k + 1, hs3, by omega, by go_num, HO3, hid (by rw [HST.out]; exact HR3.out), hid (by rw [HN3.out]; omega), HB3⟩
          case measure => simp [intOf]; omega
      · have hnl : ¬ ((k : Int) < (lb : Int)) := by omega
        have HRE : Hid (ReadsAll w1 hs' (Pl.patR rs ss ps)) := hid (by
          have := HR.out
          rwa [List.take_of_length_le (by rw [HR2.out]; omega)] at this)
        obtain ⟨a9, cap9, rfl, hrow9, _⟩ := HO.out.rows
        obtain ⟨c2, HC2⟩ : ∃ c, Hid (Pl.tabF (Pl.patR rs ss ps) = c) := ⟨_, rfl⟩
        have HCK : Hid (Calls Try.prog 7 #[.slice a9 hs'.length cap9] wr fun e w' => e = .returned (.int .i64 c2) ∧ Below wr.heap.size wr w') := hid (by
          have := Check_rib a9 hs'.length cap9 hs' (Pl.patR rs ss ps) wr hrow9 (HRE.out.below HB.out)
          rwa [HC2.out] at this)
        have hc9 := hrow9.2.1
        have hm9 := hrow9.2.2.1
        unfold maxLen at hm9
        clear hrow9
        obtain ⟨n9, HN9⟩ : ∃ n, Hid (hs'.length = n) := ⟨_, rfl⟩
        rw [HN9.out] at HCK HO HLE hc9 ⊢
        by_cases hz2 : c2 = 0
        · subst hz2
          have HE : Hid (PC = 0 ∧ PL = Pl.patR rs ss ps) := hid (by
            rw [← HPC.out, ← HPL.out]
            unfold Pl.patC Pl.patL
            rw [HC1.out, if_pos rfl, if_pos rfl, HC2.out, if_pos rfl]
            exact ⟨rfl, rfl⟩)
          have HRB : Hid (∀ i, i < n9 → Pl.routeB (Pl.rt (Pl.patR rs ss ps) i) = true) := hid fun i hi => (Pl.good_of_tabF HC2.out).2.1 i (by rw [← HRE.out.1, HN9.out]; exact hi)
          generalize Pl.patR rs ss ps = qs at *
          generalize wr = W8 at *
          go_wp2_with fail
          refine HCK.out.mono ?_
          rintro e W9 ⟨rfl, hb9⟩
          have HB9 := hid (HB.out.trans (hb9.mono hzB))
          have HO9 := hid (HO.out.below hb9)
          clear hb9
          go_wp2_with fail
          go_loopw [43] (fun i wq => ∃ (j : Nat) (es : List Pl.RH), j ≤ n9 ∧ i = .int .i64 j ∧ Hid (OwnR wq w1.heap.size (.slice a9 n9 cap9) es) ∧ Hid (es.length = n9) ∧ Hid (∀ t, t < j → ReadsZ wq w1.heap.size (Pl.rh es t) (Pl.rt qs t)) ∧ Hid (∀ t, j ≤ t → Pl.rh es t = Pl.rh hs' t) ∧ Hid (Below w1.heap.size w1 wq)) (fun i _ => n9 - (intOf i).toNat)
          case atStart => exact ⟨0, hs', Nat.zero_le _, rfl, HO9, HN9, hid (fun t ht => by omega), hid (fun t _ => rfl), HB9⟩
          case round =>
            obtain ⟨j, es, hj, rfl, HOJ, HNJ, HZJ, HHJ, HBJ⟩ := hrel
            have hzJ := HBJ.out.size
            by_cases hltj : j < n9
            · obtain ⟨g, cap', e9, hbg, hgl, hnc, hm', hra, hsf⟩ := HOJ.out.opened (by rw [HNJ.out]; omega)
              simp only [Value.slice.injEq] at e9
              obtain ⟨rfl, hn', rfl⟩ := e9
              clear hn'
              obtain ⟨c0, c1, c2, c3, c4⟩ := hra j (by rw [HNJ.out]; exact hltj)
              rw [HHJ.out j (Nat.le_refl _)] at c0 c1 c2 c3 c4
              simp only [Nat.zero_add] at c0 c1 c2 c3 c4
              clear hra
              have HRD := hid (HRE.out.2 j (by rw [HN9.out]; exact hltj))
              have hhl : (Pl.rh hs' j).hl ≤ 1000 := by
                have e1 := HRD.out.2.2.2.1.1
                have e2 := Pl.routeB_hops (HRB.out j hltj)
                omega
              obtain ⟨rr, HRR⟩ : ∃ x, Hid (Pl.rt qs j = x) := ⟨_, rfl⟩
              rw [HRR.out] at HRD
              generalize Pl.rh hs' j = hh at *
              have HFR : Hid (∀ W, Below wr.heap.size wr W → Calls Try.prog 25 #[.agg #[.int .i64 hh.p.1, .int .i64 hh.p.2, .bool hh.here, .int .i64 hh.cost, .slice hh.ha hh.hl hh.hc]] W fun e w' => ∃ g : Pl.RH, e = .returned (.agg #[.int .i64 g.p.1, .int .i64 g.p.2, .bool g.here, .int .i64 g.cost, .slice g.ha g.hl g.hc]) ∧ ReadsZ w' W.heap.size g rr ∧ Below W.heap.size W w') := hid fun W hW => fresh_own hh rr W (HRD.out.below (HBJ.out.trans (hW.mono hzJ))) hhl
              have hltj' : (j : Int) < (n9 : Int) := by omega
              have hA : Below wr.heap.size wr (wr.alloc (.cells #[.int .i64 hh.p.1, .int .i64 hh.p.2, .bool hh.here, .int .i64 hh.cost, .slice hh.ha hh.hl hh.hc] 30)) := (Below.refl _ _).alloc (Nat.le_refl _) _
              have HA := hid hA
              clear hA
              go_wp2_with fail
              refine (HFR.out _ HA.out).mono ?_
              rintro e w5 ⟨gg, rfl, hz5, hb5⟩
              have HB5 := hid (HA.out.trans (hb5.mono (by simp)))
              have HZ5 := hid (hz5.mono (show w1.heap.size ≤ _ by simp; omega))
              have f0 := (HB5.out.cell (p := ⟨g, j * 5, none⟩) hgl).trans c0
              have f1 := (HB5.out.cell (p := ⟨g, j * 5 + 1, none⟩) hgl).trans c1
              have f2 := (HB5.out.cell (p := ⟨g, j * 5 + 2, none⟩) hgl).trans c2
              have f3 := (HB5.out.cell (p := ⟨g, j * 5 + 3, none⟩) hgl).trans c3
              have f4 := (HB5.out.cell (p := ⟨g, j * 5 + 4, none⟩) hgl).trans c4
              have ff : ∀ o, w5.frozen? ⟨g, o, none⟩ = false := fun o => (HB5.out.frozen (p := ⟨g, o, none⟩) hgl).trans (hsf o)
              have HO5 := hid (HOJ.out.below HB5.out)
              rw [← HNJ.out] at HO5
              clear hz5 hb5 c0 c1 c2 c3 c4 hsf
              go_wp2_with fail
              go_roundw
              case rel =>
                refine ⟨j + 1, es.set j gg, by omega, by go_num, hid ?_, hid (by rw [List.length_set]; exact HNJ.out), hid (fun t ht => ?_), hid (fun t ht => ?_), hid ?_⟩
                · have := HO5.out.set j gg
                  rw [HNJ.out] at this
                  exact this
                · by_cases e : t = j
                  · subst e
                    rw [Pl.rh_set_at es t gg (by rw [HNJ.out]; exact hltj), HRR.out]
                    exact HZ5.out.set HO5.out
                  · rw [Pl.rh_set_ne es j t gg e]
                    exact ((HZJ.out t (by omega)).below HB5.out).set HO5.out
                · rw [Pl.rh_set_ne es j t gg (by omega)]
                  exact HHJ.out t (by omega)
                · exact (HBJ.out.trans (HB5.out.mono hzJ)).trans ((But.set5 w5 g (j * 5) gg).below hbg (Nat.le_trans hzJ HB5.out.size))
              case measure => simp [intOf]; omega
            · have hnlj : ¬ ((j : Int) < (n9 : Int)) := by omega
              have HFT : Hid (OwnTb wr w1.heap.size (.slice a9 n9 cap9) es qs) := hid ⟨HOJ.out, by rw [HNJ.out, ← HRE.out.1, HN9.out], fun t ht => HZJ.out t (by rw [HNJ.out] at ht; omega)⟩
              go_wp2_with fail
              go_ret2
              first | exact ⟨_, es, by rw [HE.out.1]; rfl, by rw [HE.out.2]; exact HFT.out.mono hzA, HBA.out.trans (HBJ.out.mono hzA)⟩ | exact ⟨_, by rw [HE.out.1]; rfl, ⟨es, by rw [HE.out.2]; exact HFT.out.mono hzA⟩, HBA.out.trans (HBJ.out.mono hzA)⟩
        · have HE : Hid (PC = c2 ∧ PL = []) := hid (by
            rw [← HPC.out, ← HPL.out]
            unfold Pl.patC Pl.patL
            rw [HC1.out, if_pos rfl, if_pos rfl, HC2.out, if_neg hz2]
            exact ⟨rfl, rfl⟩)
          have hd0 : (c2 != 0) = true := by simpa using hz2
          clear hz2
          go_wp2_with fail
          refine HCK.out.mono ?_
          rintro e w9 ⟨rfl, hb9⟩
          go_wp2_with fail
          go_ret2
          exact ⟨_, [], by rw [HE.out.1]; rfl, by rw [HE.out.2]; exact OwnTb.nil _ _, HBW.out.trans (hb9.mono HBW.out.size)⟩
  · have HE : Hid (PC = c1 ∧ PL = []) := hid (by
      rw [← HPC.out, ← HPL.out]
      unfold Pl.patC Pl.patL
      rw [HC1.out, if_neg hz1, if_neg hz1]
      exact ⟨rfl, rfl⟩)
    have hd0 : (c1 != 0) = true := by simpa using hz1
    clear hz1
    go_enter Try.func16, Try.ntmps16
    go_wp2_with fail
    refine (Check_rib _ _ _ hs rs _ H1.out D1.out).mono ?_
    rw [HC1.out]
    rintro e w1 ⟨rfl, hbA⟩
    go_wp2_with fail
    go_ret2
    exact ⟨_, [], by rw [HE.out.1]; rfl, by rw [HE.out.2]; exact OwnTb.nil _ _, hbA⟩
end Go.Proofs.Ytcdobhdbafpkiae
