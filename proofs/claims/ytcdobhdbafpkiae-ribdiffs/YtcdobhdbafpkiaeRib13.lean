/-
  Contracts: the document's sameRoute (of two routes of one prefix) and routeAt.
-/
import Derived.Test.YtcdobhdbafpkiaeRib11
namespace Go.Proofs.Ytcdobhdbafpkiae
open Go.RowKit

theorem twoBox5 {w w3 : World} {c0 c1 c2 c3 c4 d0 d1 d2 d3 d4 : Value} {T : TypeId} (hb : Below (w.heap.size + 2) ((w.alloc (.cells #[c0, c1, c2, c3, c4] T)).alloc (.cells #[d0, d1, d2, d3, d4] T)) w3) :
    w3.cell? ⟨w.heap.size, 4, none⟩ = some c4 ∧ w3.cell? ⟨w.heap.size + 1, 4, none⟩ = some d4 ∧ w.heap.size + 1 < w3.heap.size := by
  have hs : ((w.alloc (.cells #[c0, c1, c2, c3, c4] T)).alloc (.cells #[d0, d1, d2, d3, d4] T)).heap.size = w.heap.size + 2 := by simp
  have hb' : Below ((w.alloc (.cells #[c0, c1, c2, c3, c4] T)).alloc (.cells #[d0, d1, d2, d3, d4] T)).heap.size ((w.alloc (.cells #[c0, c1, c2, c3, c4] T)).alloc (.cells #[d0, d1, d2, d3, d4] T)) w3 := by rw [hs]; exact hb
  obtain ⟨⟨_, _, _, _, h4⟩, ⟨_, _, _, _, k4⟩, _⟩ := freshBox hb'
  have hz := hb'.size
  rw [hs] at hz
  exact ⟨h4, k4, by omega⟩

set_option maxHeartbeats 2000000 in
theorem sameRoute_ref (g h : Pl.RH) (r s : Pl.Rt) (w : World) (h1 : Reads w g r) (h2 : Reads w h s) (hp : g.p = h.p) :
    Calls Try.prog 30 #[.agg #[.int .i64 g.p.1, .int .i64 g.p.2, .bool g.here, .int .i64 g.cost, .slice g.ha g.hl g.hc], .agg #[.int .i64 h.p.1, .int .i64 h.p.2, .bool h.here, .int .i64 h.cost, .slice h.ha h.hl h.hc]] w fun e w' => e = .returned (.bool (Pl.sameR r s)) ∧ Below w.heap.size w w' := by
  obtain ⟨a1, a2, a3, a4, _⟩ := h1
  obtain ⟨b1, b2, b3, b4, _⟩ := h2
  obtain ⟨⟨p1, p2⟩, here, cost, ha, hl, hc⟩ := g
  obtain ⟨⟨q1, q2⟩, here', cost', hb, hl', hc'⟩ := h
  simp only at a1 a2 a3 a4 b1 b2 b3 b4 hp
  simp only [Prod.mk.injEq] at hp
  obtain ⟨rfl, rfl⟩ := hp
  simp only
  obtain ⟨R, HR⟩ : ∃ R, Hid (Pl.sameR r s = R) := ⟨_, rfl⟩
  rw [HR.out]
  obtain ⟨e1, g1⟩ : ∃ c, (here != here') = c := ⟨_, rfl⟩
  obtain ⟨e2, g2⟩ : ∃ c, (cost != cost') = c := ⟨_, rfl⟩
  have HE : Hid (R = (!e1 && !e2 && decide (r.hops = s.hops))) := hid (by
    rw [← HR.out, ← g1, ← g2]
    unfold Pl.sameR
    rw [← a2, ← b2, ← a3, ← b3, Bool.eq_iff_iff]
    simp)
  have HA := hid a4
  have HB := hid b4
  have HLA : Hid (r.hops.length = hl) := hid a4.1
  have HLB : Hid (s.hops.length = hl') := hid b4.1
  have hc1 := a4.2.1
  have hm1 := a4.2.2.1
  have hc2 := b4.2.1
  have hm2 := b4.2.2.1
  unfold maxLen at hm1 hm2
  clear a1 a2 a3 a4 b1 b2 b3 b4
  cases e1
  · obtain rfl : here = here' := by simpa using g1
    clear g1
    cases e2
    · obtain rfl : cost = cost' := by simpa using g2
      clear g2
      by_cases hlen : hl = hl'
      · subst hlen
        go_enter Try.func30, Try.ntmps30
        go_wp2_with fail
        obtain ⟨W0, HW0⟩ : ∃ x, Hid (x = (w.alloc (.cells #[.int .i64 p1, .int .i64 p2, .bool here, .int .i64 cost, .slice ha hl hc] 30)).alloc (.cells #[.int .i64 p1, .int .i64 p2, .bool here, .int .i64 cost, .slice hb hl hc'] 30)) := ⟨_, rfl⟩
        have HB0 : Hid (Below w.heap.size w W0) := hid (by rw [HW0.out]; exact twoBoxes)
        have HS0 : Hid (W0.heap.size = w.heap.size + 2) := hid (by rw [HW0.out]; simp)
        have HX0 : Hid (∀ W, Below W0.heap.size W0 W → W.cell? ⟨w.heap.size, 4, none⟩ = some (.slice ha hl hc) ∧ W.cell? ⟨w.heap.size + 1, 4, none⟩ = some (.slice hb hl hc') ∧ w.heap.size + 1 < W.heap.size) := hid fun W hW => twoBox5 (by rw [HS0.out, HW0.out] at hW; exact hW)
        rw [← HW0.out]
        go_loopw [5] (fun i wr => ∃ k : Nat, k ≤ hl ∧ i = .int .i64 k ∧ Hid (∀ t, t < k → Pl.nm r.hops t = Pl.nm s.hops t) ∧ Hid (Below W0.heap.size W0 wr)) (fun i _ => hl - (intOf i).toNat)
        case atStart => exact ⟨0, Nat.zero_le _, rfl, hid (by intro t ht; omega), hid (Below.refl _ _)⟩
        case round =>
          obtain ⟨k, hk, rfl, HK, HBK⟩ := hrel
          obtain ⟨x4, y4, hsz⟩ := HX0.out _ HBK.out
          have hsz' : w.heap.size < wr.heap.size := by omega
          have HBW := hid (HB0.out.trans (HBK.out.mono HB0.out.size))
          by_cases hlt : k < hl
          · obtain ⟨g1, o1, rfl, hg1, hr1⟩ := HA.out.at hlt
            obtain ⟨g2, o2, rfl, hg2, hr2⟩ := HB.out.at hlt
            have c1 := (HBW.out.cell (p := ⟨g1, o1 + k, none⟩) hg1).trans (hr1 k (by rw [HLA.out]; exact hlt))
            have c2 := (HBW.out.cell (p := ⟨g2, o2 + k, none⟩) hg2).trans (hr2 k (by rw [HLB.out]; exact hlt))
            clear hr1 hr2
            have hz := HBW.out.size
            have l1 : g1 < wr.heap.size := by omega
            have l2 : g2 < wr.heap.size := by omega
            have hlt' : (k : Int) < (hl : Int) := by omega
            obtain ⟨e1, g1'⟩ : ∃ c, (Pl.nm r.hops k != Pl.nm s.hops k) = c := ⟨_, rfl⟩
            have HEE := hid g1'
            obtain ⟨x, HX⟩ : ∃ x, Hid (Pl.nm r.hops k = x) := ⟨_, rfl⟩
            obtain ⟨y, HY⟩ : ∃ y, Hid (Pl.nm s.hops k = y) := ⟨_, rfl⟩
            rw [HX.out] at c1
            rw [HY.out] at c2
            rw [HX.out, HY.out] at g1'
            cases e1
            · go_wp2_with fail
              go_quiet (fail)
              go_wp2_with fail
              go_roundw
              case rel => exact ⟨k + 1, by omega, by go_num, hid fun t ht => by rcases Nat.lt_or_ge t k with q | q; exact HK.out t q; obtain rfl : t = k := (by omega); simpa using HEE.out, hid (below_drew HBK.out _)⟩
              case measure => simp [intOf]; omega
            · have HF : Hid (R = false) := hid (by
                rw [HE.out, decide_eq_false]
                · rfl
                · intro e
                  have := HEE.out
                  rw [e] at this
                  simp at this)
              go_wp2_with fail
              go_quiet (fail)
              go_wp2_with fail
              go_ret
              exact ⟨ret_bool HF.out.symm, below_drew HBW.out _⟩
          · have HT : Hid (R = true) := hid (by
              rw [HE.out, decide_eq_true]
              · rfl
              · exact Pl.ints_eq_of (by rw [HLA.out, HLB.out]) (by rw [HLA.out]; intro t ht; exact HK.out t (by omega)))
            have hnl : ¬ ((k : Int) < (hl : Int)) := by omega
            go_wp2_with fail
            go_ret
            exact ⟨ret_bool HT.out.symm, HBW.out⟩
      · have hne : ((hl : Int) != (hl' : Int)) = true := by simp; omega
        have HF : Hid (R = false) := hid (by
          rw [HE.out, decide_eq_false]
          · rfl
          · intro e
            apply hlen
            rw [← HLA.out, ← HLB.out, e])
        clear hlen
        go_enter Try.func30, Try.ntmps30
        go_wp2_with fail
        go_ret
        exact ⟨ret_bool HF.out.symm, twoBoxes⟩
    · go_enter Try.func30, Try.ntmps30
      go_wp2_with fail
      go_ret
      exact ⟨ret_bool (by rw [HE.out]; rfl), twoBoxes⟩
  · cases here
    all_goals cases here'
    all_goals first | (exact absurd g1 (by decide)) | skip
    all_goals
      clear g1
      go_enter Try.func30, Try.ntmps30
      go_wp2_with fail
      go_ret
      exact ⟨ret_bool (by rw [HE.out]; rfl), twoBoxes⟩

set_option maxHeartbeats 2000000 in
theorem routeAt_any (a : Option Addr) (len cap : Nat) (hs : List Pl.RH) (p1 p2 : Int) (w : World) (h : IsRows w a len cap hs) (has : Pl.AscP (Pl.hp hs)) :
    Calls Try.prog 29 #[.slice a len cap, .agg #[.int .i64 p1, .int .i64 p2]] w fun e w' =>
      ∃ g : Pl.RH, e = .returned (.tuple #[.agg #[.int .i64 g.p.1, .int .i64 g.p.2, .bool g.here, .int .i64 g.cost, .slice g.ha g.hl g.hc], .bool (Pl.thereP (Pl.hp hs) (p1, p2))]) ∧ (Pl.thereP (Pl.hp hs) (p1, p2) = true → g = Pl.rh hs (Pl.posP (Pl.hp hs) (p1, p2))) ∧ Below w.heap.size w w' := by
  have HH := hid h
  have HAS := hid has
  have HLH : Hid (hs.length = len) := hid h.1
  have HLP : Hid ((Pl.hp hs).length = len) := hid (by rw [Pl.hp_len]; exact h.1)
  have hc := h.2.1
  have hm := h.2.2.1
  unfold maxLen at hm
  clear h has
  obtain ⟨TT, HTT⟩ : ∃ x, Hid (Pl.thereP (Pl.hp hs) (p1, p2) = x) := ⟨_, rfl⟩
  rw [HTT.out]
  go_enter Try.func29, Try.ntmps29
  go_wp2_with fail
  obtain ⟨W0, HW0⟩ : ∃ x, Hid (x = (w.alloc (.cells #[.int .i64 p1, .int .i64 p2] 27)).alloc (.cells #[.int .i64 0, .int .i64 0, .bool false, .int .i64 0, .slice none 0 0] 30)) := ⟨_, rfl⟩
  have HB0 : Hid (Below w.heap.size w W0) := hid (by rw [HW0.out]; exact twoBoxes)
  have HS0 : Hid (W0.heap.size = w.heap.size + 2) := hid (by rw [HW0.out]; simp)
  have HX0 : Hid (∀ W, Below W0.heap.size W0 W → (W.cell? ⟨w.heap.size, 0, none⟩ = some (.int .i64 p1) ∧ W.cell? ⟨w.heap.size, 1, none⟩ = some (.int .i64 p2)) ∧ (W.cell? ⟨w.heap.size + 1, 0, none⟩ = some (.int .i64 0) ∧ W.cell? ⟨w.heap.size + 1, 1, none⟩ = some (.int .i64 0) ∧ W.cell? ⟨w.heap.size + 1, 2, none⟩ = some (.bool false) ∧ W.cell? ⟨w.heap.size + 1, 3, none⟩ = some (.int .i64 0) ∧ W.cell? ⟨w.heap.size + 1, 4, none⟩ = some (.slice none 0 0)) ∧ (∀ o, W.frozen? ⟨w.heap.size + 1, o, none⟩ = false) ∧ w.heap.size + 1 < W.heap.size) := hid fun W hW => by
    have hz := hW.size
    rw [HS0.out] at hz
    have hcc : ∀ (bb o : Nat) (v : Value), bb < w.heap.size + 2 → W0.cell? ⟨bb, o, none⟩ = some v → W.cell? ⟨bb, o, none⟩ = some v := fun bb o v hlt hv => (hW.cell (p := ⟨bb, o, none⟩) (by rw [HS0.out]; exact hlt)).trans hv
    have e1 : W0.heap[w.heap.size + 1]? = some (.cells #[.int .i64 0, .int .i64 0, .bool false, .int .i64 0, .slice none 0 0] 30) := by
      rw [HW0.out]
      have h := heapNewZ (w.alloc (.cells #[.int .i64 p1, .int .i64 p2] 27)) (.cells #[.int .i64 0, .int .i64 0, .bool false, .int .i64 0, .slice none 0 0] 30)
      rwa [World.size_alloc] at h
    refine ⟨⟨hcc _ _ _ (by omega) (by rw [HW0.out]; simp), hcc _ _ _ (by omega) (by rw [HW0.out]; simp)⟩, ⟨hcc _ _ _ (by omega) ?_, hcc _ _ _ (by omega) ?_, hcc _ _ _ (by omega) ?_, hcc _ _ _ (by omega) ?_, hcc _ _ _ (by omega) ?_⟩, fun o => ?_, by omega⟩
    iterate 5 simp [World.cell?, e1]
    rw [hW.frozen (p := ⟨w.heap.size + 1, o, none⟩) (by rw [HS0.out]; show w.heap.size + 1 < _; omega)]
    simp only [World.frozen?, e1]
    simp
  rw [← HW0.out]
  go_loopw [6] (fun i wr => ∃ k : Nat, k ≤ len ∧ i = .int .i64 k ∧ Hid (∀ t, t < k → ¬ Pl.pr (Pl.hp hs) t = (p1, p2)) ∧ Hid (Below W0.heap.size W0 wr)) (fun i _ => len - (intOf i).toNat)
  case atStart => exact ⟨0, Nat.zero_le _, rfl, hid (by intro t ht; omega), hid (Below.refl _ _)⟩
  case round =>
    obtain ⟨k, hk, rfl, HK, HBK⟩ := hrel
    obtain ⟨⟨x0, x1⟩, ⟨y0, y1, y2, y3, y4⟩, yf, hsz⟩ := HX0.out _ HBK.out
    have hsz' : w.heap.size < wr.heap.size := by omega
    have HBW := hid (HB0.out.trans (HBK.out.mono HB0.out.size))
    by_cases hlt : k < len
    · obtain ⟨b, off, rfl, hbw, hr⟩ := HH.out.at hlt
      obtain ⟨c0, c1, c2, c3, c4⟩ := hr.below hbw HBW.out k (by rw [HLH.out]; exact hlt)
      have HPR : Hid (Pl.pr (Pl.hp hs) k = (Pl.rh hs k).p) := hid (Pl.pr_hp hs k (by rw [HLH.out]; exact hlt))
      obtain ⟨hh, HHH⟩ : ∃ x, Hid (Pl.rh hs k = x) := ⟨_, rfl⟩
      rw [HHH.out] at c0 c1 c2 c3 c4 HPR
      obtain ⟨⟨q1, q2⟩, here, cost, hha, hhl, hhc⟩ := hh
      simp only at c0 c1 c2 c3 c4 HPR
      have hlt' : (k : Int) < (len : Int) := by omega
      obtain ⟨e1, g1⟩ : ∃ c, (q1 == p1) = c := ⟨_, rfl⟩
      obtain ⟨e2, g2⟩ : ∃ c, (q2 == p2) = c := ⟨_, rfl⟩
      by_cases hfound : e1 = true ∧ e2 = true
      · obtain ⟨rfl, rfl⟩ := hfound
        have hpr : Pl.pr (Pl.hp hs) k = (p1, p2) := by
          rw [HPR.out]; simp at g1 g2; rw [g1, g2]
        have HTP := hid (Pl.thereP_mem HAS.out (by rw [HLP.out]; exact hlt) hpr)
        have HTE : Hid (TT = true) := hid (by rw [← HTT.out]; exact HTP.out.2)
        clear hpr
        go_wp2_with fail
        go_quiet (fail)
        go_wp2_with fail
        refine bodyPost_ret (v := .tuple #[.agg #[.int .i64 q1, .int .i64 q2, .bool here, .int .i64 cost, .slice hha hhl hhc], .bool true]) (by simp [results, Try.results29, go_sem, y0, y1, y2, y3, y4]) rfl ⟨⟨(q1, q2), here, cost, hha, hhl, hhc⟩, by rw [HTE.out], fun _ => by rw [HTP.out.1, HHH.out], ?_⟩
        exact (((((below_drew HBW.out _).setCell (by simp) _).setCell (by simp) _).setCell (by simp) _).setCell (by simp) _).setCell (by simp) _
      · have HNE : Hid (¬ Pl.pr (Pl.hp hs) k = (p1, p2)) := hid fun hpr => by
          apply hfound
          rw [HPR.out] at hpr
          simp only [Prod.mk.injEq] at hpr
          rw [← g1, ← g2]
          simp [hpr.1, hpr.2]
        cases e1
        all_goals cases e2
        all_goals first | (exact absurd ⟨rfl, rfl⟩ hfound) | skip
        all_goals
          clear hfound
          go_wp2_with fail
          go_quiet (fail)
          go_wp2_with fail
          go_roundw
          case rel => exact ⟨k + 1, by omega, by go_num, hid fun t ht => by rcases Nat.lt_or_ge t k with q | q; exact HK.out t q; obtain rfl : t = k := (by omega); exact HNE.out, hid (below_drew HBK.out _)⟩
          case measure => simp [intOf]; omega
    · have HTF : Hid (TT = false) := hid (by
        rw [← HTT.out, Bool.eq_false_iff]
        intro ht
        have h1 := Pl.thereP_lt ht
        rw [HLP.out] at h1
        exact HK.out _ (by omega) (Pl.thereP_eq ht))
      have hnl : ¬ ((k : Int) < (len : Int)) := by omega
      go_wp2_with fail
      refine bodyPost_ret (v := .tuple #[.agg #[.int .i64 0, .int .i64 0, .bool false, .int .i64 0, .slice none 0 0], .bool false]) (by simp [results, Try.results29, go_sem, y0, y1, y2, y3, y4]) rfl ⟨Pl.RH.none, by rw [HTF.out]; rfl, fun e => (by rw [HTF.out] at e; exact absurd e (by decide)), ?_⟩
      exact ((((HBW.out.setCell (by simp) _).setCell (by simp) _).setCell (by simp) _).setCell (by simp) _).setCell (by simp) _
end Go.Proofs.Ytcdobhdbafpkiae
