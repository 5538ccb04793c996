/-
  Contract: what the document's FoundOf answers at every table and every address.
-/
import Derived.Test.YtcdobhdbafpkiaeRib4
import Derived.Test.YtcdobhdbafpkiaeRib7
namespace Go.Proofs.Ytcdobhdbafpkiae
open Go.RowKit

set_option maxRecDepth 20000 in
set_option maxHeartbeats 4000000 in
theorem FoundOf_any (a : Option Addr) (len cap : Nat) (hs : List Pl.RH) (rs : List Pl.Rt) (addr : Int) (w : World) (h : IsRows w a len cap hs) (hrd : ReadsAll w hs rs) :
    Calls Try.prog 10 #[.slice a len cap, .int .i64 addr] w fun e w' =>
      ∃ g : Pl.RH, e = .returned (.tuple #[.agg #[.int .i64 g.p.1, .int .i64 g.p.2, .bool g.here, .int .i64 g.cost, .slice g.ha g.hl g.hc], .int .i64 (Pl.lookC rs addr)]) ∧ Reads w' g (Pl.lookR rs addr) ∧ Below w.heap.size w w' := by
  have HH := hid h
  have HD := hid hrd
  have HLH : Hid (hs.length = len) := hid h.1
  have hc := h.2.1
  have hm := h.2.2.1
  unfold maxLen at hm
  clear h hrd
  obtain ⟨LC, HLC⟩ : ∃ x, Hid (Pl.lookC rs addr = x) := ⟨_, rfl⟩
  obtain ⟨LR, HLR⟩ : ∃ x, Hid (Pl.lookR rs addr = x) := ⟨_, rfl⟩
  rw [HLC.out, HLR.out]
  obtain ⟨c, HC⟩ : ∃ c, Hid (Pl.tabF rs = c) := ⟨_, rfl⟩
  obtain ⟨oa, HOA⟩ : ∃ c, Hid (decide (0 ≤ addr ∧ addr ≤ 255) = c) := ⟨_, rfl⟩
  have HIN : Hid (∀ W, Calls Try.prog 21 #[.int .i64 addr, .int .i64 0, .int .i64 255] W fun e w' => e = .returned (.bool oa) ∧ w' = W) := hid fun W => by
    have := In_any addr 0 255 W
    rwa [HOA.out] at this
  by_cases hc0 : c = 0
  · subst hc0
    cases oa
    · have HE : Hid (LC = 2 ∧ LR = Pl.Rt.none) := hid (by have := Pl.look_range HC.out (of_decide_eq_false HOA.out); rwa [HLC.out, HLR.out] at this)
      go_enter Try.func10, Try.ntmps10
      go_wp2_with fail
      refine (TableFault_any _ _ _ hs rs _ (HH.out.below ((Below.refl _ _).alloc (Nat.le_refl _) _)) (HD.out.below ((Below.refl _ _).alloc (Nat.le_refl _) _))).mono ?_
      rw [HC.out]
      rintro e w1 ⟨rfl, hb1⟩
      have HB1 : Hid (Below (w.heap.size + 1) (w.alloc (.cells #[.int .i64 0, .int .i64 0, .bool false, .int .i64 0, .slice none 0 0] 30)) w1) := hid (by simpa using hb1)
      clear hb1
      obtain ⟨⟨y0, y1, y2, y3, y4⟩, hbx, hbw⟩ := box5 HB1.out
      have HBW := hid hbw
      clear hbw
      have yf : ∀ o, w1.frozen? ⟨w.heap.size, o, none⟩ = false := fun o => boxSoft HB1.out o
      go_wp2_with (go_at_call 21; refine (HIN.out _).mono ?_; rintro e w1 ⟨rfl, rfl⟩)
      refine bodyPost_ret (v := .tuple #[.agg #[.int .i64 0, .int .i64 0, .bool false, .int .i64 0, .slice none 0 0], .int .i64 2]) (by simp [results, Try.results10, go_sem, y0, y1, y2, y3, y4]) rfl ⟨Pl.RH.none, by rw [HE.out.1]; rfl, by rw [HE.out.2]; exact readsNone _, ?_⟩
      exact (((((HBW.out.setCell (Nat.le_refl _) _).setCell (Nat.le_refl _) _).setCell (Nat.le_refl _) _).setCell (Nat.le_refl _) _).setCell (Nat.le_refl _) _)
    · obtain ⟨ha0, ha1⟩ := of_decide_eq_true HOA.out
      have hg := Pl.good_of_tabF HC.out
      have HAS : Hid (Pl.AscP (Pl.hp hs)) := hid (by unfold Pl.hp; rw [HD.out.map_p]; exact hg.2.2)
      have hbig : len ≤ 2000000 := by have := hg.1; rw [← HD.out.1, HLH.out] at this; omega
      have HQS : Hid (∀ i, Pl.lookN (Pl.hp hs) addr 9 = some i → LC = 0 ∧ LR = Pl.rt rs i) := hid fun i hi => by
        unfold Pl.hp at hi; rw [HD.out.map_p] at hi
        have := Pl.look_some HC.out ⟨ha0, ha1⟩ hi
        rwa [HLC.out, HLR.out] at this
      have HQN : Hid (Pl.lookN (Pl.hp hs) addr 9 = none → LC = 6 ∧ LR = Pl.Rt.none) := hid fun hi => by
        unfold Pl.hp at hi; rw [HD.out.map_p] at hi
        have := Pl.look_none HC.out ⟨ha0, ha1⟩ hi
        rwa [HLC.out, HLR.out] at this
      have HLP : Hid ((Pl.hp hs).length = len) := hid (by rw [Pl.hp_len, HLH.out])
      clear hg
      go_enter Try.func10, Try.ntmps10
      go_wp2_with fail
      refine (TableFault_any _ _ _ hs rs _ (HH.out.below ((Below.refl _ _).alloc (Nat.le_refl _) _)) (HD.out.below ((Below.refl _ _).alloc (Nat.le_refl _) _))).mono ?_
      rw [HC.out]
      rintro e w1 ⟨rfl, hb1⟩
      have HB1 : Hid (Below (w.heap.size + 1) (w.alloc (.cells #[.int .i64 0, .int .i64 0, .bool false, .int .i64 0, .slice none 0 0] 30)) w1) := hid (by simpa using hb1)
      clear hb1
      go_wp2_with (go_at_call 21; refine (HIN.out _).mono ?_; rintro e w1 ⟨rfl, rfl⟩)
      go_loopw [7] (fun i wr => ∃ n : Nat, n ≤ 9 ∧ i = .int .i64 ((n : Int) - 1) ∧ Hid (Pl.lookN (Pl.hp hs) addr 9 = Pl.lookN (Pl.hp hs) addr n) ∧ Hid (Below (w.heap.size + 1) (w.alloc (.cells #[.int .i64 0, .int .i64 0, .bool false, .int .i64 0, .slice none 0 0] 30)) wr)) (fun i _ => (intOf i + 1).toNat)
      case atStart => exact ⟨9, Nat.le_refl _, rfl, hid rfl, HB1⟩
      case round =>
        obtain ⟨n, hn, rfl, HN, HB⟩ := hrel
        rcases Nat.eq_zero_or_pos n with hn0 | hn0
        · subst hn0
          obtain ⟨⟨y0, y1, y2, y3, y4⟩, hbx, hbw⟩ := box5 HB.out
          have HBW := hid hbw
          clear hbw
          have HE := hid (HQN.out (by rw [HN.out]; rfl))
          have yf : ∀ o, wr.frozen? ⟨w.heap.size, o, none⟩ = false := fun o => boxSoft HB.out o
          go_wp2_with fail
          refine bodyPost_ret (v := .tuple #[.agg #[.int .i64 0, .int .i64 0, .bool false, .int .i64 0, .slice none 0 0], .int .i64 6]) (by simp [results, Try.results10, go_sem, y0, y1, y2, y3, y4]) rfl ⟨Pl.RH.none, by rw [HE.out.1]; rfl, by rw [HE.out.2]; exact readsNone _, ?_⟩
          exact (((((HBW.out.setCell (Nat.le_refl _) _).setCell (Nat.le_refl _) _).setCell (Nat.le_refl _) _).setCell (Nat.le_refl _) _).setCell (Nat.le_refl _) _)
        · obtain ⟨m, rfl⟩ : ∃ m, n = m + 1 := ⟨n - 1, by omega⟩
          have e1 : ((m + 1 : Nat) : Int) - 1 = (m : Int) := by omega
          rw [e1]
          clear e1 hn0
          have hm9 : m ≤ 8 := by omega
          obtain ⟨sp, HSP⟩ : ∃ c, Hid (Pl.span (m : Int) = c) := ⟨_, rfl⟩
          have hsp := Pl.span_pos (b := (m : Int)) (by omega)
          rw [HSP.out] at hsp
          obtain ⟨hs1, hs2⟩ := hsp
          have HCS : Hid (∀ W, Calls Try.prog 26 #[.int .i64 m] W fun e w' => e = .returned (.int .i64 sp) ∧ Below W.heap.size W w') := hid fun W => by
            have := spanOf_any (m : Int) W (by omega)
            rw [HSP.out] at this
            exact this.mono fun e w' ⟨h1, h2⟩ => ⟨h1, h2 ▸ Below.refl _ _⟩
          have htm : addr.tmod sp = addr % sp := Int.tmod_eq_emod_of_nonneg ha0
          have hs0 : (sp == 0) = false := by simp; omega
          have hrm := Int.emod_nonneg addr (show sp ≠ 0 by omega)
          have hrl := Int.emod_lt_of_pos addr (show 0 < sp by omega)
          obtain ⟨rm, HRM⟩ : ∃ c, Hid (addr % sp = c) := ⟨_, rfl⟩
          rw [HRM.out] at htm hrm hrl
          have HPA : Hid (Pl.pfxAt addr m = (addr - rm, (m : Int))) := hid (by unfold Pl.pfxAt; rw [HSP.out, HRM.out])
          have HST : Hid (Pl.lookN (Pl.hp hs) addr (m + 1) = if Pl.thereP (Pl.hp hs) (addr - rm, (m : Int)) then some (Pl.posP (Pl.hp hs) (addr - rm, (m : Int))) else Pl.lookN (Pl.hp hs) addr m) := hid (by rw [← HPA.out]; rfl)
          go_wp2_with fail
          go_loopw [8] (fun i wr => ∃ j : Nat, j ≤ len ∧ i = .int .i64 j ∧ Hid (∀ t, t < j → ¬ Pl.pr (Pl.hp hs) t = (addr - rm, (m : Int))) ∧ Hid (Below (w.heap.size + 1) (w.alloc (.cells #[.int .i64 0, .int .i64 0, .bool false, .int .i64 0, .slice none 0 0] 30)) wr)) (fun i _ => len - (intOf i).toNat)
          case atStart => exact ⟨0, Nat.zero_le _, rfl, hid (by intro t ht; omega), HB⟩
          case round =>
            obtain ⟨j, hj, rfl, HJ, HBJ⟩ := hrel
            by_cases hlt : j < len
            · obtain ⟨b, off, rfl, hbw, hr⟩ := HH.out.at hlt
              obtain ⟨⟨y0, y1, y2, y3, y4⟩, hbx, hbq⟩ := box5 HBJ.out
              have HBQ := hid hbq
              have hzq := hbq.size
              obtain ⟨c0, c1, c2, c3, c4⟩ := hr.below hbw hbq j (by rw [HLH.out]; exact hlt)
              have HRD := hid (HD.out.2 j (by rw [HLH.out]; exact hlt))
              have HPR : Hid (Pl.pr (Pl.hp hs) j = (Pl.rh hs j).p) := hid (Pl.pr_hp hs j (by rw [HLH.out]; exact hlt))
              generalize Pl.rh hs j = hh at *
              obtain ⟨⟨q1, q2⟩, here, cost, hha, hhl, hhc⟩ := hh
              simp only at c0 c1 c2 c3 c4
              have hbr : b < wr.heap.size := by omega
              have hlt' : (j : Int) < (len : Int) := by omega
              obtain ⟨e2, g2⟩ : ∃ c, (q2 == (m : Int)) = c := ⟨_, rfl⟩
              obtain ⟨e3, g3⟩ : ∃ c, (q1 == addr - rm) = c := ⟨_, rfl⟩
              have yf : ∀ o, wr.frozen? ⟨w.heap.size, o, none⟩ = false := fun o => boxSoft HBJ.out o
              by_cases hfound : e2 = true ∧ e3 = true
              · obtain ⟨rfl, rfl⟩ := hfound
                have hpr : Pl.pr (Pl.hp hs) j = (addr - rm, (m : Int)) := by
                  rw [HPR.out]; simp at g2 g3; rw [g2, g3]
                have HTP := hid (Pl.thereP_mem HAS.out (by rw [HLP.out]; exact hlt) hpr)
                have HE := hid (HQS.out j (by rw [HN.out, HST.out, HTP.out.2, HTP.out.1]; rfl))
                clear hpr
                go_wp2_with fail
                have i0 := in_cell hbr c0
                have i1 := in_cell hbr c1
                have hne := in_some wr
                refine wp_region_in (by kernel_rfl) (by kernel_rfl) ?_
                repeat (go_big_quiet_step ((go_at_call 26; exact in_call (HCS.out _))))
                refine wpQuiet_nil ?_
                intro w5 hw'
                have hb5 := in_out hw'
                clear hw' i0 i1 hne
                have HBJ5 := hid (HBJ.out.trans (hb5.mono (by have := HBJ.out.size; simpa using this)))
                have d0 := (hb5.cell (p := ⟨b, off + j * 5, none⟩) hbr).trans c0
                have d1 := (hb5.cell (p := ⟨b, off + j * 5 + 1, none⟩) hbr).trans c1
                have d2 := (hb5.cell (p := ⟨b, off + j * 5 + 2, none⟩) hbr).trans c2
                have d3 := (hb5.cell (p := ⟨b, off + j * 5 + 3, none⟩) hbr).trans c3
                have d4 := (hb5.cell (p := ⟨b, off + j * 5 + 4, none⟩) hbr).trans c4
                have HBQ5 := hid (HBQ.out.trans (hb5.mono hzq))
                clear hb5 c0 c1 c2 c3 c4 y0 y1 y2 y3 y4 yf
                obtain ⟨⟨y0, y1, y2, y3, y4⟩, hbx5, _⟩ := box5 HBJ5.out
                have yf : ∀ o, w5.frozen? ⟨w.heap.size, o, none⟩ = false := fun o => boxSoft HBJ5.out o
                go_wp2_with fail
                refine bodyPost_ret (v := .tuple #[.agg #[.int .i64 q1, .int .i64 q2, .bool here, .int .i64 cost, .slice hha hhl hhc], .int .i64 0]) (by simp [results, Try.results10, go_sem, y0, y1, y2, y3, y4]) rfl ⟨⟨(q1, q2), here, cost, hha, hhl, hhc⟩, by rw [HE.out.1], ?_, ?_⟩
                · rw [HE.out.2]
                  refine HRD.out.below ?_
                  exact (((((HBQ5.out.setCell (Nat.le_refl _) _).setCell (Nat.le_refl _) _).setCell (Nat.le_refl _) _).setCell (Nat.le_refl _) _).setCell (Nat.le_refl _) _)
                · exact (((((HBQ5.out.setCell (Nat.le_refl _) _).setCell (Nat.le_refl _) _).setCell (Nat.le_refl _) _).setCell (Nat.le_refl _) _).setCell (Nat.le_refl _) _)
              · have HNE : Hid (¬ Pl.pr (Pl.hp hs) j = (addr - rm, (m : Int))) := hid fun hpr => by
                  apply hfound
                  rw [HPR.out] at hpr
                  simp only [Prod.mk.injEq] at hpr
                  rw [← g2, ← g3]
                  simp [hpr.1, hpr.2]
                cases e2
                all_goals cases e3
                all_goals first | (exact absurd ⟨rfl, rfl⟩ hfound) | skip
                all_goals
                  clear hfound
                  go_wp2_with fail
                  have i0 := in_cell hbr c0
                  have i1 := in_cell hbr c1
                  have hne := in_some wr
                  refine wp_region_in (by kernel_rfl) (by kernel_rfl) ?_
                  repeat (go_big_quiet_step ((go_at_call 26; exact in_call (HCS.out _))))
                  refine wpQuiet_nil ?_
                  intro w5 hw'
                  have hb5 := in_out hw'
                  clear hw' i0 i1 hne
                  go_wp2_with fail
                  go_roundw
                  case rel => exact ⟨j + 1, by omega, by go_num, hid fun t ht => by rcases Nat.lt_or_ge t j with q | q; exact HJ.out t q; obtain rfl : t = j := (by omega); exact HNE.out, hid (HBJ.out.trans (hb5.mono (by have := HBJ.out.size; simpa using this)))⟩
                  case measure => simp [intOf]; omega
            · have HTF : Hid (Pl.thereP (Pl.hp hs) (addr - rm, (m : Int)) = false) := hid (by
                rw [Bool.eq_false_iff]
                intro ht
                have h1 := Pl.thereP_lt ht
                rw [HLP.out] at h1
                exact HJ.out _ (by omega) (Pl.thereP_eq ht))
              have hnl : ¬ ((j : Int) < (len : Int)) := by omega
              go_wp2_with fail
              go_roundw
              case rel => exact ⟨m, by omega, by go_num, hid (by rw [HN.out, HST.out, HTF.out]; rfl), HBJ⟩
              case measure => simp [intOf]
  · have HE : Hid (LC = c ∧ LR = Pl.Rt.none) := hid (by have := Pl.look_bad (addr := addr) (by rw [HC.out]; exact hc0 : ¬ Pl.tabF rs = 0); rwa [HLC.out, HLR.out, HC.out] at this)
    have hd0 : (c == 0) = false := by simpa using hc0
    have hd1 : (c != 0) = true := by simpa using hc0
    clear hc0
    go_enter Try.func10, Try.ntmps10
    go_wp2_with fail
    refine (TableFault_any _ _ _ hs rs _ (HH.out.below ((Below.refl _ _).alloc (Nat.le_refl _) _)) (HD.out.below ((Below.refl _ _).alloc (Nat.le_refl _) _))).mono ?_
    rw [HC.out]
    rintro e w1 ⟨rfl, hb1⟩
    have HB1 : Hid (Below (w.heap.size + 1) (w.alloc (.cells #[.int .i64 0, .int .i64 0, .bool false, .int .i64 0, .slice none 0 0] 30)) w1) := hid (by simpa using hb1)
    clear hb1
    obtain ⟨⟨y0, y1, y2, y3, y4⟩, hbx, hbw⟩ := box5 HB1.out
    have HBW := hid hbw
    clear hbw
    have yf : ∀ o, w1.frozen? ⟨w.heap.size, o, none⟩ = false := fun o => boxSoft HB1.out o
    go_wp2_with fail
    refine bodyPost_ret (v := .tuple #[.agg #[.int .i64 0, .int .i64 0, .bool false, .int .i64 0, .slice none 0 0], .int .i64 c]) (by simp [results, Try.results10, go_sem, y0, y1, y2, y3, y4]) rfl ⟨Pl.RH.none, by rw [HE.out.1]; rfl, by rw [HE.out.2]; exact readsNone _, ?_⟩
    exact (((((HBW.out.setCell (Nat.le_refl _) _).setCell (Nat.le_refl _) _).setCell (Nat.le_refl _) _).setCell (Nat.le_refl _) _).setCell (Nat.le_refl _) _)
end Go.Proofs.Ytcdobhdbafpkiae
