/-
  Contracts and facts that the proof rests on, put together out of several texts.
-/
import Derived.Test.YtcdobhdbafpkiafGreatDoorAll6
import Derived.Test.YtcdobhdbafpkiafGreatDoorAll1
import Derived.Lib.AppendStr
import Derived.Laws.AppendOwnNone
/-
  Contract: the store of a map of raw things.
-/
namespace Go.Proofs.YtcdobhdbafpkiafGreatDoor
open Go.RowKit
set_option maxRecDepth 20000

theorem but_below {B : Nat} {a b c : World} (h : But B a b) (k : Below a.heap.size b c) : But B a c := ⟨k.os.trans h.os, k.tape.trans h.tape, k.output.trans h.output, Nat.le_trans h.size k.size, fun i hi hB => (k.block i hi).trans (h.block i hi hB)⟩
theorem zeroCost : Tryz.zeroCells89 = Array.ofFn (n := 144) fun i => grid (fun _ _ => 0) i.1 := by kernel_rfl
theorem map3 {w w3 : World} (h : w3 = ((w.alloc (.cells Tryz.zeroCells89 89)).alloc (.cells #[Value.bool false, .slice none 0 0, .bool false, .slice none 0 0, .bool false, .slice none 0 0, .bool false, .slice none 0 0, .bool false, .slice none 0 0, .bool false, .slice none 0 0, .bool false, .slice none 0 0, .bool false, .slice none 0 0, .bool false, .slice none 0 0, .bool false, .slice none 0 0, .bool false, .slice none 0 0, .bool false, .slice none 0 0] 93)).alloc (.cells #[.slice none 0 0, .slice none 0 0, .slice none 0 0, .slice none 0 0, .slice none 0 0, .slice none 0 0, .slice none 0 0, .slice none 0 0, .slice none 0 0, .slice none 0 0, .slice none 0 0, .slice none 0 0] 94)) :
    CAt w3 w.heap.size ∧ DAt w3 (w.heap.size + 1) ∧ OAt w3 (w.heap.size + 1 + 1) (w.heap.size + 3) ∧ Below w.heap.size w w3 ∧ w.heap.size + 3 ≤ w3.heap.size := by
  subst h
  refine ⟨⟨fun _ _ => 0, ?_, by simp⟩, ⟨fun _ => false, ?_⟩, OAt.new ?_, (((Below.refl _ _).alloc (by simp) _).alloc (by simp) _).alloc (by simp; omega) _, by simp⟩
  · refine CellsAt.below (CellsAt.below (CellsAt.new w _ _ _ _ (by rw [zeroCost]; simp) fun i hi => ?_) ((Below.refl _ _).alloc (Nat.le_refl _) _)) ((Below.refl _ _).alloc (Nat.le_refl _) _)
    simp only [zeroCost, Array.getElem_ofFn]
  · have := CellsAt.new (w.alloc (.cells Tryz.zeroCells89 89)) 93 (Array.ofFn (n := 24) fun i => toldCell (fun _ => false) (fun _ => .slice none 0 0) i.1) 24 (toldCell (fun _ => false) (fun _ => .slice none 0 0)) (by simp) (by simp)
    rw [show (w.alloc (.cells Tryz.zeroCells89 89)).heap.size = w.heap.size + 1 by simp] at this
    exact CellsAt.below this ((Below.refl _ _).alloc (Nat.le_refl _) _)
  · have hv : (w.alloc (.cells Tryz.zeroCells89 89)).heap.size = w.heap.size + 1 := by simp
    generalize (w.alloc (.cells Tryz.zeroCells89 89)) = v at *
    have := CellsAt.new (v.alloc (.cells #[Value.bool false, .slice none 0 0, .bool false, .slice none 0 0, .bool false, .slice none 0 0, .bool false, .slice none 0 0, .bool false, .slice none 0 0, .bool false, .slice none 0 0, .bool false, .slice none 0 0, .bool false, .slice none 0 0, .bool false, .slice none 0 0, .bool false, .slice none 0 0, .bool false, .slice none 0 0, .bool false, .slice none 0 0] 93)) 94 (Array.ofFn (n := 12) fun _ => Value.slice none 0 0) 12 (fun _ => Value.slice none 0 0) (by simp) (by simp)
    rw [show (v.alloc (.cells #[Value.bool false, .slice none 0 0, .bool false, .slice none 0 0, .bool false, .slice none 0 0, .bool false, .slice none 0 0, .bool false, .slice none 0 0, .bool false, .slice none 0 0, .bool false, .slice none 0 0, .bool false, .slice none 0 0, .bool false, .slice none 0 0, .bool false, .slice none 0 0, .bool false, .slice none 0 0, .bool false, .slice none 0 0] 93)).heap.size = w.heap.size + 1 + 1 by simp [hv]] at this
    exact this

set_option maxHeartbeats 8000000 in
theorem Map_any (a : Option Addr) (len cap : Nat) (nodes : Nat) (w : World) (h : IsRaws w a len cap) (h2 : 2 ≤ nodes) (h12 : nodes ≤ 12) (hT : Tab w) :
    Calls Tryz.prog 10 #[.slice a len cap, .int .i64 (nodes : Int)] w fun e w' => ∃ v es, e = .returned v ∧ Own w' w.heap.size v es ∧ Pl.Good es ∧ Below w.heap.size w w' := by
  have HH := hid h
  have HTB := hid hT
  have hlc := h.1
  have hcm := h.2.1
  unfold maxLen at hcm
  clear h hT
  have al : ∀ (v : World) (o : Obj), Below v.heap.size v (v.alloc o) := fun v o => (Below.refl _ _).alloc (Nat.le_refl _) _
  have H3 := hid (fun w3 h => map3 (w := w) (w3 := w3) h)
  go_enter Tryz.func10, Tryz.ntmps10
  go_wp2_with fail
  go_loopw [8] (fun i wr => ∃ k : Nat, k ≤ len ∧ k ≤ 40 ∧ i = .int .i64 k ∧ Hid (CAt wr w.heap.size) ∧ Hid (DAt wr (w.heap.size + 1)) ∧ Hid (OAt wr (w.heap.size + 1 + 1) (w.heap.size + 3)) ∧ Hid (Below w.heap.size w wr) ∧ Hid (w.heap.size + 3 ≤ wr.heap.size)) (fun i _ => len - (intOf i).toNat)
  case atStart =>
    obtain ⟨g1, g2, g3, g4, g5⟩ := H3.out _ rfl
    exact ⟨0, Nat.zero_le _, Nat.zero_le _, rfl, hid g1, hid g2, hid g3, hid g4, hid g5⟩
  case round =>
    obtain ⟨k, hk, hk40, rfl, HC, HD, HO, HB, HZ⟩ := hrel
    by_cases hlt : k < len
    · by_cases hlm : k < 40
      · obtain ⟨b, off, rfl, hb, hr⟩ := (HH.out.below HB.out).2.2.resolve_left (by omega)
        obtain ⟨k0, k1, k2, k3, ⟨q0, q1, q2, q3⟩, w0, w1, w2, w3⟩ := hr k hlt
        have HW3 := hid w3
        have b0 := wf_bounds w0
        have b1 := wf_bounds w1
        have b2 := wf_bounds w2
        have b3 := wf_bounds w3
        clear hr w0 w1 w2 w3
        have HP1 := hid (fun W => picked_any k1 nodes W b1.1 b1.2 (by omega) (by omega))
        have HP2 := hid (fun W => picked_any k2 nodes W b2.1 b2.2 (by omega) (by omega))
        have HP0 := hid (fun W => picked_any k0 10 W b0.1 b0.2 (by omega) (by omega))
        obtain ⟨pa, hpa⟩ := Int.eq_ofNat_of_zero_le (Pl.pk_range k1 nodes (by omega)).1
        obtain ⟨pb, hpb⟩ := Int.eq_ofNat_of_zero_le (Pl.pk_range k2 nodes (by omega)).1
        obtain ⟨pc, hpc⟩ := Int.eq_ofNat_of_zero_le (Pl.pk_range k0 10 (by omega)).1
        have ha : pa < 12 := by have := (Pl.pk_range k1 nodes (by omega)).2; omega
        have hb' : pb < 12 := by have := (Pl.pk_range k2 nodes (by omega)).2; omega
        have hc : pc < 10 := by have := (Pl.pk_range k0 10 (by omega)).2; omega
        rw [hpa] at HP1
        rw [hpb] at HP2
        rw [hpc] at HP0
        clear hpa hpb hpc b0 b1 b2
        have hzz : w.heap.size + 3 ≤ wr.heap.size := HZ.out
        have hBx : Below w.heap.size w (wr.alloc (.cells #[.int .i64 k0, .int .i64 k1, .int .i64 k2, .int .i64 k3] 74)) := HB.out.alloc HB.out.size _
        have HBx := hid hBx
        have HBa : Hid (Below wr.heap.size wr (wr.alloc (.cells #[.int .i64 k0, .int .i64 k1, .int .i64 k2, .int .i64 k3] 74))) := hid ((Below.refl _ _).alloc (Nat.le_refl _) _)
        clear hBx
        go_wp2_with fail
        refine (HP1.out _).mono ?_
        rintro e wx ⟨rfl, rfl⟩
        go_wp2_with fail
        refine (HP2.out _).mono ?_
        rintro e wx ⟨rfl, rfl⟩
        go_wp2_with fail
        refine (HP0.out _).mono ?_
        rintro e wx ⟨rfl, rfl⟩
        have hcs : pc < 7 ∨ pc = 7 ∨ pc = 8 ∨ pc = 9 := by omega
        have HCx := hid (HC.out.below HBa.out)
        have HDx := hid (HD.out.below HBa.out)
        have HOx := hid (HO.out.below HBa.out)
        rcases hcs with hc7 | rfl | rfl | rfl
        · have e7 : ((pc : Int) == 7) = false := by simp; omega
          have e8 : ((pc : Int) == 8) = false := by simp; omega
          have e9 : ((pc : Int) == 9) = false := by simp; omega
          by_cases hab : (pa : Int) = pb
          · have hab' : ((pa : Int) != (pb : Int)) = false := by simp [hab]
            clear hab
            go_wp2_with fail
            go_roundw
            case rel => exact ⟨k + 1, by omega, by omega, by go_num, HCx, HDx, HOx, HBx, hid (by simp; omega)⟩
            case measure => simp [intOf]; omega
          · have hab' : ((pa : Int) != (pb : Int)) = true := by simp [hab]
            clear hab
            go_wp2_with fail
            obtain ⟨W1, HW1⟩ : ∃ W1, Hid (W1 = wr.alloc (.cells #[.int .i64 k0, .int .i64 k1, .int .i64 k2, .int .i64 k3] 74)) := ⟨_, hid rfl⟩
            rw [← HW1.out]
            have cR : W1.cell? ⟨wr.heap.size, 3, none⟩ = some (.int .i64 k3) := by rw [HW1.out]; simp
            have hRl : wr.heap.size < W1.heap.size := by rw [HW1.out]; simp
            rw [← HW1.out] at HCx HDx HOx HBx
            have hd1 := Pl.pk_range k3 4 (by omega)
            have hq4 := tdiv4 b3.1 b3.2
            have hd2 := Pl.pk_range (k3.tdiv 4) 4 (by omega)
            have HP3 := hid (fun W => picked_any k3 4 W b3.1 b3.2 (by omega) (by omega))
            have HP4 := hid (fun W => picked_any (k3.tdiv 4) 4 W hq4.1 hq4.2 (by omega) (by omega))
            obtain ⟨d1, hd1e⟩ : ∃ d, Pl.pk k3 4 = d := ⟨_, rfl⟩
            obtain ⟨d2, hd2e⟩ : ∃ d, Pl.pk (k3.tdiv 4) 4 = d := ⟨_, rfl⟩
            rw [hd1e] at hd1 HP3
            rw [hd2e] at hd2 HP4
            have hqw : IntKind.i64.wrap (k3.tdiv 4) = k3.tdiv 4 := by rw [IntKind.wrap_i64]; omega
            have hdw1 : IntKind.i64.wrap (1 + d1) = 1 + d1 := by rw [IntKind.wrap_i64]; omega
            have hdw2 : IntKind.i64.wrap (1 + d2) = 1 + d2 := by rw [IntKind.wrap_i64]; omega
            have hai : (pa : Int) < 12 := by omega
            have hbi : (pb : Int) < 12 := by omega
            generalize ha0 : Act.mk _ _ = a0
            have hsz : 56 + 17 ≤ a0.tmps.size := by
              have : a0.tmps.size = 180 := by rw [← ha0]; rfl
              omega
            have q5 : a0.tmps[5]?.getD undef = .pointer (some ⟨w.heap.size, 0, none⟩) := by rw [← ha0]; rfl
            have q9 : a0.tmps[9]?.getD undef = .pointer (some ⟨wr.heap.size, 0, none⟩) := by rw [← ha0]; rfl
            have q10 : a0.tmps[10]?.getD undef = .int .i64 pa := by rw [← ha0]; rfl
            have q11 : a0.tmps[11]?.getD undef = .int .i64 pb := by rw [← ha0]; rfl
            have hneB : wr.heap.size ≠ w.heap.size := by omega
            refine wp_region_any (by kernel_rfl) ?_
            refine wpAny_inv2 (DInv a0 56 17 19 (fun k => if k < 15 then some k else if k = 15 then none else if k < 18 then some (k - 1) else none)
              (fun j => ([.int .i64 pa, .int .i64 pb, .int .i64 pb, .int .i64 pa, .pointer (some ⟨wr.heap.size, 3, none⟩), .int .i64 k3, .int .i64 d1, .int .i64 (1 + d1), .pointer (some ⟨wr.heap.size, 3, none⟩), .int .i64 k3, .int .i64 (k3.tdiv 4), .int .i64 d2, .int .i64 (1 + d2), .pointer (some ⟨w.heap.size, pa * 12, none⟩), .pointer (some ⟨w.heap.size, pa * 12 + pb, none⟩), .pointer (some ⟨w.heap.size, pb * 12, none⟩), .pointer (some ⟨w.heap.size, pb * 12 + pa, none⟩)] : List Value).getD j undef)
              (fun W => CAt W w.heap.size ∧ But w.heap.size W1 W)) ?_ ?_ _ _ _ _ (by decide +kernel) ?_ (closed_start _ _ _)
            · intro i listed a W hi hCl hI
              rw [mem_ready] at hi
              obtain ⟨hl, o, ho, hall⟩ := hi
              have hlt19 : i < 19 := (Array.getElem?_eq_some_iff.1 ho).1
              have o5 := (hI.out (k := 5) (by omega)).trans q5
              have o9 := (hI.out (k := 9) (by omega)).trans q9
              have o10 := (hI.out (k := 10) (by omega)).trans q10
              have o11 := (hI.out (k := 11) (by omega)).trans q11
              have hcc := hI.cw
              have cR2 := (hcc.2.cell (p := ⟨wr.heap.size, 3, none⟩) hRl hneB).trans cR
              have hcs : i = 0 ∨ i = 1 ∨ i = 2 ∨ i = 3 ∨ i = 4 ∨ i = 5 ∨ i = 6 ∨ i = 7 ∨ i = 8 ∨ i = 9 ∨ i = 10 ∨ i = 11 ∨ i = 12 ∨ i = 13 ∨ i = 14 ∨ i = 15 ∨ i = 16 ∨ i = 17 ∨ i = 18 := by omega
              rcases hcs with rfl | rfl | rfl | rfl | rfl | rfl | rfl | rfl | rfl | rfl | rfl | rfl | rfl | rfl | rfl | rfl | rfl | rfl | rfl
              all_goals
                simp at ho
                subst ho
                refine wpOp_of rfl rfl ?_
              · simp [Oper.wp, go_sem, o10]
                exact hI.put (i := 0) (j := 0) rfl (by omega) rfl hcc
              · simp [Oper.wp, go_sem, o11]
                exact hI.put (i := 1) (j := 1) rfl (by omega) rfl hcc
              · simp [Oper.wp, go_sem, o11]
                exact hI.put (i := 2) (j := 2) rfl (by omega) rfl hcc
              · simp [Oper.wp, go_sem, o10]
                exact hI.put (i := 3) (j := 3) rfl (by omega) rfl hcc
              · simp [Oper.wp, go_sem, o9]
                exact hI.put (i := 4) (j := 4) rfl (by omega) rfl hcc
              · have e1 : a.tmps[60]?.getD undef = .pointer (some ⟨wr.heap.size, 3, none⟩) := hI.at (k := 4) (j := 4) hsz rfl (by omega) (hall ⟨4, .data⟩ (by simp) rfl)
                simp [Oper.wp, go_sem, e1, cR2]
                exact hI.put (i := 5) (j := 5) rfl (by omega) rfl hcc
              · have e1 : a.tmps[61]?.getD undef = .int .i64 k3 := hI.at (k := 5) (j := 5) hsz rfl (by omega) (hall ⟨5, .data⟩ (by simp) rfl)
                simp [Oper.wp, go_sem, e1]
                refine (HP3.out W).mono ?_
                rintro e w1 ⟨rfl, rfl⟩
                exact hI.put (i := 6) (j := 6) rfl (by omega) rfl hcc
              · have e1 : a.tmps[62]?.getD undef = .int .i64 d1 := hI.at (k := 6) (j := 6) hsz rfl (by omega) (hall ⟨6, .data⟩ (by simp) rfl)
                simp [Oper.wp, go_sem, e1, hdw1]
                exact hI.put (i := 7) (j := 7) rfl (by omega) rfl hcc
              · simp [Oper.wp, go_sem, o9]
                exact hI.put (i := 8) (j := 8) rfl (by omega) rfl hcc
              · have e1 : a.tmps[64]?.getD undef = .pointer (some ⟨wr.heap.size, 3, none⟩) := hI.at (k := 8) (j := 8) hsz rfl (by omega) (hall ⟨8, .data⟩ (by simp) rfl)
                simp [Oper.wp, go_sem, e1, cR2]
                exact hI.put (i := 9) (j := 9) rfl (by omega) rfl hcc
              · have e1 : a.tmps[65]?.getD undef = .int .i64 k3 := hI.at (k := 9) (j := 9) hsz rfl (by omega) (hall ⟨9, .data⟩ (by simp) rfl)
                simp [Oper.wp, go_sem, e1, hqw]
                exact hI.put (i := 10) (j := 10) rfl (by omega) rfl hcc
              · have e1 : a.tmps[66]?.getD undef = .int .i64 (k3.tdiv 4) := hI.at (k := 10) (j := 10) hsz rfl (by omega) (hall ⟨10, .data⟩ (by simp) rfl)
                simp [Oper.wp, go_sem, e1]
                refine (HP4.out W).mono ?_
                rintro e w1 ⟨rfl, rfl⟩
                exact hI.put (i := 11) (j := 11) rfl (by omega) rfl hcc
              · have e1 : a.tmps[67]?.getD undef = .int .i64 d2 := hI.at (k := 11) (j := 11) hsz rfl (by omega) (hall ⟨11, .data⟩ (by simp) rfl)
                simp [Oper.wp, go_sem, e1, hdw2]
                exact hI.put (i := 12) (j := 12) rfl (by omega) rfl hcc
              · have e1 : a.tmps[56]?.getD undef = .int .i64 pa := hI.at (k := 0) (j := 0) hsz rfl (by omega) (hall ⟨0, .data⟩ (by simp) rfl)
                simp [Oper.wp, go_sem, e1, o5, hai]
                exact hI.put (i := 13) (j := 13) rfl (by omega) rfl hcc
              · have e1 : a.tmps[69]?.getD undef = .pointer (some ⟨w.heap.size, pa * 12, none⟩) := hI.at (k := 13) (j := 13) hsz rfl (by omega) (hall ⟨13, .data⟩ (by simp) rfl)
                have e2 : a.tmps[57]?.getD undef = .int .i64 pb := hI.at (k := 1) (j := 1) hsz rfl (by omega) (hall ⟨1, .data⟩ (by simp) rfl)
                simp [Oper.wp, go_sem, e1, e2, hbi]
                exact hI.put (i := 14) (j := 14) rfl (by omega) rfl hcc
              · have e1 : a.tmps[70]?.getD undef = .pointer (some ⟨w.heap.size, pa * 12 + pb, none⟩) := hI.at (k := 14) (j := 14) hsz rfl (by omega) (hall ⟨14, .data⟩ (by simp) rfl)
                have e2 : a.tmps[63]?.getD undef = .int .i64 (1 + d1) := hI.at (k := 7) (j := 7) hsz rfl (by omega) (hall ⟨7, .data⟩ (by simp) rfl)
                obtain ⟨⟨co, ec⟩, ef⟩ := hcc.1.old pa pb ha hb'
                simp [Oper.wp, go_sem, e1, e2, ec, ef]
                exact hI.skip (i := 15) rfl ⟨hcc.1.set pa pb hb' _ (by omega), hcc.2.setCell _ _⟩
              · have e1 : a.tmps[58]?.getD undef = .int .i64 pb := hI.at (k := 2) (j := 2) hsz rfl (by omega) (hall ⟨2, .data⟩ (by simp) rfl)
                simp [Oper.wp, go_sem, e1, o5, hbi]
                exact hI.put (i := 16) (j := 15) rfl (by omega) rfl hcc
              · have e1 : a.tmps[71]?.getD undef = .pointer (some ⟨w.heap.size, pb * 12, none⟩) := hI.at (k := 16) (j := 15) hsz rfl (by omega) (hall ⟨16, .data⟩ (by simp) rfl)
                have e2 : a.tmps[59]?.getD undef = .int .i64 pa := hI.at (k := 3) (j := 3) hsz rfl (by omega) (hall ⟨3, .data⟩ (by simp) rfl)
                simp [Oper.wp, go_sem, e1, e2, hai]
                exact hI.put (i := 17) (j := 16) rfl (by omega) rfl hcc
              · have e1 : a.tmps[72]?.getD undef = .pointer (some ⟨w.heap.size, pb * 12 + pa, none⟩) := hI.at (k := 17) (j := 16) hsz rfl (by omega) (hall ⟨17, .data⟩ (by simp) rfl)
                have e2 : a.tmps[68]?.getD undef = .int .i64 (1 + d2) := hI.at (k := 12) (j := 12) hsz rfl (by omega) (hall ⟨12, .data⟩ (by simp) rfl)
                obtain ⟨⟨co, ec⟩, ef⟩ := hcc.1.old pb pa hb' ha
                simp [Oper.wp, go_sem, e1, e2, ec, ef]
                exact hI.skip (i := 18) rfl ⟨hcc.1.set pb pa ha _ (by omega), hcc.2.setCell _ _⟩
            · intro listed a W hr hI
              rename_i K hK _
              obtain ⟨hcw, hbut⟩ := hI.cw
              obtain ⟨xs, hxl, rfl, _⟩ := hI.fr
              obtain ⟨x0, x1, x2, x3, x4, x5, x6, x7, x8, x9, x10, x11, x12, x13, x14, x15, x16, rfl⟩ := list17 xs hxl
              have HCy := hid hcw
              have HDy := hid (HDx.out.but hbut (by omega))
              have HOy := hid (HOx.out.but hbut (by omega) (by omega))
              have HBy : Hid (Below w.heap.size w W) := hid (HBx.out.trans (hbut.below (Nat.le_refl _) (by have := HBx.out.size; omega)))
              have HZy : Hid (w.heap.size + 3 ≤ W.heap.size) := hid (by have := hbut.size; omega)
              clear hI hr hxl q5 q9 q10 q11 hsz hcw hbut
              rw [← ha0]
              simp only [setFrom]
              refine hK _ W ?_
              go_wp2_with fail
              go_roundw
              case rel => exact ⟨k + 1, by omega, by omega, by go_num, HCy, HDy, HOy, HBy, HZy⟩
              case measure => simp [intOf]; omega
            · exact DInv.start hsz ⟨HCx.out, But.refl _ _ |>.drawn 1⟩
        · obtain ⟨⟨co, ec⟩, ef⟩ := HD.out.old pa ha
          have hZ1 : w.heap.size + 1 < wr.heap.size := by omega
          have HP3 := hid (fun W => picked_any k3 2 W b3.1 b3.2 (by omega) (by omega))
          obtain ⟨d1, hd1e⟩ : ∃ d, Pl.pk k3 2 = d := ⟨_, rfl⟩
          rw [hd1e] at HP3
          have hbut : But (w.heap.size + 1) wr (wr.setCell ⟨w.heap.size + 1, pa * 2, none⟩ (.bool (d1 == 0))) := (But.refl _ _).setCell _ _
          have HU := hid hbut
          clear hbut hd1e
          go_wp2_with fail
          refine (HP3.out _).mono ?_
          rintro e wx ⟨rfl, rfl⟩
          go_wp2_with fail
          go_roundw
          case rel => exact ⟨k + 1, by omega, by omega, by go_num, hid ((HC.out.but HU.out (by omega)).below (al _ _)), hid ((HD.out.set pa _).below (al _ _)), hid ((HO.out.but HU.out (by omega) (by omega)).below (al _ _)), hid ((HB.out.setCell (p := ⟨w.heap.size + 1, pa * 2, none⟩) (Nat.le_succ _) _).alloc (by have := HU.out.size; omega) _), hid (by have := HU.out.size; simp at this ⊢; omega)⟩
          case measure => simp [intOf]; omega
        · obtain ⟨oa, ol, oc, ops, ec, hol, hop, hox, ef⟩ := HO.out.at pa ha
          have hZ1 : w.heap.size + 1 + 1 < wr.heap.size := by omega
          clear hop hox
          by_cases hz0 : ol = 0
          · subst hz0
            go_wp2_with fail
            refine (prefix_any k3 _ HW3.out).mono ?_
            rintro e w5 ⟨⟨p1, p2⟩, rfl, hpo, hb5⟩
            simp only at hpo ⊢
            have HC5 := hid (HCx.out.below hb5)
            have HD5 := hid (HDx.out.below hb5)
            have HO5 := hid (HOx.out.below hb5)
            have hz5 : w.heap.size + 4 ≤ w5.heap.size := by have := hb5.size; simp at this; omega
            have HB5 : Hid (Below w.heap.size w w5) := hid (HBx.out.trans (hb5.mono HBx.out.size))
            have HPO := hid hpo
            obtain ⟨oa5, ol5, oc5, ops5, ec5, _, _, _, ef5⟩ := HO5.out.at pa ha
            have hZ5 : w.heap.size + 1 + 1 < w5.heap.size := by omega
            clear hpo hb5 ec ef HC HD HO HCx HDx HOx
            go_wp2_with fail
            have hU5 : But (w.heap.size + 1 + 1) w5 (w5.setCell ⟨w.heap.size + 1 + 1, pa, none⟩ (.slice (some ⟨w5.heap.size, 0, none⟩) 1 1)) := (But.refl _ _).setCell _ _
            have HU5 := hid hU5
            clear hU5
            go_roundw
            case rel =>
              refine ⟨k + 1, by omega, by omega, by go_num, hid ((HC5.out.but HU5.out (by omega)).below (al _ _)), hid ((HD5.out.but HU5.out (by omega)).below (al _ _)), hid ?_, hid ((HB5.out.setCell (p := ⟨w.heap.size + 1 + 1, pa, none⟩) (by simp; omega) _).alloc (by have := HU5.out.size; omega) _), hid (by have := HU5.out.size; simp at this ⊢; omega)⟩
              rw [← World.setCell_alloc_past _ _ _ _ hZ5]
              refine (HO5.out.below (al _ _)).set pa _ 1 1 [(p1, p2)] (Nat.le_refl _) ⟨rfl, Nat.le_refl _, by decide, ?_, .inr ⟨_, _, rfl, by simp, ?_⟩⟩ (by rintro x ⟨⟩; simp only; omega) (by omega)
              · intro p hp; rw [List.mem_singleton.1 hp]; exact HPO.out
              · intro i hi
                obtain rfl : i = 0 := by simp at hi; omega
                simp [Pl.pr]
            case measure => simp [intOf]; omega
          · have hz1 : ((ol : Int) == 0) = false := by simp; omega
            clear hz0
            go_wp2_with fail
            go_roundw
            case rel => exact ⟨k + 1, by omega, by omega, by go_num, HCx, HDx, HOx, HBx, hid (by simp; omega)⟩
            case measure => simp [intOf]; omega
        · obtain ⟨⟨co, ec⟩, ef⟩ := HC.out.old pa pb ha hb'
          have hZ1 : w.heap.size < wr.heap.size := by omega
          have hbut : But w.heap.size wr (wr.setCell ⟨w.heap.size, pa * 12 + pb, none⟩ (.int .i64 0)) := (But.refl _ _).setCell _ _
          have HU := hid hbut
          clear hbut
          by_cases hab : (pa : Int) = pb
          · have hab' : ((pa : Int) != (pb : Int)) = false := by simp [hab]
            clear hab
            go_wp2_with fail
            go_roundw
            case rel => exact ⟨k + 1, by omega, by omega, by go_num, HCx, HDx, HOx, HBx, hid (by simp; omega)⟩
            case measure => simp [intOf]; omega
          · have hab' : ((pa : Int) != (pb : Int)) = true := by simp [hab]
            clear hab
            go_wp2_with fail
            go_roundw
            case rel => exact ⟨k + 1, by omega, by omega, by go_num, hid ((HC.out.set pa pb hb' 0 (by omega)).below (al _ _)), hid ((HD.out.but HU.out (by omega)).below (al _ _)), hid ((HO.out.but HU.out (by omega) (by omega)).below (al _ _)), hid ((HB.out.setCell (p := ⟨w.heap.size, pa * 12 + pb, none⟩) (Nat.le_refl _) _).alloc (by have := HU.out.size; omega) _), hid (by have := HU.out.size; simp at this ⊢; omega)⟩
            case measure => simp [intOf]; omega
      · obtain rfl : k = 40 := by omega
        have HBr := hid HB.out
        have HTr := hid (HTB.out.below HB.out)
        have H2D := hid HD.out.two
        have hzz : w.heap.size + 3 ≤ wr.heap.size := HZ.out
        have HHx := HH
        clear HH HD HZ
        go_wp2_with fail
        rename World => wA
        go_loopw [13, 112] (fun vo i wr => ∃ (n : Nat) (es : List Pl.Ent) (u : Value), u = vo ∧ n ≤ nodes ∧ i = .int .i64 n ∧ Hid (Own wr (w.heap.size + 3) u es) ∧ Hid (Pl.Good es) ∧ Hid (CAt wr w.heap.size) ∧ Hid (D2At wr (w.heap.size + 1) n) ∧ Hid (OAt wr (w.heap.size + 1 + 1) (w.heap.size + 3)) ∧ Hid (Below w.heap.size w wr) ∧ w.heap.size + 3 ≤ wr.heap.size) (fun _ i _ => nodes - (intOf i).toNat)
        case atStart => exact ⟨0, [], _, rfl, Nat.zero_le _, rfl, hid (Own.nil _ _), hid Pl.good_nil, HC, H2D, HO, HBr, hzz⟩
        case round =>
          clear HC H2D HO HBr hzz HTr
          obtain ⟨n, es, u, rfl, hn, rfl, HOW, HG, HC, HD, HO, HB, hz⟩ := hrel
          by_cases hlt : n < nodes
          · have hn12 : n < 12 := by omega
            obtain ⟨M, hM, hMb⟩ := HC.out
            have HM := hid hM
            have HMb := hid hMb
            have HRW := hid (hM.row n hn12)
            clear hM hMb
            obtain ⟨d, hd3⟩ := HD.out.three
            have HD3 := hid hd3
            clear hd3
            rename World => w2
            have hz1 : w.heap.size + 1 < w2.heap.size := by omega
            have hz0 : w.heap.size < w2.heap.size := by omega
            go_wp2_with (refine wpList_load_mid rfl 41 (.tmp 116) rfl w.heap.size (n * 12) rfl (ints12 (M n)) _ HRW.out Tryz.underlying41 rfl infoInts ?_)
            go_loopw [118] (fun i wr => ∃ (j : Nat) (v : Value) (acc : List (Int × Int)), j ≤ 12 ∧ i = .int .i64 j ∧ Hid (D3At wr (w.heap.size + 1) n d v) ∧ Hid (OwnP 97 wr w2.heap.size v acc) ∧ acc.length ≤ j ∧ Hid (∀ p ∈ acc, Pl.pairOk p) ∧ Hid (But (w.heap.size + 1) w2 wr)) (fun i _ => 12 - (intOf i).toNat)
            case atStart => exact ⟨0, _, [], by omega, rfl, HD3, hid (OwnP.nil _ _ _), Nat.le_refl _, hid (by simp), hid (But.refl _ _)⟩
            case round =>
              obtain ⟨j, v, acc, hj, rfl, HD4, HV, hal, HPK, HU⟩ := hrel
              by_cases hjl : j < 12
              · have hg := fun w => run_index_ints (M n) j hjl w
                obtain ⟨y, HY⟩ : ∃ y, Hid (M n j = y) := ⟨_, hid rfl⟩
                rw [HY.out] at hg
                have hy : 0 ≤ y ∧ y ≤ 4 := by rw [← HY.out]; exact HMb.out n j
                by_cases hy0 : 0 < y
                · obtain ⟨e0, e1, e2⟩ := HD4.out.cells hn12
                  obtain ⟨av, nv, cv, rfl⟩ := HV.out.slice
                  have hzr : w2.heap.size ≤ wr.heap.size := HU.out.size
                  have hzr1 : w.heap.size + 1 < wr.heap.size := by omega
                  have HV4 := hid (HV.out.below ((Below.refl wr.heap.size wr).alloc (Nat.le_refl _) (.cells #[.int .i64 (j : Int), .int .i64 y] 97)))
                  clear HV4
                  go_wp2_with (at_builtin; refine append_pairT Tryz.underlying90 infoSide rfl (.tmp 128) (.tmp 132) rfl w2.heap.size (.slice av nv cv) acc ((j : Int), y) rfl HV.out hzr rfl (by omega) ?_; intro v5 w5 ho5 hb5 _; obtain ⟨a5, n5, c5, rfl⟩ := ho5.slice; obtain ⟨f0, f1, f2⟩ := (HD4.out.below' hb5 (by omega)).cells hn12; have hz5 : w.heap.size + 1 < w5.heap.size := Nat.lt_of_lt_of_le hzr1 hb5.size; have HO5 := hid ho5; have HB5 := hid hb5; clear ho5 hb5 e0 e1 e2)
                  have HU5 : Hid (But (w.heap.size + 1) w2 w5) := hid (but_below HU.out HB5.out)
                  go_roundw
                  case rel =>
                    refine ⟨j + 1, _, acc ++ [((j : Int), y)], by omega, by go_num, hid ((HD4.out.below' HB5.out (by omega)).set _), hid (ownsRow_setCell_below HO5.out (by simp; omega) _), by simp; omega, hid ?_, hid (HU5.out.setCell _ _)⟩
                    intro p hp
                    rcases List.mem_append.1 hp with hp | hp
                    · exact HPK.out p hp
                    · rw [List.mem_singleton.1 hp]; exact Pl.pairOk_of ⟨by simp only; omega, by simp only; omega, by simp only; omega, by simp only; omega⟩
                  case measure => simp [intOf]; omega
                · obtain rfl : y = 0 := by omega
                  go_wp2_with fail
                  go_roundw
                  case rel => exact ⟨j + 1, v, acc, by omega, by go_num, HD4, HV, by omega, HPK, HU⟩
                  case measure => simp [intOf]; omega
              · obtain rfl : j = 12 := by omega
                obtain ⟨e0, e1, e2⟩ := HD4.out.cells hn12
                obtain ⟨av, cv, rfl, hp3, _, _⟩ := OwnP.shape HV.out HPK.out
                have hzr : w2.heap.size ≤ wr.heap.size := HU.out.size
                have HBw : Hid (Below w.heap.size w wr) := hid (HB.out.trans (HU.out.below (Nat.le_succ _) (by omega)))
                have HSA := hid (ShowAdj_any d av acc.length cv acc wr hp3 (HTB.out.below HBw.out))
                have HOWr := hid (HOW.out.but HU.out (by omega))
                have HCr := hid (HC.out.but HU.out (by omega))
                have HOr := hid (HO.out.but HU.out (by omega) (by omega))
                have HTX := hid (@Pl.adjText_any d acc)
                generalize Pl.adjText d acc = t1 at *
                generalize Pl.adjF acc = f1 at *
                clear hp3 HRW HM HMb HC HO HD HOW
                go_wp2_with fail
                refine HSA.out.mono ?_
                rintro e w4 ⟨rfl, hb4⟩
                have HB4 := hid hb4
                have hz4 : w2.heap.size ≤ w4.heap.size := Nat.le_trans hzr hb4.size
                have HBw4 : Hid (Below w.heap.size w w4) := hid (HBw.out.trans (HB4.out.mono HBw.out.size))
                obtain ⟨oa, ol, oc, ops, ec, hol, hop, _, ef⟩ := (HOr.out.below HB4.out).at n hn12
                have HSP := hid (ShowPrefixes_any oa ol oc ops w4 hop (HTB.out.below HBw4.out))
                have HTP := hid (@Pl.pfxText_any ops)
                have hz41 : w.heap.size + 1 + 1 < w4.heap.size := by omega
                generalize Pl.pfxText ops = t2 at *
                generalize Pl.pfxF ops = f2 at *
                clear hop hb4
                go_wp2_with fail
                refine HSP.out.mono ?_
                rintro e w5 ⟨rfl, hb5⟩
                have HB5 : Hid (Below wr.heap.size wr w5) := hid (HB4.out.trans (hb5.mono HB4.out.size))
                have HBw5 : Hid (Below w.heap.size w w5) := hid (HBw4.out.trans (hb5.mono HBw4.out.size))
                clear hb5
                have hdz := Pl.dec_le n (by omega) (by omega)
                have HIT := hid (fun W hW => Itoa_any n W (by omega) (by omega) hW)
                generalize Pl.dec (n : Int) = sd at *
                go_wp2_with fail
                refine (HIT.out _ (HTB.out.below HBw5.out)).mono ?_
                rintro e w6 ⟨rfl, hb6⟩
                have HB6 : Hid (Below wr.heap.size wr w6) := hid (HB5.out.trans (hb6.mono HB5.out.size))
                have HBw6 : Hid (Below w.heap.size w w6) := hid (HBw5.out.trans (hb6.mono HBw5.out.size))
                clear hb6
                go_wp2_with fail
                refine (HIT.out _ (HTB.out.below HBw6.out)).mono ?_
                rintro e w7 ⟨rfl, hb7⟩
                have HB7 : Hid (Below wr.heap.size wr w7) := hid (HB6.out.trans (hb7.mono HB6.out.size))
                have HBw7 : Hid (Below w.heap.size w w7) := hid (HBw6.out.trans (hb7.mono HBw6.out.size))
                clear hb7
                go_wp2_with fail
                have hs1z : (({ data := #[97, 58] } : ByteArray) ++ sd).size ≤ 100 := by rw [ByteArray.size_append]; show 2 + sd.size ≤ 100; omega
                have hs2z : (({ data := #[112, 58] } : ByteArray) ++ sd).size ≤ 100 := by rw [ByteArray.size_append]; show 2 + sd.size ≤ 100; omega
                generalize (({ data := #[97, 58] } : ByteArray) ++ sd) = s1 at *
                generalize (({ data := #[112, 58] } : ByteArray) ++ sd) = s2 at *
                have HS1 := hid hs1z
                have HS2 := hid hs2z
                clear hs1z hs2z HIT HSP HSA e0 e1 e2 ec ef HB4 HB5 HB6 HBw4 HBw5 HBw6
                obtain ⟨w8, HW8⟩ : ∃ w8, Hid (w8 = w7.alloc (.cells #[.string s1, .int .i64 1, .int .i64 (n : Int), .string t1, .string s2, .int .i64 1, .int .i64 (n : Int), .string t2] 63)) := ⟨_, hid rfl⟩
                rw [← HW8.out]
                have HB8 : Hid (Below wr.heap.size wr w8) := hid (by show Below _ _ _; rw [HW8.out]; exact HB7.out.alloc HB7.out.size _)
                have HBw8 : Hid (Below w.heap.size w w8) := hid (by show Below _ _ _; rw [HW8.out]; exact HBw7.out.alloc HBw7.out.size _)
                have hz8 : w7.heap.size < w8.heap.size := by rw [HW8.out]; simp
                have G8 : Hid ((w8.cell? ⟨w7.heap.size, 0, none⟩ = some (.string s1) ∧ w8.cell? ⟨w7.heap.size, 1, none⟩ = some (.int .i64 1) ∧ w8.cell? ⟨w7.heap.size, 2, none⟩ = some (.int .i64 (n : Int)) ∧ w8.cell? ⟨w7.heap.size, 3, none⟩ = some (.string t1)) ∧ (w8.cell? ⟨w7.heap.size, 4, none⟩ = some (.string s2) ∧ w8.cell? ⟨w7.heap.size, 5, none⟩ = some (.int .i64 1) ∧ w8.cell? ⟨w7.heap.size, 6, none⟩ = some (.int .i64 (n : Int)) ∧ w8.cell? ⟨w7.heap.size, 7, none⟩ = some (.string t2))) := hid (by show _ ∧ _; rw [HW8.out]; simp)
                go_loopw [13, 165] (fun vo i wr => ∃ (q : Nat) (el : List Pl.Ent) (z : Value), z = vo ∧ q ≤ 2 ∧ i = .int .i64 q ∧ Hid (Own wr (w.heap.size + 3) z el) ∧ Hid (Pl.Good el) ∧ Hid (Below w8.heap.size w8 wr)) (fun _ i _ => 2 - (intOf i).toNat)
                case atStart => exact ⟨0, es, _, rfl, by omega, rfl, hid (HOWr.out.below HB8.out), HG, hid (Below.refl _ _)⟩
                case round =>
                  obtain ⟨q, el, z, rfl, hq, rfl, HOq, HGq, HBq⟩ := hrel
                  obtain ⟨au, cu, rfl, hE, hnl, _⟩ := HOq.out.shape HGq.out.ok
                  have HE := hid hE
                  have HN := hid hnl
                  clear hE hnl
                  rename World => wq
                  have hzq : w7.heap.size < wq.heap.size := Nat.lt_of_lt_of_le hz8 HBq.out.size
                  have hzw : w.heap.size + 3 ≤ wq.heap.size := Nat.le_trans (Nat.le_trans (Nat.le_trans hz hzr) HB8.out.size) HBq.out.size
                  by_cases hq2 : q < 2
                  · obtain ⟨xk, xv, xo, xx, c0, c1, c2, c3, hxok⟩ : ∃ (xk : ByteArray) (xv xo : Int) (xx : ByteArray), wq.cell? ⟨w7.heap.size, q * 4, none⟩ = some (.string xk) ∧ wq.cell? ⟨w7.heap.size, q * 4 + 1, none⟩ = some (.int .i64 xv) ∧ wq.cell? ⟨w7.heap.size, q * 4 + 2, none⟩ = some (.int .i64 xo) ∧ wq.cell? ⟨w7.heap.size, q * 4 + 3, none⟩ = some (.string xx) ∧ Hid (Pl.Ent.ok ⟨xk, xv, xo, xx⟩) := by
                      have hcc := (bcell HBq.out).1
                      have hmx : (100 : Nat) ≤ maxLen := by decide
                      have hmy : (4398046511103 : Nat) ≤ maxLen := by decide
                      obtain ⟨⟨g0, g1, g2, g3⟩, g4, g5, g6, g7⟩ := G8.out
                      obtain rfl | rfl : q = 0 ∨ q = 1 := by omega
                      · exact ⟨s1, 1, n, t1, (hcc _ _ hz8).trans g0, (hcc _ _ hz8).trans g1, (hcc _ _ hz8).trans g2, (hcc _ _ hz8).trans g3, hid ⟨Nat.le_trans HS1.out hmx, by dsimp only; decide, WalkArith.wf_i64 (by dsimp only; omega), Nat.le_trans HTX.out hmy⟩⟩
                      · exact ⟨s2, 1, n, t2, (hcc _ _ hz8).trans g4, (hcc _ _ hz8).trans g5, (hcc _ _ hz8).trans g6, (hcc _ _ hz8).trans g7, hid ⟨Nat.le_trans HS2.out hmx, by dsimp only; decide, WalkArith.wf_i64 (by dsimp only; omega), Nat.le_trans HTP.out hmy⟩⟩
                    have HA1 : Hid (Below wq.heap.size wq (wq.alloc (.cells #[.string xk, .int .i64 xv, .int .i64 xo, .string xx] 63))) := hid (al _ _)
                    have HA2 : Hid (Below wq.heap.size wq ((wq.alloc (.cells #[.string xk, .int .i64 xv, .int .i64 xo, .string xx] 63)).alloc (.cells #[.string xk, .int .i64 xv, .int .i64 xo, .string xx] 63))) := hid (HA1.out.alloc HA1.out.size _)
                    have HI1 : Hid (IsEnts ((wq.alloc (.cells #[.string xk, .int .i64 xv, .int .i64 xo, .string xx] 63)).alloc (.cells #[.string xk, .int .i64 xv, .int .i64 xo, .string xx] 63)) (some ⟨wq.heap.size + 1, 0, none⟩) 1 1 [⟨xk, xv, xo, xx⟩]) := by
                      refine ⟨rfl, Nat.le_refl _, by decide, ?_, .inr ⟨_, _, rfl, by simp, ?_⟩⟩
                      · intro e he; rw [List.mem_singleton.1 he]; exact hxok.out
                      · intro i hi
                        obtain rfl : i = 0 := by simp at hi; omega
                        simp [Pl.ent]
                    go_wp2_with fail
                    refine (Merge_any _ _ _ el _ _ _ [⟨xk, xv, xo, xx⟩] _ (HE.out.below HA2.out) HN.out HI1.out).mono ?_
                    rintro e w9 ⟨vo, vk, rfl, ho9, _, hb9⟩
                    generalize Pl.mergeC el [⟨xk, xv, xo, xx⟩] = mc at *
                    have HO9 : Hid (Own w9 (w.heap.size + 3) vo (Pl.mergeO el [⟨xk, xv, xo, xx⟩])) := hid (ho9.mono (Nat.le_trans hzw HA2.out.size))
                    have HB9 : Hid (Below w8.heap.size w8 w9) := hid (by
                      have b2 := HBq.out.trans (HA2.out.mono HBq.out.size)
                      exact b2.trans (hb9.mono b2.size))
                    have HG9 := hid (Pl.merge_goodM el [⟨xk, xv, xo, xx⟩])
                    clear ho9 hb9 c0 c1 c2 c3
                    go_wp2_with fail
                    go_roundw
                    case rel => exact ⟨q + 1, _, _, rfl, by omega, by go_num, HO9, HG9, HB9⟩
                    case measure => simp [intOf]; omega
                  · obtain rfl : q = 2 := by omega
                    have HBq' : Hid (Below wr.heap.size wr wq) := hid (HB8.out.trans (HBq.out.mono HB8.out.size))
                    have HBwq : Hid (Below w.heap.size w wq) := hid (HBw8.out.trans (HBq.out.mono HBw8.out.size))
                    go_wp2_with fail
                    go_roundw
                    case rel => exact ⟨n + 1, el, _, rfl, by omega, by go_num, HOq, HGq, hid (HCr.out.below HBq'.out), hid (HD4.out.two.below HBq'.out), hid (HOr.out.below HBq'.out), HBwq, hzw⟩
                    case measure => simp [intOf]; omega
          · obtain rfl : n = nodes := by omega
            go_wp2_with fail
            go_ret
            exact ⟨_, _, rfl, HOW.out.mono (by omega), HG.out, HB.out⟩
    · have hkl : ¬ k < len := hlt
      have HBr := hid HB.out
      have HTr := hid (HTB.out.below HB.out)
      have H2D := hid HD.out.two
      have hzz : w.heap.size + 3 ≤ wr.heap.size := HZ.out
      have HHx := HH
      clear HH HD HZ
      go_wp2_with fail
      rename World => wA
      go_loopw [13, 112] (fun vo i wr => ∃ (n : Nat) (es : List Pl.Ent) (u : Value), u = vo ∧ n ≤ nodes ∧ i = .int .i64 n ∧ Hid (Own wr (w.heap.size + 3) u es) ∧ Hid (Pl.Good es) ∧ Hid (CAt wr w.heap.size) ∧ Hid (D2At wr (w.heap.size + 1) n) ∧ Hid (OAt wr (w.heap.size + 1 + 1) (w.heap.size + 3)) ∧ Hid (Below w.heap.size w wr) ∧ w.heap.size + 3 ≤ wr.heap.size) (fun _ i _ => nodes - (intOf i).toNat)
      case atStart => exact ⟨0, [], _, rfl, Nat.zero_le _, rfl, hid (Own.nil _ _), hid Pl.good_nil, HC, H2D, HO, HBr, hzz⟩
      case round =>
        clear HC H2D HO HBr hzz HTr
        obtain ⟨n, es, u, rfl, hn, rfl, HOW, HG, HC, HD, HO, HB, hz⟩ := hrel
        by_cases hlt : n < nodes
        · have hn12 : n < 12 := by omega
          obtain ⟨M, hM, hMb⟩ := HC.out
          have HM := hid hM
          have HMb := hid hMb
          have HRW := hid (hM.row n hn12)
          clear hM hMb
          obtain ⟨d, hd3⟩ := HD.out.three
          have HD3 := hid hd3
          clear hd3
          rename World => w2
          have hz1 : w.heap.size + 1 < w2.heap.size := by omega
          have hz0 : w.heap.size < w2.heap.size := by omega
          go_wp2_with (refine wpList_load_mid rfl 41 (.tmp 116) rfl w.heap.size (n * 12) rfl (ints12 (M n)) _ HRW.out Tryz.underlying41 rfl infoInts ?_)
          go_loopw [118] (fun i wr => ∃ (j : Nat) (v : Value) (acc : List (Int × Int)), j ≤ 12 ∧ i = .int .i64 j ∧ Hid (D3At wr (w.heap.size + 1) n d v) ∧ Hid (OwnP 97 wr w2.heap.size v acc) ∧ acc.length ≤ j ∧ Hid (∀ p ∈ acc, Pl.pairOk p) ∧ Hid (But (w.heap.size + 1) w2 wr)) (fun i _ => 12 - (intOf i).toNat)
          case atStart => exact ⟨0, _, [], by omega, rfl, HD3, hid (OwnP.nil _ _ _), Nat.le_refl _, hid (by simp), hid (But.refl _ _)⟩
          case round =>
            obtain ⟨j, v, acc, hj, rfl, HD4, HV, hal, HPK, HU⟩ := hrel
            by_cases hjl : j < 12
            · have hg := fun w => run_index_ints (M n) j hjl w
              obtain ⟨y, HY⟩ : ∃ y, Hid (M n j = y) := ⟨_, hid rfl⟩
              rw [HY.out] at hg
              have hy : 0 ≤ y ∧ y ≤ 4 := by rw [← HY.out]; exact HMb.out n j
              by_cases hy0 : 0 < y
              · obtain ⟨e0, e1, e2⟩ := HD4.out.cells hn12
                obtain ⟨av, nv, cv, rfl⟩ := HV.out.slice
                have hzr : w2.heap.size ≤ wr.heap.size := HU.out.size
                have hzr1 : w.heap.size + 1 < wr.heap.size := by omega
                have HV4 := hid (HV.out.below ((Below.refl wr.heap.size wr).alloc (Nat.le_refl _) (.cells #[.int .i64 (j : Int), .int .i64 y] 97)))
                clear HV4
                go_wp2_with (at_builtin; refine append_pairT Tryz.underlying90 infoSide rfl (.tmp 128) (.tmp 132) rfl w2.heap.size (.slice av nv cv) acc ((j : Int), y) rfl HV.out hzr rfl (by omega) ?_; intro v5 w5 ho5 hb5 _; obtain ⟨a5, n5, c5, rfl⟩ := ho5.slice; obtain ⟨f0, f1, f2⟩ := (HD4.out.below' hb5 (by omega)).cells hn12; have hz5 : w.heap.size + 1 < w5.heap.size := Nat.lt_of_lt_of_le hzr1 hb5.size; have HO5 := hid ho5; have HB5 := hid hb5; clear ho5 hb5 e0 e1 e2)
                have HU5 : Hid (But (w.heap.size + 1) w2 w5) := hid (but_below HU.out HB5.out)
                go_roundw
                case rel =>
                  refine ⟨j + 1, _, acc ++ [((j : Int), y)], by omega, by go_num, hid ((HD4.out.below' HB5.out (by omega)).set _), hid (ownsRow_setCell_below HO5.out (by simp; omega) _), by simp; omega, hid ?_, hid (HU5.out.setCell _ _)⟩
                  intro p hp
                  rcases List.mem_append.1 hp with hp | hp
                  · exact HPK.out p hp
                  · rw [List.mem_singleton.1 hp]; exact Pl.pairOk_of ⟨by simp only; omega, by simp only; omega, by simp only; omega, by simp only; omega⟩
                case measure => simp [intOf]; omega
              · obtain rfl : y = 0 := by omega
                go_wp2_with fail
                go_roundw
                case rel => exact ⟨j + 1, v, acc, by omega, by go_num, HD4, HV, by omega, HPK, HU⟩
                case measure => simp [intOf]; omega
            · obtain rfl : j = 12 := by omega
              obtain ⟨e0, e1, e2⟩ := HD4.out.cells hn12
              obtain ⟨av, cv, rfl, hp3, _, _⟩ := OwnP.shape HV.out HPK.out
              have hzr : w2.heap.size ≤ wr.heap.size := HU.out.size
              have HBw : Hid (Below w.heap.size w wr) := hid (HB.out.trans (HU.out.below (Nat.le_succ _) (by omega)))
              have HSA := hid (ShowAdj_any d av acc.length cv acc wr hp3 (HTB.out.below HBw.out))
              have HOWr := hid (HOW.out.but HU.out (by omega))
              have HCr := hid (HC.out.but HU.out (by omega))
              have HOr := hid (HO.out.but HU.out (by omega) (by omega))
              have HTX := hid (@Pl.adjText_any d acc)
              generalize Pl.adjText d acc = t1 at *
              generalize Pl.adjF acc = f1 at *
              clear hp3 HRW HM HMb HC HO HD HOW
              go_wp2_with fail
              refine HSA.out.mono ?_
              rintro e w4 ⟨rfl, hb4⟩
              have HB4 := hid hb4
              have hz4 : w2.heap.size ≤ w4.heap.size := Nat.le_trans hzr hb4.size
              have HBw4 : Hid (Below w.heap.size w w4) := hid (HBw.out.trans (HB4.out.mono HBw.out.size))
              obtain ⟨oa, ol, oc, ops, ec, hol, hop, _, ef⟩ := (HOr.out.below HB4.out).at n hn12
              have HSP := hid (ShowPrefixes_any oa ol oc ops w4 hop (HTB.out.below HBw4.out))
              have HTP := hid (@Pl.pfxText_any ops)
              have hz41 : w.heap.size + 1 + 1 < w4.heap.size := by omega
              generalize Pl.pfxText ops = t2 at *
              generalize Pl.pfxF ops = f2 at *
              clear hop hb4
              go_wp2_with fail
              refine HSP.out.mono ?_
              rintro e w5 ⟨rfl, hb5⟩
              have HB5 : Hid (Below wr.heap.size wr w5) := hid (HB4.out.trans (hb5.mono HB4.out.size))
              have HBw5 : Hid (Below w.heap.size w w5) := hid (HBw4.out.trans (hb5.mono HBw4.out.size))
              clear hb5
              have hdz := Pl.dec_le n (by omega) (by omega)
              have HIT := hid (fun W hW => Itoa_any n W (by omega) (by omega) hW)
              generalize Pl.dec (n : Int) = sd at *
              go_wp2_with fail
              refine (HIT.out _ (HTB.out.below HBw5.out)).mono ?_
              rintro e w6 ⟨rfl, hb6⟩
              have HB6 : Hid (Below wr.heap.size wr w6) := hid (HB5.out.trans (hb6.mono HB5.out.size))
              have HBw6 : Hid (Below w.heap.size w w6) := hid (HBw5.out.trans (hb6.mono HBw5.out.size))
              clear hb6
              go_wp2_with fail
              refine (HIT.out _ (HTB.out.below HBw6.out)).mono ?_
              rintro e w7 ⟨rfl, hb7⟩
              have HB7 : Hid (Below wr.heap.size wr w7) := hid (HB6.out.trans (hb7.mono HB6.out.size))
              have HBw7 : Hid (Below w.heap.size w w7) := hid (HBw6.out.trans (hb7.mono HBw6.out.size))
              clear hb7
              go_wp2_with fail
              have hs1z : (({ data := #[97, 58] } : ByteArray) ++ sd).size ≤ 100 := by rw [ByteArray.size_append]; show 2 + sd.size ≤ 100; omega
              have hs2z : (({ data := #[112, 58] } : ByteArray) ++ sd).size ≤ 100 := by rw [ByteArray.size_append]; show 2 + sd.size ≤ 100; omega
              generalize (({ data := #[97, 58] } : ByteArray) ++ sd) = s1 at *
              generalize (({ data := #[112, 58] } : ByteArray) ++ sd) = s2 at *
              have HS1 := hid hs1z
              have HS2 := hid hs2z
              clear hs1z hs2z HIT HSP HSA e0 e1 e2 ec ef HB4 HB5 HB6 HBw4 HBw5 HBw6
              obtain ⟨w8, HW8⟩ : ∃ w8, Hid (w8 = w7.alloc (.cells #[.string s1, .int .i64 1, .int .i64 (n : Int), .string t1, .string s2, .int .i64 1, .int .i64 (n : Int), .string t2] 63)) := ⟨_, hid rfl⟩
              rw [← HW8.out]
              have HB8 : Hid (Below wr.heap.size wr w8) := hid (by show Below _ _ _; rw [HW8.out]; exact HB7.out.alloc HB7.out.size _)
              have HBw8 : Hid (Below w.heap.size w w8) := hid (by show Below _ _ _; rw [HW8.out]; exact HBw7.out.alloc HBw7.out.size _)
              have hz8 : w7.heap.size < w8.heap.size := by rw [HW8.out]; simp
              have G8 : Hid ((w8.cell? ⟨w7.heap.size, 0, none⟩ = some (.string s1) ∧ w8.cell? ⟨w7.heap.size, 1, none⟩ = some (.int .i64 1) ∧ w8.cell? ⟨w7.heap.size, 2, none⟩ = some (.int .i64 (n : Int)) ∧ w8.cell? ⟨w7.heap.size, 3, none⟩ = some (.string t1)) ∧ (w8.cell? ⟨w7.heap.size, 4, none⟩ = some (.string s2) ∧ w8.cell? ⟨w7.heap.size, 5, none⟩ = some (.int .i64 1) ∧ w8.cell? ⟨w7.heap.size, 6, none⟩ = some (.int .i64 (n : Int)) ∧ w8.cell? ⟨w7.heap.size, 7, none⟩ = some (.string t2))) := hid (by show _ ∧ _; rw [HW8.out]; simp)
              go_loopw [13, 165] (fun vo i wr => ∃ (q : Nat) (el : List Pl.Ent) (z : Value), z = vo ∧ q ≤ 2 ∧ i = .int .i64 q ∧ Hid (Own wr (w.heap.size + 3) z el) ∧ Hid (Pl.Good el) ∧ Hid (Below w8.heap.size w8 wr)) (fun _ i _ => 2 - (intOf i).toNat)
              case atStart => exact ⟨0, es, _, rfl, by omega, rfl, hid (HOWr.out.below HB8.out), HG, hid (Below.refl _ _)⟩
              case round =>
                obtain ⟨q, el, z, rfl, hq, rfl, HOq, HGq, HBq⟩ := hrel
                obtain ⟨au, cu, rfl, hE, hnl, _⟩ := HOq.out.shape HGq.out.ok
                have HE := hid hE
                have HN := hid hnl
                clear hE hnl
                rename World => wq
                have hzq : w7.heap.size < wq.heap.size := Nat.lt_of_lt_of_le hz8 HBq.out.size
                have hzw : w.heap.size + 3 ≤ wq.heap.size := Nat.le_trans (Nat.le_trans (Nat.le_trans hz hzr) HB8.out.size) HBq.out.size
                by_cases hq2 : q < 2
                · obtain ⟨xk, xv, xo, xx, c0, c1, c2, c3, hxok⟩ : ∃ (xk : ByteArray) (xv xo : Int) (xx : ByteArray), wq.cell? ⟨w7.heap.size, q * 4, none⟩ = some (.string xk) ∧ wq.cell? ⟨w7.heap.size, q * 4 + 1, none⟩ = some (.int .i64 xv) ∧ wq.cell? ⟨w7.heap.size, q * 4 + 2, none⟩ = some (.int .i64 xo) ∧ wq.cell? ⟨w7.heap.size, q * 4 + 3, none⟩ = some (.string xx) ∧ Hid (Pl.Ent.ok ⟨xk, xv, xo, xx⟩) := by
                    have hcc := (bcell HBq.out).1
                    have hmx : (100 : Nat) ≤ maxLen := by decide
                    have hmy : (4398046511103 : Nat) ≤ maxLen := by decide
                    obtain ⟨⟨g0, g1, g2, g3⟩, g4, g5, g6, g7⟩ := G8.out
                    obtain rfl | rfl : q = 0 ∨ q = 1 := by omega
                    · exact ⟨s1, 1, n, t1, (hcc _ _ hz8).trans g0, (hcc _ _ hz8).trans g1, (hcc _ _ hz8).trans g2, (hcc _ _ hz8).trans g3, hid ⟨Nat.le_trans HS1.out hmx, by dsimp only; decide, WalkArith.wf_i64 (by dsimp only; omega), Nat.le_trans HTX.out hmy⟩⟩
                    · exact ⟨s2, 1, n, t2, (hcc _ _ hz8).trans g4, (hcc _ _ hz8).trans g5, (hcc _ _ hz8).trans g6, (hcc _ _ hz8).trans g7, hid ⟨Nat.le_trans HS2.out hmx, by dsimp only; decide, WalkArith.wf_i64 (by dsimp only; omega), Nat.le_trans HTP.out hmy⟩⟩
                  have HA1 : Hid (Below wq.heap.size wq (wq.alloc (.cells #[.string xk, .int .i64 xv, .int .i64 xo, .string xx] 63))) := hid (al _ _)
                  have HA2 : Hid (Below wq.heap.size wq ((wq.alloc (.cells #[.string xk, .int .i64 xv, .int .i64 xo, .string xx] 63)).alloc (.cells #[.string xk, .int .i64 xv, .int .i64 xo, .string xx] 63))) := hid (HA1.out.alloc HA1.out.size _)
                  have HI1 : Hid (IsEnts ((wq.alloc (.cells #[.string xk, .int .i64 xv, .int .i64 xo, .string xx] 63)).alloc (.cells #[.string xk, .int .i64 xv, .int .i64 xo, .string xx] 63)) (some ⟨wq.heap.size + 1, 0, none⟩) 1 1 [⟨xk, xv, xo, xx⟩]) := by
                    refine ⟨rfl, Nat.le_refl _, by decide, ?_, .inr ⟨_, _, rfl, by simp, ?_⟩⟩
                    · intro e he; rw [List.mem_singleton.1 he]; exact hxok.out
                    · intro i hi
                      obtain rfl : i = 0 := by simp at hi; omega
                      simp [Pl.ent]
                  go_wp2_with fail
                  refine (Merge_any _ _ _ el _ _ _ [⟨xk, xv, xo, xx⟩] _ (HE.out.below HA2.out) HN.out HI1.out).mono ?_
                  rintro e w9 ⟨vo, vk, rfl, ho9, _, hb9⟩
                  generalize Pl.mergeC el [⟨xk, xv, xo, xx⟩] = mc at *
                  have HO9 : Hid (Own w9 (w.heap.size + 3) vo (Pl.mergeO el [⟨xk, xv, xo, xx⟩])) := hid (ho9.mono (Nat.le_trans hzw HA2.out.size))
                  have HB9 : Hid (Below w8.heap.size w8 w9) := hid (by
                    have b2 := HBq.out.trans (HA2.out.mono HBq.out.size)
                    exact b2.trans (hb9.mono b2.size))
                  have HG9 := hid (Pl.merge_goodM el [⟨xk, xv, xo, xx⟩])
                  clear ho9 hb9 c0 c1 c2 c3
                  go_wp2_with fail
                  go_roundw
                  case rel => exact ⟨q + 1, _, _, rfl, by omega, by go_num, HO9, HG9, HB9⟩
                  case measure => simp [intOf]; omega
                · obtain rfl : q = 2 := by omega
                  have HBq' : Hid (Below wr.heap.size wr wq) := hid (HB8.out.trans (HBq.out.mono HB8.out.size))
                  have HBwq : Hid (Below w.heap.size w wq) := hid (HBw8.out.trans (HBq.out.mono HBw8.out.size))
                  go_wp2_with fail
                  go_roundw
                  case rel => exact ⟨n + 1, el, _, rfl, by omega, by go_num, HOq, HGq, hid (HCr.out.below HBq'.out), hid (HD4.out.two.below HBq'.out), hid (HOr.out.below HBq'.out), HBwq, hzw⟩
                  case measure => simp [intOf]; omega
        · obtain rfl : n = nodes := by omega
          go_wp2_with fail
          go_ret
          exact ⟨_, _, rfl, HOW.out.mono (by omega), HG.out, HB.out⟩
end Go.Proofs.YtcdobhdbafpkiafGreatDoor
/-
  Plain: what is found in a sorted list, and in what is merged; no program in sight.
-/
namespace Go.Proofs.YtcdobhdbafpkiafGreatDoor.Pl

/-- the entry with a key -/
def look : List Ent → ByteArray → Option Ent
  | [], _ => none
  | e :: r, k => if e.key = k then some e else look r k
theorem look_key : ∀ {es : List Ent} {k : ByteArray} {e : Ent}, look es k = some e → e.key = k ∧ e ∈ es
  | [], _, _, h => by cases h
  | x :: r, k, e, h => by
    unfold look at h
    by_cases hx : x.key = k
    · rw [if_pos hx] at h; cases h; exact ⟨hx, by simp⟩
    · rw [if_neg hx] at h; have := look_key h; exact ⟨this.1, by simp [this.2]⟩
theorem look_low : ∀ {es : List Ent} {k : ByteArray}, (∀ e ∈ es, ltB k e.key = true) → look es k = none
  | [], _, _ => rfl
  | x :: r, k, h => by
    unfold look
    have hx := h x (by simp)
    rw [if_neg (fun e => by rw [e, ltB_irrefl] at hx; cases hx)]
    exact look_low (fun e he => h e (by simp [he]))
theorem srt_tail {e : Ent} {r : List Ent} (h : Srt (e :: r)) : Srt r ∧ ∀ y ∈ r, ltB e.key y.key = true := by
  unfold Srt at h ⊢
  rw [List.pairwise_cons] at h
  exact ⟨h.2, h.1⟩
theorem look_mem : ∀ {es : List Ent} {e : Ent}, Srt es → e ∈ es → look es e.key = some e
  | x :: r, e, h, he => by
    unfold look
    have ht := srt_tail h
    rcases List.mem_cons.1 he with rfl | he
    · rw [if_pos rfl]
    · have := ht.2 e he
      rw [if_neg (fun q => by rw [q, ltB_irrefl] at this; cases this)]
      exact look_mem ht.1 he
theorem there_look : ∀ {es : List Ent} (k : ByteArray), Srt es → (there es k = true ∧ look es k = some (ent es (pos es k))) ∨ (there es k = false ∧ look es k = none)
  | [], k, _ => by right; exact ⟨by simp [there], rfl⟩
  | e :: r, k, h => by
    have ht := srt_tail h
    cases hl : ltB e.key k
    · rw [there_cons_ge hl]
      unfold look
      by_cases hk : e.key = k
      · left
        rw [if_pos hk]
        have hp : pos (e :: r) k = 0 := by simp [pos, hl]
        rw [hp]
        exact ⟨by simp [hk], rfl⟩
      · right
        rw [if_neg hk]
        refine ⟨by simp [hk], look_low ?_⟩
        intro y hy
        have hy' := ht.2 y hy
        cases hq : ltB k e.key
        · exact absurd (ltB_total hl hq) hk
        · exact ltB_trans hq hy'
    · rw [there_cons_lt hl]
      unfold look
      rw [if_neg (fun q => by rw [q, ltB_irrefl] at hl; cases hl)]
      have ih := there_look k ht.1
      have hp : ent (e :: r) (pos (e :: r) k) = ent r (pos r k) := by simp [pos, hl, ent]
      rw [hp]; exact ih
theorem look_ins : ∀ {es : List Ent} (x : Ent) (k : ByteArray), Srt es → look (ins es x) k = if k = x.key then some x else look es k
  | [], x, k, _ => by
    unfold ins look look
    by_cases h : x.key = k
    · rw [if_pos h, if_pos h.symm]
    · rw [if_neg h, if_neg (fun q => h q.symm)]
  | e :: r, x, k, hs => by
    have ht := srt_tail hs
    unfold ins
    by_cases hl : ltB e.key x.key = true
    · rw [if_pos hl]
      unfold look
      rw [look_ins x k ht.1]
      by_cases hk : e.key = k
      · rw [if_pos hk, if_pos hk, if_neg (fun q => by rw [hk, q, ltB_irrefl] at hl; cases hl)]
      · rw [if_neg hk, if_neg hk]
    · rw [if_neg hl]
      by_cases he : e.key = x.key
      · rw [if_pos he]
        unfold look
        by_cases hk : x.key = k
        · rw [if_pos hk, if_pos hk.symm]
        · rw [if_neg hk, if_neg (fun q => hk q.symm), if_neg (fun q => hk (he ▸ q))]
      · rw [if_neg he]
        by_cases hk : x.key = k
        · rw [if_pos hk.symm, look, if_pos hk]
        · rw [if_neg (fun q => hk q.symm), look, if_neg hk]

def geE (a b : Ent) : Prop := 0 ≤ cmpE a.ver a.org a.val b.ver b.org b.val
theorem cmpI_cases (a b : Int) : (a < b ∧ cmpI a b = -1) ∨ (a = b ∧ cmpI a b = 0) ∨ (b < a ∧ cmpI a b = 1) := by
  unfold cmpI
  by_cases h1 : a < b
  · left; rw [if_pos h1]; exact ⟨h1, rfl⟩
  · rw [if_neg h1]
    by_cases h2 : b < a
    · right; right; rw [if_pos h2]; exact ⟨h2, rfl⟩
    · right; left; rw [if_neg h2]; exact ⟨by omega, rfl⟩
theorem cmpS_cases (a b : ByteArray) : (ltB a b = true ∧ cmpS a b = -1) ∨ (a = b ∧ cmpS a b = 0) ∨ (ltB b a = true ∧ cmpS a b = 1) := by
  unfold cmpS
  cases h1 : ltB a b
  · cases h2 : ltB b a
    · right; left; exact ⟨ltB_total h1 h2, by simp⟩
    · right; right; exact ⟨rfl, by simp⟩
  · left; exact ⟨rfl, by simp⟩
/-- in the words of the order itself -/
theorem cmpE_cases (v1 o1 : Int) (x1 : ByteArray) (v2 o2 : Int) (x2 : ByteArray) :
    (cmpE v1 o1 x1 v2 o2 x2 = -1 ∧ (v1 < v2 ∨ v1 = v2 ∧ (o1 < o2 ∨ o1 = o2 ∧ ltB x1 x2 = true))) ∨ (cmpE v1 o1 x1 v2 o2 x2 = 0 ∧ v1 = v2 ∧ o1 = o2 ∧ x1 = x2) ∨
    (cmpE v1 o1 x1 v2 o2 x2 = 1 ∧ (v2 < v1 ∨ v1 = v2 ∧ (o2 < o1 ∨ o1 = o2 ∧ ltB x2 x1 = true))) := by
  unfold cmpE
  rcases cmpI_cases v1 v2 with ⟨h, e⟩ | ⟨h, e⟩ | ⟨h, e⟩
  · left; rw [e]; exact ⟨by simp, .inl h⟩
  · rcases cmpI_cases o1 o2 with ⟨h', e'⟩ | ⟨h', e'⟩ | ⟨h', e'⟩
    · left; rw [e, e']; exact ⟨by simp, .inr ⟨h, .inl h'⟩⟩
    · rcases cmpS_cases x1 x2 with ⟨q, f⟩ | ⟨q, f⟩ | ⟨q, f⟩
      · left; rw [e, e', f]; exact ⟨by simp, .inr ⟨h, .inr ⟨h', q⟩⟩⟩
      · right; left; rw [e, e', f]; exact ⟨by simp, h, h', q⟩
      · right; right; rw [e, e', f]; exact ⟨by simp, .inr ⟨h, .inr ⟨h', q⟩⟩⟩
    · right; right; rw [e, e']; exact ⟨by simp, .inr ⟨h, .inl h'⟩⟩
  · right; right; rw [e]; exact ⟨by simp, .inl h⟩
theorem geE_refl (a : Ent) : geE a a := by
  unfold geE
  rcases cmpE_cases a.ver a.org a.val a.ver a.org a.val with ⟨h, q⟩ | ⟨h, _⟩ | ⟨h, _⟩
  · rw [ltB_irrefl] at q; simp at q
  · omega
  · omega
theorem geE_trans {a b c : Ent} (h : geE a b) (k : geE b c) : geE a c := by
  unfold geE at *
  rcases cmpE_cases a.ver a.org a.val c.ver c.org c.val with ⟨q, p⟩ | ⟨q, p⟩ | ⟨q, p⟩
  · exfalso
    rcases cmpE_cases a.ver a.org a.val b.ver b.org b.val with ⟨q1, p1⟩ | ⟨q1, p1⟩ | ⟨q1, p1⟩
    · omega
    · obtain ⟨e1, e2, e3⟩ := p1
      rw [e1, e2, e3] at q; omega
    · rcases cmpE_cases b.ver b.org b.val c.ver c.org c.val with ⟨q2, p2⟩ | ⟨q2, p2⟩ | ⟨q2, p2⟩
      · omega
      · obtain ⟨e1, e2, e3⟩ := p2
        rw [e1, e2, e3] at q1; omega
      · rcases p1 with p1 | ⟨p1, p1' | ⟨p1', p1''⟩⟩ <;> rcases p2 with p2 | ⟨p2, p2' | ⟨p2', p2''⟩⟩ <;> rcases p with p | ⟨p, p' | ⟨p', p''⟩⟩ <;> try omega
        have := ltB_trans p2'' p1''
        rw [ltB_asymm p''] at this
        cases this
  · omega
  · omega
theorem mrg_grow : ∀ (b out : List Ent) (ks : List ByteArray) (k : ByteArray) (e g : Ent), Srt out → look out k = some g → geE g e → ∃ g', look (mrg out ks b).1 k = some g' ∧ geE g' e
  | [], out, ks, k, e, g, _, h1, h2 => ⟨g, h1, h2⟩
  | x :: r, out, ks, k, e, g, hs, h1, h2 => by
    unfold mrg
    by_cases hc : comesB out x = true
    · rw [if_pos hc]
      by_cases hk : k = x.key
      · refine mrg_grow r _ _ k e x (ins_srt hs) (by rw [look_ins x k hs, if_pos hk]) ?_
        unfold comesB at hc
        rcases there_look x.key hs with ⟨t1, t2⟩ | ⟨t1, t2⟩
        · rw [if_pos t1] at hc
          rw [← hk, h1] at t2
          cases t2
          rw [← hk] at hc
          have hgt := of_decide_eq_true hc
          exact geE_trans (b := ent out (pos out k)) (by unfold geE; omega) h2
        · rw [← hk, h1] at t2; cases t2
      · exact mrg_grow r _ _ k e g (ins_srt hs) (by rw [look_ins x k hs, if_neg hk]; exact h1) h2
    · rw [if_neg hc]
      exact mrg_grow r _ _ k e g hs h1 h2
theorem mrg_len : ∀ (b out : List Ent) (ks : List ByteArray), out.length ≤ (mrg out ks b).1.length
  | [], out, ks => Nat.le_refl _
  | x :: r, out, ks => by
    unfold mrg
    split
    · have h1 := mrg_len r (ins out x) (ks ++ [x.key])
      have h2 : out.length ≤ (ins out x).length := by rw [ins_len]; split <;> omega
      omega
    · exact mrg_len r out ks
/-- what is merged into nothing is as it was -/
theorem ins_last : ∀ (es : List Ent) (x : Ent), (∀ e ∈ es, ltB e.key x.key = true) → ins es x = es ++ [x] ∧ there es x.key = false
  | [], x, _ => ⟨rfl, by simp [there]⟩
  | e :: r, x, h => by
    have he := h e (by simp)
    have ih := ins_last r x (fun y hy => h y (by simp [hy]))
    refine ⟨?_, by rw [there_cons_lt he]; exact ih.2⟩
    unfold ins
    rw [if_pos he, ih.1]; rfl
theorem mrg_tail : ∀ (b out : List Ent) (ks : List ByteArray), Srt (out ++ b) → (out ++ b).length ≤ 60 → (mrg out ks b).1 = out ++ b
  | [], out, ks, _, _ => by simp [mrg]
  | x :: r, out, ks, hs, hl => by
    have hx : ∀ e ∈ out, ltB e.key x.key = true := by
      intro e he
      unfold Srt at hs
      rw [List.pairwise_append] at hs
      exact hs.2.2 e he x (by simp)
    have hi := ins_last out x hx
    have hc : comesB out x = true := by
      unfold comesB
      rw [hi.2]
      simp at hl ⊢
      omega
    unfold mrg
    rw [if_pos hc, hi.1]
    have := mrg_tail r (out ++ [x]) (ks ++ [x.key]) (by simpa using hs) (by simpa using hl)
    rw [this]; simp
end Go.Proofs.YtcdobhdbafpkiafGreatDoor.Pl
/-
  Plain definitions: stores as bytes, and their seal; no program in sight.
-/
namespace Go.Proofs.YtcdobhdbafpkiafGreatDoor.Pl

def u8 (n : Int) : UInt8 := UInt8.ofNat n.toNat
theorem u8_val {n : Int} (h0 : 0 ≤ n) (h1 : n ≤ 255) : ((u8 n).toNat : Int) = n := by
  unfold u8
  rw [UInt8.toNat_ofNat']
  omega
theorem u8_nat (n : Nat) (h : n ≤ 255) : ((u8 (n : Int)).toNat : Int) = n := u8_val (by omega) (by omega)

/-- a number in sevens; so many bytes more are allowed -/
def encV : Nat → Int → List UInt8
  | 0, n => [u8 n]
  | f + 1, n => if n < 128 then [u8 n] else u8 (n % 128 + 128) :: encV f (n / 128)
def lim : Nat → Int
  | 0 => 1
  | f + 1 => 128 * lim f
theorem lim_pos : ∀ f, 1 ≤ lim f
  | 0 => by simp [lim]
  | f + 1 => by have := lim_pos f; simp only [lim]; omega
theorem encV_small {f : Nat} {n : Int} (h : n < 128) : encV f n = [u8 n] := by cases f <;> simp [encV, h]
theorem encV_great {f : Nat} {n : Int} (h : ¬ n < 128) : encV (f + 1) n = u8 (n % 128 + 128) :: encV f (n / 128) := by simp [encV, h]
theorem encV_len : ∀ (f : Nat) (n : Int), (encV f n).length ≤ f + 1
  | 0, _ => by simp [encV]
  | f + 1, n => by
    have := encV_len f (n / 128)
    unfold encV; split <;> simp; omega
theorem encV_ne (f : Nat) (n : Int) : 1 ≤ (encV f n).length := by
  cases f
  · simp [encV]
  · unfold encV; split <;> simp

def encT (s : ByteArray) : List UInt8 := u8 (s.size : Int) :: s.data.toList
def encE (e : Ent) : List UInt8 := encT e.key ++ (encV 6 e.ver ++ ([u8 e.org] ++ encT e.val))
def encL : List Ent → List UInt8
  | [] => []
  | e :: r => encE e ++ encL r
theorem encL_append : ∀ (a b : List Ent), encL (a ++ b) = encL a ++ encL b
  | [], _ => rfl
  | e :: r, b => by simp [encL, encL_append r b]
def body (es : List Ent) : List UInt8 := [116, u8 (es.length : Int)] ++ encL es

/-- the two numbers of the seal -/
def sxy : List UInt8 → Int → Int → Int × Int
  | [], x, y => (x, y)
  | c :: r, x, y => sxy r ((x + (c.toNat : Int)) % 65521) ((y + (x + (c.toNat : Int)) % 65521) % 65521)
def sealL (bs : List UInt8) : List UInt8 := [u8 ((sxy bs 1 0).2 / 256), u8 ((sxy bs 1 0).2 % 256), u8 ((sxy bs 1 0).1 / 256), u8 ((sxy bs 1 0).1 % 256)]
theorem sealL_len (bs : List UInt8) : (sealL bs).length = 4 := rfl
def enc (es : List Ent) : List UInt8 := body es ++ sealL (body es)

theorem may_parts {e : Ent} (h : e.may = true) : e.key.size ≤ 8 ∧ 1 ≤ e.key.size ∧ 1 ≤ e.ver ∧ e.ver ≤ 1099511627776 ∧ 0 ≤ e.org ∧ e.org ≤ 11 ∧ e.val.size ≤ 120 := by
  unfold Ent.may entB keyB at h
  simp only [Bool.and_eq_true, decide_eq_true_eq] at h
  obtain ⟨⟨⟨⟨h1, _⟩, h2⟩, h3⟩, h4⟩ := h
  omega
theorem encT_len (s : ByteArray) : (encT s).length = s.size + 1 := by
  unfold encT
  simp only [List.length_cons, Array.length_toList]
  rfl
theorem encE_len {e : Ent} (h : e.may = true) : (encE e).length ≤ 138 := by
  have := may_parts h
  have h6 := encV_len 6 e.ver
  unfold encE
  simp only [List.length_append, encT_len, List.length_singleton]
  omega
end Go.Proofs.YtcdobhdbafpkiafGreatDoor.Pl
/-
  Rows of bytes: those that came in, those that a call itself has made; the laws of appending to them.
-/
namespace Go.Proofs.YtcdobhdbafpkiafGreatDoor
open Go.RowKit
set_option maxRecDepth 20000

def bcells (bs : List UInt8) : List Value := bs.map fun c => Value.int .u8 (c.toNat : Int)
theorem bcells_len (bs : List UInt8) : (bcells bs).length = bs.length := by simp [bcells]
theorem bcells_append (a b : List UInt8) : bcells (a ++ b) = bcells a ++ bcells b := by simp [bcells]
theorem bcells_one (bs : List UInt8) : ∀ u ∈ bcells bs, u.oneCell' = true := by
  intro u hu
  obtain ⟨_, _, rfl⟩ := List.mem_map.1 hu
  rfl
theorem bcells_str (s : ByteArray) : Lib.strCells s = bcells s.data.toList := rfl

/-- a slice of bytes -/
def IsBytes (w : World) (a : Option Addr) (len cap : Nat) (bs : List UInt8) : Prop :=
  bs.length = len ∧ len ≤ cap ∧ cap ≤ maxLen ∧ (bs = [] ∨ ∃ b off, a = some ⟨b, off, none⟩ ∧ b < w.heap.size ∧ ∀ j u, (bcells bs)[j]? = some u → w.cell? ⟨b, off + j, none⟩ = some u)
theorem IsBytes.below {w w' : World} {a : Option Addr} {len cap : Nat} {bs : List UInt8} (h : IsBytes w a len cap bs) (k : Below w.heap.size w w') : IsBytes w' a len cap bs := by
  obtain ⟨h1, h2, h3, h5⟩ := h
  refine ⟨h1, h2, h3, ?_⟩
  rcases h5 with h5 | ⟨b, off, rfl, hb, hr⟩
  · exact .inl h5
  · exact .inr ⟨b, off, rfl, Nat.lt_of_lt_of_le hb k.size, fun j u hj => (k.cell (p := ⟨b, off + j, none⟩) hb).trans (hr j u hj)⟩
theorem bcell_at {bs : List UInt8} {k : Nat} (h : k < bs.length) : (bcells bs)[k]? = some (.int .u8 ((bs.getD k 0).toNat : Int)) := by
  simp [bcells, List.getD, h]

/-- a slice value over a row of bytes of the call's own -/
def OwnB (w : World) (base : Nat) (v : Value) (bs : List UInt8) : Prop := w.ownsRow base 5 1 v bs.length (bcells bs)
theorem infoByte : (Tryz.prog.info? 5).map (fun i => (i.zero, i.size, i.bytes)) = some (some (.int .u8 0), 1, 1) := by kernel_rfl
theorem ownb_of {w : World} {base n : Nat} {v : Value} {xs : List Value} {bs : List UInt8} (h : w.ownsRow base 5 1 v n xs) (e : xs = bcells bs) : OwnB w base v bs := by
  subst e
  have hn : n = bs.length := by
    have := h.1
    rw [bcells_len] at this
    omega
  subst hn
  exact h
theorem OwnB.below {w w' : World} {base : Nat} {v : Value} {bs : List UInt8} (h : OwnB w base v bs) (k : Below w.heap.size w w') : OwnB w' base v bs := by
  obtain ⟨h0, h1⟩ := h
  refine ⟨h0, ?_⟩
  rcases h1 with h1 | ⟨g, cap, cur, rfl, hb, hh, hr⟩
  · exact .inl h1
  · exact .inr ⟨g, cap, cur, rfl, hb, (k.block g (lt_of_block hh)).trans hh, hr⟩
theorem OwnB.mono {w : World} {base base' : Nat} {v : Value} {bs : List UInt8} (h : OwnB w base v bs) (k : base' ≤ base) : OwnB w base' v bs := by
  obtain ⟨h0, h1⟩ := h
  refine ⟨h0, ?_⟩
  rcases h1 with h1 | ⟨g, cap, cur, rfl, hb, hr⟩
  · exact .inl h1
  · exact .inr ⟨g, cap, cur, rfl, by omega, hr⟩
theorem OwnB.nil (w : World) (base : Nat) : OwnB w base (.slice none 0 0) [] := World.ownsRow_nil _ _ _ _
theorem OwnB.shape {w : World} {base : Nat} {v : Value} {bs : List UInt8} (h : OwnB w base v bs) :
    ∃ a cap, v = .slice a bs.length cap ∧ IsBytes w a bs.length cap bs ∧ (a = none → cap = 0) ∧ (∀ x, a = some x → base ≤ x.block) := by
  obtain ⟨_, h | ⟨g, cap, cur, rfl, hb, hh, hn, hm, hs, hx⟩⟩ := h
  · obtain ⟨rfl, hn⟩ := h
    have hes : bs = [] := List.length_eq_zero_iff.1 hn
    subst hes
    exact ⟨none, 0, rfl, ⟨rfl, Nat.le_refl _, by simp, .inl rfl⟩, fun _ => rfl, by simp⟩
  · refine ⟨some ⟨g, 0, none⟩, cap, rfl, ⟨rfl, hn, hm, .inr ⟨g, 0, rfl, lt_of_block hh, ?_⟩⟩, by simp, by rintro x ⟨⟩; exact hb⟩
    intro j u hj
    rw [← hx] at hj
    have hj' : cur[j]? = some u := by
      rw [List.getElem?_take] at hj
      split at hj
      · rw [← Array.getElem?_toList]; exact hj
      · cases hj
    simp [World.cell?, hh, hj']

/-- what an append to a row of bytes leaves alone: all below 'base', and every row of another kind -/
def Keep (base : Nat) (w w' : World) : Prop := Below base w w' ∧ ∀ (k : Nat) (cs : Array Value) (T : TypeId) (z : Nat × Nat), w.heap[k]? = some (Obj.cells cs T z) → ¬ T = 5 → w'.heap[k]? = some (Obj.cells cs T z)
theorem Keep.refl (base : Nat) (w : World) : Keep base w w := ⟨Below.refl _ _, fun _ _ _ _ h _ => h⟩
theorem Keep.trans {base : Nat} {a b c : World} (h : Keep base a b) (k : Keep base b c) : Keep base a c :=
  ⟨h.1.trans k.1, fun i cs T z hi hT => k.2 i cs T z (h.2 i cs T z hi hT) hT⟩
theorem Keep.of_below {base : Nat} {w w' : World} (h : Below w.heap.size w w') (hb : base ≤ w.heap.size) : Keep base w w' :=
  ⟨h.mono hb, fun k _ _ _ hk _ => (h.block k (lt_of_block hk)).trans hk⟩
theorem Keep.of_grown {base n : Nat} {w w' : World} {v : Value} {xs : List Value} (ho : w.ownsRow base 5 1 v n xs) (hg : w.grownBy w' v.ownBlock) (hb : base ≤ w.heap.size) : Keep base w w' := by
  refine ⟨(Below.refl _ _).grown hg hb (fun k hk => (World.ownsRow.lt ho k hk).1), fun k cs T z hk hT => ?_⟩
  refine (hg.block k (lt_of_block hk) (fun e => ?_)).trans hk
  obtain ⟨_, h | ⟨g, cap, cur, rfl, _, hh, _⟩⟩ := ho
  · obtain ⟨rfl, _⟩ := h
    cases e
  · simp only [Value.ownBlock, Option.some.injEq] at e
    subst e
    rw [hh] at hk
    simp only [Option.some.injEq, Obj.cells.injEq] at hk
    exact hT hk.2.1.symm
theorem Keep.alloc {base : Nat} {a w : World} (h : Keep base a w) (hb : base ≤ w.heap.size) (o : Obj) : Keep base a (w.alloc o) :=
  h.trans (Keep.of_below ((Below.refl _ _).alloc (Nat.le_refl _) o) hb)

/-- one byte more, laid in a block of its own first -/
theorem append_b1 {w : World} {ops : Array Oper} {rest : List Oper} {o : Oper} {a : Act} {Q : Exit → Act → World → Prop} (hgd : o.guard = none) (s x : Operand)
    (ho : o.op = .call { callee := .builtin .append, args := #[s, x], argTypes := #[77, 77] })
    (base : Nat) (v : Value) (bs : List UInt8) (n : Int) (hs : a.eval s = v) (hown : OwnB w base v bs) (hbase : base ≤ w.heap.size) (hx : a.eval x = .slice (some ⟨w.heap.size, 0, none⟩) 1 1) (h0 : 0 ≤ n) (h1 : n ≤ 255) (hb : bs.length + 1 ≤ 140737488355328)
    (h : ∀ v' w', OwnB w' base v' (bs ++ [Pl.u8 n]) → Keep base w w' → wpList Tryz.prog ops Q rest (a.put o.dst v') w') :
    wpList Tryz.prog ops Q (o :: rest) a (w.alloc (.cells #[.int .u8 n] 5)) := by
  obtain ⟨i0, hi0, hz0, hz1, hz2⟩ := info_parts infoByte
  refine wpList_append_own (w := _) hgd s x 77 ho base 5 i0 _ 1 1 Tryz.underlying77 hi0 hz0 hz1 hz2 rfl (by decide) _ bs.length (bcells bs) hs (World.ownsRow.alloc hown _) ⟨w.heap.size, 0, none⟩ 1 1 [.int .u8 n] hx rfl ?_ ?_ (by unfold maxLen; omega) (by omega) (by simp; omega) ?_
  · intro j u hj
    match j, hj with
    | 0, hj => simp at hj; subst hj; simp [Addr.add]
  · intro u hu; simp at hu; subst hu; rfl
  · intro v' w' hown' hg _
    refine h v' w' (ownb_of hown' ?_) ((Keep.of_below ((Below.refl _ _).alloc (Nat.le_refl _) _) hbase).trans (Keep.of_grown (World.ownsRow.alloc hown _) hg (by simp; omega)))
    rw [bcells_append]
    simp [bcells, Pl.u8_val h0 h1]

/-- a text more -/
theorem append_str {w : World} {ops : Array Oper} {rest : List Oper} {o : Oper} {a : Act} {Q : Exit → Act → World → Prop} (hgd : o.guard = none) (s x : Operand)
    (ho : o.op = .call { callee := .builtin .append, args := #[s, x], argTypes := #[77, 9] })
    (base : Nat) (v : Value) (bs : List UInt8) (t : ByteArray) (hs : a.eval s = v) (hown : OwnB w base v bs) (hbase : base ≤ w.heap.size) (hx : a.eval x = .string t) (hb : bs.length + t.size ≤ 140737488355328)
    (h : ∀ v' w', OwnB w' base v' (bs ++ t.data.toList) → Keep base w w' → wpList Tryz.prog ops Q rest (a.put o.dst v') w') : wpList Tryz.prog ops Q (o :: rest) a w := by
  obtain ⟨i0, hi0, hz0, hz1, hz2⟩ := info_parts infoByte
  refine Lib.wpList_append_own_string w hgd s x 77 9 ho base 5 i0 Tryz.underlying77 Tryz.underlying9 hi0 hz0 hz1 hz2 v bs.length (bcells bs) hs hown t hx (by unfold maxLen; omega) hb hbase ?_
  intro v' w' hown' hg _
  exact h v' w' (ownb_of hown' (by rw [bcells_append, bcells_str])) (Keep.of_grown hown hg hbase)

/-- a list of bytes more -/
theorem append_bs {w : World} {ops : Array Oper} {rest : List Oper} {o : Oper} {a : Act} {Q : Exit → Act → World → Prop} (hgd : o.guard = none) (s x : Operand)
    (ho : o.op = .call { callee := .builtin .append, args := #[s, x], argTypes := #[77, 77] })
    (base : Nat) (v : Value) (bs : List UInt8) (ad : Option Addr) (m c : Nat) (ns : List UInt8) (hs : a.eval s = v) (hown : OwnB w base v bs) (hbase : base ≤ w.heap.size) (hx : a.eval x = .slice ad m c) (hI : IsBytes w ad m c ns) (hnil : ad = none → c = 0) (hb : bs.length + m ≤ 140737488355328)
    (h : ∀ v' w', OwnB w' base v' (bs ++ ns) → Keep base w w' → wpList Tryz.prog ops Q rest (a.put o.dst v') w') : wpList Tryz.prog ops Q (o :: rest) a w := by
  obtain ⟨i0, hi0, hz0, hz1, hz2⟩ := info_parts infoByte
  obtain ⟨hl, hc, hm, hr⟩ := hI
  rcases ad with _ | ad
  · obtain rfl := hnil rfl
    obtain rfl : m = 0 := by omega
    obtain rfl : ns = [] := List.length_eq_zero_iff.1 hl
    refine wpList_append_own_none hgd s x 77 ho base 5 i0 1 Tryz.underlying77 hi0 v bs.length (bcells bs) hs hown hx (h _ _ ?_ (Keep.refl _ _))
    rw [List.append_nil]; exact hown
  · refine wpList_append_own (w := w) hgd s x 77 ho base 5 i0 _ 1 1 Tryz.underlying77 hi0 hz0 hz1 hz2 rfl (by decide) v bs.length (bcells bs) hs hown ad m c (bcells ns) hx (by rw [bcells_len, hl]; omega) ?_ (bcells_one _) (by unfold maxLen; omega) (by omega) hbase ?_
    · intro j u hj
      rcases hr with rfl | ⟨b, off, hba, _, hr⟩
      · simp [bcells] at hj
      · cases hba
        have := hr j u hj
        unfold Addr.add; split
        · rename_i h0; subst h0; simpa using this
        · simpa using this
    · intro v' w' hown' hg _
      exact h v' w' (ownb_of hown' (by rw [bcells_append])) (Keep.of_grown hown hg hbase)
end Go.Proofs.YtcdobhdbafpkiafGreatDoor
