/-
  Contract: the store of a map of raw things.
-/
import Derived.Test.YtcdobhdbafpkiadDoorAll6
namespace Go.Proofs.YtcdobhdbafpkiadDoor
open Go.RowKit
set_option maxRecDepth 20000

theorem but_below {B : Nat} {a b c : World} (h : But B a b) (k : Below a.heap.size b c) : But B a c := ⟨k.os.trans h.os, k.tape.trans h.tape, k.output.trans h.output, Nat.le_trans h.size k.size, fun i hi hB => (k.block i hi).trans (h.block i hi hB)⟩
theorem zeroCost : Tryd.zeroCells54 = Array.ofFn (n := 144) fun i => grid (fun _ _ => 0) i.1 := by kernel_rfl
theorem map3 {w w3 : World} (h : w3 = ((w.alloc (.cells Tryd.zeroCells54 54)).alloc (.cells #[Value.bool false, .slice none 0 0, .bool false, .slice none 0 0, .bool false, .slice none 0 0, .bool false, .slice none 0 0, .bool false, .slice none 0 0, .bool false, .slice none 0 0, .bool false, .slice none 0 0, .bool false, .slice none 0 0, .bool false, .slice none 0 0, .bool false, .slice none 0 0, .bool false, .slice none 0 0, .bool false, .slice none 0 0] 76)).alloc (.cells #[.slice none 0 0, .slice none 0 0, .slice none 0 0, .slice none 0 0, .slice none 0 0, .slice none 0 0, .slice none 0 0, .slice none 0 0, .slice none 0 0, .slice none 0 0, .slice none 0 0, .slice none 0 0] 56)) :
    CAt w3 w.heap.size ∧ DAt w3 (w.heap.size + 1) ∧ OAt w3 (w.heap.size + 1 + 1) (w.heap.size + 3) ∧ Below w.heap.size w w3 ∧ w.heap.size + 3 ≤ w3.heap.size := by
  subst h
  refine ⟨⟨fun _ _ => 0, ?_, by simp⟩, ⟨fun _ => false, ?_⟩, OAt.new ?_, (((Below.refl _ _).alloc (by simp) _).alloc (by simp) _).alloc (by simp; omega) _, by simp⟩
  · refine CellsAt.below (CellsAt.below (CellsAt.new w _ _ _ _ (by rw [zeroCost]; simp) fun i hi => ?_) ((Below.refl _ _).alloc (Nat.le_refl _) _)) ((Below.refl _ _).alloc (Nat.le_refl _) _)
    simp only [zeroCost, Array.getElem_ofFn]
  · have := CellsAt.new (w.alloc (.cells Tryd.zeroCells54 54)) 76 (Array.ofFn (n := 24) fun i => toldCell (fun _ => false) (fun _ => .slice none 0 0) i.1) 24 (toldCell (fun _ => false) (fun _ => .slice none 0 0)) (by simp) (by simp)
    rw [show (w.alloc (.cells Tryd.zeroCells54 54)).heap.size = w.heap.size + 1 by simp] at this
    exact CellsAt.below this ((Below.refl _ _).alloc (Nat.le_refl _) _)
  · have hv : (w.alloc (.cells Tryd.zeroCells54 54)).heap.size = w.heap.size + 1 := by simp
    generalize (w.alloc (.cells Tryd.zeroCells54 54)) = v at *
    have := CellsAt.new (v.alloc (.cells #[Value.bool false, .slice none 0 0, .bool false, .slice none 0 0, .bool false, .slice none 0 0, .bool false, .slice none 0 0, .bool false, .slice none 0 0, .bool false, .slice none 0 0, .bool false, .slice none 0 0, .bool false, .slice none 0 0, .bool false, .slice none 0 0, .bool false, .slice none 0 0, .bool false, .slice none 0 0, .bool false, .slice none 0 0] 76)) 56 (Array.ofFn (n := 12) fun _ => Value.slice none 0 0) 12 (fun _ => Value.slice none 0 0) (by simp) (by simp)
    rw [show (v.alloc (.cells #[Value.bool false, .slice none 0 0, .bool false, .slice none 0 0, .bool false, .slice none 0 0, .bool false, .slice none 0 0, .bool false, .slice none 0 0, .bool false, .slice none 0 0, .bool false, .slice none 0 0, .bool false, .slice none 0 0, .bool false, .slice none 0 0, .bool false, .slice none 0 0, .bool false, .slice none 0 0, .bool false, .slice none 0 0] 76)).heap.size = w.heap.size + 1 + 1 by simp [hv]] at this
    exact this

set_option maxHeartbeats 8000000 in
theorem Map_any (a : Option Addr) (len cap : Nat) (nodes : Nat) (w : World) (h : IsRaws w a len cap) (h2 : 2 ≤ nodes) (h12 : nodes ≤ 12) (hT : Tab w) :
    Calls Tryd.prog 13 #[.slice a len cap, .int .i64 (nodes : Int)] w fun e w' => ∃ v es, e = .returned v ∧ Own w' w.heap.size v es ∧ Pl.Good es ∧ Below w.heap.size w w' := by
  have HH := hid h
  have HTB := hid hT
  have hlc := h.1
  have hcm := h.2.1
  unfold maxLen at hcm
  clear h hT
  have al : ∀ (v : World) (o : Obj), Below v.heap.size v (v.alloc o) := fun v o => (Below.refl _ _).alloc (Nat.le_refl _) _
  have H3 := hid (fun w3 h => map3 (w := w) (w3 := w3) h)
  go_enter Tryd.func13, Tryd.ntmps13
  go_wp2_with fail
  go_loopw [8] (fun i wr => ∃ k : Nat, k ≤ len ∧ k ≤ 40 ∧ i = .int .i64 k ∧ Hid (CAt wr w.heap.size) ∧ Hid (DAt wr (w.heap.size + 1)) ∧ Hid (OAt wr (w.heap.size + 1 + 1) (w.heap.size + 3)) ∧ Hid (Below w.heap.size w wr) ∧ Hid (w.heap.size + 3 ≤ wr.heap.size)) (fun i _ => len - (intOf i).toNat)
  case atStart =>
    obtain ⟨g1, g2, g3, g4, g5⟩ := H3.out _ rfl
    exact ⟨0, Nat.zero_le _, Nat.zero_le _, rfl, hid g1, hid g2, hid g3, hid g4, hid g5⟩
  case round =>
    obtain ⟨k, hk, hk40, rfl, HC, HD, HO, HB, HZ⟩ := hrel
    by_cases hlt : k < len
    · by_cases hlm : k < 40
      · obtain ⟨b, off, rfl, hb, hr⟩ := (HH.out.below HB.out).2.2.resolve_left (by omega)
        obtain ⟨k0, k1, k2, k3, ⟨q0, q1, q2, q3⟩, w0, w1, w2, w3⟩ := hr k hlt
        have HW3 := hid w3
        have b0 := wf_bounds w0
        have b1 := wf_bounds w1
        have b2 := wf_bounds w2
        have b3 := wf_bounds w3
        clear hr w0 w1 w2 w3
        have HP1 := hid (fun W => picked_any k1 nodes W b1.1 b1.2 (by omega) (by omega))
        have HP2 := hid (fun W => picked_any k2 nodes W b2.1 b2.2 (by omega) (by omega))
        have HP0 := hid (fun W => picked_any k0 10 W b0.1 b0.2 (by omega) (by omega))
        obtain ⟨pa, hpa⟩ := Int.eq_ofNat_of_zero_le (Pl.pk_range k1 nodes (by omega)).1
        obtain ⟨pb, hpb⟩ := Int.eq_ofNat_of_zero_le (Pl.pk_range k2 nodes (by omega)).1
        obtain ⟨pc, hpc⟩ := Int.eq_ofNat_of_zero_le (Pl.pk_range k0 10 (by omega)).1
        have ha : pa < 12 := by have := (Pl.pk_range k1 nodes (by omega)).2; omega
        have hb' : pb < 12 := by have := (Pl.pk_range k2 nodes (by omega)).2; omega
        have hc : pc < 10 := by have := (Pl.pk_range k0 10 (by omega)).2; omega
        rw [hpa] at HP1
        rw [hpb] at HP2
        rw [hpc] at HP0
        clear hpa hpb hpc b0 b1 b2
        have hzz : w.heap.size + 3 ≤ wr.heap.size := HZ.out
        have hBx : Below w.heap.size w (wr.alloc (.cells #[.int .i64 k0, .int .i64 k1, .int .i64 k2, .int .i64 k3] 29)) := HB.out.alloc HB.out.size _
        have HBx := hid hBx
        have HBa : Hid (Below wr.heap.size wr (wr.alloc (.cells #[.int .i64 k0, .int .i64 k1, .int .i64 k2, .int .i64 k3] 29))) := hid ((Below.refl _ _).alloc (Nat.le_refl _) _)
        clear hBx
        go_wp2_with fail
        refine (HP1.out _).mono ?_
        rintro e wx ⟨rfl, rfl⟩
        go_wp2_with fail
        refine (HP2.out _).mono ?_
        rintro e wx ⟨rfl, rfl⟩
        go_wp2_with fail
        refine (HP0.out _).mono ?_
        rintro e wx ⟨rfl, rfl⟩
        have hcs : pc < 7 ∨ pc = 7 ∨ pc = 8 ∨ pc = 9 := by omega
        have HCx := hid (HC.out.below HBa.out)
        have HDx := hid (HD.out.below HBa.out)
        have HOx := hid (HO.out.below HBa.out)
        rcases hcs with hc7 | rfl | rfl | rfl
        · have e7 : ((pc : Int) == 7) = false := by simp; omega
          have e8 : ((pc : Int) == 8) = false := by simp; omega
          have e9 : ((pc : Int) == 9) = false := by simp; omega
          by_cases hab : (pa : Int) = pb
          · have hab' : ((pa : Int) != (pb : Int)) = false := by simp [hab]
            clear hab
            go_wp2_with fail
            go_roundw
            case rel => exact ⟨k + 1, by omega, by omega, by go_num, HCx, HDx, HOx, HBx, hid (by simp; omega)⟩
            case measure => simp [intOf]; omega
          · have hab' : ((pa : Int) != (pb : Int)) = true := by simp [hab]
            clear hab
            go_wp2_with fail
            obtain ⟨W1, HW1⟩ : ∃ W1, Hid (W1 = wr.alloc (.cells #[.int .i64 k0, .int .i64 k1, .int .i64 k2, .int .i64 k3] 29)) := ⟨_, hid rfl⟩
            rw [← HW1.out]
            have cR : W1.cell? ⟨wr.heap.size, 3, none⟩ = some (.int .i64 k3) := by rw [HW1.out]; simp
            have hRl : wr.heap.size < W1.heap.size := by rw [HW1.out]; simp
            rw [← HW1.out] at HCx HDx HOx HBx
            have hd1 := Pl.pk_range k3 4 (by omega)
            have hq4 := tdiv4 b3.1 b3.2
            have hd2 := Pl.pk_range (k3.tdiv 4) 4 (by omega)
            have HP3 := hid (fun W => picked_any k3 4 W b3.1 b3.2 (by omega) (by omega))
            have HP4 := hid (fun W => picked_any (k3.tdiv 4) 4 W hq4.1 hq4.2 (by omega) (by omega))
            obtain ⟨d1, hd1e⟩ : ∃ d, Pl.pk k3 4 = d := ⟨_, rfl⟩
            obtain ⟨d2, hd2e⟩ : ∃ d, Pl.pk (k3.tdiv 4) 4 = d := ⟨_, rfl⟩
            rw [hd1e] at hd1 HP3
            rw [hd2e] at hd2 HP4
            have hqw : IntKind.i64.wrap (k3.tdiv 4) = k3.tdiv 4 := by rw [IntKind.wrap_i64]; omega
            have hdw1 : IntKind.i64.wrap (1 + d1) = 1 + d1 := by rw [IntKind.wrap_i64]; omega
            have hdw2 : IntKind.i64.wrap (1 + d2) = 1 + d2 := by rw [IntKind.wrap_i64]; omega
            have hai : (pa : Int) < 12 := by omega
            have hbi : (pb : Int) < 12 := by omega
            generalize ha0 : Act.mk _ _ = a0
            have hsz : 56 + 17 ≤ a0.tmps.size := by
              have : a0.tmps.size = 180 := by rw [← ha0]; rfl
              omega
            have q5 : a0.tmps[5]?.getD undef = .pointer (some ⟨w.heap.size, 0, none⟩) := by rw [← ha0]; rfl
            have q9 : a0.tmps[9]?.getD undef = .pointer (some ⟨wr.heap.size, 0, none⟩) := by rw [← ha0]; rfl
            have q10 : a0.tmps[10]?.getD undef = .int .i64 pa := by rw [← ha0]; rfl
            have q11 : a0.tmps[11]?.getD undef = .int .i64 pb := by rw [← ha0]; rfl
            have hneB : wr.heap.size ≠ w.heap.size := by omega
            refine wp_region_any (by kernel_rfl) ?_
            refine wpAny_inv2 (DInv a0 56 17 19 (fun k => if k < 15 then some k else if k = 15 then none else if k < 18 then some (k - 1) else none)
              (fun j => ([.int .i64 pa, .int .i64 pb, .int .i64 pb, .int .i64 pa, .pointer (some ⟨wr.heap.size, 3, none⟩), .int .i64 k3, .int .i64 d1, .int .i64 (1 + d1), .pointer (some ⟨wr.heap.size, 3, none⟩), .int .i64 k3, .int .i64 (k3.tdiv 4), .int .i64 d2, .int .i64 (1 + d2), .pointer (some ⟨w.heap.size, pa * 12, none⟩), .pointer (some ⟨w.heap.size, pa * 12 + pb, none⟩), .pointer (some ⟨w.heap.size, pb * 12, none⟩), .pointer (some ⟨w.heap.size, pb * 12 + pa, none⟩)] : List Value).getD j undef)
              (fun W => CAt W w.heap.size ∧ But w.heap.size W1 W)) ?_ ?_ _ _ _ _ (by decide +kernel) ?_ (closed_start _ _ _)
            · intro i listed a W hi hCl hI
              rw [mem_ready] at hi
              obtain ⟨hl, o, ho, hall⟩ := hi
              have hlt19 : i < 19 := (Array.getElem?_eq_some_iff.1 ho).1
              have o5 := (hI.out (k := 5) (by omega)).trans q5
              have o9 := (hI.out (k := 9) (by omega)).trans q9
              have o10 := (hI.out (k := 10) (by omega)).trans q10
              have o11 := (hI.out (k := 11) (by omega)).trans q11
              have hcc := hI.cw
              have cR2 := (hcc.2.cell (p := ⟨wr.heap.size, 3, none⟩) hRl hneB).trans cR
              have hcs : i = 0 ∨ i = 1 ∨ i = 2 ∨ i = 3 ∨ i = 4 ∨ i = 5 ∨ i = 6 ∨ i = 7 ∨ i = 8 ∨ i = 9 ∨ i = 10 ∨ i = 11 ∨ i = 12 ∨ i = 13 ∨ i = 14 ∨ i = 15 ∨ i = 16 ∨ i = 17 ∨ i = 18 := by omega
              rcases hcs with rfl | rfl | rfl | rfl | rfl | rfl | rfl | rfl | rfl | rfl | rfl | rfl | rfl | rfl | rfl | rfl | rfl | rfl | rfl
              all_goals
                simp at ho
                subst ho
                refine wpOp_of rfl rfl ?_
              · simp [Oper.wp, go_sem, o10]
                exact hI.put (i := 0) (j := 0) rfl (by omega) rfl hcc
              · simp [Oper.wp, go_sem, o11]
                exact hI.put (i := 1) (j := 1) rfl (by omega) rfl hcc
              · simp [Oper.wp, go_sem, o11]
                exact hI.put (i := 2) (j := 2) rfl (by omega) rfl hcc
              · simp [Oper.wp, go_sem, o10]
                exact hI.put (i := 3) (j := 3) rfl (by omega) rfl hcc
              · simp [Oper.wp, go_sem, o9]
                exact hI.put (i := 4) (j := 4) rfl (by omega) rfl hcc
              · have e1 : a.tmps[60]?.getD undef = .pointer (some ⟨wr.heap.size, 3, none⟩) := hI.at (k := 4) (j := 4) hsz rfl (by omega) (hall ⟨4, .data⟩ (by simp) rfl)
                simp [Oper.wp, go_sem, e1, cR2]
                exact hI.put (i := 5) (j := 5) rfl (by omega) rfl hcc
              · have e1 : a.tmps[61]?.getD undef = .int .i64 k3 := hI.at (k := 5) (j := 5) hsz rfl (by omega) (hall ⟨5, .data⟩ (by simp) rfl)
                simp [Oper.wp, go_sem, e1]
                refine (HP3.out W).mono ?_
                rintro e w1 ⟨rfl, rfl⟩
                exact hI.put (i := 6) (j := 6) rfl (by omega) rfl hcc
              · have e1 : a.tmps[62]?.getD undef = .int .i64 d1 := hI.at (k := 6) (j := 6) hsz rfl (by omega) (hall ⟨6, .data⟩ (by simp) rfl)
                simp [Oper.wp, go_sem, e1, hdw1]
                exact hI.put (i := 7) (j := 7) rfl (by omega) rfl hcc
              · simp [Oper.wp, go_sem, o9]
                exact hI.put (i := 8) (j := 8) rfl (by omega) rfl hcc
              · have e1 : a.tmps[64]?.getD undef = .pointer (some ⟨wr.heap.size, 3, none⟩) := hI.at (k := 8) (j := 8) hsz rfl (by omega) (hall ⟨8, .data⟩ (by simp) rfl)
                simp [Oper.wp, go_sem, e1, cR2]
                exact hI.put (i := 9) (j := 9) rfl (by omega) rfl hcc
              · have e1 : a.tmps[65]?.getD undef = .int .i64 k3 := hI.at (k := 9) (j := 9) hsz rfl (by omega) (hall ⟨9, .data⟩ (by simp) rfl)
                simp [Oper.wp, go_sem, e1, hqw]
                exact hI.put (i := 10) (j := 10) rfl (by omega) rfl hcc
              · have e1 : a.tmps[66]?.getD undef = .int .i64 (k3.tdiv 4) := hI.at (k := 10) (j := 10) hsz rfl (by omega) (hall ⟨10, .data⟩ (by simp) rfl)
                simp [Oper.wp, go_sem, e1]
                refine (HP4.out W).mono ?_
                rintro e w1 ⟨rfl, rfl⟩
                exact hI.put (i := 11) (j := 11) rfl (by omega) rfl hcc
              · have e1 : a.tmps[67]?.getD undef = .int .i64 d2 := hI.at (k := 11) (j := 11) hsz rfl (by omega) (hall ⟨11, .data⟩ (by simp) rfl)
                simp [Oper.wp, go_sem, e1, hdw2]
                exact hI.put (i := 12) (j := 12) rfl (by omega) rfl hcc
              · have e1 : a.tmps[56]?.getD undef = .int .i64 pa := hI.at (k := 0) (j := 0) hsz rfl (by omega) (hall ⟨0, .data⟩ (by simp) rfl)
                simp [Oper.wp, go_sem, e1, o5, hai]
                exact hI.put (i := 13) (j := 13) rfl (by omega) rfl hcc
              · have e1 : a.tmps[69]?.getD undef = .pointer (some ⟨w.heap.size, pa * 12, none⟩) := hI.at (k := 13) (j := 13) hsz rfl (by omega) (hall ⟨13, .data⟩ (by simp) rfl)
                have e2 : a.tmps[57]?.getD undef = .int .i64 pb := hI.at (k := 1) (j := 1) hsz rfl (by omega) (hall ⟨1, .data⟩ (by simp) rfl)
                simp [Oper.wp, go_sem, e1, e2, hbi]
                exact hI.put (i := 14) (j := 14) rfl (by omega) rfl hcc
              · have e1 : a.tmps[70]?.getD undef = .pointer (some ⟨w.heap.size, pa * 12 + pb, none⟩) := hI.at (k := 14) (j := 14) hsz rfl (by omega) (hall ⟨14, .data⟩ (by simp) rfl)
                have e2 : a.tmps[63]?.getD undef = .int .i64 (1 + d1) := hI.at (k := 7) (j := 7) hsz rfl (by omega) (hall ⟨7, .data⟩ (by simp) rfl)
                obtain ⟨⟨co, ec⟩, ef⟩ := hcc.1.old pa pb ha hb'
                simp [Oper.wp, go_sem, e1, e2, ec, ef]
                exact hI.skip (i := 15) rfl ⟨hcc.1.set pa pb hb' _ (by omega), hcc.2.setCell _ _⟩
              · have e1 : a.tmps[58]?.getD undef = .int .i64 pb := hI.at (k := 2) (j := 2) hsz rfl (by omega) (hall ⟨2, .data⟩ (by simp) rfl)
                simp [Oper.wp, go_sem, e1, o5, hbi]
                exact hI.put (i := 16) (j := 15) rfl (by omega) rfl hcc
              · have e1 : a.tmps[71]?.getD undef = .pointer (some ⟨w.heap.size, pb * 12, none⟩) := hI.at (k := 16) (j := 15) hsz rfl (by omega) (hall ⟨16, .data⟩ (by simp) rfl)
                have e2 : a.tmps[59]?.getD undef = .int .i64 pa := hI.at (k := 3) (j := 3) hsz rfl (by omega) (hall ⟨3, .data⟩ (by simp) rfl)
                simp [Oper.wp, go_sem, e1, e2, hai]
                exact hI.put (i := 17) (j := 16) rfl (by omega) rfl hcc
              · have e1 : a.tmps[72]?.getD undef = .pointer (some ⟨w.heap.size, pb * 12 + pa, none⟩) := hI.at (k := 17) (j := 16) hsz rfl (by omega) (hall ⟨17, .data⟩ (by simp) rfl)
                have e2 : a.tmps[68]?.getD undef = .int .i64 (1 + d2) := hI.at (k := 12) (j := 12) hsz rfl (by omega) (hall ⟨12, .data⟩ (by simp) rfl)
                obtain ⟨⟨co, ec⟩, ef⟩ := hcc.1.old pb pa hb' ha
                simp [Oper.wp, go_sem, e1, e2, ec, ef]
                exact hI.skip (i := 18) rfl ⟨hcc.1.set pb pa ha _ (by omega), hcc.2.setCell _ _⟩
            · intro listed a W hr hI
              rename_i K hK _
              obtain ⟨hcw, hbut⟩ := hI.cw
              obtain ⟨xs, hxl, rfl, _⟩ := hI.fr
              obtain ⟨x0, x1, x2, x3, x4, x5, x6, x7, x8, x9, x10, x11, x12, x13, x14, x15, x16, rfl⟩ := list17 xs hxl
              have HCy := hid hcw
              have HDy := hid (HDx.out.but hbut (by omega))
              have HOy := hid (HOx.out.but hbut (by omega) (by omega))
              have HBy : Hid (Below w.heap.size w W) := hid (HBx.out.trans (hbut.below (Nat.le_refl _) (by have := HBx.out.size; omega)))
              have HZy : Hid (w.heap.size + 3 ≤ W.heap.size) := hid (by have := hbut.size; omega)
              clear hI hr hxl q5 q9 q10 q11 hsz hcw hbut
              rw [← ha0]
              simp only [setFrom]
              refine hK _ W ?_
              go_wp2_with fail
              go_roundw
              case rel => exact ⟨k + 1, by omega, by omega, by go_num, HCy, HDy, HOy, HBy, HZy⟩
              case measure => simp [intOf]; omega
            · exact DInv.start hsz ⟨HCx.out, But.refl _ _ |>.drawn 1⟩
        · obtain ⟨⟨co, ec⟩, ef⟩ := HD.out.old pa ha
          have hZ1 : w.heap.size + 1 < wr.heap.size := by omega
          have HP3 := hid (fun W => picked_any k3 2 W b3.1 b3.2 (by omega) (by omega))
          obtain ⟨d1, hd1e⟩ : ∃ d, Pl.pk k3 2 = d := ⟨_, rfl⟩
          rw [hd1e] at HP3
          have hbut : But (w.heap.size + 1) wr (wr.setCell ⟨w.heap.size + 1, pa * 2, none⟩ (.bool (d1 == 0))) := (But.refl _ _).setCell _ _
          have HU := hid hbut
          clear hbut hd1e
          go_wp2_with fail
          refine (HP3.out _).mono ?_
          rintro e wx ⟨rfl, rfl⟩
          go_wp2_with fail
          go_roundw
          case rel => exact ⟨k + 1, by omega, by omega, by go_num, hid ((HC.out.but HU.out (by omega)).below (al _ _)), hid ((HD.out.set pa _).below (al _ _)), hid ((HO.out.but HU.out (by omega) (by omega)).below (al _ _)), hid ((HB.out.setCell (p := ⟨w.heap.size + 1, pa * 2, none⟩) (Nat.le_succ _) _).alloc (by have := HU.out.size; omega) _), hid (by have := HU.out.size; simp at this ⊢; omega)⟩
          case measure => simp [intOf]; omega
        · obtain ⟨oa, ol, oc, ops, ec, hol, hop, hox, ef⟩ := HO.out.at pa ha
          have hZ1 : w.heap.size + 1 + 1 < wr.heap.size := by omega
          clear hop hox
          by_cases hz0 : ol = 0
          · subst hz0
            go_wp2_with fail
            refine (prefix_any k3 _ HW3.out).mono ?_
            rintro e w5 ⟨⟨p1, p2⟩, rfl, hpo, hb5⟩
            simp only at hpo ⊢
            have HC5 := hid (HCx.out.below hb5)
            have HD5 := hid (HDx.out.below hb5)
            have HO5 := hid (HOx.out.below hb5)
            have hz5 : w.heap.size + 4 ≤ w5.heap.size := by have := hb5.size; simp at this; omega
            have HB5 : Hid (Below w.heap.size w w5) := hid (HBx.out.trans (hb5.mono HBx.out.size))
            have HPO := hid hpo
            obtain ⟨oa5, ol5, oc5, ops5, ec5, _, _, _, ef5⟩ := HO5.out.at pa ha
            have hZ5 : w.heap.size + 1 + 1 < w5.heap.size := by omega
            clear hpo hb5 ec ef HC HD HO HCx HDx HOx
            go_wp2_with fail
            have hU5 : But (w.heap.size + 1 + 1) w5 (w5.setCell ⟨w.heap.size + 1 + 1, pa, none⟩ (.slice (some ⟨w5.heap.size, 0, none⟩) 1 1)) := (But.refl _ _).setCell _ _
            have HU5 := hid hU5
            clear hU5
            go_roundw
            case rel =>
              refine ⟨k + 1, by omega, by omega, by go_num, hid ((HC5.out.but HU5.out (by omega)).below (al _ _)), hid ((HD5.out.but HU5.out (by omega)).below (al _ _)), hid ?_, hid ((HB5.out.setCell (p := ⟨w.heap.size + 1 + 1, pa, none⟩) (by simp; omega) _).alloc (by have := HU5.out.size; omega) _), hid (by have := HU5.out.size; simp at this ⊢; omega)⟩
              rw [← World.setCell_alloc_past _ _ _ _ hZ5]
              refine (HO5.out.below (al _ _)).set pa _ 1 1 [(p1, p2)] (Nat.le_refl _) ⟨rfl, Nat.le_refl _, by decide, ?_, .inr ⟨_, _, rfl, by simp, ?_⟩⟩ (by rintro x ⟨⟩; simp only; omega) (by omega)
              · intro p hp; rw [List.mem_singleton.1 hp]; exact HPO.out
              · intro i hi
                obtain rfl : i = 0 := by simp at hi; omega
                simp [Pl.pr]
            case measure => simp [intOf]; omega
          · have hz1 : ((ol : Int) == 0) = false := by simp; omega
            clear hz0
            go_wp2_with fail
            go_roundw
            case rel => exact ⟨k + 1, by omega, by omega, by go_num, HCx, HDx, HOx, HBx, hid (by simp; omega)⟩
            case measure => simp [intOf]; omega
        · obtain ⟨⟨co, ec⟩, ef⟩ := HC.out.old pa pb ha hb'
          have hZ1 : w.heap.size < wr.heap.size := by omega
          have hbut : But w.heap.size wr (wr.setCell ⟨w.heap.size, pa * 12 + pb, none⟩ (.int .i64 0)) := (But.refl _ _).setCell _ _
          have HU := hid hbut
          clear hbut
          by_cases hab : (pa : Int) = pb
          · have hab' : ((pa : Int) != (pb : Int)) = false := by simp [hab]
            clear hab
            go_wp2_with fail
            go_roundw
            case rel => exact ⟨k + 1, by omega, by omega, by go_num, HCx, HDx, HOx, HBx, hid (by simp; omega)⟩
            case measure => simp [intOf]; omega
          · have hab' : ((pa : Int) != (pb : Int)) = true := by simp [hab]
            clear hab
            go_wp2_with fail
            go_roundw
            case rel => exact ⟨k + 1, by omega, by omega, by go_num, hid ((HC.out.set pa pb hb' 0 (by omega)).below (al _ _)), hid ((HD.out.but HU.out (by omega)).below (al _ _)), hid ((HO.out.but HU.out (by omega) (by omega)).below (al _ _)), hid ((HB.out.setCell (p := ⟨w.heap.size, pa * 12 + pb, none⟩) (Nat.le_refl _) _).alloc (by have := HU.out.size; omega) _), hid (by have := HU.out.size; simp at this ⊢; omega)⟩
            case measure => simp [intOf]; omega
      · obtain rfl : k = 40 := by omega
        have HBr := hid HB.out
        have HTr := hid (HTB.out.below HB.out)
        have H2D := hid HD.out.two
        have hzz : w.heap.size + 3 ≤ wr.heap.size := HZ.out
        have HHx := HH
        clear HH HD HZ
        go_wp2_with fail
        rename World => wA
        go_loopw [13, 112] (fun vo i wr => ∃ (n : Nat) (es : List Pl.Ent) (u : Value), u = vo ∧ n ≤ nodes ∧ i = .int .i64 n ∧ Hid (Own wr (w.heap.size + 3) u es) ∧ Hid (Pl.Good es) ∧ Hid (CAt wr w.heap.size) ∧ Hid (D2At wr (w.heap.size + 1) n) ∧ Hid (OAt wr (w.heap.size + 1 + 1) (w.heap.size + 3)) ∧ Hid (Below w.heap.size w wr) ∧ w.heap.size + 3 ≤ wr.heap.size) (fun _ i _ => nodes - (intOf i).toNat)
        case atStart => exact ⟨0, [], _, rfl, Nat.zero_le _, rfl, hid (Own.nil _ _), hid Pl.good_nil, HC, H2D, HO, HBr, hzz⟩
        case round =>
          clear HC H2D HO HBr hzz HTr
          obtain ⟨n, es, u, rfl, hn, rfl, HOW, HG, HC, HD, HO, HB, hz⟩ := hrel
          by_cases hlt : n < nodes
          · have hn12 : n < 12 := by omega
            obtain ⟨M, hM, hMb⟩ := HC.out
            have HM := hid hM
            have HMb := hid hMb
            have HRW := hid (hM.row n hn12)
            clear hM hMb
            obtain ⟨d, hd3⟩ := HD.out.three
            have HD3 := hid hd3
            clear hd3
            rename World => w2
            have hz1 : w.heap.size + 1 < w2.heap.size := by omega
            have hz0 : w.heap.size < w2.heap.size := by omega
            go_wp2_with (refine wpList_load_mid rfl 53 (.tmp 116) rfl w.heap.size (n * 12) rfl (ints12 (M n)) _ HRW.out Tryd.underlying53 rfl infoInts ?_)
            go_loopw [118] (fun i wr => ∃ (j : Nat) (v : Value) (acc : List (Int × Int)), j ≤ 12 ∧ i = .int .i64 j ∧ Hid (D3At wr (w.heap.size + 1) n d v) ∧ Hid (OwnP 31 wr w2.heap.size v acc) ∧ acc.length ≤ j ∧ Hid (∀ p ∈ acc, Pl.pairOk p) ∧ Hid (But (w.heap.size + 1) w2 wr)) (fun i _ => 12 - (intOf i).toNat)
            case atStart => exact ⟨0, _, [], by omega, rfl, HD3, hid (OwnP.nil _ _ _), Nat.le_refl _, hid (by simp), hid (But.refl _ _)⟩
            case round =>
              obtain ⟨j, v, acc, hj, rfl, HD4, HV, hal, HPK, HU⟩ := hrel
              by_cases hjl : j < 12
              · have hg := fun w => run_index_ints (M n) j hjl w
                obtain ⟨y, HY⟩ : ∃ y, Hid (M n j = y) := ⟨_, hid rfl⟩
                rw [HY.out] at hg
                have hy : 0 ≤ y ∧ y ≤ 4 := by rw [← HY.out]; exact HMb.out n j
                by_cases hy0 : 0 < y
                · obtain ⟨e0, e1, e2⟩ := HD4.out.cells hn12
                  obtain ⟨av, nv, cv, rfl⟩ := HV.out.slice
                  have hzr : w2.heap.size ≤ wr.heap.size := HU.out.size
                  have hzr1 : w.heap.size + 1 < wr.heap.size := by omega
                  have HV4 := hid (HV.out.below ((Below.refl wr.heap.size wr).alloc (Nat.le_refl _) (.cells #[.int .i64 (j : Int), .int .i64 y] 31)))
                  clear HV4
                  go_wp2_with (at_builtin; refine append_pairT Tryd.underlying23 infoSide rfl (.tmp 128) (.tmp 132) rfl w2.heap.size (.slice av nv cv) acc ((j : Int), y) rfl HV.out hzr rfl (by omega) ?_; intro v5 w5 ho5 hb5 _; obtain ⟨a5, n5, c5, rfl⟩ := ho5.slice; obtain ⟨f0, f1, f2⟩ := (HD4.out.below' hb5 (by omega)).cells hn12; have hz5 : w.heap.size + 1 < w5.heap.size := Nat.lt_of_lt_of_le hzr1 hb5.size; have HO5 := hid ho5; have HB5 := hid hb5; clear ho5 hb5 e0 e1 e2)
                  have HU5 : Hid (But (w.heap.size + 1) w2 w5) := hid (but_below HU.out HB5.out)
                  go_roundw
                  case rel =>
                    refine ⟨j + 1, _, acc ++ [((j : Int), y)], by omega, by go_num, hid ((HD4.out.below' HB5.out (by omega)).set _), hid (ownsRow_setCell_below HO5.out (by simp; omega) _), by simp; omega, hid ?_, hid (HU5.out.setCell _ _)⟩
                    intro p hp
                    rcases List.mem_append.1 hp with hp | hp
                    · exact HPK.out p hp
                    · rw [List.mem_singleton.1 hp]; exact Pl.pairOk_of ⟨by simp only; omega, by simp only; omega, by simp only; omega, by simp only; omega⟩
                  case measure => simp [intOf]; omega
                · obtain rfl : y = 0 := by omega
                  go_wp2_with fail
                  go_roundw
                  case rel => exact ⟨j + 1, v, acc, by omega, by go_num, HD4, HV, by omega, HPK, HU⟩
                  case measure => simp [intOf]; omega
              · obtain rfl : j = 12 := by omega
                obtain ⟨e0, e1, e2⟩ := HD4.out.cells hn12
                obtain ⟨av, cv, rfl, hp3, _, _⟩ := OwnP.shape HV.out HPK.out
                have hzr : w2.heap.size ≤ wr.heap.size := HU.out.size
                have HBw : Hid (Below w.heap.size w wr) := hid (HB.out.trans (HU.out.below (Nat.le_succ _) (by omega)))
                have HSA := hid (ShowAdj_any d av acc.length cv acc wr hp3 (HTB.out.below HBw.out))
                have HOWr := hid (HOW.out.but HU.out (by omega))
                have HCr := hid (HC.out.but HU.out (by omega))
                have HOr := hid (HO.out.but HU.out (by omega) (by omega))
                have HTX := hid (@Pl.adjText_any d acc)
                generalize Pl.adjText d acc = t1 at *
                generalize Pl.adjF acc = f1 at *
                clear hp3 HRW HM HMb HC HO HD HOW
                go_wp2_with fail
                refine HSA.out.mono ?_
                rintro e w4 ⟨rfl, hb4⟩
                have HB4 := hid hb4
                have hz4 : w2.heap.size ≤ w4.heap.size := Nat.le_trans hzr hb4.size
                have HBw4 : Hid (Below w.heap.size w w4) := hid (HBw.out.trans (HB4.out.mono HBw.out.size))
                obtain ⟨oa, ol, oc, ops, ec, hol, hop, _, ef⟩ := (HOr.out.below HB4.out).at n hn12
                have HSP := hid (ShowPrefixes_any oa ol oc ops w4 hop (HTB.out.below HBw4.out))
                have HTP := hid (@Pl.pfxText_any ops)
                have hz41 : w.heap.size + 1 + 1 < w4.heap.size := by omega
                generalize Pl.pfxText ops = t2 at *
                generalize Pl.pfxF ops = f2 at *
                clear hop hb4
                go_wp2_with fail
                refine HSP.out.mono ?_
                rintro e w5 ⟨rfl, hb5⟩
                have HB5 : Hid (Below wr.heap.size wr w5) := hid (HB4.out.trans (hb5.mono HB4.out.size))
                have HBw5 : Hid (Below w.heap.size w w5) := hid (HBw4.out.trans (hb5.mono HBw4.out.size))
                clear hb5
                have hdz := Pl.dec_le n (by omega) (by omega)
                have HIT := hid (fun W hW => Itoa_any n W (by omega) (by omega) hW)
                generalize Pl.dec (n : Int) = sd at *
                go_wp2_with fail
                refine (HIT.out _ (HTB.out.below HBw5.out)).mono ?_
                rintro e w6 ⟨rfl, hb6⟩
                have HB6 : Hid (Below wr.heap.size wr w6) := hid (HB5.out.trans (hb6.mono HB5.out.size))
                have HBw6 : Hid (Below w.heap.size w w6) := hid (HBw5.out.trans (hb6.mono HBw5.out.size))
                clear hb6
                go_wp2_with fail
                refine (HIT.out _ (HTB.out.below HBw6.out)).mono ?_
                rintro e w7 ⟨rfl, hb7⟩
                have HB7 : Hid (Below wr.heap.size wr w7) := hid (HB6.out.trans (hb7.mono HB6.out.size))
                have HBw7 : Hid (Below w.heap.size w w7) := hid (HBw6.out.trans (hb7.mono HBw6.out.size))
                clear hb7
                go_wp2_with fail
                have hs1z : (({ data := #[97, 58] } : ByteArray) ++ sd).size ≤ 100 := by rw [ByteArray.size_append]; show 2 + sd.size ≤ 100; omega
                have hs2z : (({ data := #[112, 58] } : ByteArray) ++ sd).size ≤ 100 := by rw [ByteArray.size_append]; show 2 + sd.size ≤ 100; omega
                generalize (({ data := #[97, 58] } : ByteArray) ++ sd) = s1 at *
                generalize (({ data := #[112, 58] } : ByteArray) ++ sd) = s2 at *
                have HS1 := hid hs1z
                have HS2 := hid hs2z
                clear hs1z hs2z HIT HSP HSA e0 e1 e2 ec ef HB4 HB5 HB6 HBw4 HBw5 HBw6
                obtain ⟨w8, HW8⟩ : ∃ w8, Hid (w8 = w7.alloc (.cells #[.string s1, .int .i64 1, .int .i64 (n : Int), .string t1, .string s2, .int .i64 1, .int .i64 (n : Int), .string t2] 64)) := ⟨_, hid rfl⟩
                rw [← HW8.out]
                have HB8 : Hid (Below wr.heap.size wr w8) := hid (by show Below _ _ _; rw [HW8.out]; exact HB7.out.alloc HB7.out.size _)
                have HBw8 : Hid (Below w.heap.size w w8) := hid (by show Below _ _ _; rw [HW8.out]; exact HBw7.out.alloc HBw7.out.size _)
                have hz8 : w7.heap.size < w8.heap.size := by rw [HW8.out]; simp
                have G8 : Hid ((w8.cell? ⟨w7.heap.size, 0, none⟩ = some (.string s1) ∧ w8.cell? ⟨w7.heap.size, 1, none⟩ = some (.int .i64 1) ∧ w8.cell? ⟨w7.heap.size, 2, none⟩ = some (.int .i64 (n : Int)) ∧ w8.cell? ⟨w7.heap.size, 3, none⟩ = some (.string t1)) ∧ (w8.cell? ⟨w7.heap.size, 4, none⟩ = some (.string s2) ∧ w8.cell? ⟨w7.heap.size, 5, none⟩ = some (.int .i64 1) ∧ w8.cell? ⟨w7.heap.size, 6, none⟩ = some (.int .i64 (n : Int)) ∧ w8.cell? ⟨w7.heap.size, 7, none⟩ = some (.string t2))) := hid (by show _ ∧ _; rw [HW8.out]; simp)
                go_loopw [13, 165] (fun vo i wr => ∃ (q : Nat) (el : List Pl.Ent) (z : Value), z = vo ∧ q ≤ 2 ∧ i = .int .i64 q ∧ Hid (Own wr (w.heap.size + 3) z el) ∧ Hid (Pl.Good el) ∧ Hid (Below w8.heap.size w8 wr)) (fun _ i _ => 2 - (intOf i).toNat)
                case atStart => exact ⟨0, es, _, rfl, by omega, rfl, hid (HOWr.out.below HB8.out), HG, hid (Below.refl _ _)⟩
                case round =>
                  obtain ⟨q, el, z, rfl, hq, rfl, HOq, HGq, HBq⟩ := hrel
                  obtain ⟨au, cu, rfl, hE, hnl, _⟩ := HOq.out.shape HGq.out.ok
                  have HE := hid hE
                  have HN := hid hnl
                  clear hE hnl
                  rename World => wq
                  have hzq : w7.heap.size < wq.heap.size := Nat.lt_of_lt_of_le hz8 HBq.out.size
                  have hzw : w.heap.size + 3 ≤ wq.heap.size := Nat.le_trans (Nat.le_trans (Nat.le_trans hz hzr) HB8.out.size) HBq.out.size
                  by_cases hq2 : q < 2
                  · obtain ⟨xk, xv, xo, xx, c0, c1, c2, c3, hxok⟩ : ∃ (xk : ByteArray) (xv xo : Int) (xx : ByteArray), wq.cell? ⟨w7.heap.size, q * 4, none⟩ = some (.string xk) ∧ wq.cell? ⟨w7.heap.size, q * 4 + 1, none⟩ = some (.int .i64 xv) ∧ wq.cell? ⟨w7.heap.size, q * 4 + 2, none⟩ = some (.int .i64 xo) ∧ wq.cell? ⟨w7.heap.size, q * 4 + 3, none⟩ = some (.string xx) ∧ Hid (Pl.Ent.ok ⟨xk, xv, xo, xx⟩) := by
                      have hcc := (bcell HBq.out).1
                      have hmx : (100 : Nat) ≤ maxLen := by decide
                      have hmy : (4398046511103 : Nat) ≤ maxLen := by decide
                      obtain ⟨⟨g0, g1, g2, g3⟩, g4, g5, g6, g7⟩ := G8.out
                      obtain rfl | rfl : q = 0 ∨ q = 1 := by omega
                      · exact ⟨s1, 1, n, t1, (hcc _ _ hz8).trans g0, (hcc _ _ hz8).trans g1, (hcc _ _ hz8).trans g2, (hcc _ _ hz8).trans g3, hid ⟨Nat.le_trans HS1.out hmx, by dsimp only; decide, WalkArith.wf_i64 (by dsimp only; omega), Nat.le_trans HTX.out hmy⟩⟩
                      · exact ⟨s2, 1, n, t2, (hcc _ _ hz8).trans g4, (hcc _ _ hz8).trans g5, (hcc _ _ hz8).trans g6, (hcc _ _ hz8).trans g7, hid ⟨Nat.le_trans HS2.out hmx, by dsimp only; decide, WalkArith.wf_i64 (by dsimp only; omega), Nat.le_trans HTP.out hmy⟩⟩
                    have HA1 : Hid (Below wq.heap.size wq (wq.alloc (.cells #[.string xk, .int .i64 xv, .int .i64 xo, .string xx] 64))) := hid (al _ _)
                    have HA2 : Hid (Below wq.heap.size wq ((wq.alloc (.cells #[.string xk, .int .i64 xv, .int .i64 xo, .string xx] 64)).alloc (.cells #[.string xk, .int .i64 xv, .int .i64 xo, .string xx] 64))) := hid (HA1.out.alloc HA1.out.size _)
                    have HI1 : Hid (IsEnts ((wq.alloc (.cells #[.string xk, .int .i64 xv, .int .i64 xo, .string xx] 64)).alloc (.cells #[.string xk, .int .i64 xv, .int .i64 xo, .string xx] 64)) (some ⟨wq.heap.size + 1, 0, none⟩) 1 1 [⟨xk, xv, xo, xx⟩]) := by
                      refine ⟨rfl, Nat.le_refl _, by decide, ?_, .inr ⟨_, _, rfl, by simp, ?_⟩⟩
                      · intro e he; rw [List.mem_singleton.1 he]; exact hxok.out
                      · intro i hi
                        obtain rfl : i = 0 := by simp at hi; omega
                        simp [Pl.ent]
                    go_wp2_with fail
                    refine (Merge_any _ _ _ el _ _ _ [⟨xk, xv, xo, xx⟩] _ (HE.out.below HA2.out) HN.out HI1.out).mono ?_
                    rintro e w9 ⟨vo, vk, rfl, ho9, _, hb9⟩
                    generalize Pl.mergeC el [⟨xk, xv, xo, xx⟩] = mc at *
                    have HO9 : Hid (Own w9 (w.heap.size + 3) vo (Pl.mergeO el [⟨xk, xv, xo, xx⟩])) := hid (ho9.mono (Nat.le_trans hzw HA2.out.size))
                    have HB9 : Hid (Below w8.heap.size w8 w9) := hid (by
                      have b2 := HBq.out.trans (HA2.out.mono HBq.out.size)
                      exact b2.trans (hb9.mono b2.size))
                    have HG9 := hid (Pl.merge_goodM el [⟨xk, xv, xo, xx⟩])
                    clear ho9 hb9 c0 c1 c2 c3
                    go_wp2_with fail
                    go_roundw
                    case rel => exact ⟨q + 1, _, _, rfl, by omega, by go_num, HO9, HG9, HB9⟩
                    case measure => simp [intOf]; omega
                  · obtain rfl : q = 2 := by omega
                    have HBq' : Hid (Below wr.heap.size wr wq) := hid (HB8.out.trans (HBq.out.mono HB8.out.size))
                    have HBwq : Hid (Below w.heap.size w wq) := hid (HBw8.out.trans (HBq.out.mono HBw8.out.size))
                    go_wp2_with fail
                    go_roundw
                    case rel => exact ⟨n + 1, el, _, rfl, by omega, by go_num, HOq, HGq, hid (HCr.out.below HBq'.out), hid (HD4.out.two.below HBq'.out), hid (HOr.out.below HBq'.out), HBwq, hzw⟩
                    case measure => simp [intOf]; omega
          · obtain rfl : n = nodes := by omega
            go_wp2_with fail
            go_ret
            exact ⟨_, _, rfl, HOW.out.mono (by omega), HG.out, HB.out⟩
    · have hkl : ¬ k < len := hlt
      have HBr := hid HB.out
      have HTr := hid (HTB.out.below HB.out)
      have H2D := hid HD.out.two
      have hzz : w.heap.size + 3 ≤ wr.heap.size := HZ.out
      have HHx := HH
      clear HH HD HZ
      go_wp2_with fail
      rename World => wA
      go_loopw [13, 112] (fun vo i wr => ∃ (n : Nat) (es : List Pl.Ent) (u : Value), u = vo ∧ n ≤ nodes ∧ i = .int .i64 n ∧ Hid (Own wr (w.heap.size + 3) u es) ∧ Hid (Pl.Good es) ∧ Hid (CAt wr w.heap.size) ∧ Hid (D2At wr (w.heap.size + 1) n) ∧ Hid (OAt wr (w.heap.size + 1 + 1) (w.heap.size + 3)) ∧ Hid (Below w.heap.size w wr) ∧ w.heap.size + 3 ≤ wr.heap.size) (fun _ i _ => nodes - (intOf i).toNat)
      case atStart => exact ⟨0, [], _, rfl, Nat.zero_le _, rfl, hid (Own.nil _ _), hid Pl.good_nil, HC, H2D, HO, HBr, hzz⟩
      case round =>
        clear HC H2D HO HBr hzz HTr
        obtain ⟨n, es, u, rfl, hn, rfl, HOW, HG, HC, HD, HO, HB, hz⟩ := hrel
        by_cases hlt : n < nodes
        · have hn12 : n < 12 := by omega
          obtain ⟨M, hM, hMb⟩ := HC.out
          have HM := hid hM
          have HMb := hid hMb
          have HRW := hid (hM.row n hn12)
          clear hM hMb
          obtain ⟨d, hd3⟩ := HD.out.three
          have HD3 := hid hd3
          clear hd3
          rename World => w2
          have hz1 : w.heap.size + 1 < w2.heap.size := by omega
          have hz0 : w.heap.size < w2.heap.size := by omega
          go_wp2_with (refine wpList_load_mid rfl 53 (.tmp 116) rfl w.heap.size (n * 12) rfl (ints12 (M n)) _ HRW.out Tryd.underlying53 rfl infoInts ?_)
          go_loopw [118] (fun i wr => ∃ (j : Nat) (v : Value) (acc : List (Int × Int)), j ≤ 12 ∧ i = .int .i64 j ∧ Hid (D3At wr (w.heap.size + 1) n d v) ∧ Hid (OwnP 31 wr w2.heap.size v acc) ∧ acc.length ≤ j ∧ Hid (∀ p ∈ acc, Pl.pairOk p) ∧ Hid (But (w.heap.size + 1) w2 wr)) (fun i _ => 12 - (intOf i).toNat)
          case atStart => exact ⟨0, _, [], by omega, rfl, HD3, hid (OwnP.nil _ _ _), Nat.le_refl _, hid (by simp), hid (But.refl _ _)⟩
          case round =>
            obtain ⟨j, v, acc, hj, rfl, HD4, HV, hal, HPK, HU⟩ := hrel
            by_cases hjl : j < 12
            · have hg := fun w => run_index_ints (M n) j hjl w
              obtain ⟨y, HY⟩ : ∃ y, Hid (M n j = y) := ⟨_, hid rfl⟩
              rw [HY.out] at hg
              have hy : 0 ≤ y ∧ y ≤ 4 := by rw [← HY.out]; exact HMb.out n j
              by_cases hy0 : 0 < y
              · obtain ⟨e0, e1, e2⟩ := HD4.out.cells hn12
                obtain ⟨av, nv, cv, rfl⟩ := HV.out.slice
                have hzr : w2.heap.size ≤ wr.heap.size := HU.out.size
                have hzr1 : w.heap.size + 1 < wr.heap.size := by omega
                have HV4 := hid (HV.out.below ((Below.refl wr.heap.size wr).alloc (Nat.le_refl _) (.cells #[.int .i64 (j : Int), .int .i64 y] 31)))
                clear HV4
                go_wp2_with (at_builtin; refine append_pairT Tryd.underlying23 infoSide rfl (.tmp 128) (.tmp 132) rfl w2.heap.size (.slice av nv cv) acc ((j : Int), y) rfl HV.out hzr rfl (by omega) ?_; intro v5 w5 ho5 hb5 _; obtain ⟨a5, n5, c5, rfl⟩ := ho5.slice; obtain ⟨f0, f1, f2⟩ := (HD4.out.below' hb5 (by omega)).cells hn12; have hz5 : w.heap.size + 1 < w5.heap.size := Nat.lt_of_lt_of_le hzr1 hb5.size; have HO5 := hid ho5; have HB5 := hid hb5; clear ho5 hb5 e0 e1 e2)
                have HU5 : Hid (But (w.heap.size + 1) w2 w5) := hid (but_below HU.out HB5.out)
                go_roundw
                case rel =>
                  refine ⟨j + 1, _, acc ++ [((j : Int), y)], by omega, by go_num, hid ((HD4.out.below' HB5.out (by omega)).set _), hid (ownsRow_setCell_below HO5.out (by simp; omega) _), by simp; omega, hid ?_, hid (HU5.out.setCell _ _)⟩
                  intro p hp
                  rcases List.mem_append.1 hp with hp | hp
                  · exact HPK.out p hp
                  · rw [List.mem_singleton.1 hp]; exact Pl.pairOk_of ⟨by simp only; omega, by simp only; omega, by simp only; omega, by simp only; omega⟩
                case measure => simp [intOf]; omega
              · obtain rfl : y = 0 := by omega
                go_wp2_with fail
                go_roundw
                case rel => exact ⟨j + 1, v, acc, by omega, by go_num, HD4, HV, by omega, HPK, HU⟩
                case measure => simp [intOf]; omega
            · obtain rfl : j = 12 := by omega
              obtain ⟨e0, e1, e2⟩ := HD4.out.cells hn12
              obtain ⟨av, cv, rfl, hp3, _, _⟩ := OwnP.shape HV.out HPK.out
              have hzr : w2.heap.size ≤ wr.heap.size := HU.out.size
              have HBw : Hid (Below w.heap.size w wr) := hid (HB.out.trans (HU.out.below (Nat.le_succ _) (by omega)))
              have HSA := hid (ShowAdj_any d av acc.length cv acc wr hp3 (HTB.out.below HBw.out))
              have HOWr := hid (HOW.out.but HU.out (by omega))
              have HCr := hid (HC.out.but HU.out (by omega))
              have HOr := hid (HO.out.but HU.out (by omega) (by omega))
              have HTX := hid (@Pl.adjText_any d acc)
              generalize Pl.adjText d acc = t1 at *
              generalize Pl.adjF acc = f1 at *
              clear hp3 HRW HM HMb HC HO HD HOW
              go_wp2_with fail
              refine HSA.out.mono ?_
              rintro e w4 ⟨rfl, hb4⟩
              have HB4 := hid hb4
              have hz4 : w2.heap.size ≤ w4.heap.size := Nat.le_trans hzr hb4.size
              have HBw4 : Hid (Below w.heap.size w w4) := hid (HBw.out.trans (HB4.out.mono HBw.out.size))
              obtain ⟨oa, ol, oc, ops, ec, hol, hop, _, ef⟩ := (HOr.out.below HB4.out).at n hn12
              have HSP := hid (ShowPrefixes_any oa ol oc ops w4 hop (HTB.out.below HBw4.out))
              have HTP := hid (@Pl.pfxText_any ops)
              have hz41 : w.heap.size + 1 + 1 < w4.heap.size := by omega
              generalize Pl.pfxText ops = t2 at *
              generalize Pl.pfxF ops = f2 at *
              clear hop hb4
              go_wp2_with fail
              refine HSP.out.mono ?_
              rintro e w5 ⟨rfl, hb5⟩
              have HB5 : Hid (Below wr.heap.size wr w5) := hid (HB4.out.trans (hb5.mono HB4.out.size))
              have HBw5 : Hid (Below w.heap.size w w5) := hid (HBw4.out.trans (hb5.mono HBw4.out.size))
              clear hb5
              have hdz := Pl.dec_le n (by omega) (by omega)
              have HIT := hid (fun W hW => Itoa_any n W (by omega) (by omega) hW)
              generalize Pl.dec (n : Int) = sd at *
              go_wp2_with fail
              refine (HIT.out _ (HTB.out.below HBw5.out)).mono ?_
              rintro e w6 ⟨rfl, hb6⟩
              have HB6 : Hid (Below wr.heap.size wr w6) := hid (HB5.out.trans (hb6.mono HB5.out.size))
              have HBw6 : Hid (Below w.heap.size w w6) := hid (HBw5.out.trans (hb6.mono HBw5.out.size))
              clear hb6
              go_wp2_with fail
              refine (HIT.out _ (HTB.out.below HBw6.out)).mono ?_
              rintro e w7 ⟨rfl, hb7⟩
              have HB7 : Hid (Below wr.heap.size wr w7) := hid (HB6.out.trans (hb7.mono HB6.out.size))
              have HBw7 : Hid (Below w.heap.size w w7) := hid (HBw6.out.trans (hb7.mono HBw6.out.size))
              clear hb7
              go_wp2_with fail
              have hs1z : (({ data := #[97, 58] } : ByteArray) ++ sd).size ≤ 100 := by rw [ByteArray.size_append]; show 2 + sd.size ≤ 100; omega
              have hs2z : (({ data := #[112, 58] } : ByteArray) ++ sd).size ≤ 100 := by rw [ByteArray.size_append]; show 2 + sd.size ≤ 100; omega
              generalize (({ data := #[97, 58] } : ByteArray) ++ sd) = s1 at *
              generalize (({ data := #[112, 58] } : ByteArray) ++ sd) = s2 at *
              have HS1 := hid hs1z
              have HS2 := hid hs2z
              clear hs1z hs2z HIT HSP HSA e0 e1 e2 ec ef HB4 HB5 HB6 HBw4 HBw5 HBw6
              obtain ⟨w8, HW8⟩ : ∃ w8, Hid (w8 = w7.alloc (.cells #[.string s1, .int .i64 1, .int .i64 (n : Int), .string t1, .string s2, .int .i64 1, .int .i64 (n : Int), .string t2] 64)) := ⟨_, hid rfl⟩
              rw [← HW8.out]
              have HB8 : Hid (Below wr.heap.size wr w8) := hid (by show Below _ _ _; rw [HW8.out]; exact HB7.out.alloc HB7.out.size _)
              have HBw8 : Hid (Below w.heap.size w w8) := hid (by show Below _ _ _; rw [HW8.out]; exact HBw7.out.alloc HBw7.out.size _)
              have hz8 : w7.heap.size < w8.heap.size := by rw [HW8.out]; simp
              have G8 : Hid ((w8.cell? ⟨w7.heap.size, 0, none⟩ = some (.string s1) ∧ w8.cell? ⟨w7.heap.size, 1, none⟩ = some (.int .i64 1) ∧ w8.cell? ⟨w7.heap.size, 2, none⟩ = some (.int .i64 (n : Int)) ∧ w8.cell? ⟨w7.heap.size, 3, none⟩ = some (.string t1)) ∧ (w8.cell? ⟨w7.heap.size, 4, none⟩ = some (.string s2) ∧ w8.cell? ⟨w7.heap.size, 5, none⟩ = some (.int .i64 1) ∧ w8.cell? ⟨w7.heap.size, 6, none⟩ = some (.int .i64 (n : Int)) ∧ w8.cell? ⟨w7.heap.size, 7, none⟩ = some (.string t2))) := hid (by show _ ∧ _; rw [HW8.out]; simp)
              go_loopw [13, 165] (fun vo i wr => ∃ (q : Nat) (el : List Pl.Ent) (z : Value), z = vo ∧ q ≤ 2 ∧ i = .int .i64 q ∧ Hid (Own wr (w.heap.size + 3) z el) ∧ Hid (Pl.Good el) ∧ Hid (Below w8.heap.size w8 wr)) (fun _ i _ => 2 - (intOf i).toNat)
              case atStart => exact ⟨0, es, _, rfl, by omega, rfl, hid (HOWr.out.below HB8.out), HG, hid (Below.refl _ _)⟩
              case round =>
                obtain ⟨q, el, z, rfl, hq, rfl, HOq, HGq, HBq⟩ := hrel
                obtain ⟨au, cu, rfl, hE, hnl, _⟩ := HOq.out.shape HGq.out.ok
                have HE := hid hE
                have HN := hid hnl
                clear hE hnl
                rename World => wq
                have hzq : w7.heap.size < wq.heap.size := Nat.lt_of_lt_of_le hz8 HBq.out.size
                have hzw : w.heap.size + 3 ≤ wq.heap.size := Nat.le_trans (Nat.le_trans (Nat.le_trans hz hzr) HB8.out.size) HBq.out.size
                by_cases hq2 : q < 2
                · obtain ⟨xk, xv, xo, xx, c0, c1, c2, c3, hxok⟩ : ∃ (xk : ByteArray) (xv xo : Int) (xx : ByteArray), wq.cell? ⟨w7.heap.size, q * 4, none⟩ = some (.string xk) ∧ wq.cell? ⟨w7.heap.size, q * 4 + 1, none⟩ = some (.int .i64 xv) ∧ wq.cell? ⟨w7.heap.size, q * 4 + 2, none⟩ = some (.int .i64 xo) ∧ wq.cell? ⟨w7.heap.size, q * 4 + 3, none⟩ = some (.string xx) ∧ Hid (Pl.Ent.ok ⟨xk, xv, xo, xx⟩) := by
                    have hcc := (bcell HBq.out).1
                    have hmx : (100 : Nat) ≤ maxLen := by decide
                    have hmy : (4398046511103 : Nat) ≤ maxLen := by decide
                    obtain ⟨⟨g0, g1, g2, g3⟩, g4, g5, g6, g7⟩ := G8.out
                    obtain rfl | rfl : q = 0 ∨ q = 1 := by omega
                    · exact ⟨s1, 1, n, t1, (hcc _ _ hz8).trans g0, (hcc _ _ hz8).trans g1, (hcc _ _ hz8).trans g2, (hcc _ _ hz8).trans g3, hid ⟨Nat.le_trans HS1.out hmx, by dsimp only; decide, WalkArith.wf_i64 (by dsimp only; omega), Nat.le_trans HTX.out hmy⟩⟩
                    · exact ⟨s2, 1, n, t2, (hcc _ _ hz8).trans g4, (hcc _ _ hz8).trans g5, (hcc _ _ hz8).trans g6, (hcc _ _ hz8).trans g7, hid ⟨Nat.le_trans HS2.out hmx, by dsimp only; decide, WalkArith.wf_i64 (by dsimp only; omega), Nat.le_trans HTP.out hmy⟩⟩
                  have HA1 : Hid (Below wq.heap.size wq (wq.alloc (.cells #[.string xk, .int .i64 xv, .int .i64 xo, .string xx] 64))) := hid (al _ _)
                  have HA2 : Hid (Below wq.heap.size wq ((wq.alloc (.cells #[.string xk, .int .i64 xv, .int .i64 xo, .string xx] 64)).alloc (.cells #[.string xk, .int .i64 xv, .int .i64 xo, .string xx] 64))) := hid (HA1.out.alloc HA1.out.size _)
                  have HI1 : Hid (IsEnts ((wq.alloc (.cells #[.string xk, .int .i64 xv, .int .i64 xo, .string xx] 64)).alloc (.cells #[.string xk, .int .i64 xv, .int .i64 xo, .string xx] 64)) (some ⟨wq.heap.size + 1, 0, none⟩) 1 1 [⟨xk, xv, xo, xx⟩]) := by
                    refine ⟨rfl, Nat.le_refl _, by decide, ?_, .inr ⟨_, _, rfl, by simp, ?_⟩⟩
                    · intro e he; rw [List.mem_singleton.1 he]; exact hxok.out
                    · intro i hi
                      obtain rfl : i = 0 := by simp at hi; omega
                      simp [Pl.ent]
                  go_wp2_with fail
                  refine (Merge_any _ _ _ el _ _ _ [⟨xk, xv, xo, xx⟩] _ (HE.out.below HA2.out) HN.out HI1.out).mono ?_
                  rintro e w9 ⟨vo, vk, rfl, ho9, _, hb9⟩
                  generalize Pl.mergeC el [⟨xk, xv, xo, xx⟩] = mc at *
                  have HO9 : Hid (Own w9 (w.heap.size + 3) vo (Pl.mergeO el [⟨xk, xv, xo, xx⟩])) := hid (ho9.mono (Nat.le_trans hzw HA2.out.size))
                  have HB9 : Hid (Below w8.heap.size w8 w9) := hid (by
                    have b2 := HBq.out.trans (HA2.out.mono HBq.out.size)
                    exact b2.trans (hb9.mono b2.size))
                  have HG9 := hid (Pl.merge_goodM el [⟨xk, xv, xo, xx⟩])
                  clear ho9 hb9 c0 c1 c2 c3
                  go_wp2_with fail
                  go_roundw
                  case rel => exact ⟨q + 1, _, _, rfl, by omega, by go_num, HO9, HG9, HB9⟩
                  case measure => simp [intOf]; omega
                · obtain rfl : q = 2 := by omega
                  have HBq' : Hid (Below wr.heap.size wr wq) := hid (HB8.out.trans (HBq.out.mono HB8.out.size))
                  have HBwq : Hid (Below w.heap.size w wq) := hid (HBw8.out.trans (HBq.out.mono HBw8.out.size))
                  go_wp2_with fail
                  go_roundw
                  case rel => exact ⟨n + 1, el, _, rfl, by omega, by go_num, HOq, HGq, hid (HCr.out.below HBq'.out), hid (HD4.out.two.below HBq'.out), hid (HOr.out.below HBq'.out), HBwq, hzw⟩
                  case measure => simp [intOf]; omega
        · obtain rfl : n = nodes := by omega
          go_wp2_with fail
          go_ret
          exact ⟨_, _, rfl, HOW.out.mono (by omega), HG.out, HB.out⟩
end Go.Proofs.YtcdobhdbafpkiadDoor
