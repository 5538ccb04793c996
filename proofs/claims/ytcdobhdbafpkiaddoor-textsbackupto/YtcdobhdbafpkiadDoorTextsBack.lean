/-
  Proved: what raw things make a node tell of links and prefixes is read as it was shown, and a text that can be read is shown as it was (the law TextsBack returns true and leaves its arguments as they were); the conditions: what it reads is of bulk at most 1048576 (the second form), and strconv's table holds what the program's text lays (the card ties it).
-/
import Derived.Test.YtcdobhdbafpkiadDoorCards
import Derived.Test.YtcdobhdbafpkiadDoorTie
import Derived.Test.YtcdobhdbafpkiadDoorAll1
import Derived.Test.YtcdobhdbafpkiadDoorAll4
import Derived.Test.YtcdobhdbafpkiadDoorAll5
import Derived.Deep.DeepHandedRow
import Derived.Lib.LaidTab
namespace Go.Proofs.YtcdobhdbafpkiadDoor.textsBack
open Go.ChangeShapes Go.WideShapes Go.ChangeAt Go.RowKit
set_option maxRecDepth 20000
open Go.ChangeMaps (open_string shut_string)
theorem size_bulk {H : Type} (a : ByteArray) : Rows.uptoBulk (DataW.lit (H := H) (.string a.data.toList)) = a.size + 1 := by
  simp [Rows.uptoBulk]
set_option linter.unusedVariables false

set_option maxHeartbeats 4000000 in
theorem walk (a : Option Addr) (len cap : Nat) (s : ByteArray) (w : World) (h : IsRaws w a len cap) (hs : s.size ≤ 1048576) (hT : Tab w) :
    Calls Tryd.prog 3 #[.slice a len cap, .string s] w fun e w' => e = .returned (.bool true) ∧ Below w.heap.size w w' := by
  have HH := hid h
  have HTB := hid hT
  have hcap := h.1
  have hmax := h.2.1
  unfold maxLen at hmax
  clear h hT
  obtain ⟨dd, HDD⟩ : ∃ dd, Hid (((len : Int) % 2 == 0) = dd) := ⟨_, hid rfl⟩
  have htm : (len : Int).tmod 2 = (len : Int) % 2 := Int.tmod_eq_emod_of_nonneg (by omega)
  have hdd := HDD.out
  go_enter Tryd.func3, Tryd.ntmps3
  go_wp2_with fail
  clear htm hdd
  go_loopw [7] (fun i wr => ∃ (k : Nat) (v : Value) (acc : List (Int × Int)), k ≤ len ∧ k ≤ 12 ∧ i = .int .i64 k ∧ Hid (wr.heap[w.heap.size]? = some (.cells #[.bool dd, v] 25)) ∧ Hid (OwnP 31 wr (w.heap.size + 1) v acc) ∧ Hid (Pl.adjF acc = 0) ∧ Hid (∀ p ∈ acc, p.1 < (k : Int)) ∧ Below w.heap.size w wr) (fun i _ => len - (intOf i).toNat)
  case atStart => exact ⟨0, _, [], Nat.zero_le _, by omega, rfl, hid (heapNew _ _), hid (OwnP.nil _ _ _), hid rfl, hid (by simp), (Below.refl _ _).alloc (Nat.le_refl _) _⟩
  case round =>
    obtain ⟨k, v, acc, hk, hk12, rfl, HB, HO, HF, HLT, hb⟩ := hrel
    obtain ⟨y0, y1, g0, g1, hzr⟩ := adjAt_cells HB.out
    obtain ⟨av, nv, cv, rfl⟩ := HO.out.slice
    by_cases hlt : k < len ∧ k < 12
    · obtain ⟨hlt, hlt12⟩ := hlt
      obtain ⟨b, off, rfl, hbw, hr⟩ : ∃ b off, a = some ⟨b, off, none⟩ ∧ b < wr.heap.size ∧ ∃ k0 k1 k2 k3 : Int,
          (wr.cell? ⟨b, off + k * 4, none⟩ = some (.int .i64 k0) ∧ wr.cell? ⟨b, off + k * 4 + 1, none⟩ = some (.int .i64 k1) ∧ wr.cell? ⟨b, off + k * 4 + 2, none⟩ = some (.int .i64 k2) ∧ wr.cell? ⟨b, off + k * 4 + 3, none⟩ = some (.int .i64 k3)) ∧
          (Lit.int .i64 k0).wf = true ∧ (Lit.int .i64 k1).wf = true ∧ (Lit.int .i64 k2).wf = true ∧ (Lit.int .i64 k3).wf = true := by
        obtain ⟨_, _, h0 | ⟨b, off, e, hbw, hr⟩⟩ := HH.out.below hb
        · omega
        · exact ⟨b, off, e, hbw, hr k hlt⟩
      obtain ⟨k0, k1, k2, k3, ⟨c0, c1, c2, c3⟩, f0, f1, f2, f3⟩ := hr
      have b1 := wf_bounds f1
      have b2 := wf_bounds f2
      obtain ⟨pk1, HP1⟩ : ∃ c, Hid (Pl.pk k1 2 = c) := ⟨_, hid rfl⟩
      by_cases hp0 : pk1 = 0
      · subst hp0
        go_wp2_with fail
        refine (picked_any k1 2 _ b1.1 b1.2 (by omega) (by omega)).mono ?_
        rw [HP1.out]
        rintro e w1 ⟨rfl, rfl⟩
        go_wp2_with fail
        obtain ⟨c, HC⟩ : ∃ c, Hid (Pl.pk k2 1000 = c) := ⟨_, hid rfl⟩
        have hc : 0 ≤ c ∧ c < 1000 := by rw [← HC.out]; exact Pl.pk_range _ _ (by omega)
        have hal : acc.length ≤ 12 := (Pl.adjF_ok HF.out).1
        have hob := HO.out
        generalize ha0 : Act.mk _ _ = a0
        have hsz : a0.tmps.size = 152 := by rw [← ha0]; rfl
        have q0 : a0.tmps[0]?.getD undef = .slice (some ⟨b, off, none⟩) len cap := by rw [← ha0]; rfl
        have q5 : a0.tmps[5]?.getD undef = .pointer (some ⟨w.heap.size, 0, none⟩) := by rw [← ha0]; rfl
        have q7 : a0.tmps[7]?.getD undef = .int .i64 k := by rw [← ha0]; rfl
        have hBB : w.heap.size + 1 ≤ w1.heap.size := by omega
        refine wp_region_any (by kernel_rfl) ?_
        refine wpAny_inv2 (TInv w.heap.size dd (.slice av nv cv) acc k c k2 (.slice (some ⟨b, off, none⟩) len cap) b off k w1 a0) ?_ ?_ _ _ _ _ (by decide +kernel) ?_ (closed_start _ _ _)
        · intro i listed a W hi hC hI
          rw [mem_ready] at hi
          obtain ⟨hl, o, ho, hall⟩ := hi
          have hlt15 : i < 15 := (Array.getElem?_eq_some_iff.1 ho).1
          have hnl : listed.getD i false = false := by
            have hls := hI.ls
            have hil : i < listed.size := by omega
            simp [hil] at hl ⊢
            exact hl
          have hn12 : i < 12 → listed.getD 12 false = false := by
            intro hi12
            cases h12 : listed.getD 12 false with
            | false => rfl
            | true =>
              exfalso
              have q1 := hC 12 _ rfl h12 ⟨1, .data⟩ (by simp) rfl
              have q11 := hC 12 _ rfl h12 ⟨11, .data⟩ (by simp) rfl
              have q0 := hC 1 _ rfl q1 ⟨0, .data⟩ (by simp) rfl
              have q10 := hC 11 _ rfl q11 ⟨10, .data⟩ (by simp) rfl
              have q2 := hC 10 _ rfl q10 ⟨2, .data⟩ (by simp) rfl
              have q9 := hC 10 _ rfl q10 ⟨9, .data⟩ (by simp) rfl
              have q8 := hC 9 _ rfl q9 ⟨8, .data⟩ (by simp) rfl
              have q7 := hC 8 _ rfl q8 ⟨7, .data⟩ (by simp) rfl
              have q6 := hC 7 _ rfl q7 ⟨6, .data⟩ (by simp) rfl
              have q5 := hC 6 _ rfl q6 ⟨5, .data⟩ (by simp) rfl
              have q3 := hC 5 _ rfl q5 ⟨3, .data⟩ (by simp) rfl
              have q4 := hC 5 _ rfl q5 ⟨4, .data⟩ (by simp) rfl
              simp only at q1 q11 q0 q10 q2 q9 q8 q7 q6 q5 q3 q4
              have hcs : i = 0 ∨ i = 1 ∨ i = 2 ∨ i = 3 ∨ i = 4 ∨ i = 5 ∨ i = 6 ∨ i = 7 ∨ i = 8 ∨ i = 9 ∨ i = 10 ∨ i = 11 := by omega
              clear ho hall hC hI
              rcases hcs with rfl | rfl | rfl | rfl | rfl | rfl | rfl | rfl | rfl | rfl | rfl | rfl <;> simp_all
          have hn14 : i < 14 → listed.getD 14 false = false := by
            intro hi14
            cases h14 : listed.getD 14 false with
            | false => rfl
            | true =>
              exfalso
              obtain ⟨g12, g13⟩ := hI.al h14
              rcases Nat.lt_or_ge i 12 with h | h
              · rw [hn12 h] at g12; cases g12
              · obtain rfl | rfl : i = 12 ∨ i = 13 := by omega
                · rw [g12] at hnl; cases hnl
                · rw [g13] at hnl; cases hnl
          have o0 := (hI.out (k := 0) (by omega)).trans q0
          have o5 := (hI.out (k := 5) (by omega)).trans q5
          have o7 := (hI.out (k := 7) (by omega)).trans q7
          have hcs : i = 0 ∨ i = 1 ∨ i = 2 ∨ i = 3 ∨ i = 4 ∨ i = 5 ∨ i = 6 ∨ i = 7 ∨ i = 8 ∨ i = 9 ∨ i = 10 ∨ i = 11 ∨ i = 12 ∨ i = 13 ∨ i = 14 := by omega
          rcases hcs with rfl | rfl | rfl | rfl | rfl | rfl | rfl | rfl | rfl | rfl | rfl | rfl | rfl | rfl | rfl
          all_goals
            simp at ho
            subst ho
            refine wpOp_of rfl rfl ?_
          · simp [Oper.wp, go_sem, o5]
            exact hI.put (j := 0) (by omega) (hn12 (by omega)) (hn14 (by omega)) (Below.refl _ _) rfl
          · have e1 : a.tmps[43]?.getD undef = .pointer (some ⟨w.heap.size, 1, none⟩) := hI.at (k := 0) hsz (hn12 (by omega)) (by omega) (hall ⟨0, .data⟩ (by simp) rfl)
            have e2 := ((bcell (hI.nb (hn12 (by omega)))).1 w.heap.size 1 hzr).trans y1
            simp [Oper.wp, go_sem, e1, e2]
            exact hI.put (j := 1) (by omega) (hn12 (by omega)) (hn14 (by omega)) (Below.refl _ _) rfl
          · simp [Oper.wp, go_sem, o7]
            exact hI.put (j := 2) (by omega) (hn12 (by omega)) (hn14 (by omega)) (Below.refl _ _) rfl
          · simp [Oper.wp, go_sem, o0]
            exact hI.put (j := 3) (by omega) (hn12 (by omega)) (hn14 (by omega)) (Below.refl _ _) rfl
          · simp [Oper.wp, go_sem, o7]
            exact hI.put (j := 4) (by omega) (hn12 (by omega)) (hn14 (by omega)) (Below.refl _ _) rfl
          · have e1 : a.tmps[46]?.getD undef = .slice (some ⟨b, off, none⟩) len cap := hI.at (k := 3) hsz (hn12 (by omega)) (by omega) (hall ⟨3, .data⟩ (by simp) rfl)
            have e2 : a.tmps[47]?.getD undef = .int .i64 k := hI.at (k := 4) hsz (hn12 (by omega)) (by omega) (hall ⟨4, .data⟩ (by simp) rfl)
            simp [Oper.wp, go_sem, e1, e2, hlt]
            exact hI.put (j := 5) (by omega) (hn12 (by omega)) (hn14 (by omega)) (Below.refl _ _) rfl
          · have e1 : a.tmps[48]?.getD undef = .pointer (some ⟨b, off + k * 4, none⟩) := hI.at (k := 5) hsz (hn12 (by omega)) (by omega) (hall ⟨5, .data⟩ (by simp) rfl)
            simp [Oper.wp, go_sem, e1]
            exact hI.put (j := 6) (by omega) (hn12 (by omega)) (hn14 (by omega)) (Below.refl _ _) rfl
          · have e1 : a.tmps[49]?.getD undef = .pointer (some ⟨b, off + k * 4 + 2, none⟩) := hI.at (k := 6) hsz (hn12 (by omega)) (by omega) (hall ⟨6, .data⟩ (by simp) rfl)
            have e2 := ((bcell (hI.nb (hn12 (by omega)))).1 b (off + k * 4 + 2) hbw).trans c2
            simp [Oper.wp, go_sem, e1, e2]
            exact hI.put (j := 7) (by omega) (hn12 (by omega)) (hn14 (by omega)) (Below.refl _ _) rfl
          · have e1 : a.tmps[50]?.getD undef = .int .i64 k2 := hI.at (k := 7) hsz (hn12 (by omega)) (by omega) (hall ⟨7, .data⟩ (by simp) rfl)
            simp [Oper.wp, go_sem, e1]
            refine (picked_any k2 1000 _ b2.1 b2.2 (by omega) (by omega)).mono ?_
            rw [HC.out]
            rintro e w2 ⟨rfl, rfl⟩
            exact hI.put (j := 8) (by omega) (hn12 (by omega)) (hn14 (by omega)) (Below.refl _ _) rfl
          · have e1 : a.tmps[51]?.getD undef = .int .i64 c := hI.at (k := 8) hsz (hn12 (by omega)) (by omega) (hall ⟨8, .data⟩ (by simp) rfl)
            have hwr : IntKind.i64.wrap (1 + c) = 1 + c := by rw [IntKind.wrap_i64]; omega
            simp [Oper.wp, go_sem, e1, hwr]
            exact hI.put (j := 9) (by omega) (hn12 (by omega)) (hn14 (by omega)) (Below.refl _ _) rfl
          · have e1 : a.tmps[45]?.getD undef = .int .i64 k := hI.at (k := 2) hsz (hn12 (by omega)) (by omega) (hall ⟨2, .data⟩ (by simp) rfl)
            have e2 : a.tmps[52]?.getD undef = .int .i64 (1 + c) := hI.at (k := 9) hsz (hn12 (by omega)) (by omega) (hall ⟨9, .data⟩ (by simp) rfl)
            simp [Oper.wp, go_sem, e1, e2]
            exact hI.put (j := 10) (by omega) (hn12 (by omega)) (hn14 (by omega)) (Below.refl _ _) rfl
          · have e1 : a.tmps[53]?.getD undef = .agg #[.int .i64 k, .int .i64 (1 + c)] := hI.at (k := 10) hsz (hn12 (by omega)) (by omega) (hall ⟨10, .data⟩ (by simp) rfl)
            simp [Oper.wp, go_sem, e1]
            exact hI.put (j := 11) (by omega) (hn12 (by omega)) (hn14 (by omega)) ((Below.refl _ _).alloc (Nat.le_refl _) _) ⟨W.heap.size, rfl, by simp, by simp, by simp⟩
          · have hn : listed.getD 12 false = false := hnl
            have e1 : a.tmps[44]?.getD undef = .slice av nv cv := hI.at (k := 1) hsz hn (by omega) (hall ⟨1, .data⟩ (by simp) rfl)
            obtain ⟨bb, e2, hbb, hc0, hc1⟩ := hI.at (k := 11) hsz hn (by omega) (hall ⟨11, .data⟩ (by simp) rfl)
            simp only [Nat.reduceAdd] at e2
            have hnb := hI.nb hn
            have hoW : OwnP 31 W (w.heap.size + 1) (.slice av nv cv) acc := hob.below hnb
            have hlt2 := World.ownsRow.lt hoW
            have hbase : w.heap.size + 1 ≤ W.heap.size := Nat.le_trans hBB hnb.size
            obtain ⟨i0, hi0, hz0, hz1', hz2'⟩ := partsOf infoSide
            refine wp_append_own W (.tmp 44) (.tmp 54) 23 rfl (w.heap.size + 1) 31 i0 _ 2 16 Tryd.underlying23 hi0 hz0 hz1' hz2' rfl (by decide) (.slice av nv cv) acc.length (cellsP acc) (by simpa [go_sem] using e1) hoW ⟨bb, 0, none⟩ 1 1 [.int .i64 k, .int .i64 (1 + c)] (by simpa [go_sem] using e2) rfl ?_ ?_ (by unfold maxLen; omega) (by omega) hbase ?_
            · intro j u hj
              match j, hj with
              | 0, hj => simp at hj; subst hj; rw [add_none]; exact hc0
              | 1, hj => simp at hj; subst hj; rw [add_none]; exact hc1
            · intro u hu; simp at hu; rcases hu with rfl | rfl <;> rfl
            · intro v' w' hown' hg _
              have hbel : Below (w.heap.size + 1) w1 w' := (hnb.mono hBB).grown hg hbase (fun k hk => (hlt2 k hk).1)
              have h12 : (listed.setIfInBounds 12 true).getD 12 false = true := by
                have hls := hI.ls
                simp [hls]
              have h14 : (listed.setIfInBounds 12 true).getD 14 false = false := by rw [getD_set_ne false (by omega)]; exact hn14 (by omega)
              have hO' : OwnP 31 w' (w.heap.size + 1) v' (acc ++ [((k : Int), 1 + c)]) := by
                unfold OwnP
                rw [cellsP_append]
                simpa [cellsP] using hown'
              obtain ⟨aa, m, cp, rfl⟩ := hO'.slice
              obtain ⟨xs, hxl, rfl, hf, h13, _⟩ := hI.fr
              show TInv w.heap.size dd (.slice av nv cv) acc k c k2 (.slice (some ⟨b, off, none⟩) len cap) b off k w1 a0 (listed.setIfInBounds 12 true) (Act.put { a0 with tmps := setFrom a0.tmps 43 xs } (some (43 + 12)) (.slice aa m cp)) w'
              refine ⟨by simp [hI.ls], ⟨xs.set 12 (.slice aa m cp), by simp [hxl], frame_put (by omega), (fun h' => by rw [h12] at h'; cases h'), ?_, ?_⟩, (fun h' => by rw [h12] at h'; cases h'), (fun _ _ => hbel), (fun h' => by rw [h14] at h'; cases h'), (fun h' => by rw [h14] at h'; cases h')⟩
              · intro hlk
                rw [getD_set_ne false (by omega)] at hlk
                have : (xs.set 12 (.slice aa m cp)).getD 13 undef = xs.getD 13 undef := by simp [List.getD, List.getElem?_set_ne]
                rw [this]; exact h13 hlk
              · intro _ _
                exact ⟨aa, m, cp, by simp [List.getD, hxl], hO'⟩
          · simp [Oper.wp, go_sem, o5]
            exact hI.put13 (hn14 (by omega))
          · have hn : listed.getD 14 false = false := hnl
            have g12 := hall ⟨12, .data⟩ (by simp) rfl
            have g13 := hall ⟨13, .data⟩ (by simp) rfl
            simp only at g12 g13
            obtain ⟨aa, m, cp, e1, ho1⟩ := hI.at12 hsz g12 hn
            have e2 := hI.at13 hsz g13
            have hna := hI.na g12 hn
            have hBh : W.heap[w.heap.size]? = some (.cells #[.bool dd, .slice av nv cv] 25) := (hna.block w.heap.size (by omega)).trans HB.out
            obtain ⟨z0, z1, zf0, zf1, zz⟩ := adjAt_cells hBh
            simp [Oper.wp, go_sem, e1, e2, z1, zf1]
            have h14 : (listed.setIfInBounds 14 true).getD 14 false = true := by
              have hls := hI.ls
              simp [hls]
            have h12 : (listed.setIfInBounds 14 true).getD 12 false = true := by rw [getD_set_ne false (by omega)]; exact g12
            have h13 : (listed.setIfInBounds 14 true).getD 13 false = true := by rw [getD_set_ne false (by omega)]; exact g13
            obtain ⟨xs, hxl, rfl, hf, hx13, _⟩ := hI.fr
            refine ⟨by simp [hI.ls], ⟨xs, hxl, rfl, (fun h' => by rw [h12] at h'; cases h'), (fun _ => hx13 g13), (fun _ h' => by rw [h14] at h'; cases h')⟩, (fun h' => by rw [h12] at h'; cases h'), (fun _ h' => by rw [h14] at h'; cases h'), (fun _ => ⟨h12, h13⟩), fun _ => ⟨aa, m, cp, ownsRow_setCell_below ho1 (by simp) _, (hna.mono (Nat.le_succ _)).setCell (Nat.le_refl _) _, adjAt_set hBh _⟩⟩
        · intro listed a W hr hI
          rename_i K hK
          have hal := all_listed (by decide +kernel) hI.ls hr 14 (by decide)
          obtain ⟨aa, m, cp, ho1, hb1, hh1⟩ := hI.dn hal
          obtain ⟨xs, hxl, rfl, _⟩ := hI.fr
          obtain ⟨x0, x1, x2, x3, x4, x5, x6, x7, x8, x9, x10, x11, x12, x13, rfl⟩ := list14 xs hxl
          clear hI hr hxl q0 q5 q7 hsz
          have HH1 := hid hh1
          have HO1 := hid ho1
          have HF1 := hid (Pl.adjF_snoc (k := k) (c := 1 + c) HF.out HLT.out (by omega) (by omega))
          have HLT1 : Hid (∀ p ∈ acc ++ [((k : Int), 1 + c)], p.1 < ((k + 1 : Nat) : Int)) := hid (by
            intro p hp
            rcases List.mem_append.1 hp with hp | hp
            · have := HLT.out p hp; omega
            · simp at hp; subst hp; simp only; omega)
          clear hh1 ho1 HF HLT HO HB hob y0 y1 g0 g1 c0 c1 c2 c3
          rw [← ha0]
          simp only [setFrom]
          refine hK _ W ?_
          go_wp2_with fail
          go_roundw
          case rel => exact ⟨k + 1, _, _, by omega, by omega, by go_num, HH1, HO1, HF1, HLT1, hb.trans hb1⟩
          case measure => simp [intOf]; omega
        · obtain ⟨xs, hxl, hxs⟩ := setFrom_self 14 a0.tmps 43 (by omega)
          have hrep : ∀ k, (Array.replicate 15 false).getD k false = false := by
            intro k
            by_cases hk' : k < 15 <;> simp [hk']
          refine ⟨by rfl, ⟨xs, hxl, by rw [hxs], ?_, ?_, ?_⟩, (fun _ => Below.drew (Below.refl _ _)), ?_, ?_, ?_⟩
          · intro _ j _ h; exact absurd ((hrep j).symm.trans h) (by simp)
          · intro h; exact absurd ((hrep 13).symm.trans h) (by simp)
          · intro h; exact absurd ((hrep 12).symm.trans h) (by simp)
          · intro h; exact absurd ((hrep 12).symm.trans h) (by simp)
          · intro h; exact absurd ((hrep 14).symm.trans h) (by simp)
          · intro h; exact absurd ((hrep 14).symm.trans h) (by simp)
      · have hp0' : (pk1 == 0) = false := by simpa using hp0
        clear hp0
        go_wp2_with fail
        refine (picked_any k1 2 _ b1.1 b1.2 (by omega) (by omega)).mono ?_
        rw [HP1.out]
        rintro e w1 ⟨rfl, rfl⟩
        go_wp2_with fail
        go_roundw
        case rel => exact ⟨k + 1, _, acc, by omega, by omega, by go_num, HB, HO, HF, hid (fun p hp => by have := HLT.out p hp; omega), hb⟩
        case measure => simp [intOf]; omega
    · have hcase : (¬ k < len) ∨ (k < len ∧ k = 12) := by omega
      have HHr := hid (HH.out.below hb)
      have HTr := hid (HTB.out.below hb)
      have HAK := hid (Pl.adjF_ok HF.out)
      obtain ⟨aA, capA, hav, hpA, _, _⟩ := OwnP.shape HO.out (fun p hp => Pl.small_ok (HAK.out.2 p hp))
      cases hav
      have HPA := hid hpA
      clear hpA HH HTB HO HLT
      obtain ⟨wA, rfl⟩ : ∃ wA, wA = wr := ⟨_, rfl⟩
      rcases hcase with hk1 | ⟨hk1, rfl⟩
      all_goals
        go_wp2_with fail
        go_loopw [6, 8] (fun vp i w5 => ∃ (k3 : Nat) (v2 : Value) (ps2 : List (Int × Int)), v2 = vp ∧ k3 ≤ len ∧ k3 ≤ 6 ∧ i = .int .i64 k3 ∧ Hid (OwnP 33 w5 wA.heap.size v2 ps2) ∧ ps2.length = k3 ∧ Hid (Pl.tbP ps2) ∧ Below wA.heap.size wA w5) (fun _ i _ => len - (intOf i).toNat)
        case atStart => exact ⟨0, _, [], rfl, Nat.zero_le _, by omega, rfl, hid (OwnP.nil _ _ _), rfl, hid (fun j hj => by simp at hj), Below.refl _ _⟩
        case round =>
          obtain ⟨k3, v2, ps2, rfl, hk3, hk36, rfl, HO2, hl2, HT2, hb2⟩ := hrel
          by_cases hlt : k3 < len ∧ k3 < 6
          · obtain ⟨hlt3, hlt6⟩ := hlt
            obtain ⟨b, off, rfl, hbw, hr⟩ : ∃ b off, a = some ⟨b, off, none⟩ ∧ b < wr.heap.size ∧ ∃ j0 j1 j2 j3 : Int,
                (wr.cell? ⟨b, off + k3 * 4, none⟩ = some (.int .i64 j0) ∧ wr.cell? ⟨b, off + k3 * 4 + 1, none⟩ = some (.int .i64 j1) ∧ wr.cell? ⟨b, off + k3 * 4 + 2, none⟩ = some (.int .i64 j2) ∧ wr.cell? ⟨b, off + k3 * 4 + 3, none⟩ = some (.int .i64 j3)) ∧
                (Lit.int .i64 j0).wf = true ∧ (Lit.int .i64 j1).wf = true ∧ (Lit.int .i64 j2).wf = true ∧ (Lit.int .i64 j3).wf = true := by
              obtain ⟨_, _, h0 | ⟨b, off, e, hbw, hr⟩⟩ := HHr.out.below hb2
              · omega
              · exact ⟨b, off, e, hbw, hr k3 hlt3⟩
            obtain ⟨j0, j1, j2, j3, ⟨c0, c1, c2, c3⟩, f0, f1, f2, f3⟩ := hr
            have b3 := wf_bounds f3
            obtain ⟨c, HC⟩ : ∃ c, Hid (Pl.pk j3 6 = c) := ⟨_, hid rfl⟩
            have hc : 0 ≤ c ∧ c < 6 := by rw [← HC.out]; exact Pl.pk_range _ _ (by omega)
            have hsz2 := hb2.size
            go_wp2_with fail
            refine (picked_any j3 6 _ b3.1 b3.2 (by omega) (by omega)).mono ?_
            rw [HC.out]
            rintro e w1 ⟨rfl, rfl⟩
            go_wp2_with (at_builtin; refine append_pairT Tryd.underlying26 infoPfx rfl (.tmp 67) (.tmp 78) rfl wA.heap.size v2 ps2 (32 * (k3 : Int), 3 + c) rfl HO2.out hsz2 rfl (by omega) ?_; intro v5 w5 ho5 hb5 _; have HO5 := hid ho5; clear ho5)
            go_roundw
            case rel => exact ⟨k3 + 1, v5, ps2 ++ [(32 * (k3 : Int), 3 + c)], rfl, by omega, by omega, by go_num, HO5, by simp; omega, hid (by have := Pl.tbP_snoc HT2.out (b := 3 + c) (by omega); rw [hl2] at this; exact this), hb2.trans hb5⟩
            case measure => simp [intOf]; omega
          · have hcase2 : (¬ k3 < len) ∨ (k3 < len ∧ k3 = 6) := by omega
            have HPF := hid (Pl.tbP_ok HT2.out (by omega))
            have HPK := hid (Pl.pfxF_ok HPF.out)
            obtain ⟨aP, capP, rfl, hpP, _, _⟩ := OwnP.shape HO2.out (fun p hp => Pl.small_ok (HPK.out.2 p hp))
            have HP3 : Hid (∀ n, n = k3 → IsPairs wr aP n capP ps2) := hid (fun n hn => by rw [hn, ← hl2]; exact hpP)
            clear hpP HO2
            have HAB := hid (Pl.adj_back (d := dd) HF.out)
            have HPB := hid (Pl.pfx_back HPF.out)
            have HSZ : Hid ((Pl.adjText dd acc).size ≤ 4398046511103) := hid (Pl.adjText_size HF.out)
            have HSZ2 : Hid ((Pl.pfxText ps2).size ≤ 4398046511103) := hid (Pl.pfxText_size HPF.out)
            have z0 := (hb2.cell (p := ⟨w.heap.size, 0, none⟩) hzr).trans y0
            have z1 := (hb2.cell (p := ⟨w.heap.size, 1, none⟩) hzr).trans y1
            have hsz2 := hb2.size
            rcases hcase2 with hk2 | ⟨hk2, hk6⟩
            all_goals try (exfalso; omega)
            all_goals
              go_wp2_with fail
              refine (ShowAdj_any dd av acc.length cv acc _ (HPA.out.below hb2) (HTr.out.below hb2)).mono ?_
              rw [HF.out]
              rintro e w2 ⟨rfl, hbS⟩
              go_wp2_with fail
              refine (ReadAdj_any (Pl.adjText dd acc) _ HSZ.out).mono ?_
              rw [HAB.out.1, HAB.out.2.1, HAB.out.2.2]
              rintro e w3 ⟨vB, rfl, hoB, hbR⟩
              obtain ⟨aB, capB, rfl, hpB, _, _⟩ := OwnP.shape hoB (fun p hp => Pl.small_ok (HAK.out.2 p hp))
              have HPBB := hid hpB
              clear hpB hoB
              have hX3 := hbS.trans (hbR.mono hbS.size)
              go_wp2_with fail
              have hX3a := hX3.alloc hX3.size (.cells #[.bool dd, .slice aB acc.length capB] 25)
              refine (ShowPrefixes_any aP _ capP ps2 _ ((HP3.out _ (by omega)).below hX3a) (HTr.out.below (hb2.trans (hX3a.mono hsz2)))).mono ?_
              rw [HPF.out]
              rintro e w4 ⟨rfl, hb4⟩
              have hX4 := hX3a.trans (hb4.mono hX3a.size)
              have hY4 : Below (w3.heap.size + 1) (w3.alloc (.cells #[.bool dd, .slice aB acc.length capB] 25)) w4 := by simpa using hb4
              clear hb4
              go_wp2_with fail
              refine (ReadPrefixes_any (Pl.pfxText ps2) _ HSZ2.out).mono ?_
              rw [HPB.out.1, HPB.out.2]
              rintro e w5 ⟨vQ, rfl, hoQ, hb5⟩
              obtain ⟨aQ, capQ, rfl, hpQ, _, _⟩ := OwnP.shape hoQ (fun p hp => Pl.small_ok (HPK.out.2 p hp))
              have HQ3 : Hid (∀ n, n = k3 → IsPairs w5 aQ n capQ ps2) := hid (fun n hn => by rw [hn, ← hl2]; exact hpQ)
              have hX5 := hX4.trans (hb5.mono hX4.size)
              have hY5 := hY4.trans (hb5.mono (by have := hY4.size; simp at this; omega))
              clear hpQ hoQ
              obtain ⟨cs, HCS⟩ : ∃ cs, Hid (Pl.adjC s.data.toList = cs) := ⟨_, hid rfl⟩
              by_cases hcs : cs = 0
              · subst hcs
                have HSH := hid (Pl.adj_show s HCS.out)
                have HSK := hid (Pl.adjF_ok HSH.out.2)
                go_wp2_with fail
                refine (ReadAdj_any s _ (by omega)).mono ?_
                rw [HCS.out]
                rintro e w6 ⟨vX, rfl, hoX, hb6⟩
                obtain ⟨aX, capX, rfl, hpX, _, _⟩ := OwnP.shape hoX (fun p hp => Pl.small_ok (HSK.out.2 p hp))
                have HPX := hid hpX
                have hX6 := hX5.trans (hb6.mono hX5.size)
                have hY6 := hY5.trans (hb6.mono (by have := hY5.size; simp at this; omega))
                clear hpX hoX
                go_wp2_with fail
                have hA6 := (Below.refl w6.heap.size w6).alloc (Nat.le_refl _) (.cells #[.bool (Pl.adjD s.data.toList), .slice aX (Pl.adjS s.data.toList).length capX] 25)
                have hX7 := hX6.trans (hA6.mono hX6.size)
                have hY7 := hY6.trans (hA6.mono (by have := hY6.size; simp at this; omega))
                refine (ShowAdj_any (Pl.adjD s.data.toList) aX _ capX (Pl.adjS s.data.toList) _ (HPX.out.below hA6) (HTr.out.below (hb2.trans (hX7.mono hsz2)))).mono ?_
                rw [HSH.out.1, HSH.out.2]
                rintro e w8 ⟨rfl, hb8⟩
                have hb8' : Below w6.heap.size (w6.alloc (.cells #[.bool (Pl.adjD s.data.toList), .slice aX (Pl.adjS s.data.toList).length capX] 25)) w8 := hb8.mono (by simp)
                have hX8 := hX7.trans (hb8'.mono hX6.size)
                have hY8 := hY7.trans (hb8'.mono (by have := hY6.size; simp at this; omega))
                obtain ⟨n0, n1, n2, n3⟩ := box2 hY8
                have m0 := (hX8.cell (p := ⟨w.heap.size, 0, none⟩) (by show w.heap.size < _; omega)).trans z0
                have m1 := (hX8.cell (p := ⟨w.heap.size, 1, none⟩) (by show w.heap.size < _; omega)).trans z1
                have hZ8 : Below w5.heap.size w5 w8 := hb6.trans ((hA6.trans hb8').mono hb6.size)
                clear hb8 hb8' hA6
                go_wp2_with fail
                refine (EqualS_eq av acc.length cv acc aB capB _ (HPA.out.below (hb2.trans (hX8.mono hsz2))) (HPBB.out.below n3)).mono ?_
                rintro e w9 ⟨rfl, hb9⟩
                have hX9 := hX8.trans (hb9.mono hX8.size)
                go_wp2_with fail
                refine (EqualP_eq aP _ capP ps2 aQ capQ _ ((HP3.out _ (by omega)).below hX9) ((HQ3.out _ (by omega)).below (hZ8.trans (hb9.mono hZ8.size)))).mono ?_
                rintro e w10 ⟨rfl, hb10⟩
                have hX10 := hX9.trans (hb10.mono hX9.size)
                go_wp2_with fail
                go_ret
                exact ⟨rfl, hb.trans ((hb2.trans (hX10.mono hsz2)).mono (by omega))⟩
              · have hd0 : (cs == 0) = false := by simpa using hcs
                have HS0 : Hid (Pl.adjS s.data.toList = [] ∧ Pl.adjD s.data.toList = false) := hid ⟨by unfold Pl.adjS; rw [HCS.out, if_neg hcs], by unfold Pl.adjD; rw [HCS.out, hd0]; rfl⟩
                go_wp2_with fail
                refine (ReadAdj_any s _ (by omega)).mono ?_
                rw [HCS.out, HS0.out.1, HS0.out.2]
                rintro e w6 ⟨vX, rfl, hoX, hb6⟩
                obtain ⟨aX, capX, rfl, hpX, _, _⟩ := OwnP.shape hoX (fun p hp => by simp at hp)
                have hX6 := hX5.trans (hb6.mono hX5.size)
                have hY6 := hY5.trans (hb6.mono (by have := hY5.size; simp at this; omega))
                clear hpX hoX
                have hA6 := (Below.refl w6.heap.size w6).alloc (Nat.le_refl _) (.cells #[.bool false, .slice aX 0 capX] 25)
                have hX8 := hX6.trans (hA6.mono hX6.size)
                have hY8 := hY6.trans (hA6.mono (by have := hY6.size; simp at this; omega))
                obtain ⟨n0, n1, n2, n3⟩ := box2 hY8
                have m0 := (hX8.cell (p := ⟨w.heap.size, 0, none⟩) (by show w.heap.size < _; omega)).trans z0
                have m1 := (hX8.cell (p := ⟨w.heap.size, 1, none⟩) (by show w.heap.size < _; omega)).trans z1
                have hZ8 := hb6.trans (hA6.mono hb6.size)
                clear hA6
                go_wp2_with fail
                refine (EqualS_eq av acc.length cv acc aB capB _ (HPA.out.below (hb2.trans (hX8.mono hsz2))) (HPBB.out.below n3)).mono ?_
                rintro e w9 ⟨rfl, hb9⟩
                have hX9 := hX8.trans (hb9.mono hX8.size)
                go_wp2_with fail
                refine (EqualP_eq aP _ capP ps2 aQ capQ _ ((HP3.out _ (by omega)).below hX9) ((HQ3.out _ (by omega)).below (hZ8.trans (hb9.mono hZ8.size)))).mono ?_
                rintro e w10 ⟨rfl, hb10⟩
                have hX10 := hX9.trans (hb10.mono hX9.size)
                go_wp2_with fail
                go_ret
                exact ⟨rfl, hb.trans ((hb2.trans (hX10.mono hsz2)).mono (by omega))⟩
theorem gTab : Tryd.prog.globalNamed "internal/strconv.uint64pow10" = some 1 := by kernel_rfl
theorem gTabType : (Tryd.prog.globals[1]?).map (·.type) = some 151 := by kernel_rfl
theorem cellsTab : Tryd.prog.cellsOf 151 = 20 := by kernel_rfl
theorem laidTab : (Rows.laid_internal_strconv_uint64pow10 : DataW Unit) = Lib.tabData .u64 Lib.pow10Tab := by rfl
theorem table {W : World} (h : laidMetH Tryd.prog Rows.textsBackUptoRow.laid W) : Tab W := by
  have h1 : laidMet Tryd.prog Rows.textsBackUptoRow.laid W := h
  have h2 := laidMet.filter (fun x => x.1 == "internal/strconv.uint64pow10") h1
  have h3 : laidMet Tryd.prog [("internal/strconv.uint64pow10", (Rows.laid_internal_strconv_uint64pow10 : DataW Unit))] W := h2
  rw [laidTab] at h3
  exact Lib.tabIs_of_head (rest := []) gTab gTabType Tryd.underlying151 Tryd.underlying139 (by kernel_rfl) cellsTab h3

theorem contract (H : Type) (enc : TypeId × Value → H) (W : World) (base : Nat) (args : Array Value) (ds gs : List (DataW H)) (before : List MemPlace)
    (hval : ∀ (j : Nat) t v, Tryd.f3.params[j]? = some t → args[j]? = some v → Value.okWide Tryd.prog W .any base t v)
    (hW : DataW.Whole enc Tryd.prog Tryd.f3.params.toList Rows.textsBackSpec.vars false W args.toList ds gs before) (hL : laidMetH Tryd.prog Rows.textsBackUptoRow.laid W) (hk : Rows.uptoSmall H (ds ++ gs) = true) :
    Calls Tryd.prog 3 args W fun e W' => ∃ v, e = .returned v ∧ Rows.textsBackSpec.post enc Tryd.prog Tryd.f3 false true false false W args v W' := by
  have hbulk : Rows.uptoBulkAll (ds ++ gs) ≤ 1048576 := of_decide_eq_true hk
  have hW' := hW
  obtain ⟨p, q, hA0, hV, rfl, hfz, hnd⟩ := hW
  have hA : DataW.TrodAll enc Tryd.prog W 0 (fun _ => true) true Tryd.f3.params.toList args.toList ds p := hA0
  rw [Tryd.params3] at hA hval
  obtain ⟨v0, vs0, d0, ds0, p0, q0, hargs, rfl, rfl, h0, r0⟩ := trodAll_cons hA
  obtain ⟨v1, vs1, d1, ds1, p1, q1, rfl, rfl, rfl, h1, r1⟩ := trodAll_cons r0
  obtain ⟨rfl, rfl, rfl⟩ := trodAll_nil r1
  obtain rfl : args = #[v0, v1] := by cases args; simp_all
  obtain ⟨rfl, rfl⟩ := trodVars_none hV
  simp only [List.append_nil, Rows.uptoBulkAll, Nat.add_zero] at hbulk
  have k0 := h0
  have lt0 : ∀ x ∈ p0, x.block < W.heap.size := by obtain ⟨m, hm⟩ := k0; exact DataW.trod_lt m _ _ _ hm
  obtain ⟨a0, len0, cap0, rfl, w0⟩ := open_raws (hval 0 22 v0 rfl rfl) h0
  have k1 := h1
  have lt1 : ∀ x ∈ p1, x.block < W.heap.size := by obtain ⟨m, hm⟩ := k1; exact DataW.trod_lt m _ _ _ hm
  obtain ⟨a1, rfl, e1, _, w1⟩ := open_string Tryd.underlying9 (hval 1 9 v1 rfl rfl) h1
  have b1 : a1.size ≤ 1048576 := by
    rw [e1] at hbulk
    have := size_bulk (H := H) a1
    omega
  clear hA0
  refine (walk a0 len0 cap0 a1 W w0 b1 (table hL)).mono fun e W' ⟨he, bel⟩ => ?_
  subst he
  exact ⟨_, rfl, _, _, _, [], _, [], hW', trodAll_mk1 (shut_bool Tryd.underlying4 _), (trodAll_cons_mk (Below.trod laidOut (by kernel_rfl) (of_decide_eq_true (by kernel_rfl)) k0 bel lt0) (trodAll_cons_mk (Below.trod laidOut (by kernel_rfl) (of_decide_eq_true (by kernel_rfl)) k1 bel lt1) trodAll_mk0)), rfl, bel.frame _, fun h => by cases h⟩

def cells_laid_math_bits_deBruijn32tab : Array Value := #[.int .u8 0, .int .u8 1, .int .u8 28, .int .u8 2, .int .u8 29, .int .u8 14, .int .u8 24, .int .u8 3, .int .u8 30, .int .u8 22, .int .u8 20, .int .u8 15, .int .u8 25, .int .u8 17, .int .u8 4, .int .u8 8, .int .u8 31, .int .u8 27, .int .u8 13, .int .u8 23, .int .u8 21, .int .u8 19, .int .u8 16, .int .u8 7, .int .u8 26, .int .u8 12, .int .u8 18, .int .u8 6, .int .u8 11, .int .u8 5, .int .u8 10, .int .u8 9]
def cells_laid_math_bits_deBruijn64tab : Array Value := #[.int .u8 0, .int .u8 1, .int .u8 56, .int .u8 2, .int .u8 57, .int .u8 49, .int .u8 28, .int .u8 3, .int .u8 61, .int .u8 58, .int .u8 42, .int .u8 50, .int .u8 38, .int .u8 29, .int .u8 17, .int .u8 4, .int .u8 62, .int .u8 47, .int .u8 59, .int .u8 36, .int .u8 45, .int .u8 43, .int .u8 51, .int .u8 22, .int .u8 53, .int .u8 39, .int .u8 33, .int .u8 30, .int .u8 24, .int .u8 18, .int .u8 12, .int .u8 5, .int .u8 63, .int .u8 55, .int .u8 48, .int .u8 27, .int .u8 60, .int .u8 41, .int .u8 37, .int .u8 16, .int .u8 46, .int .u8 35, .int .u8 44, .int .u8 21, .int .u8 52, .int .u8 32, .int .u8 23, .int .u8 11, .int .u8 54, .int .u8 26, .int .u8 40, .int .u8 15, .int .u8 34, .int .u8 20, .int .u8 31, .int .u8 10, .int .u8 25, .int .u8 14, .int .u8 19, .int .u8 9, .int .u8 13, .int .u8 8, .int .u8 7, .int .u8 6]
def cells_laid_internal_strconv_uint64pow10 : Array Value := #[.int .u64 1, .int .u64 10, .int .u64 100, .int .u64 1000, .int .u64 10000, .int .u64 100000, .int .u64 1000000, .int .u64 10000000, .int .u64 100000000, .int .u64 1000000000, .int .u64 10000000000, .int .u64 100000000000, .int .u64 1000000000000, .int .u64 10000000000000, .int .u64 100000000000000, .int .u64 1000000000000000, .int .u64 10000000000000000, .int .u64 100000000000000000, .int .u64 1000000000000000000, .int .u64 10000000000000000000]
noncomputable def laidWorld (os : Os) : World := { World.holding Tryd.prog os ⟨#[], #[], []⟩ with heap := ((((World.holding Tryd.prog os ⟨#[], #[], []⟩).heap.modify 2 fun | .cells _ t frozen => .cells cells_laid_math_bits_deBruijn32tab t frozen | o => o).modify 3 fun | .cells _ t frozen => .cells cells_laid_math_bits_deBruijn64tab t frozen | o => o).modify 1 fun | .cells _ t frozen => .cells cells_laid_internal_strconv_uint64pow10 t frozen | o => o) }
set_option maxRecDepth 100000 in
theorem laid_met (os : Os) : laidMet Tryd.prog Rows.textsBackUptoRow.laid ((laidWorld os).forCall (fun _ _ => 0) ⟨#[], #[.slice none 0 0, .string ByteArray.empty], []⟩).memory :=
  laidMet_of_run' 8 (by kernel_rfl) (by kernel_rfl)
set_option maxRecDepth 100000 in
theorem reads (os : Os) {H : Type} (enc : TypeId × Value → H) : ∃ places, DataW.whole enc Tryd.prog ((laidWorld os).forCall (fun _ _ => 0) ⟨#[], #[.slice none 0 0, .string ByteArray.empty], []⟩).memory Tryd.f3.params.toList Rows.textsBackSpec.vars false (#[.slice none 0 0, .string ByteArray.empty] : Array Value).toList 8 = some ([.nil, .lit (.string [])], [], places) :=
  ⟨[], by kernel_rfl⟩
set_option maxRecDepth 100000 in
theorem lifted (os : Os) (started : os.Started) (H : Type) (enc : TypeId × Value → H) (F : Stop.Interp) :
    ReturnsInHanded {} Tryd.checked os 3 .any ((Rows.OpenSpec.upto Rows.textsBackSpec).preRow enc Tryd.prog Tryd.f3 Rows.textsBackUptoRow.domain false Rows.textsBackUptoRow.laid) (((Rows.OpenSpec.upto Rows.textsBackSpec).at F).post enc Tryd.prog Tryd.f3 false true false false) := by
  obtain ⟨places, hx⟩ := reads os enc
  refine returnsInHanded_of_row (C := Tryd.checked) (s := Rows.OpenSpec.upto Rows.textsBackSpec) own started (by kernel_rfl) Tryd.func3
    (witness_row_at (enc := enc) (C := Tryd.checked) false (laidWorld os) #[.slice none 0 0, .string ByteArray.empty] rfl (by kernel_rfl) (by kernel_rfl) (by kernel_rfl)
      (OpenSpec.preRow_of_cond 8 hx (by kernel_rfl) (fun k hk => by cases hk; kernel_rfl) (by kernel_rfl) (laid_met os))) ?_
  intro W base args ds gs before hval hW _ hcond _ hL _ _
  exact contract H enc W base args ds gs before hval hW hL (hcond _ rfl)

theorem said : Rows.TextsBackUptoSaid :=
  OpenClaim.holds_of_cond 3 Tryd.f3 rfl rfl rfl rfl rfl rfl rfl ⟨rfl, rfl, rfl, rfl, rfl⟩ rfl rfl rfl rfl rfl (by kernel_rfl) Tryd.func3 (by kernel_rfl)
    (of_decide_eq_true (by kernel_rfl)) (by unfold Func.isWrapper; first | (rw [if_pos (by decide +kernel)]; kernel_rfl) | (rw [if_neg (by decide +kernel)]; exact ⟨rfl, rfl⟩))
    (fun os started H enc _ F => by rw [OpenClaim.pre_eq_preRow]; exact lifted os started H enc F)

theorem plain (f : FuncId) (fn : Func) (hf : Tryd.pinned.checked.prog.funcNamed "tollbar/tollbarkeep.TextsBack" = some f) (hfn : Tryd.pinned.checked.prog.funcs[f]? = some fn) :
    false = Tryd.pinned.checked.prog.looks [] ∧ ∀ (j : Nat) t, fn.params[j]? = some t → Tryd.pinned.checked.prog.wantsStandIn t = false := by
  obtain rfl : f = 3 := Option.some.inj ((show Tryd.prog.funcNamed "tollbar/tollbarkeep.TextsBack" = some 3 by kernel_rfl).symm.trans hf) |>.symm
  obtain rfl : fn = Tryd.f3 := (Option.some.inj (Tryd.func3.symm.trans hfn)).symm
  refine ⟨by kernel_rfl, fun j t ht => ?_⟩
  rw [Tryd.params3] at ht
  have h : t = 22 ∨ t = 9 := by have := Array.mem_of_getElem? ht; simp at this; omega
  rcases h with rfl | rfl
  · exact (show Tryd.prog.wantsStandIn 22 = false by kernel_rfl)
  · exact (show Tryd.prog.wantsStandIn 9 = false by kernel_rfl)

end Go.Proofs.YtcdobhdbafpkiadDoor.textsBack
namespace Go.Proofs.YtcdobhdbafpkiadDoor
theorem textsBackUpto_card : Rows.TextsBackUptoCardSaid :=
  Claim7.holds_tied_plain_at .later [] _ _ _ _ textsBack.said (fun _ h => by cases h) (by kernel_rfl) (fun _ h => by cases h) textsBackUpto_row_tie rfl ⟨rfl, rfl⟩ (by kernel_rfl) rfl textsBack.plain (by kernel_rfl)
#print axioms textsBackUpto_card
end Go.Proofs.YtcdobhdbafpkiadDoor
