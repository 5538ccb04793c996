/-
  Proved: for every list of raw things and every three numbers, the law WaysBoth returns true and leaves its arguments as they were: where all links cost as much in both directions, a way back costs as much; the condition: strconv's table holds what the program's text lays there.
-/
import Derived.Test.YtcdobhdbafpkiadDoorCards
import Derived.Test.YtcdobhdbafpkiadDoorTie
import Derived.Test.YtcdobhdbafpkiadDoorMapB
import Derived.Test.YtcdobhdbafpkiadDoorAll8
import Derived.Test.YtcdobhdbafpkiadDoorAll10
import Derived.Deep.DeepHandedRow
import Derived.Lib.LaidTab
namespace Go.Proofs.YtcdobhdbafpkiadDoor.waysBoth
open Go.ChangeShapes Go.WideShapes Go.ChangeAt Go.RowKit
set_option maxRecDepth 20000
set_option linter.unusedVariables false

theorem head97 {s : ByteArray} (h : 0 < s.size) : ((s[0].toNat : Int) = 97 → s.data.toList.head? = some 97) ∧ (s.data.toList.head? = some 97 → (s[0].toNat : Int) = 97) := by
  obtain ⟨⟨l⟩⟩ := s
  cases l with
  | nil => simp [ByteArray.size] at h
  | cons y ys =>
    show ((y.toNat : Int) = 97 → some y = some 97) ∧ (some y = some 97 → (y.toNat : Int) = 97)
    constructor
    · intro e
      have e2 : y.toNat = 97 := by omega
      congr 1
      exact UInt8.toNat_inj.1 e2
    · intro e
      cases e
      rfl

set_option maxHeartbeats 8000000 in
theorem walk (a : Option Addr) (len cap : Nat) (n m d : Int) (w : World) (h : IsRaws w a len cap) (hn : (Lit.int .i64 n).wf = true) (hm : (Lit.int .i64 m).wf = true) (hd : (Lit.int .i64 d).wf = true) (hT : Tab w) :
    Calls Tryd.prog 5 #[.slice a len cap, .int .i64 n, .int .i64 m, .int .i64 d] w fun e w' => e = .returned (.bool true) ∧ Below w.heap.size w w' := by
  have HH := hid h
  have HT := hid hT
  have bn := wf_bounds hn
  have bm := wf_bounds hm
  have bd := wf_bounds hd
  clear h hT hn hm hd
  have HP1 := hid (fun W => picked_any n 6 W bn.1 bn.2 (by omega) (by omega))
  obtain ⟨p, hp⟩ := Int.eq_ofNat_of_zero_le (Pl.pk_range n 6 (by omega)).1
  have hp12 : p < 12 := by have := (Pl.pk_range n 6 (by omega)).2; omega
  rw [hp] at HP1
  have HP2 := hid (fun W => picked_any m 6 W bm.1 bm.2 (by omega) (by omega))
  obtain ⟨q, hq⟩ := Int.eq_ofNat_of_zero_le (Pl.pk_range m 6 (by omega)).1
  have hq12 : q < 12 := by have := (Pl.pk_range m 6 (by omega)).2; omega
  rw [hq] at HP2
  have HP3 := hid (fun W => picked_any d 50 W bd.1 bd.2 (by omega) (by omega))
  obtain ⟨x, hx⟩ : ∃ x, Pl.pk d 50 = x := ⟨_, rfl⟩
  have hx50 : 0 ≤ x ∧ x < 50 := by rw [← hx]; exact Pl.pk_range d 50 (by omega)
  rw [hx] at HP3
  obtain ⟨c, HC⟩ : ∃ c, Hid (1 + x = c) := ⟨_, hid rfl⟩
  have hc : 1 ≤ c ∧ c ≤ 50 := by rw [← HC.out]; omega
  have hcw : IntKind.i64.wrap (1 + x) = c := by rw [IntKind.wrap_i64, ← HC.out]; omega
  clear hp hq hx bn bm bd
  go_enter Tryd.func5, Tryd.ntmps5
  go_wp2_with fail
  refine (StoreTells_any _).mono ?_
  rintro e w0 ⟨rfl, hb0⟩
  have HB0 := hid hb0
  clear hb0
  have HM1 := hid (Map_any a len cap 6 w0 (HH.out.below HB0.out) (by omega) (by omega) (HT.out.below HB0.out))
  go_wp2_with fail
  refine HM1.out.mono ?_
  rintro e w1 ⟨v1, es, rfl, ho1, hg1, hb1⟩
  have HG := hid hg1
  have HO1 := hid ho1
  have HB1 := hid hb1
  have HGE : Hid (∀ (k : Nat) (hk : k < es.length), es[k].may = true) := hid fun k hk => hg1.2.1 _ (List.getElem_mem hk)
  have HON := hid (Pl.one_good hc hg1)
  obtain ⟨a1, c1, rfl, hi1, _, _⟩ := ho1.shape hg1.ok
  have hmc := hi1.2.1
  have hmm := hi1.2.2.1
  unfold maxLen at hmm
  obtain ⟨l1, HL1⟩ : ∃ m, Hid (es.length = m) := ⟨_, hid rfl⟩
  rw [HL1.out] at HO1 hmc ⊢
  clear ho1 hg1 hb1 hi1 HM1
  go_wp2_with fail
  go_loopw [29] (fun i wr => ∃ k : Nat, k ≤ l1 ∧ i = .int .i64 k ∧ Hid (Own wr w0.heap.size (.slice a1 l1 c1) (Pl.oneK c es k)) ∧ Hid (Below w0.heap.size w0 wr)) (fun i _ => l1 - (intOf i).toNat)
  case atStart => exact ⟨0, Nat.zero_le _, rfl, HO1, HB1⟩
  case round =>
    obtain ⟨k, hk, rfl, HO, HB⟩ := hrel
    have hzr := HB.out.size
    by_cases hlt : k < l1
    · have hkl : k < es.length := by rw [HL1.out]; exact hlt
      have HLK : Hid ((Pl.oneK c es k).length = l1) := hid (by rw [Pl.oneK_len, HL1.out])
      obtain ⟨g, cap', cur, e1, hbg, hg, _, _, hcs, hct⟩ := HO.out.open1 (by rw [HLK.out]; omega)
      simp only [Value.slice.injEq] at e1
      obtain ⟨rfl, hl', rfl⟩ := e1
      clear hl'
      have hcell : ∀ j u, (cellsL (Pl.oneK c es k))[j]? = some u → wr.cell? ⟨g, 0 + j, none⟩ = some u := by
        intro j u hj
        rw [← hct] at hj
        have hj' : cur[j]? = some u := by
          rw [List.getElem?_take] at hj
          split at hj
          · rw [← Array.getElem?_toList]; exact hj
          · cases hj
        simp [World.cell?, hg, hj']
      have hrow := (rowAt_cells (Pl.oneK c es k) 0).2 hcell
      obtain ⟨r0, r1, r2, r3⟩ := hrow k (by rw [HLK.out]; exact hlt)
      have hek : Pl.ent (Pl.oneK c es k) k = es[k] := by rw [Pl.ent_eq _ _ (by rw [HLK.out]; exact hlt)]; exact Pl.oneK_at c es k hkl
      rw [hek] at r0 r1 r2 r3
      simp only [Nat.zero_add] at r0 r1 r2 r3
      have hmay := HGE.out k hkl
      have HNX := hid (Pl.oneK_next c es k hkl)
      have HSK := hid (fun e => Pl.oneK_skip c es k hkl e)
      have HAT := hid (Pl.oneK_at c es k hkl)
      obtain ⟨E, HE⟩ : ∃ E, Hid (es[k] = E) := ⟨_, hid rfl⟩
      rw [HE.out] at r0 r1 r2 r3 hmay HNX HSK HAT
      obtain ⟨ek, ev, eo, ex⟩ := E
      simp only at r0 r1 r2 r3
      have hgl := blockLt hg
      have hfz : ∀ o, wr.frozen? ⟨g, o, none⟩ = false := fun o => by simp [World.frozen?, hg]
      have HMAY : Hid ((1 ≤ ek.size ∧ ek.size ≤ 8) ∧ ex.size ≤ 120) := hid (by
        unfold Pl.Ent.may Pl.entB Pl.keyB at hmay
        simp only [Bool.and_eq_true, decide_eq_true_eq] at hmay
        exact ⟨hmay.1.1.1.1, hmay.2⟩)
      have hes := HMAY.out.1.1
      have hxs := HMAY.out.2
      clear hcell hrow hek hmay hct hcs
      have HRA := hid (ReadAdj_any ex (wr.alloc (.cells #[.string ek, .int .i64 ev, .int .i64 eo, .string ex] 64)) (by omega))
      go_wp2_with fail
      refine HRA.out.mono ?_
      rintro e w2 ⟨v2, rfl, ho2, hb2⟩
      obtain ⟨a2, c2, rfl, hp2, _, hx2⟩ := OwnP.shape ho2 (Pl.adjS_up _).ok.pairs
      have HP2 := hid ho2
      have HB2 := hid hb2
      obtain ⟨y0, y1, y2, y3⟩ := box4 (by simpa using hb2)
      have hz2 : wr.heap.size < w2.heap.size := by have := hb2.size; simp at this; omega
      have hp2c := hp2.2.1
      have hp2m := hp2.2.2.1
      unfold maxLen at hp2m
      obtain ⟨dd, HDD⟩ : ∃ x, Hid (Pl.adjD ex.data.toList = x) := ⟨_, hid rfl⟩
      obtain ⟨cd, HCD⟩ : ∃ x, Hid (Pl.adjC ex.data.toList = x) := ⟨_, hid rfl⟩
      obtain ⟨S, HS⟩ : ∃ x, Hid (Pl.adjS ex.data.toList = x) := ⟨_, hid rfl⟩
      rw [HS.out] at HP2 hp2c ⊢
      rw [HDD.out, HCD.out]
      obtain ⟨sl, HSL⟩ : ∃ x, Hid (S.length = x) := ⟨_, hid rfl⟩
      rw [HSL.out] at HP2 hp2c ⊢
      clear ho2 hb2 hp2 hx2 HRA
      have hpos : 0 < ek.size := by omega
      have HHD := hid (head97 hpos)
      have HBE : Hid (Below wr.heap.size wr (wr.alloc (.cells #[.string ek, .int .i64 ev, .int .i64 eo, .string ex] 64))) := hid ((Below.refl _ _).alloc (Nat.le_refl _) _)
      have HB20 : Hid (Below wr.heap.size wr w2) := hid (HBE.out.trans (HB2.out.mono HBE.out.size))
      have HB02 : Hid (Below w0.heap.size w0 w2) := hid (HB.out.trans (HB20.out.mono hzr))
      have HO2 := hid (HO.out.below HB20.out)
      have HBA : Hid (Hid (Below w0.heap.size w0 (w2.alloc (.cells #[.bool dd, .slice a2 sl c2] 25)))) := hid (hid (HB02.out.alloc HB02.out.size _))
      have HOA := hid (HO2.out.below ((Below.refl _ _).alloc (Nat.le_refl _) (.cells #[.bool dd, .slice a2 sl c2] 25)))
      have HP2' := hid (OwnP.mono HP2.out (Nat.le_trans hzr HBE.out.size))
      by_cases hA : (ek[0].toNat : Int) = 97
      · by_cases hcd : cd = 0
        · subst hcd
          have HH97 := hid (HHD.out.1 hA)
          have HFS : Hid (Pl.adjF S = 0) := hid (by rw [← HS.out]; exact Pl.adjS_ok HCD.out)
          have HF1 := hid (Pl.adjF_one hc HFS.out)
          have HOE : Hid (Pl.oneE c ⟨ek, ev, eo, ex⟩ = ⟨ek, ev, eo, Pl.adjText dd (Pl.one c S)⟩) := hid (by
            unfold Pl.oneE
            rw [if_pos ⟨HH97.out, HCD.out⟩, HDD.out, HS.out])
          obtain ⟨W3, HW3⟩ : ∃ W3, Hid (W3 = w2.alloc (.cells #[.bool dd, .slice a2 sl c2] 25)) := ⟨_, hid rfl⟩
          have HA3 : Hid (W3.heap[w2.heap.size]? = some (.cells #[.bool dd, .slice a2 sl c2] 25)) := hid (by rw [HW3.out]; exact heapNew w2 _)
          rw [← HW3.out] at HBA HOA
          have HP3W : Hid (OwnP 31 W3 w0.heap.size (.slice a2 sl c2) (Pl.oneS c S 0)) := hid (by
            rw [HW3.out]
            exact HP2'.out.below ((Below.refl _ _).alloc (Nat.le_refl _) _))
          go_wp2_with fail
          rw [← HW3.out]
          clear hA y0 y1 y2 y3 r0 r1 r2 r3
          go_loopw [51] (fun i wq => ∃ j : Nat, j ≤ sl ∧ i = .int .i64 j ∧ Hid (OwnP 31 wq w0.heap.size (.slice a2 sl c2) (Pl.oneS c S j)) ∧ Hid (wq.heap[w2.heap.size]? = some (.cells #[.bool dd, .slice a2 sl c2] 25)) ∧ Hid (Own wq w0.heap.size (.slice (some ⟨g, 0, none⟩) l1 c1) (Pl.oneK c es k)) ∧ Hid (Below w0.heap.size w0 wq)) (fun i _ => sl - (intOf i).toNat)
          case atStart => exact ⟨0, Nat.zero_le _, rfl, HP3W, HA3, HOA, HBA.out⟩
          case round =>
            obtain ⟨j, hj, rfl, HPj, HAj, HOj, HBj⟩ := hrel
            rename World => wq
            obtain ⟨x0, x1, xf0, xf1, hAl⟩ := adjAt_cells HAj.out
            by_cases hjm : j < sl
            · have hjS : j < S.length := by rw [HSL.out]; exact hjm
              have HSLj : Hid ((Pl.oneS c S j).length = sl) := hid (by rw [Pl.oneS_len, HSL.out])
              obtain ⟨G, capG, curG, eG, hbG, hG, _, _, hsG, htG⟩ := HPj.out.open1 (by rw [HSLj.out]; omega)
              simp only [Value.slice.injEq] at eG
              obtain ⟨rfl, hlG, rfl⟩ := eG
              clear hlG
              have hcG : ∃ u, wq.cell? ⟨G, j * 2 + 1, none⟩ = some (.int .i64 u) := by
                have h1 := (cellsP_get (Pl.oneS c S j) j (by rw [HSLj.out]; exact hjm)).2
                rw [← htG, List.getElem?_take] at h1
                split at h1
                · rw [Array.getElem?_toList] at h1
                  exact ⟨(Pl.pr (Pl.oneS c S j) j).2, by simp [World.cell?, hG, h1]⟩
                · cases h1
              obtain ⟨u, hcG⟩ := hcG
              have hfG : wq.frozen? ⟨G, j * 2 + 1, none⟩ = false := by simp [World.frozen?, hG]
              have hGl := blockLt hG
              have hGA : w2.heap.size ≠ G := by
                rintro e
                rw [e, hG] at HAj
                have := HAj.out
                simp at this
              have hGg : g ≠ G := by
                rintro rfl
                obtain ⟨g', cap', cur', e', _, hg', _⟩ := HOj.out.open1 (by rw [HLK.out]; omega)
                simp only [Value.slice.injEq, Option.some.injEq, Addr.mk.injEq] at e'
                rw [← e'.1.1, hG] at hg'
                simp at hg'
              have HSN : Hid (OwnP 31 (wq.setCell ⟨G, j * 2 + 1, none⟩ (.int .i64 c)) w0.heap.size (.slice (some ⟨G, 0, none⟩) sl c2) (Pl.oneS c S (j + 1))) := hid (by
                rw [Pl.oneS_next c S j hjS]
                exact HPj.out.setC' HSLj.out j (by rw [HSLj.out]; exact hjm) c)
              have hjm' : (j : Int) < (sl : Int) := by omega
              clear htG hsG
              go_wp2_with fail
              generalize ha0 : Act.mk _ _ = a0
              have hsz : 54 + 8 ≤ a0.tmps.size := by
                have : a0.tmps.size = 110 := by rw [← ha0]; rfl
                omega
              have q13 : a0.tmps[13]?.getD undef = .pointer (some ⟨w2.heap.size, 0, none⟩) := by rw [← ha0]; rfl
              have q15 : a0.tmps[15]?.getD undef = .int .i64 j := by rw [← ha0]; rfl
              have q3 : a0.tmps[3]?.getD undef = .int .i64 d := by rw [← ha0]; rfl
              refine wp_region_any (by kernel_rfl) ?_
              refine wpAny_inv2 (fun listed a W => DInv a0 54 8 9 (fun k => if k < 8 then some k else none)
                (fun i => ([.pointer (some ⟨w2.heap.size, 1, none⟩), .slice (some ⟨G, 0, none⟩) sl c2, .int .i64 j, .int .i64 d, .int .i64 x, .int .i64 c, .pointer (some ⟨G, j * 2, none⟩), .pointer (some ⟨G, j * 2 + 1, none⟩)] : List Value).getD i undef)
                (fun _ => True) listed a W ∧ BothW wq G (j * 2 + 1) c listed W) ?_ ?_ _ _ _ _ (by decide +kernel) ?_ (closed_start _ _ _)
              · rintro i listed a W hi hCl ⟨hI, hW⟩
                rw [mem_ready] at hi
                obtain ⟨hl0, o, ho, hall⟩ := hi
                have hlt9 : i < 9 := (Array.getElem?_eq_some_iff.1 ho).1
                have o13 := (hI.out (k := 13) (by omega)).trans q13
                have o15 := (hI.out (k := 15) (by omega)).trans q15
                have o3 := (hI.out (k := 3) (by omega)).trans q3
                have hnl : listed.getD i false = false := by
                  have hlt : i < listed.size := by rw [hI.ls]; exact hlt9
                  simp [hlt] at hl0 ⊢
                  exact hl0
                have h8 : listed.getD 8 false = false := by
                  cases h : listed.getD 8 false with
                  | false => rfl
                  | true =>
                    exfalso
                    have e5 := hCl 8 _ rfl h ⟨5, .data⟩ (by simp) rfl
                    have e7 := hCl 8 _ rfl h ⟨7, .data⟩ (by simp) rfl
                    have e4 := hCl 5 _ rfl e5 ⟨4, .data⟩ (by simp) rfl
                    have e3 := hCl 4 _ rfl e4 ⟨3, .data⟩ (by simp) rfl
                    have e6 := hCl 7 _ rfl e7 ⟨6, .data⟩ (by simp) rfl
                    have e1 := hCl 6 _ rfl e6 ⟨1, .data⟩ (by simp) rfl
                    have e2 := hCl 6 _ rfl e6 ⟨2, .data⟩ (by simp) rfl
                    have e0 := hCl 1 _ rfl e1 ⟨0, .data⟩ (by simp) rfl
                    have hcs : i = 0 ∨ i = 1 ∨ i = 2 ∨ i = 3 ∨ i = 4 ∨ i = 5 ∨ i = 6 ∨ i = 7 ∨ i = 8 := by omega
                    rcases hcs with rfl | rfl | rfl | rfl | rfl | rfl | rfl | rfl | rfl <;> simp_all
                obtain ⟨nn, rfl⟩ : ∃ n, W = wq.drewN n := by
                  rcases hW with ⟨_, h⟩ | ⟨h, _⟩
                  · exact h
                  · rw [h8] at h; cases h
                have hQ : ∀ i, i ≠ 8 → BothW wq G (j * 2 + 1) c (listed.setIfInBounds i true) (wq.drewN nn) := fun i hi => BothW.quiet (.inl ⟨h8, nn, rfl⟩) hi
                have z1 : (wq.drewN nn).cell? ⟨w2.heap.size, 1, none⟩ = some (.slice (some ⟨G, 0, none⟩) sl c2) := x1
                have z2 : (wq.drewN nn).cell? ⟨G, j * 2 + 1, none⟩ = some (.int .i64 u) := hcG
                have z3 : (wq.drewN nn).frozen? ⟨G, j * 2 + 1, none⟩ = false := hfG
                have hcs : i = 0 ∨ i = 1 ∨ i = 2 ∨ i = 3 ∨ i = 4 ∨ i = 5 ∨ i = 6 ∨ i = 7 ∨ i = 8 := by omega
                rcases hcs with rfl | rfl | rfl | rfl | rfl | rfl | rfl | rfl | rfl
                all_goals
                  simp at ho
                  subst ho
                  refine wpOp_of rfl rfl ?_
                · simp [Oper.wp, go_sem, o13]
                  exact ⟨hI.put (i := 0) (j := 0) rfl (by omega) rfl trivial, hQ 0 (by omega)⟩
                · have e1 : a.tmps[54]?.getD undef = .pointer (some ⟨w2.heap.size, 1, none⟩) := hI.at (k := 0) (j := 0) hsz rfl (by omega) (hall ⟨0, .data⟩ (by simp) rfl)
                  simp [Oper.wp, go_sem, e1, z1]
                  exact ⟨hI.put (i := 1) (j := 1) rfl (by omega) rfl trivial, hQ 1 (by omega)⟩
                · simp [Oper.wp, go_sem, o15]
                  exact ⟨hI.put (i := 2) (j := 2) rfl (by omega) rfl trivial, hQ 2 (by omega)⟩
                · simp [Oper.wp, go_sem, o3]
                  exact ⟨hI.put (i := 3) (j := 3) rfl (by omega) rfl trivial, hQ 3 (by omega)⟩
                · have e1 : a.tmps[57]?.getD undef = .int .i64 d := hI.at (k := 3) (j := 3) hsz rfl (by omega) (hall ⟨3, .data⟩ (by simp) rfl)
                  simp [Oper.wp, go_sem, e1]
                  refine (HP3.out _).mono ?_
                  rintro e w9 ⟨rfl, rfl⟩
                  exact ⟨hI.put (i := 4) (j := 4) rfl (by omega) rfl trivial, hQ 4 (by omega)⟩
                · have e1 : a.tmps[58]?.getD undef = .int .i64 x := hI.at (k := 4) (j := 4) hsz rfl (by omega) (hall ⟨4, .data⟩ (by simp) rfl)
                  simp [Oper.wp, go_sem, e1, hcw]
                  exact ⟨hI.put (i := 5) (j := 5) rfl (by omega) rfl trivial, hQ 5 (by omega)⟩
                · have e1 : a.tmps[55]?.getD undef = .slice (some ⟨G, 0, none⟩) sl c2 := hI.at (k := 1) (j := 1) hsz rfl (by omega) (hall ⟨1, .data⟩ (by simp) rfl)
                  have e2 : a.tmps[56]?.getD undef = .int .i64 j := hI.at (k := 2) (j := 2) hsz rfl (by omega) (hall ⟨2, .data⟩ (by simp) rfl)
                  simp [Oper.wp, go_sem, e1, e2, hjm']
                  exact ⟨hI.put (i := 6) (j := 6) rfl (by omega) rfl trivial, hQ 6 (by omega)⟩
                · have e1 : a.tmps[60]?.getD undef = .pointer (some ⟨G, j * 2, none⟩) := hI.at (k := 6) (j := 6) hsz rfl (by omega) (hall ⟨6, .data⟩ (by simp) rfl)
                  simp [Oper.wp, go_sem, e1]
                  exact ⟨hI.put (i := 7) (j := 7) rfl (by omega) rfl trivial, hQ 7 (by omega)⟩
                · have e1 : a.tmps[61]?.getD undef = .pointer (some ⟨G, j * 2 + 1, none⟩) := hI.at (k := 7) (j := 7) hsz rfl (by omega) (hall ⟨7, .data⟩ (by simp) rfl)
                  have e2 : a.tmps[59]?.getD undef = .int .i64 c := hI.at (k := 5) (j := 5) hsz rfl (by omega) (hall ⟨5, .data⟩ (by simp) rfl)
                  simp [Oper.wp, go_sem, e1, e2, z2, z3]
                  refine ⟨hI.skip (i := 8) rfl trivial, .inr ⟨?_, nn, rfl⟩⟩
                  have : 8 < listed.size := by rw [hI.ls]; omega
                  simp [this]
              · rintro listed a W hr ⟨hI, hW⟩
                rename_i K hK
                have h8 := all_listed (by decide +kernel) hI.ls hr 8 (by decide)
                obtain ⟨xs, hxl, rfl, _⟩ := hI.fr
                obtain ⟨b0, b1, b2, b3, b4, b5, b6, b7, rfl⟩ := list8 xs hxl
                obtain ⟨nn, hWW⟩ : ∃ n, W = (wq.drewN n).setCell ⟨G, j * 2 + 1, none⟩ (.int .i64 c) := by
                  rcases hW with ⟨h, _⟩ | ⟨_, h⟩
                  · rw [h8] at h; cases h
                  · exact h
                have HSW : Hid (OwnP 31 W w0.heap.size (.slice (some ⟨G, 0, none⟩) sl c2) (Pl.oneS c S (j + 1))) := hid (by rw [hWW]; exact HSN.out)
                have HUW : Hid (But G wq W) := hid (by rw [hWW]; exact ((But.refl G wq).drawn nn).setCell _ _)
                have HAW : Hid (W.heap[w2.heap.size]? = some (.cells #[.bool dd, .slice (some ⟨G, 0, none⟩) sl c2] 25)) := hid ((HUW.out.block _ hAl hGA).trans HAj.out)
                have HOW := hid (HOj.out.other HUW.out hGg)
                have HBW : Hid (Below w0.heap.size w0 W) := hid (HBj.out.trans (HUW.out.below hbG HBj.out.size))
                clear hI hr hxl q13 q15 q3 hsz h8 hWW hW
                rw [← ha0]
                simp only [setFrom]
                refine hK _ W ?_
                go_wp2_with fail
                go_roundw
                case rel => exact ⟨j + 1, by omega, by go_num, HSW, HAW, HOW, HBW⟩
                case measure => simp [intOf]; omega
              · exact ⟨DInv.start hsz trivial, .inl ⟨by simp, 1, rfl⟩⟩
            · obtain rfl : j = sl := by omega
              have HPE : Hid (OwnP 31 wq w0.heap.size (.slice a2 j c2) (Pl.one c S)) := hid (by have := HPj.out; rw [← HSL.out, Pl.oneS_all] at this; rw [← HSL.out]; exact this)
              have hipx := HPE.out.shape (Pl.adjF_up HF1.out).ok.pairs
              obtain ⟨a', c', e', hip, _, _⟩ := hipx
              have HIP : Hid (IsPairs wq a2 j c2 (Pl.one c S)) := hid (by
                simp only [Value.slice.injEq] at e'
                obtain ⟨u1, u2, u3⟩ := e'
                rw [u1, u2, u3]; exact hip)
              have HSH := hid (ShowAdj_any dd a2 j c2 (Pl.one c S) wq HIP.out (HT.out.below (HB0.out.trans (HBj.out.mono HB0.out.size))))
              obtain ⟨tx, HTX⟩ : ∃ x, Hid (Pl.adjText dd (Pl.one c S) = x) := ⟨_, hid rfl⟩
              rw [HTX.out] at HSH HOE
              clear e' hip
              have hnl : ¬ ((j : Int) < (j : Int)) := by omega
              go_wp2_with fail
              refine HSH.out.mono ?_
              rintro e w6 ⟨rfl, hb6⟩
              have HO6 := hid (HOj.out.below hb6)
              have HB6 : Hid (Below w0.heap.size w0 w6) := hid (HBj.out.trans (hb6.mono HBj.out.size))
              obtain ⟨g', cap', cur', e', hbg', hg', _, _, hcs', hct'⟩ := HO6.out.open1 (by rw [HLK.out]; omega)
              simp only [Value.slice.injEq, Option.some.injEq, Addr.mk.injEq] at e'
              obtain ⟨⟨rfl, _, _⟩, hl', rfl⟩ := e'
              have hcv : ∃ z, w6.cell? ⟨g, k * 4 + 3, none⟩ = some (.string z) := by
                have h1 := (rowAt_cells (w := w6) (b := g) (Pl.oneK c es k) 0).2 (fun i u hi => by
                  rw [← hct', List.getElem?_take] at hi
                  split at hi
                  · rw [Array.getElem?_toList] at hi
                    simp [World.cell?, hg', hi]
                  · cases hi)
                obtain ⟨_, _, _, r3⟩ := h1 k (by rw [HLK.out]; exact hlt)
                rw [Nat.zero_add] at r3
                exact ⟨_, r3⟩
              obtain ⟨zz, hcv⟩ := hcv
              have hfv : w6.frozen? ⟨g, k * 4 + 3, none⟩ = false := by simp [World.frozen?, hg']
              have hgl6 := blockLt hg'
              have HFIN : Hid (Own (w6.setCell ⟨g, k * 4 + 3, none⟩ (.string tx)) w0.heap.size (.slice (some ⟨g, 0, none⟩) l1 c1) (Pl.oneK c es (k + 1))) := hid (by
                rw [HNX.out, HOE.out]
                exact HO6.out.setV' HLK.out k (by rw [HLK.out]; exact hlt) HAT.out tx)
              have hlt' : (k : Int) < (l1 : Int) := by omega
              clear hb6 hct' hcs' hl' HSH
              go_wp2_with fail
              go_roundw
              case rel => exact ⟨k + 1, by omega, by go_num, HFIN, hid (HB6.out.setCell hbg' _)⟩
              case measure => simp [intOf]; omega
        · have hcd' : (cd != 0) = true := by simpa using hcd
          have HNE : Hid (Pl.oneE c ⟨ek, ev, eo, ex⟩ = ⟨ek, ev, eo, ex⟩) := hid (by unfold Pl.oneE; rw [if_neg (fun h => hcd (by rw [← HCD.out]; exact h.2))])
          clear hcd
          have HSE := hid (HSK.out HNE.out)
          go_wp2_with fail
          go_roundw
          case rel => exact ⟨k + 1, by omega, by go_num, hid (by rw [HSE.out]; exact HOA.out), HBA.out⟩
          case measure => simp [intOf]; omega
      · have HNE : Hid (Pl.oneE c ⟨ek, ev, eo, ex⟩ = ⟨ek, ev, eo, ex⟩) := hid (by unfold Pl.oneE; rw [if_neg (fun h => hA (HHD.out.2 h.1))])
        have hA' : ((ek[0].toNat : Int) != 97) = true := by simpa using hA
        have HSE := hid (HSK.out HNE.out)
        clear hA
        go_wp2_with fail
        go_roundw
        case rel => exact ⟨k + 1, by omega, by go_num, hid (by rw [HSE.out]; exact HOA.out), HBA.out⟩
        case measure => simp [intOf]; omega
    · obtain rfl : k = l1 := by omega
      have HOF : Hid (Own wr w0.heap.size (.slice a1 k c1) (es.map (Pl.oneE c))) := hid (by have := HO.out; rw [← HL1.out, Pl.oneK_all] at this; rw [← HL1.out]; exact this)
      obtain ⟨fs, HFS⟩ : ∃ x, Hid (es.map (Pl.oneE c) = x) := ⟨_, hid rfl⟩
      have HSAME := hid (Pl.both_same hc HG.out hp12 hq12)
      rw [HFS.out] at HOF HON HSAME
      obtain ⟨a', c', e', hi', _, _⟩ := HOF.out.shape HON.out.ok
      have HIE : Hid (IsEnts wr a1 k c1 fs) := hid (by
        simp only [Value.slice.injEq] at e'
        obtain ⟨u1, u2, u3⟩ := e'
        rw [u1, u2, u3]; exact hi')
      have HFF : Hid (Pl.fault fs = 0) := hid ((Pl.good_iff fs).2 HON.out)
      have HW1 : Hid (Pl.wayC fs (p : Int) = 0) := hid (Pl.wayC_ok HFF.out hp12)
      have HW2 : Hid (Pl.wayC fs (q : Int) = 0) := hid (Pl.wayC_ok HFF.out hq12)
      have HBw : Hid (Below w.heap.size w wr) := hid (HB0.out.trans (HB.out.mono HB0.out.size))
      clear e' hi'
      have hnl : ¬ ((k : Int) < (k : Int)) := by omega
      go_wp2_with fail
      refine (HP1.out _).mono ?_
      rintro e wx ⟨rfl, hx⟩; rw [hx]; clear hx wx
      go_wp2_with fail
      refine (HP2.out _).mono ?_
      rintro e wx ⟨rfl, hx⟩; rw [hx]; clear hx wx
      go_wp2_with fail
      refine (Ways_any a1 k c1 fs (p : Int) wr HIE.out (HT.out.below HBw.out)).mono ?_
      rw [HW1.out]
      rintro e w2 ⟨v2, ts, rfl, ho2, hf2, hb2⟩
      obtain ⟨g2, c2, rfl, hc2, hm2, ha2⟩ := ho2.at12 hf2 HW1.out
      unfold maxLen at hm2
      have HV2 := hid ha2
      have HB2 : Hid (Below w.heap.size w w2) := hid (HBw.out.trans (hb2.mono HBw.out.size))
      have HIE2 := hid (HIE.out.below hb2)
      clear ho2 hf2 hb2 ha2
      go_wp2_with fail
      refine (Ways_any a1 k c1 fs (q : Int) w2 HIE2.out (HT.out.below HB2.out)).mono ?_
      rw [HW2.out]
      rintro e w3 ⟨v3, us, rfl, ho3, hf3, hb3⟩
      obtain ⟨g3, c3, rfl, hc3, hm3, ha3⟩ := ho3.at12 hf3 HW2.out
      unfold maxLen at hm3
      have HB3 : Hid (Below w.heap.size w w3) := hid (HB2.out.trans (hb3.mono HB2.out.size))
      obtain ⟨y0, _, _, _, _⟩ := (HV2.out.below hb3).2 q hq12
      obtain ⟨z0, _, _, _, _⟩ := ha3.2 p hp12
      have hg2 := (HV2.out.below hb3).1
      have hg3 := ha3.1
      rw [HSAME.out] at y0
      obtain ⟨D, hD⟩ : ∃ D, Pl.wC fs q p = D := ⟨_, rfl⟩
      rw [hD] at y0 z0
      clear ho3 hf3 hb3 ha3 hD
      go_wp2_with fail
      go_region
      go_wp2_with fail
      go_ret
      exact ⟨ret_bool (by simp), HB3.out.drew⟩

theorem gTab : Tryd.prog.globalNamed "internal/strconv.uint64pow10" = some 1 := by kernel_rfl
theorem gTabType : (Tryd.prog.globals[1]?).map (·.type) = some 151 := by kernel_rfl
theorem cellsTab : Tryd.prog.cellsOf 151 = 20 := by kernel_rfl
theorem laidTab : (Rows.laid_internal_strconv_uint64pow10 : DataW Unit) = Lib.tabData .u64 Lib.pow10Tab := by rfl
theorem table {W : World} (h : laidMetH Tryd.prog Rows.waysBothRow.laid W) : Tab W := by
  have h1 : laidMet Tryd.prog Rows.waysBothRow.laid W := h
  have h2 := laidMet.filter (fun x => x.1 == "internal/strconv.uint64pow10") h1
  have h3 : laidMet Tryd.prog [("internal/strconv.uint64pow10", (Rows.laid_internal_strconv_uint64pow10 : DataW Unit))] W := h2
  rw [laidTab] at h3
  exact Lib.tabIs_of_head (rest := []) gTab gTabType Tryd.underlying151 Tryd.underlying139 (by kernel_rfl) cellsTab h3

theorem contract (H : Type) (enc : TypeId × Value → H) (W : World) (base : Nat) (args : Array Value) (ds gs : List (DataW H)) (before : List MemPlace)
    (hval : ∀ (j : Nat) t v, Tryd.f5.params[j]? = some t → args[j]? = some v → Value.okWide Tryd.prog W .any base t v)
    (hW : DataW.Whole enc Tryd.prog Tryd.f5.params.toList Rows.waysBothSpec.vars false W args.toList ds gs before) (hL : laidMetH Tryd.prog Rows.waysBothRow.laid W) :
    Calls Tryd.prog 5 args W fun e W' => ∃ v, e = .returned v ∧ Rows.waysBothSpec.post enc Tryd.prog Tryd.f5 false true false false W args v W' := by
  have hW' := hW
  obtain ⟨p, q, hA0, hV, rfl, hfz, hnd⟩ := hW
  have hA : DataW.TrodAll enc Tryd.prog W 0 (fun _ => true) true Tryd.f5.params.toList args.toList ds p := hA0
  rw [Tryd.params5] at hA hval
  obtain ⟨v0, vs0, d0, ds0, p0, q0, hargs, rfl, rfl, h0, r0⟩ := trodAll_cons hA
  obtain ⟨v1, vs1, d1, ds1, p1, q1, rfl, rfl, rfl, h1, r1⟩ := trodAll_cons r0
  obtain ⟨v2, vs2, d2, ds2, p2, q2, rfl, rfl, rfl, h2, r2⟩ := trodAll_cons r1
  obtain ⟨v3, vs3, d3, ds3, p3, q3, rfl, rfl, rfl, h3, r3⟩ := trodAll_cons r2
  obtain ⟨rfl, rfl, rfl⟩ := trodAll_nil r3
  obtain rfl : args = #[v0, v1, v2, v3] := by cases args; simp_all
  obtain ⟨rfl, rfl⟩ := trodVars_none hV
  have k0 := h0
  have lt0 : ∀ x ∈ p0, x.block < W.heap.size := by obtain ⟨m, hm⟩ := k0; exact DataW.trod_lt m _ _ _ hm
  obtain ⟨a0, len0, cap0, rfl, w0⟩ := open_raws (hval 0 22 v0 rfl rfl) h0
  have k1 := h1
  have lt1 : ∀ x ∈ p1, x.block < W.heap.size := by obtain ⟨m, hm⟩ := k1; exact DataW.trod_lt m _ _ _ hm
  obtain ⟨a1, rfl, _, _, w1⟩ := open_int Tryd.underlying3 (hval 1 3 v1 rfl rfl) h1
  have k2 := h2
  have lt2 : ∀ x ∈ p2, x.block < W.heap.size := by obtain ⟨m, hm⟩ := k2; exact DataW.trod_lt m _ _ _ hm
  obtain ⟨a2, rfl, _, _, w2⟩ := open_int Tryd.underlying3 (hval 2 3 v2 rfl rfl) h2
  have k3 := h3
  have lt3 : ∀ x ∈ p3, x.block < W.heap.size := by obtain ⟨m, hm⟩ := k3; exact DataW.trod_lt m _ _ _ hm
  obtain ⟨a3, rfl, _, _, w3⟩ := open_int Tryd.underlying3 (hval 3 3 v3 rfl rfl) h3
  clear hA0
  refine (walk a0 len0 cap0 a1 a2 a3 W w0 w1 w2 w3 (table hL)).mono fun e W' ⟨he, bel⟩ => ?_
  subst he
  exact ⟨_, rfl, _, _, _, [], _, [], hW', trodAll_mk1 (shut_bool Tryd.underlying4 _), (trodAll_cons_mk (Below.trod laidOut (by kernel_rfl) (of_decide_eq_true (by kernel_rfl)) k0 bel lt0) (trodAll_cons_mk (Below.trod laidOut (by kernel_rfl) (of_decide_eq_true (by kernel_rfl)) k1 bel lt1) (trodAll_cons_mk (Below.trod laidOut (by kernel_rfl) (of_decide_eq_true (by kernel_rfl)) k2 bel lt2) (trodAll_cons_mk (Below.trod laidOut (by kernel_rfl) (of_decide_eq_true (by kernel_rfl)) k3 bel lt3) trodAll_mk0)))), rfl, bel.frame _, fun h => by cases h⟩

def cells_laid_math_bits_deBruijn32tab : Array Value := #[.int .u8 0, .int .u8 1, .int .u8 28, .int .u8 2, .int .u8 29, .int .u8 14, .int .u8 24, .int .u8 3, .int .u8 30, .int .u8 22, .int .u8 20, .int .u8 15, .int .u8 25, .int .u8 17, .int .u8 4, .int .u8 8, .int .u8 31, .int .u8 27, .int .u8 13, .int .u8 23, .int .u8 21, .int .u8 19, .int .u8 16, .int .u8 7, .int .u8 26, .int .u8 12, .int .u8 18, .int .u8 6, .int .u8 11, .int .u8 5, .int .u8 10, .int .u8 9]
def cells_laid_math_bits_deBruijn64tab : Array Value := #[.int .u8 0, .int .u8 1, .int .u8 56, .int .u8 2, .int .u8 57, .int .u8 49, .int .u8 28, .int .u8 3, .int .u8 61, .int .u8 58, .int .u8 42, .int .u8 50, .int .u8 38, .int .u8 29, .int .u8 17, .int .u8 4, .int .u8 62, .int .u8 47, .int .u8 59, .int .u8 36, .int .u8 45, .int .u8 43, .int .u8 51, .int .u8 22, .int .u8 53, .int .u8 39, .int .u8 33, .int .u8 30, .int .u8 24, .int .u8 18, .int .u8 12, .int .u8 5, .int .u8 63, .int .u8 55, .int .u8 48, .int .u8 27, .int .u8 60, .int .u8 41, .int .u8 37, .int .u8 16, .int .u8 46, .int .u8 35, .int .u8 44, .int .u8 21, .int .u8 52, .int .u8 32, .int .u8 23, .int .u8 11, .int .u8 54, .int .u8 26, .int .u8 40, .int .u8 15, .int .u8 34, .int .u8 20, .int .u8 31, .int .u8 10, .int .u8 25, .int .u8 14, .int .u8 19, .int .u8 9, .int .u8 13, .int .u8 8, .int .u8 7, .int .u8 6]
def cells_laid_internal_strconv_uint64pow10 : Array Value := #[.int .u64 1, .int .u64 10, .int .u64 100, .int .u64 1000, .int .u64 10000, .int .u64 100000, .int .u64 1000000, .int .u64 10000000, .int .u64 100000000, .int .u64 1000000000, .int .u64 10000000000, .int .u64 100000000000, .int .u64 1000000000000, .int .u64 10000000000000, .int .u64 100000000000000, .int .u64 1000000000000000, .int .u64 10000000000000000, .int .u64 100000000000000000, .int .u64 1000000000000000000, .int .u64 10000000000000000000]
noncomputable def laidWorld (os : Os) : World := { World.holding Tryd.prog os ⟨#[], #[], []⟩ with heap := ((((World.holding Tryd.prog os ⟨#[], #[], []⟩).heap.modify 2 fun | .cells _ t frozen => .cells cells_laid_math_bits_deBruijn32tab t frozen | o => o).modify 3 fun | .cells _ t frozen => .cells cells_laid_math_bits_deBruijn64tab t frozen | o => o).modify 1 fun | .cells _ t frozen => .cells cells_laid_internal_strconv_uint64pow10 t frozen | o => o) }
set_option maxRecDepth 100000 in
theorem laid_met (os : Os) : laidMet Tryd.prog Rows.waysBothRow.laid ((laidWorld os).forCall (fun _ _ => 0) ⟨#[], #[.slice none 0 0, .int .i64 0, .int .i64 0, .int .i64 0], []⟩).memory :=
  laidMet_of_run' 8 (by kernel_rfl) (by kernel_rfl)
set_option maxRecDepth 100000 in
theorem reads (os : Os) {H : Type} (enc : TypeId × Value → H) : ∃ places, DataW.whole enc Tryd.prog ((laidWorld os).forCall (fun _ _ => 0) ⟨#[], #[.slice none 0 0, .int .i64 0, .int .i64 0, .int .i64 0], []⟩).memory Tryd.f5.params.toList Rows.waysBothSpec.vars false (#[.slice none 0 0, .int .i64 0, .int .i64 0, .int .i64 0] : Array Value).toList 8 = some ([.nil, .lit (.int .i64 0), .lit (.int .i64 0), .lit (.int .i64 0)], [], places) :=
  ⟨[], by kernel_rfl⟩
set_option maxRecDepth 100000 in
theorem lifted (os : Os) (started : os.Started) (H : Type) (enc : TypeId × Value → H) (F : Stop.Interp) :
    ReturnsInHanded {} Tryd.checked os 5 .any ((OpenSpec.ofChange Rows.waysBothSpec).preRow enc Tryd.prog Tryd.f5 Rows.waysBothRow.domain false Rows.waysBothRow.laid) (((OpenSpec.ofChange Rows.waysBothSpec).at F).post enc Tryd.prog Tryd.f5 false true false false) := by
  obtain ⟨places, hx⟩ := reads os enc
  refine returnsInHanded_of_row (C := Tryd.checked) (s := OpenSpec.ofChange Rows.waysBothSpec) own started (by kernel_rfl) Tryd.func5
    (witness_row_at (enc := enc) (C := Tryd.checked) false (laidWorld os) #[.slice none 0 0, .int .i64 0, .int .i64 0, .int .i64 0] rfl (by kernel_rfl) (by kernel_rfl) (by kernel_rfl)
      (OpenSpec.preRow_of_cond 8 hx (by kernel_rfl) (fun k hk => by cases hk) (by kernel_rfl) (laid_met os))) ?_
  intro W base args ds gs before hval hW _ _ _ hL _ _
  exact contract H enc W base args ds gs before hval hW hL

theorem said : Rows.WaysBothSaid :=
  OpenClaim.holds_of_cond 5 Tryd.f5 rfl rfl rfl rfl rfl rfl rfl ⟨rfl, rfl, rfl, rfl, rfl⟩ rfl rfl rfl rfl rfl (by kernel_rfl) Tryd.func5 (by kernel_rfl)
    (of_decide_eq_true (by kernel_rfl)) (by unfold Func.isWrapper; first | (rw [if_pos (by decide +kernel)]; kernel_rfl) | (rw [if_neg (by decide +kernel)]; exact ⟨rfl, rfl⟩))
    (fun os started H enc _ F => by rw [OpenClaim.pre_eq_preRow]; exact lifted os started H enc F)

theorem plain (f : FuncId) (fn : Func) (hf : Tryd.pinned.checked.prog.funcNamed "tollbar/tollbarkeep.WaysBoth" = some f) (hfn : Tryd.pinned.checked.prog.funcs[f]? = some fn) :
    false = Tryd.pinned.checked.prog.looks [] ∧ ∀ (j : Nat) t, fn.params[j]? = some t → Tryd.pinned.checked.prog.wantsStandIn t = false := by
  obtain rfl : f = 5 := Option.some.inj ((show Tryd.prog.funcNamed "tollbar/tollbarkeep.WaysBoth" = some 5 by kernel_rfl).symm.trans hf) |>.symm
  obtain rfl : fn = Tryd.f5 := (Option.some.inj (Tryd.func5.symm.trans hfn)).symm
  refine ⟨by kernel_rfl, fun j t ht => ?_⟩
  rw [Tryd.params5] at ht
  have h : t = 22 ∨ t = 3 := by have := Array.mem_of_getElem? ht; simp at this; omega
  rcases h with rfl | rfl
  · exact (show Tryd.prog.wantsStandIn 22 = false by kernel_rfl)
  · exact (show Tryd.prog.wantsStandIn 3 = false by kernel_rfl)

end Go.Proofs.YtcdobhdbafpkiadDoor.waysBoth
namespace Go.Proofs.YtcdobhdbafpkiadDoor
theorem waysBoth_card : Rows.WaysBothCardSaid :=
  Claim7.holds_tied_plain_at .later [] _ _ _ _ waysBoth.said (fun _ h => by cases h) (by kernel_rfl) (fun _ h => by cases h) waysBoth_row_tie rfl ⟨rfl, rfl⟩ (by kernel_rfl) rfl waysBoth.plain (by kernel_rfl)
#print axioms waysBoth_card
end Go.Proofs.YtcdobhdbafpkiadDoor
