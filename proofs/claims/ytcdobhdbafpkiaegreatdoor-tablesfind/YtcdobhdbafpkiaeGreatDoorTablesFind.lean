/-
  Proved: for every list of raw things and every three numbers, the law TablesFind returns true and leaves its arguments as they were: what is found in a table of what Map makes of them leads to a node that has a prefix of the address, and no longer one is reached; the condition: strconv's table holds what the program's text lays there.
-/
import Derived.Test.YtcdobhdbafpkiaeGreatDoorCards
import Derived.Test.YtcdobhdbafpkiaeGreatDoorTie
import Derived.Test.YtcdobhdbafpkiaeGreatDoorAll6
import Derived.Test.YtcdobhdbafpkiaeGreatDoorAll8
import Derived.Test.YtcdobhdbafpkiaeGreatDoorAll11
import Derived.Test.YtcdobhdbafpkiaeGreatDoorAll10
import Derived.Deep.DeepHandedRow
import Derived.Lib.LaidTab
namespace Go.Proofs.YtcdobhdbafpkiaeGreatDoor.tablesFind
open Go.ChangeShapes Go.WideShapes Go.ChangeAt Go.RowKit
set_option maxRecDepth 20000
set_option linter.unusedVariables false

theorem laidNet {w w3 : World} {C D V} (h : w3 = (w.alloc (.cells Tryz.zeroCells41 41)).setCells w.heap.size 0 (cells168 C D V)) :
    NAt w3 w.heap.size C D V ∧ Below w.heap.size w w3 := by
  have n1 := NAt.new w
  have hb : Below w.heap.size w (w.alloc (.cells Tryz.zeroCells41 41)) := (Below.refl _ _).alloc (Nat.le_refl _) _
  generalize (w.alloc (.cells Tryz.zeroCells41 41)) = w2 at *
  have hu : But w.heap.size w2 w3 := by rw [h]; exact But.setCells _ 0 _ (But.refl _ _)
  refine ⟨?_, hb.trans (hu.below (Nat.le_refl _) hb.size)⟩
  rw [h]
  refine (CellsAt.sets (cells168 C D V) 0 w2 _ n1).ext fun o ho => ?_
  rw [if_pos (by rw [cells168_len]; omega)]
  simp [cells168, ho]
def vals12 (V : Nat → Value) : List Value := (List.range 12).map V
theorem vals_range {w B C D V} (h : NAt w B C D V) : w.rangeAt B 156 (vals12 V) := CellsAt.range h _ _ (by simp [vals12]) fun j hj => by
  simp only [vals12, List.length_map, List.length_range] at hj
  unfold netCell
  rw [if_neg (by omega), if_neg (by omega), show 156 + j - 156 = j by omega]
  simp [vals12]
theorem infoPfxs : (Tryz.prog.info? 39).map (·.size) = some 12 := by kernel_rfl
theorem infoPfxS : (Tryz.prog.info? 38).map (·.size) = some 1 := by kernel_rfl
theorem run_index_vals (V : Nat → Value) (k : Nat) (hk : k < 12) (w : World) : (Instr.index 39 (.agg (vals12 V).toArray) (.int .i64 k)).run Tryz.prog w = .ok (V k) w := by
  have h1 : (vals12 V)[k]? = some (V k) := by simp [vals12, hk]
  obtain ⟨i, hi, hz⟩ := infoSome infoPfxS
  simp [Instr.index, part, isAgg, sizeOf, typeInfo, underlying, go_sem, Tryz.underlying39, Tryz.underlying38, hi, hz, h1, hk]

set_option maxHeartbeats 8000000 in
theorem walk (a : Option Addr) (len cap : Nat) (n f d : Int) (w : World) (h : IsRaws w a len cap) (hn : (Lit.int .i64 n).wf = true) (hf : (Lit.int .i64 f).wf = true) (hd : (Lit.int .i64 d).wf = true) (hT : Tab w) :
    Calls Tryz.prog 4 #[.slice a len cap, .int .i64 n, .int .i64 f, .int .i64 d] w fun e w' => e = .returned (.bool true) ∧ Below w.heap.size w w' := by
  have HH := hid h
  have HT := hid hT
  have bn := wf_bounds hn
  have bf := wf_bounds hf
  have bd := wf_bounds hd
  clear h hT hn hf hd
  have HP1 := hid (fun W => picked_any n 7 W bn.1 bn.2 (by omega) (by omega))
  obtain ⟨q, hq⟩ := Int.eq_ofNat_of_zero_le (Pl.pk_range n 7 (by omega)).1
  have hq7 : q < 7 := by have := (Pl.pk_range n 7 (by omega)).2; omega
  rw [hq] at HP1
  have hw2 : IntKind.i64.wrap (2 + (q : Int)) = ((q + 2 : Nat) : Int) := by rw [IntKind.wrap_i64]; omega
  have HP2 := hid (fun W => picked_any f ((q + 2 : Nat) : Int) W bf.1 bf.2 (by omega) (by omega))
  obtain ⟨p, hp⟩ := Int.eq_ofNat_of_zero_le (Pl.pk_range f ((q + 2 : Nat) : Int) (by omega)).1
  have hp12 : p < 12 := by have := (Pl.pk_range f ((q + 2 : Nat) : Int) (by omega)).2; omega
  rw [hp] at HP2
  have HP3 := hid (fun W => picked_any d 256 W bd.1 bd.2 (by omega) (by omega))
  obtain ⟨x, hx⟩ := Int.eq_ofNat_of_zero_le (Pl.pk_range d 256 (by omega)).1
  have hx256 : x < 256 := by have := (Pl.pk_range d 256 (by omega)).2; omega
  rw [hx] at HP3
  clear hq hp hx bn bf bd
  obtain ⟨nd, hnd⟩ : ∃ m : Nat, q + 2 = m := ⟨_, rfl⟩
  rw [hnd] at HP2 hw2
  go_enter Tryz.func4, Tryz.ntmps4
  go_wp2_with fail
  refine (HP1.out _).mono ?_
  rintro e wx ⟨rfl, hx⟩; rw [hx]; clear hx wx
  go_wp2_with fail
  refine (Map_any a len cap nd w HH.out (by omega) (by omega) HT.out).mono ?_
  rintro e w1 ⟨v1, es, rfl, ho1, hg1, hb1⟩
  have HF : Hid (Pl.fault es = 0) := hid ((Pl.good_iff es).2 hg1)
  obtain ⟨a1, c1, rfl, hi1, _, _⟩ := ho1.shape hg1.ok
  have HE1 := hid hi1
  have HB1 := hid hb1
  obtain ⟨l1, HL1⟩ : ∃ m, Hid (es.length = m) := ⟨_, hid rfl⟩
  rw [HL1.out] at HE1 ⊢
  clear ho1 hg1 hb1 hi1
  go_wp2_with fail
  refine (HP2.out _).mono ?_
  rintro e wx ⟨rfl, hx⟩; rw [hx]; clear hx wx
  go_wp2_with fail
  refine (HP3.out _).mono ?_
  rintro e wx ⟨rfl, hx⟩; rw [hx]; clear hx wx
  have HT1 := hid (HT.out.below HB1.out)
  have HWC : Hid (Pl.wayC es (p : Int) = 0) := hid (Pl.wayC_ok HF.out hp12)
  have HTA : Hid (Pl.tabA es (p : Int) = Pl.tabL es p) := hid (by unfold Pl.tabA; rw [HWC.out, if_pos rfl, Int.toNat_natCast])
  go_wp2_with fail
  refine (Table_any a1 l1 c1 es (p : Int) w1 HE1.out HT1.out).mono ?_
  rw [HWC.out, HTA.out]
  rintro e w2 ⟨v2, hs, rfl, ho2, hb2⟩
  have HO2 := hid ho2
  have HB2 : Hid (Below w.heap.size w w2) := hid (HB1.out.trans (hb2.mono HB1.out.size))
  have HE2 := hid (HE1.out.below hb2)
  clear ho2 hb2
  go_wp2_with fail
  refine (Ways_any a1 l1 c1 es (p : Int) w2 HE2.out (HT.out.below HB2.out)).mono ?_
  rw [HWC.out]
  rintro e w3 ⟨v3, ts, rfl, ho3, hf3, hb3⟩
  obtain ⟨g3, c3, rfl, hc3, hm3, ha3⟩ := ho3.at12 hf3 HWC.out
  unfold maxLen at hm3
  have HW3 := hid ha3
  have HB3 : Hid (Below w.heap.size w w3) := hid (HB2.out.trans (hb3.mono HB2.out.size))
  have HE3 := hid (HE2.out.below hb3)
  have HO3 := hid (HO2.out.below hb3)
  clear ho3 hf3 hb3 ha3
  go_wp2_with fail
  refine (Told_any a1 l1 c1 es w3 HE3.out HF.out (HT.out.below HB3.out)).mono ?_
  rintro e w4 ⟨V, rfl, hv4, hb4⟩
  have HB4 : Hid (Below w.heap.size w w4) := hid (HB3.out.trans (hb4.mono HB3.out.size))
  have HW4 := hid (HW3.out.below hb4)
  have HO4 := hid (HO3.out.below hb4)
  have HV4 := hid hv4
  clear hv4 hb4
  obtain ⟨w5, HX⟩ : ∃ x : World, Hid (x = (w4.alloc (.cells Tryz.zeroCells41 41)).setCells w4.heap.size 0 (cells168 (Pl.c2 (Pl.c1 es)) (Pl.tD es) V)) := ⟨_, hid rfl⟩
  have H5 := hid (laidNet HX.out)
  have HTH : Hid ((w4.alloc (.cells Tryz.zeroCells41 41)).there w4.heap.size 0 (cells168 (Pl.c2 (Pl.c1 es)) (Pl.tD es) V).length) := hid (by
    rw [cells168_len]
    exact CellsAt.there (NAt.new w4) 0 168 (by omega))
  go_wp2_with (refine wpList_store_as rfl 41 (.tmp 17) (.tmp 50) rfl w4.heap.size 0 (cells168 (Pl.c2 (Pl.c1 es)) (Pl.tD es) V) rfl rfl HTH.out (by rw [cells168_len]; exact infoNet) (one168 HV4.out.slices) HX.out ?_)
  have HB5 : Hid (Below w.heap.size w w5) := hid (HB4.out.trans (H5.out.2.mono HB4.out.size))
  have HW5 := hid (HW4.out.below H5.out.2)
  have HO5 := hid (HO4.out.below H5.out.2)
  have HV5 := hid (HV4.out.below H5.out.2)
  have HN5 : Hid (NAt w5 w4.heap.size (Pl.c2 (Pl.c1 es)) (Pl.tD es) V) := hid H5.out.1
  obtain ⟨a2, c2, rfl, hr2, _⟩ := HO5.out.1.rows
  have HR2 := hid hr2
  have HLK := hid (Lookup_any a2 hs.length c2 hs (Pl.tabL es p) (x : Int) w5 hr2 HO5.out.reads)
  have HCK := hid (fun W hW => Check_rib a2 hs.length c2 hs (Pl.tabL es p) W (hr2.below hW) (HO5.out.reads.below hW))
  rw [Pl.tabL_fault es hp12] at HCK
  obtain ⟨hl, HHL⟩ : ∃ m, Hid (hs.length = m) := ⟨_, hid rfl⟩
  rw [HHL.out] at HLK HCK ⊢
  have HFM := hid (fun b c h => Pl.find_most es hp12 (x := (x : Int)) (b := b) (c := c) (by omega) h)
  obtain ⟨lc, HLC⟩ : ∃ c, Hid (Pl.lookC (Pl.tabL es p) (x : Int) = c) := ⟨_, hid rfl⟩
  obtain ⟨lr, HLR⟩ : ∃ c, Hid (Pl.lookR (Pl.tabL es p) (x : Int) = c) := ⟨_, hid rfl⟩
  rw [HLC.out, HLR.out] at HLK HFM
  clear hr2 HX HTH H5 HO2 HO3 HO4 HW3 HW4 HV4
  refine HLK.out.mono ?_
  rintro e w6 ⟨g, rfl, hrd, hb6⟩
  have HG1 : Hid (g.p = lr.p) := hid hrd.1
  have HG2 : Hid (g.here = lr.here) := hid hrd.2.1
  have HG3 : Hid (g.cost = lr.cost) := hid hrd.2.2.1
  obtain ⟨⟨g1, g2⟩, gh, gc, ga, gl, gk⟩ := g
  simp only at HG1 HG2 HG3 ⊢
  have HB6 := hid hb6
  have HZ6 : Hid (Below w.heap.size w w6) := hid (HB5.out.trans (hb6.mono HB5.out.size))
  have HN6 : Hid (NAt w6 w4.heap.size (Pl.c2 (Pl.c1 es)) (Pl.tD es) V) := hid (CellsAt.below HN5.out hb6)
  clear hrd hb6 HLK
  obtain ⟨w7, HX7⟩ : ∃ x : World, Hid (x = w6.alloc (.cells #[.int .i64 g1, .int .i64 g2, .bool gh, .int .i64 gc, .slice ga gl gk] 47)) := ⟨_, hid rfl⟩
  have HB7 : Hid (Below w6.heap.size w6 w7) := hid (by rw [HX7.out]; exact (Below.refl _ _).alloc (Nat.le_refl _) _)
  have HBX : Hid (w7.heap[w6.heap.size]? = some (.cells #[.int .i64 g1, .int .i64 g2, .bool gh, .int .i64 gc, .slice ga gl gk] 47)) := hid (by rw [HX7.out]; exact heapNewZ w6 _)
  have HRG : Hid ((w6.alloc (.cells #[.int .i64 g1, .int .i64 g2, .bool gh, .int .i64 gc, .slice ga gl gk] 47)).rangeAt w4.heap.size 156 (vals12 V)) := hid (World.rangeAt_alloc (vals_range HN6.out) _)
  go_wp2_with (refine wpList_load_mid rfl 39 (.tmp 57) rfl w4.heap.size 156 rfl (vals12 V) _ HRG.out Tryz.underlying39 rfl infoPfxs ?_)
  rw [← HX7.out]
  have HZ7 : Hid (Below w5.heap.size w5 w7) := hid (HB6.out.trans (HB7.out.mono HB6.out.size))
  have HW7 := hid (HW5.out.below HZ7.out)
  have HV7 := hid (HV5.out.below HZ7.out)
  go_loopw [20, 21, 59] (fun b c i wr => ∃ (k : Nat) (B C : Int), k ≤ 12 ∧ i = .int .i64 k ∧ b = .int .i64 B ∧ c = .int .i64 C ∧ Hid (Pl.Most (Pl.wC es p) (x : Int) (Pl.Seen (Pl.tP es) k 0) B C) ∧ Hid (Below w7.heap.size w7 wr)) (fun _ _ i _ => 12 - (intOf i).toNat)
  case atStart => exact ⟨0, -1, -1, by omega, rfl, rfl, rfl, hid (Pl.most_start _ _ _), hid (Below.refl _ _)⟩
  case round =>
    obtain ⟨k, B, C, hk, rfl, rfl, rfl, HM, HB⟩ := hrel
    have hzr := HB.out.size
    by_cases hlt : k < 12
    · have hg := fun w => run_index_vals V k hlt w
      obtain ⟨pa, pl, pc, hVk, _, hpr⟩ := HV7.out k
      rw [if_pos hlt] at hpr
      rw [hVk] at hg
      have HPR := hid hpr
      have hpc := hpr.2.1
      have hpm := hpr.2.2.1
      unfold maxLen at hpm
      have HLP : Hid ((Pl.tP es k).length = pl) := hid hpr.1
      obtain ⟨z0, _, _, _, _⟩ := HW7.out.2 k hlt
      have hg7 := HW7.out.1
      have HZ0 := hid z0
      obtain ⟨D, HDD⟩ : ∃ D, Hid (Pl.wC es p k = D) := ⟨_, hid rfl⟩
      rw [HDD.out] at HZ0
      have hdk : decide ((k : Int) < 12) = true := by simp; omega
      have hdn : decide (k < 12) = true := by simp; omega
      clear hpr hVk z0
      go_wp2_with fail
      (try rw [hdk])
      (try rw [hdn])
      clear hdk hdn
      go_loopw [20, 21, 65] (fun b c i wq => ∃ (j : Nat) (B C : Int), j ≤ pl ∧ i = .int .i64 j ∧ b = .int .i64 B ∧ c = .int .i64 C ∧ Hid (Pl.Most (Pl.wC es p) (x : Int) (Pl.Seen (Pl.tP es) k j) B C) ∧ Hid (Below w7.heap.size w7 wq)) (fun _ _ i _ => pl - (intOf i).toNat)
      case atStart => exact ⟨0, B, C, Nat.zero_le _, rfl, rfl, rfl, HM, HB⟩
      case round =>
        clear HM
        obtain ⟨j, B, C, hj, rfl, rfl, rfl, HMj, HBj⟩ := hrel
        rename World => wq
        by_cases hjm : j < pl
        · obtain ⟨b, off, rfl, hbw, hr⟩ : ∃ b off, pa = some ⟨b, off, none⟩ ∧ b < w7.heap.size ∧ PairsAt w7 b off (Pl.tP es k) := by
            rcases HPR.out.2.2.2.2 with h | h
            · have := HLP.out; rw [h] at this; simp at this; omega
            · exact h
          obtain ⟨p0, p1⟩ := hr j (by rw [HLP.out]; exact hjm)
          have p0 := (HBj.out.cell (p := ⟨b, off + j * 2, none⟩) hbw).trans p0
          have p1 := (HBj.out.cell (p := ⟨b, off + j * 2 + 1, none⟩) hbw).trans p1
          have hbs := (Pl.pfx1_zero ((Pl.rpS_good _).2.1 _ (Pl.pr_mem (Pl.tP es k) j (by rw [HLP.out]; exact hjm)))).1
          have HSE := hid (Pl.seen_succ (P := Pl.tP es) (k := k) (j := j) (by rw [HLP.out]; exact hjm))
          obtain ⟨q1, q2, hpq⟩ : ∃ x y, Pl.pr (Pl.tP es k) j = (x, y) := ⟨_, _, rfl⟩
          rw [hpq] at p0 p1 hbs HSE
          simp only at p0 p1 hbs
          clear hr hpq
          have hb0 : 0 ≤ q2 := hbs.1
          have hb64 : q2 ≤ 64 := by omega
          obtain ⟨M, HMM⟩ : ∃ M, Hid ((x : Int) - (x : Int) % Pl.span q2 = M) := ⟨_, hid rfl⟩
          have hmask : bits BinOp.andNot IntKind.i64 (x : Int) (255 / 2 ^ q2.toNat) = M := by rw [← HMM.out]; exact Pl.mask_span (by omega) hbs
          have zq := (HBj.out.cell (p := ⟨g3, k * 2, none⟩) hg7).trans HZ0.out
          have hgq : g3 < wq.heap.size := Nat.lt_of_lt_of_le hg7 HBj.out.size
          have hbq : b < wq.heap.size := Nat.lt_of_lt_of_le hbw HBj.out.size
          have hjm' : (j : Int) < (pl : Int) := by omega
          by_cases hhit : M = q1
          · have hhit' : (M != q1) = false := by simp [hhit]
            by_cases hD : D < 0
            · have hD' : decide (D < 0) = true := by simpa using hD
              have HNH : Hid (¬ Pl.Hit (Pl.wC es p) (x : Int) k (q1, q2)) := hid (fun h => by have := h.1; rw [HDD.out] at this; omega)
              clear hhit hD
              have HMN : Hid (Pl.Most (Pl.wC es p) (x : Int) (Pl.Seen (Pl.tP es) k (j + 1)) B C) := hid ((HMj.out.miss (k := k) (p := (q1, q2)) HNH.out).ext HSE.out)
              go_wp2_with fail
              go_region
              go_wp2_with fail
              go_roundw
              case rel => exact ⟨j + 1, B, C, by omega, by go_num, rfl, rfl, HMN, hid ((HBj.out.alloc HBj.out.size _).drew)⟩
              case measure => simp [intOf]; omega
            · have hD' : decide (D < 0) = false := by simpa using hD
              have HYH : Hid (Pl.Hit (Pl.wC es p) (x : Int) k (q1, q2)) := hid ⟨by rw [HDD.out]; omega, by rw [← hhit, ← HMM.out]⟩
              clear hhit hD
              by_cases hn1 : B < q2
              · have hn1' : decide (B < q2) = true := by simpa using hn1
                have HNW : Hid (B < (q1, q2).2 ∨ ((q1, q2).2 = B ∧ Pl.wC es p k < C)) := hid (.inl hn1)
                clear hn1
                have HMN : Hid (Pl.Most (Pl.wC es p) (x : Int) (Pl.Seen (Pl.tP es) k (j + 1)) q2 D) := hid (by have := HMj.out.new (k := k) (p := (q1, q2)) HYH.out hb0 HNW.out; rw [HDD.out] at this; exact this.ext HSE.out)
                go_wp2_with fail
                go_region
                go_wp2_with fail
                go_region
                go_wp2_with fail
                go_roundw
                case rel => exact ⟨j + 1, q2, D, by omega, by go_num, rfl, rfl, HMN, hid ((HBj.out.alloc HBj.out.size _).drew.drew)⟩
                case measure => simp [intOf]; omega
              · have hn1' : decide (B < q2) = false := by simpa using hn1
                by_cases hn2 : q2 = B
                · have hn2' : (q2 == B) = true := by simpa using hn2
                  by_cases hn3 : D < C
                  · have hn3' : decide (D < C) = true := by simpa using hn3
                    have HNW : Hid (B < (q1, q2).2 ∨ ((q1, q2).2 = B ∧ Pl.wC es p k < C)) := hid (.inr ⟨hn2, by rw [HDD.out]; exact hn3⟩)
                    clear hn1 hn2 hn3
                    have HMN : Hid (Pl.Most (Pl.wC es p) (x : Int) (Pl.Seen (Pl.tP es) k (j + 1)) q2 D) := hid (by have := HMj.out.new (k := k) (p := (q1, q2)) HYH.out hb0 HNW.out; rw [HDD.out] at this; exact this.ext HSE.out)
                    go_wp2_with fail
                    go_region
                    go_wp2_with fail
                    go_region
                    go_wp2_with fail
                    go_roundw
                    case rel => exact ⟨j + 1, q2, D, by omega, by go_num, rfl, rfl, HMN, hid ((HBj.out.alloc HBj.out.size _).drew.drew)⟩
                    case measure => simp [intOf]; omega
                  · have hn3' : decide (D < C) = false := by simpa using hn3
                    have HNW : Hid (¬ (B < (q1, q2).2 ∨ ((q1, q2).2 = B ∧ Pl.wC es p k < C))) := hid (by rw [HDD.out]; simp only; omega)
                    clear hn1 hn2 hn3
                    have HMN : Hid (Pl.Most (Pl.wC es p) (x : Int) (Pl.Seen (Pl.tP es) k (j + 1)) B C) := hid ((HMj.out.old (k := k) (p := (q1, q2)) hb0 HNW.out).ext HSE.out)
                    go_wp2_with fail
                    go_region
                    go_wp2_with fail
                    go_roundw
                    case rel => exact ⟨j + 1, B, C, by omega, by go_num, rfl, rfl, HMN, hid ((HBj.out.alloc HBj.out.size _).drew)⟩
                    case measure => simp [intOf]; omega
                · have hn2' : (q2 == B) = false := by simpa using hn2
                  have HNW : Hid (¬ (B < (q1, q2).2 ∨ ((q1, q2).2 = B ∧ Pl.wC es p k < C))) := hid (by simp only; omega)
                  clear hn1 hn2
                  have HMN : Hid (Pl.Most (Pl.wC es p) (x : Int) (Pl.Seen (Pl.tP es) k (j + 1)) B C) := hid ((HMj.out.old (k := k) (p := (q1, q2)) hb0 HNW.out).ext HSE.out)
                  go_wp2_with fail
                  go_region
                  go_wp2_with fail
                  go_roundw
                  case rel => exact ⟨j + 1, B, C, by omega, by go_num, rfl, rfl, HMN, hid ((HBj.out.alloc HBj.out.size _).drew)⟩
                  case measure => simp [intOf]; omega
          · have hhit' : (M != q1) = true := by simp [hhit]
            have HNH : Hid (¬ Pl.Hit (Pl.wC es p) (x : Int) k (q1, q2)) := hid (fun h => hhit (by rw [← HMM.out]; exact h.2.symm))
            clear hhit
            have HMN : Hid (Pl.Most (Pl.wC es p) (x : Int) (Pl.Seen (Pl.tP es) k (j + 1)) B C) := hid ((HMj.out.miss (k := k) (p := (q1, q2)) HNH.out).ext HSE.out)
            go_wp2_with fail
            go_region
            go_wp2_with fail
            go_roundw
            case rel => exact ⟨j + 1, B, C, by omega, by go_num, rfl, rfl, HMN, hid ((HBj.out.alloc HBj.out.size _).drew)⟩
            case measure => simp [intOf]; omega
        · have HJ : Hid (pl ≤ j) := hid (by omega)
          have hnl : ¬ ((j : Int) < (pl : Int)) := by omega
          go_wp2_with fail
          go_roundw
          case rel => exact ⟨k + 1, B, C, by omega, by go_num, rfl, rfl, hid (HMj.out.ext (Pl.seen_next (by rw [HLP.out]; exact HJ.out))), HBj⟩
          case measure => simp [intOf]; omega
    · have HK12 : Hid (k = 12) := hid (by omega)
      have HMF : Hid (Pl.Most (Pl.wC es p) (x : Int) (Pl.Seen (Pl.tP es) 12 0) B C) := hid (by have := HM.out; rw [HK12.out] at this; exact this)
      have HCK7 := hid (HCK.out wr (HZ7.out.trans (HB.out.mono HZ7.out.size)))
      have HBF : Hid (Below w.heap.size w wr) := hid (HB5.out.trans ((HZ7.out.trans (HB.out.mono HZ7.out.size)).mono HB5.out.size))
      have HBXr : Hid (wr.heap[w6.heap.size]? = some (.cells #[.int .i64 g1, .int .i64 g2, .bool gh, .int .i64 gc, .slice ga gl gk] 47)) := hid ((HB.out.block _ (blockLt HBX.out)).trans HBX.out)
      have hnk : ¬ ((k : Int) < 12) := by omega
      go_wp2_with fail
      refine HCK7.out.mono ?_
      rintro e w8 ⟨rfl, hb8⟩
      have HB8 := hid hb8
      obtain ⟨⟨y0, y1, y2, y3, y4⟩, yf, yl⟩ := bx5 ((hb8.block _ (blockLt HBXr.out)).trans HBXr.out)
      clear hb8
      rcases HFM.out B C HMF.out with ⟨hb, hl6⟩ | ⟨hb, hl0, hp2, hcost, hhere⟩
      · have hb' : decide (B < 0) = true := by simpa using hb
        have hl6' : (lc == 6) = true := by simpa using hl6
        clear hb hl6
        go_wp2_with fail
        go_ret
        exact ⟨ret_bool (by simp), HBF.out.trans (HB8.out.mono HBF.out.size)⟩
      · have hb' : decide (B < 0) = false := by simp; omega
        have e1 : g2 = B := by have := HG1.out; rw [← hp2, ← this]
        have e2 : gc = C := by rw [HG3.out, hcost]
        have e3 : gh = (C == 0) := by rw [HG2.out, hhere]; rfl
        have hl0' : (lc == 0) = true := by simpa using hl0
        subst e1 e2 e3
        clear hb hl0 hp2 hcost hhere
        go_wp2_with fail
        go_ret
        exact ⟨ret_bool (by simp), HBF.out.trans (HB8.out.mono HBF.out.size)⟩

theorem gTab : Tryz.prog.globalNamed "internal/strconv.uint64pow10" = some 0 := by kernel_rfl
theorem gTabType : (Tryz.prog.globals[0]?).map (·.type) = some 177 := by kernel_rfl
theorem cellsTab : Tryz.prog.cellsOf 177 = 20 := by kernel_rfl
theorem laidTab : (Rows.laid_internal_strconv_uint64pow10 : DataW Unit) = Lib.tabData .u64 Lib.pow10Tab := by rfl
theorem table {W : World} (h : laidMetH Tryz.prog Rows.tablesFindRow.laid W) : Tab W := by
  have h1 : laidMet Tryz.prog Rows.tablesFindRow.laid W := h
  have h2 := laidMet.filter (fun x => x.1 == "internal/strconv.uint64pow10") h1
  have h3 : laidMet Tryz.prog [("internal/strconv.uint64pow10", (Rows.laid_internal_strconv_uint64pow10 : DataW Unit))] W := h2
  rw [laidTab] at h3
  exact Lib.tabIs_of_head (rest := []) gTab gTabType Tryz.underlying177 Tryz.underlying161 (by kernel_rfl) cellsTab h3

theorem contract (H : Type) (enc : TypeId × Value → H) (W : World) (base : Nat) (args : Array Value) (ds gs : List (DataW H)) (before : List MemPlace)
    (hval : ∀ (j : Nat) t v, Tryz.f4.params[j]? = some t → args[j]? = some v → Value.okWide Tryz.prog W .any base t v)
    (hW : DataW.Whole enc Tryz.prog Tryz.f4.params.toList Rows.tablesFindSpec.vars false W args.toList ds gs before) (hL : laidMetH Tryz.prog Rows.tablesFindRow.laid W) :
    Calls Tryz.prog 4 args W fun e W' => ∃ v, e = .returned v ∧ Rows.tablesFindSpec.post enc Tryz.prog Tryz.f4 false true false false W args v W' := by
  have hW' := hW
  obtain ⟨p, q, hA0, hV, rfl, hfz, hnd⟩ := hW
  have hA : DataW.TrodAll enc Tryz.prog W 0 (fun _ => true) true Tryz.f4.params.toList args.toList ds p := hA0
  rw [Tryz.params4] at hA hval
  obtain ⟨v0, vs0, d0, ds0, p0, q0, hargs, rfl, rfl, h0, r0⟩ := trodAll_cons hA
  obtain ⟨v1, vs1, d1, ds1, p1, q1, rfl, rfl, rfl, h1, r1⟩ := trodAll_cons r0
  obtain ⟨v2, vs2, d2, ds2, p2, q2, rfl, rfl, rfl, h2, r2⟩ := trodAll_cons r1
  obtain ⟨v3, vs3, d3, ds3, p3, q3, rfl, rfl, rfl, h3, r3⟩ := trodAll_cons r2
  obtain ⟨rfl, rfl, rfl⟩ := trodAll_nil r3
  obtain rfl : args = #[v0, v1, v2, v3] := by cases args; simp_all
  obtain ⟨rfl, rfl⟩ := trodVars_none hV
  have k0 := h0
  have lt0 : ∀ x ∈ p0, x.block < W.heap.size := by obtain ⟨m, hm⟩ := k0; exact DataW.trod_lt m _ _ _ hm
  obtain ⟨a0, len0, cap0, rfl, w0⟩ := open_raws (hval 0 29 v0 rfl rfl) h0
  have k1 := h1
  have lt1 : ∀ x ∈ p1, x.block < W.heap.size := by obtain ⟨m, hm⟩ := k1; exact DataW.trod_lt m _ _ _ hm
  obtain ⟨a1, rfl, _, _, w1⟩ := open_int Tryz.underlying3 (hval 1 3 v1 rfl rfl) h1
  have k2 := h2
  have lt2 : ∀ x ∈ p2, x.block < W.heap.size := by obtain ⟨m, hm⟩ := k2; exact DataW.trod_lt m _ _ _ hm
  obtain ⟨a2, rfl, _, _, w2⟩ := open_int Tryz.underlying3 (hval 2 3 v2 rfl rfl) h2
  have k3 := h3
  have lt3 : ∀ x ∈ p3, x.block < W.heap.size := by obtain ⟨m, hm⟩ := k3; exact DataW.trod_lt m _ _ _ hm
  obtain ⟨a3, rfl, _, _, w3⟩ := open_int Tryz.underlying3 (hval 3 3 v3 rfl rfl) h3
  clear hA0
  refine (walk a0 len0 cap0 a1 a2 a3 W w0 w1 w2 w3 (table hL)).mono fun e W' ⟨he, bel⟩ => ?_
  subst he
  exact ⟨_, rfl, _, _, _, [], _, [], hW', trodAll_mk1 (shut_bool Tryz.underlying4 _), (trodAll_cons_mk (Below.trod laidOut (by kernel_rfl) (of_decide_eq_true (by kernel_rfl)) k0 bel lt0) (trodAll_cons_mk (Below.trod laidOut (by kernel_rfl) (of_decide_eq_true (by kernel_rfl)) k1 bel lt1) (trodAll_cons_mk (Below.trod laidOut (by kernel_rfl) (of_decide_eq_true (by kernel_rfl)) k2 bel lt2) (trodAll_cons_mk (Below.trod laidOut (by kernel_rfl) (of_decide_eq_true (by kernel_rfl)) k3 bel lt3) trodAll_mk0)))), rfl, bel.frame _, fun h => by cases h⟩

def cells_laid_math_bits_deBruijn32tab : Array Value := #[.int .u8 0, .int .u8 1, .int .u8 28, .int .u8 2, .int .u8 29, .int .u8 14, .int .u8 24, .int .u8 3, .int .u8 30, .int .u8 22, .int .u8 20, .int .u8 15, .int .u8 25, .int .u8 17, .int .u8 4, .int .u8 8, .int .u8 31, .int .u8 27, .int .u8 13, .int .u8 23, .int .u8 21, .int .u8 19, .int .u8 16, .int .u8 7, .int .u8 26, .int .u8 12, .int .u8 18, .int .u8 6, .int .u8 11, .int .u8 5, .int .u8 10, .int .u8 9]
def cells_laid_math_bits_deBruijn64tab : Array Value := #[.int .u8 0, .int .u8 1, .int .u8 56, .int .u8 2, .int .u8 57, .int .u8 49, .int .u8 28, .int .u8 3, .int .u8 61, .int .u8 58, .int .u8 42, .int .u8 50, .int .u8 38, .int .u8 29, .int .u8 17, .int .u8 4, .int .u8 62, .int .u8 47, .int .u8 59, .int .u8 36, .int .u8 45, .int .u8 43, .int .u8 51, .int .u8 22, .int .u8 53, .int .u8 39, .int .u8 33, .int .u8 30, .int .u8 24, .int .u8 18, .int .u8 12, .int .u8 5, .int .u8 63, .int .u8 55, .int .u8 48, .int .u8 27, .int .u8 60, .int .u8 41, .int .u8 37, .int .u8 16, .int .u8 46, .int .u8 35, .int .u8 44, .int .u8 21, .int .u8 52, .int .u8 32, .int .u8 23, .int .u8 11, .int .u8 54, .int .u8 26, .int .u8 40, .int .u8 15, .int .u8 34, .int .u8 20, .int .u8 31, .int .u8 10, .int .u8 25, .int .u8 14, .int .u8 19, .int .u8 9, .int .u8 13, .int .u8 8, .int .u8 7, .int .u8 6]
def cells_laid_internal_strconv_uint64pow10 : Array Value := #[.int .u64 1, .int .u64 10, .int .u64 100, .int .u64 1000, .int .u64 10000, .int .u64 100000, .int .u64 1000000, .int .u64 10000000, .int .u64 100000000, .int .u64 1000000000, .int .u64 10000000000, .int .u64 100000000000, .int .u64 1000000000000, .int .u64 10000000000000, .int .u64 100000000000000, .int .u64 1000000000000000, .int .u64 10000000000000000, .int .u64 100000000000000000, .int .u64 1000000000000000000, .int .u64 10000000000000000000]
noncomputable def laidWorld (os : Os) : World := { World.holding Tryz.prog os ⟨#[], #[], []⟩ with heap := ((((World.holding Tryz.prog os ⟨#[], #[], []⟩).heap.modify 2 fun | .cells _ t frozen => .cells cells_laid_math_bits_deBruijn32tab t frozen | o => o).modify 3 fun | .cells _ t frozen => .cells cells_laid_math_bits_deBruijn64tab t frozen | o => o).modify 0 fun | .cells _ t frozen => .cells cells_laid_internal_strconv_uint64pow10 t frozen | o => o) }
set_option maxRecDepth 100000 in
theorem laid_met (os : Os) : laidMet Tryz.prog Rows.tablesFindRow.laid ((laidWorld os).forCall (fun _ _ => 0) ⟨#[], #[.slice none 0 0, .int .i64 0, .int .i64 0, .int .i64 0], []⟩).memory :=
  laidMet_of_run' 8 (by kernel_rfl) (by kernel_rfl)
set_option maxRecDepth 100000 in
theorem reads (os : Os) {H : Type} (enc : TypeId × Value → H) : ∃ places, DataW.whole enc Tryz.prog ((laidWorld os).forCall (fun _ _ => 0) ⟨#[], #[.slice none 0 0, .int .i64 0, .int .i64 0, .int .i64 0], []⟩).memory Tryz.f4.params.toList Rows.tablesFindSpec.vars false (#[.slice none 0 0, .int .i64 0, .int .i64 0, .int .i64 0] : Array Value).toList 8 = some ([.nil, .lit (.int .i64 0), .lit (.int .i64 0), .lit (.int .i64 0)], [], places) :=
  ⟨[], by kernel_rfl⟩
set_option maxRecDepth 100000 in
theorem lifted (os : Os) (started : os.Started) (H : Type) (enc : TypeId × Value → H) (F : Stop.Interp) :
    ReturnsInHanded {} Tryz.checked os 4 .any ((OpenSpec.ofChange Rows.tablesFindSpec).preRow enc Tryz.prog Tryz.f4 Rows.tablesFindRow.domain false Rows.tablesFindRow.laid) (((OpenSpec.ofChange Rows.tablesFindSpec).at F).post enc Tryz.prog Tryz.f4 false true false false) := by
  obtain ⟨places, hx⟩ := reads os enc
  refine returnsInHanded_of_row (C := Tryz.checked) (s := OpenSpec.ofChange Rows.tablesFindSpec) own started (by kernel_rfl) Tryz.func4
    (witness_row_at (enc := enc) (C := Tryz.checked) false (laidWorld os) #[.slice none 0 0, .int .i64 0, .int .i64 0, .int .i64 0] rfl (by kernel_rfl) (by kernel_rfl) (by kernel_rfl)
      (OpenSpec.preRow_of_cond 8 hx (by kernel_rfl) (fun k hk => by cases hk) (by kernel_rfl) (laid_met os))) ?_
  intro W base args ds gs before hval hW _ _ _ hL _ _
  exact contract H enc W base args ds gs before hval hW hL

theorem said : Rows.TablesFindSaid :=
  OpenClaim.holds_of_cond 4 Tryz.f4 rfl rfl rfl rfl rfl rfl rfl ⟨rfl, rfl, rfl, rfl, rfl⟩ rfl rfl rfl rfl rfl (by kernel_rfl) Tryz.func4 (by kernel_rfl)
    (of_decide_eq_true (by kernel_rfl)) (by unfold Func.isWrapper; first | (rw [if_pos (by decide +kernel)]; kernel_rfl) | (rw [if_neg (by decide +kernel)]; exact ⟨rfl, rfl⟩))
    (fun os started H enc _ F => by rw [OpenClaim.pre_eq_preRow]; exact lifted os started H enc F)

theorem plain (f : FuncId) (fn : Func) (hf : Tryz.pinned.checked.prog.funcNamed "tollbar/tollbarkeep.TablesFind" = some f) (hfn : Tryz.pinned.checked.prog.funcs[f]? = some fn) :
    false = Tryz.pinned.checked.prog.looks [] ∧ ∀ (j : Nat) t, fn.params[j]? = some t → Tryz.pinned.checked.prog.wantsStandIn t = false := by
  obtain rfl : f = 4 := Option.some.inj ((show Tryz.prog.funcNamed "tollbar/tollbarkeep.TablesFind" = some 4 by kernel_rfl).symm.trans hf) |>.symm
  obtain rfl : fn = Tryz.f4 := (Option.some.inj (Tryz.func4.symm.trans hfn)).symm
  refine ⟨by kernel_rfl, fun j t ht => ?_⟩
  rw [Tryz.params4] at ht
  have h : t = 29 ∨ t = 3 := by have := Array.mem_of_getElem? ht; simp at this; omega
  rcases h with rfl | rfl
  · exact (show Tryz.prog.wantsStandIn 29 = false by kernel_rfl)
  · exact (show Tryz.prog.wantsStandIn 3 = false by kernel_rfl)

end Go.Proofs.YtcdobhdbafpkiaeGreatDoor.tablesFind
namespace Go.Proofs.YtcdobhdbafpkiaeGreatDoor
theorem tablesFind_card : Rows.TablesFindCardSaid :=
  Claim7.holds_tied_plain_at .later [] _ _ _ _ tablesFind.said (fun _ h => by cases h) (by kernel_rfl) (fun _ h => by cases h) tablesFind_row_tie rfl ⟨rfl, rfl⟩ (by kernel_rfl) rfl tablesFind.plain (by kernel_rfl)
#print axioms tablesFind_card
end Go.Proofs.YtcdobhdbafpkiaeGreatDoor
