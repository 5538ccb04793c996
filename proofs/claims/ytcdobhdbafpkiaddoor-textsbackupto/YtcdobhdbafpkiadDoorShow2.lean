/-
  Contract: pairs shown as a text: showPairs.
-/
import Derived.Test.YtcdobhdbafpkiadDoorShow1
namespace Go.Proofs.YtcdobhdbafpkiadDoor
open Go.RowKit
set_option maxRecDepth 20000

theorem Pl.take_prS (ps : List (Int × Int)) (k : Nat) (h : k < ps.length) : ps.take (k + 1) = ps.take k ++ [Pl.pr ps k] := by
  rw [List.take_succ_eq_append_getElem h, Pl.pr_eq ps k h]

theorem Pl.lens_le (B : Nat) : ∀ (xs : List (List UInt8)), (∀ x ∈ xs, x.length ≤ B) → Lib.lens xs ≤ xs.length * B
  | [], _ => by simp [Lib.lens]
  | x :: r, h => by
    have h1 := Pl.lens_le B r (fun y hy => h y (by simp [hy]))
    have h2 := h x (by simp)
    simp only [Lib.lens, List.map_cons, List.sum_cons, List.length_cons] at h1 ⊢
    rw [Nat.add_mul]; omega
theorem Pl.join_le (B : Nat) (xs : List (List UInt8)) (sep : List UInt8) (h : ∀ x ∈ xs, x.length ≤ B) : (Lib.join xs sep).length ≤ xs.length * (B + sep.length) := by
  cases xs with
  | nil => simp [Lib.join_nil]
  | cons x r =>
    rw [Lib.join_cons, List.length_append, Lib.joinTail_length]
    have h1 := Pl.lens_le B r (fun y hy => h y (by simp [hy]))
    have h2 := h x (by simp)
    rw [List.length_cons, Nat.add_mul, Nat.mul_add, Nat.mul_comm sep.length]; omega
theorem Pl.show_len (m : ByteArray) (ps : List (Int × Int)) (hs : ∀ p ∈ ps, Pl.small p) (hm : m.size ≤ 100) (hl : ps.length ≤ 100) : (Lib.join ((ps.map (Pl.sideT m)).map (·.data.toList)) (⟨#[44]⟩ : ByteArray).data.toList).length ≤ 140737488355328 := by
  refine Nat.le_trans (Pl.join_le 142 _ _ ?_) ?_
  · intro x hx
    simp only [List.mem_map] at hx
    obtain ⟨y, ⟨p, hp, rfl⟩, rfl⟩ := hx
    have := Pl.sideT_size m p (hs p hp)
    have e : (Pl.sideT m p).data.toList.length = (Pl.sideT m p).size := by simp
    omega
  · simp only [List.length_map]
    show ps.length * (142 + 1) ≤ _
    omega

set_option maxHeartbeats 4000000 in
theorem showPairs_any (a : Option Addr) (len cap : Nat) (ps : List (Int × Int)) (m : ByteArray) (w : World) (h : IsPairs w a len cap ps) (hs : ∀ p ∈ ps, Pl.small p) (hl : len ≤ 100) (hm : m.size ≤ 100) (hT : Tab w) :
    Calls Tryd.prog 19 #[.slice a len cap, .string m] w fun e w' => e = .returned (.string (Pl.showT m ps)) ∧ Below w.heap.size w w' := by
  have HH := hid h
  have HS := hid hs
  have HT := hid hT
  have hlen := h.1
  have hcap := h.2.1
  have hmax := h.2.2.1
  unfold maxLen at hmax
  clear h hs hT
  go_enter Tryd.func19, Tryd.ntmps19
  go_wp2_with fail
  go_loopw [5, 10] (fun vl i wr => ∃ (k : Nat) (vv : Value), vv = vl ∧ k ≤ len ∧ i = .int .i64 k ∧ Hid (OwnT wr w.heap.size vv ((ps.take k).map (Pl.sideT m))) ∧ Below w.heap.size w wr) (fun _ i _ => len - (intOf i).toNat)
  case atStart => exact ⟨0, _, rfl, Nat.zero_le _, rfl, hid (OwnT.nil _ _), Below.refl _ _⟩
  case round =>
    obtain ⟨k, vl, rfl, hk, rfl, HO, hb⟩ := hrel
    have hz := hb.size
    by_cases hlt : k < len
    · obtain ⟨b, off, rfl, hbw, hr⟩ : ∃ b off, a = some ⟨b, off, none⟩ ∧ b < w.heap.size ∧ PairsAt w b off ps := by
        rcases HH.out.2.2.2.2 with rfl | h
        · simp at hlen; omega
        · exact h
      obtain ⟨c0, c1⟩ := (hr.below hbw hb) k (by omega)
      have hbr : b < wr.heap.size := by omega
      clear hr
      obtain ⟨pp, hpp⟩ : ∃ pp, Hid (Pl.pr ps k = pp) := ⟨_, rfl⟩
      rw [hpp.out] at c0 c1
      have hsm : Pl.small pp := by rw [← hpp.out]; exact HS.out _ (Pl.pr_mem ps k (by omega))
      go_wp2_with fail
      refine wp_region_any (by kernel_rfl) ?_
      obtain ⟨W0, hW0⟩ : ∃ W0 : World, W0 = wr.alloc (.cells #[.int .i64 pp.1, .int .i64 pp.2] 69) := ⟨_, rfl⟩
      have hR : wr.heap.size < W0.heap.size := by rw [hW0]; simp
      have d0 : W0.cell? ⟨wr.heap.size, 0, none⟩ = some (.int .i64 pp.1) := by rw [hW0]; simp
      have d1 : W0.cell? ⟨wr.heap.size, 1, none⟩ = some (.int .i64 pp.2) := by rw [hW0]; simp
      have hBW : Below wr.heap.size wr W0 := by rw [hW0]; exact (Below.refl _ _).alloc (Nat.le_refl _) _
      have HOW : Hid (OwnT W0 w.heap.size vl ((ps.take k).map (Pl.sideT m))) := hid (HO.out.below hBW)
      have hBw : Below w.heap.size w W0 := hb.trans (hBW.mono hz)
      have HTW : Hid (Tab W0) := hid (HT.out.below hBw)
      obtain ⟨ks, HKS⟩ : ∃ ks, Hid ((ps.take k).map (Pl.sideT m) = ks) := ⟨_, hid rfl⟩
      rw [HKS.out] at HOW
      have hkl : ks.length = k := by rw [← HKS.out]; simp; omega
      obtain ⟨hs1, hs2, hs3, hs4⟩ := hsm
      have hz1 := Pl.dec_le pp.1 hs1 hs2
      have hz2 := Pl.dec_le pp.2 hs3 hs4
      obtain ⟨L, hLd⟩ : ∃ L, L = [(0, Value.slice (some ⟨b, off, none⟩) len cap), (1, Value.string m), (7, Value.pointer (some ⟨wr.heap.size, 0, none⟩)), (8, Value.slice (some ⟨b, off, none⟩) len cap), (9, Value.int .i64 (len : Int)), (10, Value.int .i64 (k : Int)), (2, undef), (3, undef), (4, Value.string ⟨#[]⟩), (6, undef), (27, undef), (28, undef)] := ⟨_, rfl⟩
      have hL : ∀ x ∈ L, x.1 ≠ 5 ∧ (x.1 < 14 ∨ 25 < x.1) := by
        intro x hx
        rw [hLd] at hx
        simp at hx
        rcases hx with rfl | rfl | rfl | rfl | rfl | rfl | rfl | rfl | rfl | rfl | rfl | rfl <;> simp
      refine wpAny_inv2 (SInv pp m wr.heap.size w.heap.size vl ks W0 L) ?_ ?_ _ _ _ _ (by decide +kernel) ?_ (closed_start _ _ _)
      · intro i listed a W hi hC hI
        rw [mem_ready] at hi
        obtain ⟨hl, o, ho, hall⟩ := hi
        have hlt : i < 13 := (Array.getElem?_eq_some_iff.1 ho).1
        have hnl : listed.getD i false = false := by
          have hls := hI.ls
          have hil : i < listed.size := by omega
          simp [hil] at hl ⊢
          exact hl
        have hn11 : i < 11 → listed.getD 11 false = false := by
          intro hi11
          cases h11 : listed.getD 11 false with
          | false => rfl
          | true =>
            exfalso
            have q10 := hC 11 _ rfl h11 ⟨10, .data⟩ (by simp) rfl
            have q0 := hC 11 _ rfl h11 ⟨0, .data⟩ (by simp) rfl
            have q9 := hC 10 _ rfl q10 ⟨9, .data⟩ (by simp) rfl
            have q8 := hC 9 _ rfl q9 ⟨8, .data⟩ (by simp) rfl
            have q5 := hC 9 _ rfl q9 ⟨5, .data⟩ (by simp) rfl
            have q7 := hC 8 _ rfl q8 ⟨7, .data⟩ (by simp) rfl
            have q6 := hC 7 _ rfl q7 ⟨6, .data⟩ (by simp) rfl
            have q3 := hC 5 _ rfl q5 ⟨3, .data⟩ (by simp) rfl
            have q4 := hC 5 _ rfl q5 ⟨4, .data⟩ (by simp) rfl
            have q2 := hC 3 _ rfl q3 ⟨2, .data⟩ (by simp) rfl
            have q1 := hC 2 _ rfl q2 ⟨1, .data⟩ (by simp) rfl
            simp only at q10 q0 q9 q8 q5 q7 q6 q3 q4 q2 q1
            have hcs : i = 0 ∨ i = 1 ∨ i = 2 ∨ i = 3 ∨ i = 4 ∨ i = 5 ∨ i = 6 ∨ i = 7 ∨ i = 8 ∨ i = 9 ∨ i = 10 := by omega
            rcases hcs with rfl | rfl | rfl | rfl | rfl | rfl | rfl | rfl | rfl | rfl | rfl <;> simp_all
        have hn12 : i < 12 → listed.getD 12 false = false := by
          intro hi12
          cases h12 : listed.getD 12 false with
          | false => rfl
          | true =>
            exfalso
            have q11 := hI.al h12
            rcases Nat.lt_or_ge i 11 with h | h
            · rw [hn11 h] at q11; cases q11
            · obtain rfl : i = 11 := by omega
              rw [q11] at hnl; cases hnl
        have hcs : i = 0 ∨ i = 1 ∨ i = 2 ∨ i = 3 ∨ i = 4 ∨ i = 5 ∨ i = 6 ∨ i = 7 ∨ i = 8 ∨ i = 9 ∨ i = 10 ∨ i = 11 ∨ i = 12 := by omega
        rcases hcs with rfl | rfl | rfl | rfl | rfl | rfl | rfl | rfl | rfl | rfl | rfl | rfl | rfl
        all_goals
          simp at ho
          subst ho
          refine wpOp_of rfl rfl ?_
        · have e1 := hI.s5 (hn12 (by omega))
          simp [Oper.wp, go_sem, e1]
          exact hI.put hL (i := 0) (by omega) (hn11 (by omega)) (hn12 (by omega)) (Below.refl _ _) rfl
        · have e1 : a.tmps[7]?.getD undef = .pointer (some ⟨wr.heap.size, 0, none⟩) := hI.keep (7, _) (by rw [hLd]; simp)
          simp [Oper.wp, go_sem, e1]
          exact hI.put hL (i := 1) (by omega) (hn11 (by omega)) (hn12 (by omega)) (Below.refl _ _) rfl
        · have e1 : a.tmps[15]?.getD undef = .pointer (some ⟨wr.heap.size, 0, none⟩) := hI.f (hn11 (by omega)) 1 (by omega) (hall ⟨1, .data⟩ (by simp) rfl)
          have e2 := ((bcell (hI.nb (hn11 (by omega)))).1 wr.heap.size 0 hR).trans d0
          simp [Oper.wp, go_sem, e1, e2]
          exact hI.put hL (i := 2) (by omega) (hn11 (by omega)) (hn12 (by omega)) (Below.refl _ _) rfl
        · have e1 : a.tmps[16]?.getD undef = .int .i64 pp.1 := hI.f (hn11 (by omega)) 2 (by omega) (hall ⟨2, .data⟩ (by simp) rfl)
          simp [Oper.wp, go_sem, e1]
          refine (Itoa_any pp.1 W hs1 (by omega) (HTW.out.below (hI.nb (hn11 (by omega))))).mono ?_
          rintro e w1 ⟨rfl, hb1⟩
          exact hI.put hL (i := 3) (by omega) (hn11 (by omega)) (hn12 (by omega)) hb1 rfl
        · have e1 : a.tmps[1]?.getD undef = .string m := hI.keep (1, _) (by rw [hLd]; simp)
          simp [Oper.wp, go_sem, e1]
          exact hI.put hL (i := 4) (by omega) (hn11 (by omega)) (hn12 (by omega)) (Below.refl _ _) rfl
        · have e1 : a.tmps[17]?.getD undef = .string (Pl.dec pp.1) := hI.f (hn11 (by omega)) 3 (by omega) (hall ⟨3, .data⟩ (by simp) rfl)
          have e2 : a.tmps[18]?.getD undef = .string m := hI.f (hn11 (by omega)) 4 (by omega) (hall ⟨4, .data⟩ (by simp) rfl)
          simp [Oper.wp, go_sem, e1, e2]
          rw [if_neg (by omega), Oper.upon_value]
          exact hI.put hL (i := 5) (by omega) (hn11 (by omega)) (hn12 (by omega)) (Below.refl _ _) rfl
        · have e1 : a.tmps[7]?.getD undef = .pointer (some ⟨wr.heap.size, 0, none⟩) := hI.keep (7, _) (by rw [hLd]; simp)
          simp [Oper.wp, go_sem, e1]
          exact hI.put hL (i := 6) (by omega) (hn11 (by omega)) (hn12 (by omega)) (Below.refl _ _) rfl
        · have e1 : a.tmps[20]?.getD undef = .pointer (some ⟨wr.heap.size, 1, none⟩) := hI.f (hn11 (by omega)) 6 (by omega) (hall ⟨6, .data⟩ (by simp) rfl)
          have e2 := ((bcell (hI.nb (hn11 (by omega)))).1 wr.heap.size 1 hR).trans d1
          simp [Oper.wp, go_sem, e1, e2]
          exact hI.put hL (i := 7) (by omega) (hn11 (by omega)) (hn12 (by omega)) (Below.refl _ _) rfl
        · have e1 : a.tmps[21]?.getD undef = .int .i64 pp.2 := hI.f (hn11 (by omega)) 7 (by omega) (hall ⟨7, .data⟩ (by simp) rfl)
          simp [Oper.wp, go_sem, e1]
          refine (Itoa_any pp.2 W hs3 (by omega) (HTW.out.below (hI.nb (hn11 (by omega))))).mono ?_
          rintro e w1 ⟨rfl, hb1⟩
          exact hI.put hL (i := 8) (by omega) (hn11 (by omega)) (hn12 (by omega)) hb1 rfl
        · have e1 : a.tmps[19]?.getD undef = .string (Pl.dec pp.1 ++ m) := hI.f (hn11 (by omega)) 5 (by omega) (hall ⟨5, .data⟩ (by simp) rfl)
          have e2 : a.tmps[22]?.getD undef = .string (Pl.dec pp.2) := hI.f (hn11 (by omega)) 8 (by omega) (hall ⟨8, .data⟩ (by simp) rfl)
          simp [Oper.wp, go_sem, e1, e2]
          rw [if_neg (by omega), Oper.upon_value]
          exact hI.put hL (i := 9) (by omega) (hn11 (by omega)) (hn12 (by omega)) (Below.refl _ _) rfl
        · have e1 : a.tmps[23]?.getD undef = .string (Pl.sideT m pp) := hI.f (hn11 (by omega)) 9 (by omega) (hall ⟨9, .data⟩ (by simp) rfl)
          simp [Oper.wp, go_sem, e1]
          exact hI.put hL (i := 10) (by omega) (hn11 (by omega)) (hn12 (by omega)) ((Below.refl _ _).alloc (Nat.le_refl _) _) ⟨W.heap.size, rfl, by simp, by simp⟩
        · have hn : listed.getD 11 false = false := hnl
          have e1 : a.tmps[14]?.getD undef = vl := hI.f hn 0 (by omega) (hall ⟨0, .data⟩ (by simp) rfl)
          obtain ⟨bb, e2, hbb, hcc⟩ := hI.f hn 10 (by omega) (hall ⟨10, .data⟩ (by simp) rfl)
          simp only [Nat.reduceAdd] at e2
          have hnb := hI.nb hn
          have hoW : OwnT W w.heap.size vl ks := HOW.out.below hnb
          have hlt2 := World.ownsRow.lt hoW
          have hbase : w.heap.size ≤ W.heap.size := Nat.le_trans hBw.size hnb.size
          obtain ⟨i0, hi0, hz0, hz1', hz2'⟩ := partsOf infoText
          refine wp_append_own W (.tmp 14) (.tmp 24) 79 rfl w.heap.size 9 i0 _ 1 16 Tryd.underlying79 hi0 hz0 hz1' hz2' rfl (by decide) vl ks.length (ks.map Value.string) (by simpa [go_sem] using e1) hoW ⟨bb, 0, none⟩ 1 1 [.string (Pl.sideT m pp)] (by simpa [go_sem] using e2) rfl ?_ ?_ (by unfold maxLen; omega) (by omega) hbase ?_
          · intro j u hj
            match j, hj with
            | 0, hj => simp at hj; subst hj; rw [add_none]; exact hcc
          · intro u hu; simp at hu; subst hu; rfl
          · intro v' w' hown' hg _
            have hbel : Below w.heap.size W0 w' := (hnb.mono hBw.size).grown hg hbase (fun k hk => (hlt2 k hk).1)
            have h11 : (listed.setIfInBounds 11 true).getD 11 false = true := by
              have hls := hI.ls
              simp [hls]
            have h12 : (listed.setIfInBounds 11 true).getD 12 false = false := by rw [getD_set_ne false (by omega)]; exact hn12 (by omega)
            show SInv pp m wr.heap.size w.heap.size vl ks W0 L (listed.setIfInBounds 11 true) (a.put (some 25) v') w'
            refine ⟨by simp [hI.ls], by simp [Act.put, hI.sz], hI.df, ?_, ?_, (fun h' => by rw [h11] at h'; cases h'), (fun h' => by rw [h11] at h'; cases h'), (fun h' => by rw [h12] at h'; cases h'), ?_, (fun h' => by rw [h12] at h'; cases h')⟩
            · intro x hx
              have := hL x hx
              rw [eval_ne (by omega)]; exact hI.keep x hx
            · intro _
              rw [eval_ne (by omega)]; exact hI.s5 (hn12 (by omega))
            · intro _ _
              refine ⟨v', eval_eq (by rw [hI.sz]; omega), ?_, hbel⟩
              unfold OwnT
              simpa using hown'
        · have hn : listed.getD 12 false = false := hnl
          have q11 := hall ⟨11, .data⟩ (by simp) rfl
          simp only at q11
          obtain ⟨v1, e1, ho1, hbel⟩ := hI.ap q11 hn
          simp [Oper.wp, go_sem, e1]
          have h12 : (listed.setIfInBounds 12 true).getD 12 false = true := by
            have hls := hI.ls
            simp [hls]
          have h11 : (listed.setIfInBounds 12 true).getD 11 false = true := by rw [getD_set_ne false (by omega)]; exact q11
          refine ⟨by simp [hI.ls], by simp [hI.sz], hI.df, ?_, (fun h' => by rw [h12] at h'; cases h'), (fun h' => by rw [h11] at h'; cases h'), (fun h' => by rw [h11] at h'; cases h'), (fun _ => h11), (fun _ h' => by rw [h12] at h'; cases h'), ?_⟩
          · intro x hx
            have := hL x hx
            have h := eval_ne (a := a) (m := 5) (n := x.1) (v := v1) (by omega)
            exact h.trans (hI.keep x hx)
          · intro _
            exact ⟨v1, eval_eq (a := a) (m := 5) (v := v1) (by rw [hI.sz]; omega), ho1, hbel⟩
      · intro listed a W hr hI
        rename_i K hK
        have hal := all_listed (by decide +kernel) hI.ls hr 12 (by decide)
        obtain ⟨v1, e5, ho1, hbel⟩ := hI.dn hal
        have k0 := hI.keep (0, Value.slice (some ⟨b, off, none⟩) len cap) (by rw [hLd]; simp)
        have k1 := hI.keep (1, Value.string m) (by rw [hLd]; simp)
        have k8 := hI.keep (8, Value.slice (some ⟨b, off, none⟩) len cap) (by rw [hLd]; simp)
        have k9 := hI.keep (9, Value.int .i64 (len : Int)) (by rw [hLd]; simp)
        have k10 := hI.keep (10, Value.int .i64 (k : Int)) (by rw [hLd]; simp)
        have k2 := hI.keep (2, undef) (by rw [hLd]; simp)
        have k3 := hI.keep (3, undef) (by rw [hLd]; simp)
        have k4 := hI.keep (4, Value.string ⟨#[]⟩) (by rw [hLd]; simp)
        have k6 := hI.keep (6, undef) (by rw [hLd]; simp)
        have k27 := hI.keep (27, undef) (by rw [hLd]; simp)
        have k28 := hI.keep (28, undef) (by rw [hLd]; simp)
        have hdf := hI.df
        obtain ⟨t0, t1, t2, t3, t4, t5, t6, t7, t8, t9, t10, t11, t12, t13, t14, t15, t16, t17, t18, t19, t20, t21, t22, t23, t24, t25, t26, t27, t28, htm⟩ := arr29 a.tmps hI.sz
        obtain ⟨tm, df⟩ := a
        simp only at htm hdf
        subst htm hdf
        simp at k0 k1 k8 k9 k10 e5 k2 k3 k4 k6 k27 k28
        subst k0 k1 k8 k9 k10 e5 k2 k3 k4 k6 k27 k28
        have HO1 : Hid (OwnT W w.heap.size t5 ((ps.take (k + 1)).map (Pl.sideT m))) := by
          refine hid ?_
          rw [Pl.take_prS ps k (by omega), List.map_append, HKS.out, hpp.out]
          exact ho1
        have hbF : Below w.heap.size w W := hBw.trans hbel
        refine hK _ W ?_
        clear hI hr
        go_wp2_with fail
        go_roundw
        case rel => exact ⟨k + 1, t5, rfl, by omega, by go_num, HO1, hbF⟩
        case measure => simp [intOf]; omega
      · rw [← hW0]
        refine ⟨by rfl, by rfl, rfl, ?_, (fun _ => rfl), ?_, (fun _ => Below.drew (Below.refl _ _)), ?_, ?_, ?_⟩
        · intro x hx
          rw [hLd] at hx
          simp at hx
          rcases hx with rfl | rfl | rfl | rfl | rfl | rfl | rfl | rfl | rfl | rfl | rfl | rfl <;> rfl
        · intro _ k hk h
          have : (Array.replicate 13 false).getD k false = true := h
          rw [show (Array.replicate 13 false).getD k false = false from by by_cases hk' : k < 13 <;> simp [hk']] at this
          cases this
        · intro h
          have : (Array.replicate 13 false).getD 12 false = true := h
          simp at this
        · intro h
          have : (Array.replicate 13 false).getD 11 false = true := h
          simp at this
        · intro h
          have : (Array.replicate 13 false).getD 12 false = true := h
          simp at this
    · obtain rfl : k = len := by omega
      obtain ⟨xs, HXS⟩ : ∃ xs, Hid (ps.map (Pl.sideT m) = xs) := ⟨_, hid rfl⟩
      have hxl : xs.length = k := by rw [← HXS.out]; simpa using hlen
      have HO' : Hid (OwnT wr w.heap.size vl xs) := by
        have h := HO.out
        rw [List.take_of_length_le (by omega), HXS.out] at h
        exact hid h
      have HSH : Hid (Pl.showT m ps = ⟨(Lib.join (xs.map (·.data.toList)) (⟨#[44]⟩ : ByteArray).data.toList).toArray⟩) := hid (by unfold Pl.showT; rw [HXS.out])
      obtain ⟨a2, cap2, rfl, hc2, hm2, hr2⟩ := OwnT.shape HO'.out
      have HLE := hid (Pl.show_len m ps HS.out hm (by omega))
      rw [HXS.out] at HLE
      rcases hr2 with hnil | ⟨b2, rfl, hb2, hlt2, hcell⟩
      · subst hnil
        have hk0 : k = 0 := by simpa using hxl.symm
        clear hlen hxl hc2
        subst hk0
        go_wp2_with fail
        refine (Tryd.strings_Join_none a2 cap2 _ _).mono ?_
        rintro e w3 ⟨rfl, rfl⟩
        go_wp2_with fail
        go_ret
        exact ⟨by rw [HSH.out]; rfl, hb⟩
      · have HJ : Hid (Calls Tryd.prog 35 #[.slice (some ⟨b2, 0, none⟩) k cap2, .string ⟨#[44]⟩] wr fun e w' => e = .returned (.string (Pl.showT m ps)) ∧ Below wr.heap.size wr w') := by
          refine hid ?_
          have h := Tryd.strings_Join b2 0 cap2 xs ⟨#[44]⟩ wr (by
            intro j x hj
            obtain ⟨hj1, hj2⟩ := List.getElem?_eq_some_iff.1 hj
            rw [← hj2]
            exact hcell j hj1) hlt2 (by omega) hc2 HLE.out
          rw [hxl, ← HSH.out] at h
          exact h
        rw [hxl]
        clear hcell hlen hxl hc2 HLE HSH HXS
        go_wp2_with fail
        refine HJ.out.mono ?_
        rintro e w3 ⟨rfl, hb3⟩
        go_wp2_with fail
        go_ret
        exact ⟨rfl, hb.trans (hb3.mono hz)⟩
end Go.Proofs.YtcdobhdbafpkiadDoor
