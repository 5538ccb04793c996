/-
  Contracts: what a text tells of links: ReadAdj and the document's AdjOf.
-/
import Derived.Test.YtcdobhdbafpkiadDoorCuts
import Derived.Test.YtcdobhdbafpkiadDoorAdj
namespace Go.Proofs.YtcdobhdbafpkiadDoor
open Go.RowKit
set_option maxRecDepth 20000

/-- the sides that a text tells, if it tells any that may be -/
def Pl.sidesL (l : List UInt8) : Option (List (Int × Int)) := Pl.pairsL 61 (Pl.tailB 33 l)
/-- what ReadAdj answers: drained, the sides, the code -/
def Pl.adjC (l : List UInt8) : Int := match Pl.sidesL l with
  | none => 4
  | some ps => Pl.adjF ps
def Pl.adjD (l : List UInt8) : Bool := Pl.adjC l == 0 && Pl.headB 33 l
def Pl.adjS (l : List UInt8) : List (Int × Int) := if Pl.adjC l = 0 then (Pl.sidesL l).getD [] else []
theorem infoSide : (Tryd.prog.info? 31).map (fun i => (i.zero, i.size, i.bytes)) = some (some (.agg #[.int .i64 0, .int .i64 0]), 2, 16) := by kernel_rfl
theorem Pl.tail_size {c : UInt8} {s a : ByteArray} (h : a.data.toList = Pl.tailB c s.data.toList) : a.size ≤ s.size := by
  rw [← sz_list a, ← sz_list s, h]
  unfold Pl.tailB
  split <;> simp
theorem Pl.parts_len : ∀ (n : Nat) (l : List UInt8), (Pl.partsN n l).length ≤ l.length + 1
  | 0, _ => by simp [Pl.partsN]
  | n + 1, l => by
    rw [Pl.partsN]
    split
    · simp
    · rename_i r hr
      have h1 := (Pl.cutL_len 44 l).2 r hr
      have h2 := Pl.parts_len n r
      simp only [List.length_cons]; omega
theorem Pl.pairsP_len {m : UInt8} : ∀ {ps : List (List UInt8)} {a : List (Int × Int)}, Pl.pairsP m ps = some a → a.length = ps.length
  | [], a, h => by cases h; rfl
  | p :: r, a, h => by
    rw [Pl.pairsP] at h
    split at h
    · rename_i x y hx hy
      cases h
      simp [Pl.pairsP_len hy]
    · cases h
theorem Pl.pairsL_facts {m : UInt8} {l : List UInt8} {a : List (Int × Int)} (h : Pl.pairsL m l = some a) : a.length ≤ l.length + 1 ∧ (∀ p ∈ a, Pl.pairOk p) := by
  unfold Pl.pairsL at h
  split at h
  · cases h; simp
  · refine ⟨?_, fun p hp => Pl.pairOk_of (Pl.pairsP_ok h p hp)⟩
    rw [Pl.pairsP_len h]; exact Pl.parts_len _ _

theorem box2f {w w3 : World} {c0 c1 : Value} {T : TypeId} (hb : Below (w.heap.size + 1) (w.alloc (.cells #[c0, c1] T)) w3) :
    w3.frozen? ⟨w.heap.size, 0, none⟩ = false ∧ w3.frozen? ⟨w.heap.size, 1, none⟩ = false := by
  constructor
  all_goals
    rw [hb.frozen (by simp)]
    simp
theorem adjAt_cells {w : World} {B : Nat} {c0 c1 : Value} {T : TypeId} (h : w.heap[B]? = some (.cells #[c0, c1] T)) :
    w.cell? ⟨B, 0, none⟩ = some c0 ∧ w.cell? ⟨B, 1, none⟩ = some c1 ∧ w.frozen? ⟨B, 0, none⟩ = false ∧ w.frozen? ⟨B, 1, none⟩ = false ∧ B < w.heap.size := by
  refine ⟨?_, ?_, ?_, ?_, blockLt h⟩
  all_goals simp [World.cell?, World.frozen?, h]
theorem adjAt_set {w : World} {B : Nat} {c0 c1 : Value} {T : TypeId} (h : w.heap[B]? = some (.cells #[c0, c1] T)) (v : Value) : (w.setCell ⟨B, 1, none⟩ v).heap[B]? = some (.cells #[c0, v] T) := by
  have := blockLt h
  simp [World.setCell, Array.getElem?_modify, h]
theorem heapNew (w : World) (o : Obj) : (w.alloc o).heap[w.heap.size]? = some o := by
  show (w.heap.push o)[w.heap.size]? = _
  simp
theorem heapOld {w : World} {B : Nat} {x : Obj} (h : w.heap[B]? = some x) (o : Obj) : (w.alloc o).heap[B]? = some x := by
  have := blockLt h
  show (w.heap.push o)[B]? = _
  rw [Array.getElem?_push]; split
  · omega
  · exact h
theorem Pl.take_pr (ps : List (Int × Int)) (k : Nat) (h : k < ps.length) : ps.take (k + 1) = ps.take k ++ [Pl.pr ps k] := by
  rw [List.take_succ_eq_append_getElem h, Pl.pr_eq ps k h]
set_option maxHeartbeats 2000000 in
theorem ReadAdj_any (s : ByteArray) (w : World) (hs : s.size ≤ 4398046511103) :
    Calls Tryd.prog 8 #[.string s] w fun e w' => ∃ vl : Value, e = .returned (.tuple #[.agg #[.bool (Pl.adjD s.data.toList), vl], .int .i64 (Pl.adjC s.data.toList)]) ∧
      OwnP 31 w' w.heap.size vl (Pl.adjS s.data.toList) ∧ Below w.heap.size w w' := by
  obtain ⟨np, HP⟩ : ∃ x, Hid (Pl.sidesL s.data.toList = x) := ⟨_, rfl⟩
  obtain ⟨hd, HH⟩ : ∃ x, Hid (Pl.headB 33 s.data.toList = x) := ⟨_, rfl⟩
  have HSM : Hid (s.size ≤ maxLen) := hid (by unfold maxLen; omega)
  cases np with
  | none =>
    have HC : Hid (Pl.adjC s.data.toList = 4 ∧ Pl.adjD s.data.toList = false ∧ Pl.adjS s.data.toList = []) := by
      have h : Pl.adjC s.data.toList = 4 := by unfold Pl.adjC; rw [HP.out]
      refine hid ⟨h, ?_, ?_⟩
      · unfold Pl.adjD; rw [h]; rfl
      · unfold Pl.adjS; rw [h]; rfl
    rw [HC.out.1, HC.out.2.1, HC.out.2.2]
    go_enter Tryd.func8, Tryd.ntmps8
    go_wp2_with fail
    refine (CutPrefix_any s 33 _ HSM.out).mono ?_
    rw [HH.out]
    rintro e w1 ⟨a, rfl, ha, rfl⟩
    have HA := hid ha
    clear ha
    have haz := Pl.tail_size HA.out
    go_wp2_with fail
    refine (readPairs_any a 61 _ (by omega)).mono ?_
    rw [HA.out, show Pl.pairsL 61 (Pl.tailB 33 s.data.toList) = none from HP.out]
    rintro e w2 ⟨v2, rfl, _, hb2⟩
    have hb2' : Below (w.heap.size + 1) (w.alloc (.cells #[.bool false, .slice none 0 0] 25)) w2 := by simpa using hb2
    clear hb2
    obtain ⟨x0, x1, xs, hbb⟩ := box2 hb2'
    obtain ⟨f0, f1⟩ := box2f hb2'
    go_wp2_with fail
    refine bodyPost_ret (v := .tuple #[.agg #[.bool false, .slice none 0 0], .int .i64 4]) (by simp [results, Tryd.results8, go_sem, x0, x1]) rfl ⟨_, rfl, OwnP.nil _ _ _, ((hbb.setCell (Nat.le_refl _) _).setCell (Nat.le_refl _) _)⟩
  | some ps =>
    obtain ⟨cc, HCC⟩ : ∃ x, Hid (Pl.adjF ps = x) := ⟨_, rfl⟩
    have HC : Hid (Pl.adjC s.data.toList = cc ∧ (cc = 0 → Pl.adjD s.data.toList = hd ∧ Pl.adjS s.data.toList = ps) ∧ (cc ≠ 0 → Pl.adjD s.data.toList = false ∧ Pl.adjS s.data.toList = [])) := by
      have h : Pl.adjC s.data.toList = cc := by unfold Pl.adjC; rw [HP.out]; exact HCC.out
      refine hid ⟨h, fun h0 => ⟨?_, ?_⟩, fun h0 => ⟨?_, ?_⟩⟩
      · unfold Pl.adjD; rw [h, h0, HH.out]; rfl
      · unfold Pl.adjS; rw [h, h0, HP.out]; rfl
      · unfold Pl.adjD; rw [h]; simp [h0]
      · unfold Pl.adjS; rw [h, if_neg h0]
    have HFA := hid (Pl.pairsL_facts (m := 61) (l := Pl.tailB 33 s.data.toList) HP.out)
    rw [HC.out.1]
    go_enter Tryd.func8, Tryd.ntmps8
    go_wp2_with fail
    refine (CutPrefix_any s 33 _ HSM.out).mono ?_
    rw [HH.out]
    rintro e w1 ⟨a, rfl, ha, rfl⟩
    have HA := hid ha
    clear ha
    have haz := Pl.tail_size HA.out
    go_wp2_with fail
    refine (readPairs_any a 61 _ (by omega)).mono ?_
    rw [HA.out, show Pl.pairsL 61 (Pl.tailB 33 s.data.toList) = some ps from HP.out]
    rintro e w2 ⟨v2, rfl, ho2, hb2⟩
    have hb2' : Below (w.heap.size + 1) (w.alloc (.cells #[.bool false, .slice none 0 0] 25)) w2 := by simpa using hb2
    obtain ⟨a2, cap2, rfl, hp2, _, _⟩ := OwnP.shape (ps := ps) ho2 HFA.out.2
    have HP2 := hid hp2
    have hlen : ps.length ≤ s.size + 1 := by
      have h1 := HFA.out.1
      rw [← HA.out, sz_list] at h1
      omega
    have hcap := hp2.2.1
    have hmax := hp2.2.2.1
    unfold maxLen at hmax
    clear hb2 ho2 hp2
    go_wp2_with fail
    have hwz := hb2'.size
    simp at hwz
    go_loopw [29] (fun i wr => ∃ (k : Nat) (v : Value), k ≤ ps.length ∧ i = .int .i64 k ∧ Hid (wr.heap[w2.heap.size]? = some (.cells #[.bool hd, v] 25)) ∧ Hid (OwnP 31 wr (w2.heap.size + 1) v (ps.take k)) ∧ Below w2.heap.size w2 wr) (fun i _ => ps.length - (intOf i).toNat)
    case atStart => exact ⟨0, _, Nat.zero_le _, rfl, hid (heapNew _ _), hid (OwnP.nil _ _ _), (Below.refl _ _).alloc (Nat.le_refl _) _⟩
    case round =>
      obtain ⟨k, v, hk, rfl, HB, HO, hb⟩ := hrel
      obtain ⟨y0, y1, g0, g1, hzr⟩ := adjAt_cells HB.out
      by_cases hlt : k < ps.length
      · obtain ⟨b, off, rfl, hbw, hr⟩ : ∃ b off, a2 = some ⟨b, off, none⟩ ∧ b < w2.heap.size ∧ PairsAt w2 b off ps := by
          rcases HP2.out.2.2.2.2 with rfl | h
          · simp at hlt
          · exact h
        obtain ⟨c0, c1⟩ := (hr.below hbw hb) k hlt
        have hbr : b < wr.heap.size := by omega
        clear hr
        obtain ⟨pp, hpp⟩ : ∃ pp, Hid (Pl.pr ps k = pp) := ⟨_, rfl⟩
        rw [hpp.out] at c0 c1
        have HO4 := hid (HO.out.below ((Below.refl wr.heap.size wr).alloc (Nat.le_refl _) (.cells #[.int .i64 pp.1, .int .i64 pp.2] 69)))
        have HB4 := hid (heapOld HB.out (.cells #[.int .i64 pp.1, .int .i64 pp.2] 69))
        have htk : (ps.take k).length = k := by simp; omega
        go_wp2_with (at_builtin; refine append_pairT Tryd.underlying23 infoSide rfl (.tmp 34) (.tmp 40) rfl (w2.heap.size + 1) v (ps.take k) pp rfl HO4.out (by simp; omega) (by show Value.slice (some ⟨wr.heap.size + 1, 0, none⟩) 1 1 = _; simp) (by rw [htk]; omega) ?_; intro v5 w5 ho5 hb5 _; obtain ⟨a5, n5, cap5, rfl⟩ := ho5.slice; have HO5 := hid ho5; clear ho5; have HB5 := hid ((hb5.block _ (Nat.lt_succ_self _)).trans HB4.out); obtain ⟨z0, z1, q0, q1, hz5⟩ := adjAt_cells HB5.out)
        go_roundw
        case rel => exact ⟨k + 1, .slice a5 n5 cap5, by omega, by go_num, hid (adjAt_set HB5.out _), hid (by show OwnP _ _ _ _ _; rw [Pl.take_pr ps k hlt, hpp.out]; exact ownsRow_setCell_below HO5.out (by simp) _), ((hb.alloc hb.size _).trans (hb5.mono (Nat.le_succ _))).setCell (Nat.le_refl _) _⟩
        case measure => simp [intOf]; omega
      · obtain rfl : k = ps.length := by omega
        have HO' : Hid (OwnP 31 wr (w2.heap.size + 1) v ps) := by have h := HO.out; rw [List.take_length] at h; exact hid h
        obtain ⟨a3, cap3, rfl, hp3, _, _⟩ := OwnP.shape HO'.out HFA.out.2
        have HP3 := hid hp3
        clear hp3 HO
        have hbx : Below (w.heap.size + 1) (w.alloc (.cells #[.bool false, .slice none 0 0] 25)) wr := hb2'.trans (hb.mono (by omega))
        by_cases hc0 : cc = 0
        · subst hc0
          have HC' := hid (HC.out.2.1 rfl)
          clear HC
          go_wp2_with fail
          refine (CheckAdj_any _ _ _ _ ps _ HP3.out).mono ?_
          rw [HCC.out]
          rintro e w4 ⟨rfl, hb4⟩
          have hbx4 := hbx.trans (hb4.mono (by omega))
          obtain ⟨x0, x1, xs, hbb⟩ := box2 hbx4
          obtain ⟨f0, f1⟩ := box2f hbx4
          have z0 := (hb4.cell (p := ⟨w2.heap.size, 0, none⟩) hzr).trans y0
          have z1 := (hb4.cell (p := ⟨w2.heap.size, 1, none⟩) hzr).trans y1
          go_wp2_with fail
          refine bodyPost_ret (v := .tuple #[.agg #[.bool hd, .slice a3 ps.length cap3], .int .i64 0]) (by simp [results, Tryd.results8, go_sem, x0, x1]) rfl ⟨_, by rw [HC'.out.1], ?_, ((hbb.setCell (Nat.le_refl _) _).setCell (Nat.le_refl _) _)⟩
          rw [HC'.out.2]
          have h5 := HO'.out.below hb4
          exact OwnP.mono (base := w2.heap.size + 1) (ownsRow_setCell_below (ownsRow_setCell_below h5 (by simp; omega) _) (by simp; omega) _) (by omega)
        · have HC' := hid (HC.out.2.2 hc0)
          clear HC
          have hd0 : (cc == 0) = false := by simpa using hc0
          go_wp2_with fail
          refine (CheckAdj_any _ _ _ _ ps _ HP3.out).mono ?_
          rw [HCC.out]
          rintro e w4 ⟨rfl, hb4⟩
          have hbx4 := hbx.trans (hb4.mono (by omega))
          obtain ⟨x0, x1, xs, hbb⟩ := box2 hbx4
          obtain ⟨f0, f1⟩ := box2f hbx4
          go_wp2_with fail
          exact bodyPost_ret (v := .tuple #[.agg #[.bool false, .slice none 0 0], .int .i64 cc]) (by simp [results, Tryd.results8, go_sem, x0, x1]) rfl ⟨_, by rw [HC'.out.1], by rw [HC'.out.2]; exact OwnP.nil _ _ _, ((hbb.setCell (Nat.le_refl _) _).setCell (Nat.le_refl _) _)⟩
end Go.Proofs.YtcdobhdbafpkiadDoor
