/-
  Contracts and facts that the proof rests on, put together out of several texts.
-/
import Derived.Test.YtpaobnhcbeklfaaGreatDoorAll1
import Derived.OwnWalk
import Derived.Deep.MidRow
/-
  Contracts: what a text tells of links: ReadAdj and the document's AdjOf.
-/
namespace Go.Proofs.YtpaobnhcbeklfaaGreatDoor
open Go.RowKit
set_option maxRecDepth 20000

/-- the sides that a text tells, if it tells any that may be -/
def Pl.sidesL (l : List UInt8) : Option (List (Int × Int)) := Pl.pairsL 61 (Pl.tailB 33 l)
/-- what ReadAdj answers: drained, the sides, the code -/
def Pl.adjC (l : List UInt8) : Int := match Pl.sidesL l with
  | none => 4
  | some ps => Pl.adjF ps
def Pl.adjD (l : List UInt8) : Bool := Pl.adjC l == 0 && Pl.headB 33 l
def Pl.adjS (l : List UInt8) : List (Int × Int) := if Pl.adjC l = 0 then (Pl.sidesL l).getD [] else []
theorem infoSide : (Tryz.prog.info? 109).map (fun i => (i.zero, i.size, i.bytes)) = some (some (.agg #[.int .i64 0, .int .i64 0]), 2, 16) := by kernel_rfl
theorem Pl.tail_size {c : UInt8} {s a : ByteArray} (h : a.data.toList = Pl.tailB c s.data.toList) : a.size ≤ s.size := by
  rw [← sz_list a, ← sz_list s, h]
  unfold Pl.tailB
  split <;> simp
theorem Pl.parts_len : ∀ (n : Nat) (l : List UInt8), (Pl.partsN n l).length ≤ l.length + 1
  | 0, _ => by simp [Pl.partsN]
  | n + 1, l => by
    rw [Pl.partsN]
    split
    · simp
    · rename_i r hr
      have h1 := (Pl.cutL_len 44 l).2 r hr
      have h2 := Pl.parts_len n r
      simp only [List.length_cons]; omega
theorem Pl.pairsP_len {m : UInt8} : ∀ {ps : List (List UInt8)} {a : List (Int × Int)}, Pl.pairsP m ps = some a → a.length = ps.length
  | [], a, h => by cases h; rfl
  | p :: r, a, h => by
    rw [Pl.pairsP] at h
    split at h
    · rename_i x y hx hy
      cases h
      simp [Pl.pairsP_len hy]
    · cases h
theorem Pl.pairsL_facts {m : UInt8} {l : List UInt8} {a : List (Int × Int)} (h : Pl.pairsL m l = some a) : a.length ≤ l.length + 1 ∧ (∀ p ∈ a, Pl.pairOk p) := by
  unfold Pl.pairsL at h
  split at h
  · cases h; simp
  · refine ⟨?_, fun p hp => Pl.pairOk_of (Pl.pairsP_ok h p hp)⟩
    rw [Pl.pairsP_len h]; exact Pl.parts_len _ _

theorem box2f {w w3 : World} {c0 c1 : Value} {T : TypeId} (hb : Below (w.heap.size + 1) (w.alloc (.cells #[c0, c1] T)) w3) :
    w3.frozen? ⟨w.heap.size, 0, none⟩ = false ∧ w3.frozen? ⟨w.heap.size, 1, none⟩ = false := by
  constructor
  all_goals
    rw [hb.frozen (by simp)]
    simp
theorem adjAt_cells {w : World} {B : Nat} {c0 c1 : Value} {T : TypeId} (h : w.heap[B]? = some (.cells #[c0, c1] T)) :
    w.cell? ⟨B, 0, none⟩ = some c0 ∧ w.cell? ⟨B, 1, none⟩ = some c1 ∧ w.frozen? ⟨B, 0, none⟩ = false ∧ w.frozen? ⟨B, 1, none⟩ = false ∧ B < w.heap.size := by
  refine ⟨?_, ?_, ?_, ?_, blockLt h⟩
  all_goals simp [World.cell?, World.frozen?, h]
theorem adjAt_set {w : World} {B : Nat} {c0 c1 : Value} {T : TypeId} (h : w.heap[B]? = some (.cells #[c0, c1] T)) (v : Value) : (w.setCell ⟨B, 1, none⟩ v).heap[B]? = some (.cells #[c0, v] T) := by
  have := blockLt h
  simp [World.setCell, Array.getElem?_modify, h]
theorem heapNew (w : World) (o : Obj) : (w.alloc o).heap[w.heap.size]? = some o := by
  show (w.heap.push o)[w.heap.size]? = _
  simp
theorem heapOld {w : World} {B : Nat} {x : Obj} (h : w.heap[B]? = some x) (o : Obj) : (w.alloc o).heap[B]? = some x := by
  have := blockLt h
  show (w.heap.push o)[B]? = _
  rw [Array.getElem?_push]; split
  · omega
  · exact h
theorem Pl.take_pr (ps : List (Int × Int)) (k : Nat) (h : k < ps.length) : ps.take (k + 1) = ps.take k ++ [Pl.pr ps k] := by
  rw [List.take_succ_eq_append_getElem h, Pl.pr_eq ps k h]
set_option maxHeartbeats 2000000 in
theorem ReadAdj_any (s : ByteArray) (w : World) (hs : s.size ≤ 4398046511103) :
    Calls Tryz.prog 38 #[.string s] w fun e w' => ∃ vl : Value, e = .returned (.tuple #[.agg #[.bool (Pl.adjD s.data.toList), vl], .int .i64 (Pl.adjC s.data.toList)]) ∧
      OwnP 109 w' w.heap.size vl (Pl.adjS s.data.toList) ∧ Below w.heap.size w w' := by
  obtain ⟨np, HP⟩ : ∃ x, Hid (Pl.sidesL s.data.toList = x) := ⟨_, rfl⟩
  obtain ⟨hd, HH⟩ : ∃ x, Hid (Pl.headB 33 s.data.toList = x) := ⟨_, rfl⟩
  have HSM : Hid (s.size ≤ maxLen) := hid (by unfold maxLen; omega)
  cases np with
  | none =>
    have HC : Hid (Pl.adjC s.data.toList = 4 ∧ Pl.adjD s.data.toList = false ∧ Pl.adjS s.data.toList = []) := by
      have h : Pl.adjC s.data.toList = 4 := by unfold Pl.adjC; rw [HP.out]
      refine hid ⟨h, ?_, ?_⟩
      · unfold Pl.adjD; rw [h]; rfl
      · unfold Pl.adjS; rw [h]; rfl
    rw [HC.out.1, HC.out.2.1, HC.out.2.2]
    go_enter Tryz.func38, Tryz.ntmps38
    go_wp2_with fail
    refine (CutPrefix_any s 33 _ HSM.out).mono ?_
    rw [HH.out]
    rintro e w1 ⟨a, rfl, ha, rfl⟩
    have HA := hid ha
    clear ha
    have haz := Pl.tail_size HA.out
    go_wp2_with fail
    refine (readPairs_any a 61 _ (by omega)).mono ?_
    rw [HA.out, show Pl.pairsL 61 (Pl.tailB 33 s.data.toList) = none from HP.out]
    rintro e w2 ⟨v2, rfl, _, hb2⟩
    have hb2' : Below (w.heap.size + 1) (w.alloc (.cells #[.bool false, .slice none 0 0] 50)) w2 := by simpa using hb2
    clear hb2
    obtain ⟨x0, x1, xs, hbb⟩ := box2 hb2'
    obtain ⟨f0, f1⟩ := box2f hb2'
    go_wp2_with fail
    refine bodyPost_ret (v := .tuple #[.agg #[.bool false, .slice none 0 0], .int .i64 4]) (by simp [results, Tryz.results38, go_sem, x0, x1]) rfl ⟨_, rfl, OwnP.nil _ _ _, ((hbb.setCell (Nat.le_refl _) _).setCell (Nat.le_refl _) _)⟩
  | some ps =>
    obtain ⟨cc, HCC⟩ : ∃ x, Hid (Pl.adjF ps = x) := ⟨_, rfl⟩
    have HC : Hid (Pl.adjC s.data.toList = cc ∧ (cc = 0 → Pl.adjD s.data.toList = hd ∧ Pl.adjS s.data.toList = ps) ∧ (cc ≠ 0 → Pl.adjD s.data.toList = false ∧ Pl.adjS s.data.toList = [])) := by
      have h : Pl.adjC s.data.toList = cc := by unfold Pl.adjC; rw [HP.out]; exact HCC.out
      refine hid ⟨h, fun h0 => ⟨?_, ?_⟩, fun h0 => ⟨?_, ?_⟩⟩
      · unfold Pl.adjD; rw [h, h0, HH.out]; rfl
      · unfold Pl.adjS; rw [h, h0, HP.out]; rfl
      · unfold Pl.adjD; rw [h]; simp [h0]
      · unfold Pl.adjS; rw [h, if_neg h0]
    have HFA := hid (Pl.pairsL_facts (m := 61) (l := Pl.tailB 33 s.data.toList) HP.out)
    rw [HC.out.1]
    go_enter Tryz.func38, Tryz.ntmps38
    go_wp2_with fail
    refine (CutPrefix_any s 33 _ HSM.out).mono ?_
    rw [HH.out]
    rintro e w1 ⟨a, rfl, ha, rfl⟩
    have HA := hid ha
    clear ha
    have haz := Pl.tail_size HA.out
    go_wp2_with fail
    refine (readPairs_any a 61 _ (by omega)).mono ?_
    rw [HA.out, show Pl.pairsL 61 (Pl.tailB 33 s.data.toList) = some ps from HP.out]
    rintro e w2 ⟨v2, rfl, ho2, hb2⟩
    have hb2' : Below (w.heap.size + 1) (w.alloc (.cells #[.bool false, .slice none 0 0] 50)) w2 := by simpa using hb2
    obtain ⟨a2, cap2, rfl, hp2, _, _⟩ := OwnP.shape (ps := ps) ho2 HFA.out.2
    have HP2 := hid hp2
    have hlen : ps.length ≤ s.size + 1 := by
      have h1 := HFA.out.1
      rw [← HA.out, sz_list] at h1
      omega
    have hcap := hp2.2.1
    have hmax := hp2.2.2.1
    unfold maxLen at hmax
    clear hb2 ho2 hp2
    go_wp2_with fail
    have hwz := hb2'.size
    simp at hwz
    go_loopw [29] (fun i wr => ∃ (k : Nat) (v : Value), k ≤ ps.length ∧ i = .int .i64 k ∧ Hid (wr.heap[w2.heap.size]? = some (.cells #[.bool hd, v] 50)) ∧ Hid (OwnP 109 wr (w2.heap.size + 1) v (ps.take k)) ∧ Below w2.heap.size w2 wr) (fun i _ => ps.length - (intOf i).toNat)
    case atStart => exact ⟨0, _, Nat.zero_le _, rfl, hid (heapNew _ _), hid (OwnP.nil _ _ _), (Below.refl _ _).alloc (Nat.le_refl _) _⟩
    case round =>
      obtain ⟨k, v, hk, rfl, HB, HO, hb⟩ := hrel
      obtain ⟨y0, y1, g0, g1, hzr⟩ := adjAt_cells HB.out
      by_cases hlt : k < ps.length
      · obtain ⟨b, off, rfl, hbw, hr⟩ : ∃ b off, a2 = some ⟨b, off, none⟩ ∧ b < w2.heap.size ∧ PairsAt w2 b off ps := by
          rcases HP2.out.2.2.2.2 with rfl | h
          · simp at hlt
          · exact h
        obtain ⟨c0, c1⟩ := (hr.below hbw hb) k hlt
        have hbr : b < wr.heap.size := by omega
        clear hr
        obtain ⟨pp, hpp⟩ : ∃ pp, Hid (Pl.pr ps k = pp) := ⟨_, rfl⟩
        rw [hpp.out] at c0 c1
        have HO4 := hid (HO.out.below ((Below.refl wr.heap.size wr).alloc (Nat.le_refl _) (.cells #[.int .i64 pp.1, .int .i64 pp.2] 93)))
        have HB4 := hid (heapOld HB.out (.cells #[.int .i64 pp.1, .int .i64 pp.2] 93))
        have htk : (ps.take k).length = k := by simp; omega
        go_wp2_with (at_builtin; refine append_pairT Tryz.underlying48 infoSide rfl (.tmp 34) (.tmp 40) rfl (w2.heap.size + 1) v (ps.take k) pp rfl HO4.out (by simp; omega) (by show Value.slice (some ⟨wr.heap.size + 1, 0, none⟩) 1 1 = _; simp) (by rw [htk]; omega) ?_; intro v5 w5 ho5 hb5 _; obtain ⟨a5, n5, cap5, rfl⟩ := ho5.slice; have HO5 := hid ho5; clear ho5; have HB5 := hid ((hb5.block _ (Nat.lt_succ_self _)).trans HB4.out); obtain ⟨z0, z1, q0, q1, hz5⟩ := adjAt_cells HB5.out)
        go_roundw
        case rel => exact ⟨k + 1, .slice a5 n5 cap5, by omega, by go_num, hid (adjAt_set HB5.out _), hid (by show OwnP _ _ _ _ _; rw [Pl.take_pr ps k hlt, hpp.out]; exact ownsRow_setCell_below HO5.out (by simp) _), ((hb.alloc hb.size _).trans (hb5.mono (Nat.le_succ _))).setCell (Nat.le_refl _) _⟩
        case measure => simp [intOf]; omega
      · obtain rfl : k = ps.length := by omega
        have HO' : Hid (OwnP 109 wr (w2.heap.size + 1) v ps) := by have h := HO.out; rw [List.take_length] at h; exact hid h
        obtain ⟨a3, cap3, rfl, hp3, _, _⟩ := OwnP.shape HO'.out HFA.out.2
        have HP3 := hid hp3
        clear hp3 HO
        have hbx : Below (w.heap.size + 1) (w.alloc (.cells #[.bool false, .slice none 0 0] 50)) wr := hb2'.trans (hb.mono (by omega))
        by_cases hc0 : cc = 0
        · subst hc0
          have HC' := hid (HC.out.2.1 rfl)
          clear HC
          go_wp2_with fail
          refine (CheckAdj_any _ _ _ _ ps _ HP3.out).mono ?_
          rw [HCC.out]
          rintro e w4 ⟨rfl, hb4⟩
          have hbx4 := hbx.trans (hb4.mono (by omega))
          obtain ⟨x0, x1, xs, hbb⟩ := box2 hbx4
          obtain ⟨f0, f1⟩ := box2f hbx4
          have z0 := (hb4.cell (p := ⟨w2.heap.size, 0, none⟩) hzr).trans y0
          have z1 := (hb4.cell (p := ⟨w2.heap.size, 1, none⟩) hzr).trans y1
          go_wp2_with fail
          refine bodyPost_ret (v := .tuple #[.agg #[.bool hd, .slice a3 ps.length cap3], .int .i64 0]) (by simp [results, Tryz.results38, go_sem, x0, x1]) rfl ⟨_, by rw [HC'.out.1], ?_, ((hbb.setCell (Nat.le_refl _) _).setCell (Nat.le_refl _) _)⟩
          rw [HC'.out.2]
          have h5 := HO'.out.below hb4
          exact OwnP.mono (base := w2.heap.size + 1) (ownsRow_setCell_below (ownsRow_setCell_below h5 (by simp; omega) _) (by simp; omega) _) (by omega)
        · have HC' := hid (HC.out.2.2 hc0)
          clear HC
          have hd0 : (cc == 0) = false := by simpa using hc0
          go_wp2_with fail
          refine (CheckAdj_any _ _ _ _ ps _ HP3.out).mono ?_
          rw [HCC.out]
          rintro e w4 ⟨rfl, hb4⟩
          have hbx4 := hbx.trans (hb4.mono (by omega))
          obtain ⟨x0, x1, xs, hbb⟩ := box2 hbx4
          obtain ⟨f0, f1⟩ := box2f hbx4
          go_wp2_with fail
          exact bodyPost_ret (v := .tuple #[.agg #[.bool false, .slice none 0 0], .int .i64 cc]) (by simp [results, Tryz.results38, go_sem, x0, x1]) rfl ⟨_, by rw [HC'.out.1], by rw [HC'.out.2]; exact OwnP.nil _ _ _, ((hbb.setCell (Nat.le_refl _) _).setCell (Nat.le_refl _) _)⟩
end Go.Proofs.YtpaobnhcbeklfaaGreatDoor
/-
  A world that differs from another in one block alone.
-/
namespace Go.Proofs.YtpaobnhcbeklfaaGreatDoor
open Go.RowKit
set_option maxRecDepth 20000

/-- of what was there nothing has turned but block B -/
structure But (B : Nat) (w w' : World) : Prop where
  os : w'.os = w.os
  tape : w'.tape = w.tape
  output : w'.output = w.output
  size : w.heap.size ≤ w'.heap.size
  block : ∀ k, k < w.heap.size → k ≠ B → w'.heap[k]? = w.heap[k]?
theorem But.refl (B : Nat) (w : World) : But B w w := ⟨rfl, rfl, rfl, Nat.le_refl _, fun _ _ _ => rfl⟩
theorem But.trans {B : Nat} {a b c : World} (h : But B a b) (k : But B b c) : But B a c :=
  ⟨k.os.trans h.os, k.tape.trans h.tape, k.output.trans h.output, Nat.le_trans h.size k.size, fun i hi hB => (k.block i (Nat.lt_of_lt_of_le hi h.size) hB).trans (h.block i hi hB)⟩
theorem But.of {B : Nat} {w w' : World} (h : Below w.heap.size w w') : But B w w' := ⟨h.os, h.tape, h.output, h.size, fun k hk _ => h.block k hk⟩
theorem But.below {B C : Nat} {w w' : World} (h : But B w w') (hC : C ≤ B) (hw : C ≤ w.heap.size) : Below C w w' := ⟨h.os, h.tape, h.output, h.size, fun k hk => h.block k (by omega) (by omega)⟩
theorem But.setCell {B : Nat} {a w : World} (h : But B a w) (o : Nat) (u : Value) : But B a (w.setCell ⟨B, o, none⟩ u) :=
  h.trans ⟨rfl, rfl, rfl, by simp [World.setCell], fun k _ hB => Below.heap_setCell _ _ _ _ hB⟩
theorem But.setCells {B : Nat} {a : World} : ∀ (vs : List Value) (o : Nat) (w : World), But B a w → But B a (w.setCells B o vs)
  | [], _, _, h => h
  | v :: r, o, _, h => But.setCells r (o + 1) _ (h.setCell o v)
theorem But.alloc {B : Nat} {a w : World} (h : But B a w) (o : Obj) : But B a (w.alloc o) :=
  h.trans (But.of ((Below.refl _ _).alloc (Nat.le_refl _) o))
theorem But.drawn {B : Nat} {a w : World} (h : But B a w) (n : Nat) : But B a (w.drewN n) := h.trans ⟨rfl, rfl, rfl, Nat.le_refl _, fun _ _ _ => rfl⟩
theorem But.cell {B : Nat} {w w' : World} (h : But B w w') {p : Addr} (hp : p.block < w.heap.size) (hB : p.block ≠ B) : w'.cell? p = w.cell? p := by
  simp only [World.cell?]
  rw [h.block p.block hp hB]
end Go.Proofs.YtpaobnhcbeklfaaGreatDoor
/-
  Blocks of many cells, by what lies at each place; a world that differs in one block alone.
-/
namespace Go.Proofs.YtpaobnhcbeklfaaGreatDoor
open Go.RowKit
set_option maxRecDepth 20000

/-- the block B is a row of n cells, g i at the place i -/
def CellsAt (w : World) (B : Nat) (T : TypeId) (n : Nat) (g : Nat → Value) : Prop := w.heap[B]? = some (.cells (Array.ofFn (n := n) fun i => g i.1) T)

theorem CellsAt.lt {w B T n g} (h : CellsAt w B T n g) : B < w.heap.size := blockLt h
theorem CellsAt.cell {w B T n g} (h : CellsAt w B T n g) (o : Nat) (ho : o < n) : w.cell? ⟨B, o, none⟩ = some (g o) := by
  unfold CellsAt at h
  simp [World.cell?, h, ho]
theorem CellsAt.soft {w B T n g} (h : CellsAt w B T n g) (o : Nat) : w.frozen? ⟨B, o, none⟩ = false := by
  unfold CellsAt at h
  simp [World.frozen?, h]
theorem CellsAt.ext {w B T n g g'} (h : CellsAt w B T n g) (e : ∀ o, o < n → g o = g' o) : CellsAt w B T n g' := by
  unfold CellsAt at h ⊢
  rw [h]
  congr 2
  apply Array.ext
  · simp
  · intro i h1 h2
    simp only [Array.size_ofFn] at h1
    simpa using e i h1
theorem CellsAt.set {w B T n g} (h : CellsAt w B T n g) (o : Nat) (v : Value) : CellsAt (w.setCell ⟨B, o, none⟩ v) B T n (Pl.upd g o v) := by
  have hl := h.lt
  unfold CellsAt at h ⊢
  simp only [World.setCell, Array.getElem?_modify, h]
  simp only [↓reduceIte, Option.map_some, Option.isSome_none, Bool.false_eq_true]
  congr 2
  apply Array.ext
  · simp
  · intro i h1 h2
    simp only [Array.size_setIfInBounds, Array.size_ofFn] at h1
    rw [Array.getElem_setIfInBounds (by simpa using h1)]
    simp only [Array.getElem_ofFn, Pl.upd]
    by_cases hx : o = i
    · subst hx; simp
    · rw [if_neg hx, if_neg (Ne.symm hx)]
theorem CellsAt.sets {B : Nat} {T : TypeId} {n : Nat} : ∀ (vs : List Value) (o : Nat) (w : World) (g : Nat → Value), CellsAt w B T n g →
    CellsAt (w.setCells B o vs) B T n (fun i => if o ≤ i ∧ i < o + vs.length then vs.getD (i - o) undef else g i)
  | [], o, w, g, h => by
    refine CellsAt.ext h fun i _ => ?_
    rw [if_neg (by simp only [List.length_nil]; omega)]
  | v :: r, o, w, g, h => by
    have := CellsAt.sets r (o + 1) _ _ (h.set o v)
    refine CellsAt.ext this fun i _ => ?_
    by_cases h1 : o + 1 ≤ i ∧ i < o + 1 + r.length
    · rw [if_pos h1, if_pos (by simp; omega)]
      obtain ⟨j, hj⟩ : ∃ j, i - o = j + 1 := ⟨i - o - 1, by omega⟩
      rw [hj, List.getD_cons_succ]; congr 1; omega
    · rw [if_neg h1]
      by_cases h2 : i = o
      · subst h2; rw [Pl.upd_same, if_pos (by simp)]; simp
      · rw [Pl.upd_ne _ _ h2, if_neg (by simp; omega)]
theorem CellsAt.there {w B T n g} (h : CellsAt w B T n g) (o k : Nat) (hk : o + k ≤ n) : w.there B o k := fun j hj => ⟨by rw [h.cell _ (by omega)]; rfl, h.soft _⟩
theorem CellsAt.range {w B T n g} (h : CellsAt w B T n g) (o : Nat) (cs : List Value) (hk : o + cs.length ≤ n) (e : ∀ j (hj : j < cs.length), cs[j] = g (o + j)) : w.rangeAt B o cs := fun j v hv => by
  obtain ⟨hj, rfl⟩ := List.getElem?_eq_some_iff.1 hv
  rw [h.cell _ (by omega), e j hj]
theorem CellsAt.new (w : World) (T : TypeId) (cs : Array Value) (n : Nat) (g : Nat → Value) (hn : cs.size = n) (e : ∀ i (hi : i < cs.size), cs[i] = g i) : CellsAt (w.alloc (.cells cs T)) w.heap.size T n g := by
  unfold CellsAt
  rw [heapNew]
  congr 2
  apply Array.ext
  · simpa using hn
  · intro i h1 h2
    rw [e i h1]; simp

theorem CellsAt.but {w w' B C T n g} (h : CellsAt w B T n g) (k : But C w w') (hB : B ≠ C) : CellsAt w' B T n g := (k.block B h.lt hB).trans h
theorem CellsAt.below {w w' B T n g} (h : CellsAt w B T n g) (k : Below w.heap.size w w') : CellsAt w' B T n g := (k.block B h.lt).trans h
theorem CellsAt.below' {w w' B C T n g} (h : CellsAt w B T n g) (k : Below C w w') (hC : B < C) : CellsAt w' B T n g := (k.block B hC).trans h

/-- what lies in a search's block -/
def srch (f : Nat) (s : Pl.DS) (o : Nat) : Value :=
  if o = 0 then .int .i64 f else if o < 13 then .int .i64 (s.cost (o - 1)) else if o < 157 then .bool (s.hops ((o - 13) / 12) ((o - 13) % 12)) else .bool (s.done (o - 157))
theorem srch_from (f s) : srch f s 0 = .int .i64 f := rfl
theorem srch_cost (f s) (i : Nat) (h : i < 12) : srch f s (1 + i) = .int .i64 (s.cost i) := by
  unfold srch; rw [if_neg (by omega), if_pos (by omega)]; congr 2; omega
theorem srch_hops (f s) (i k : Nat) (h : i < 12) (hk : k < 12) : srch f s (13 + i * 12 + k) = .bool (s.hops i k) := by
  unfold srch; rw [if_neg (by omega), if_neg (by omega), if_pos (by omega)]
  rw [show (13 + i * 12 + k - 13) / 12 = i by omega, show (13 + i * 12 + k - 13) % 12 = k by omega]
theorem srch_done (f s) (i : Nat) (h : i < 12) : srch f s (157 + i) = .bool (s.done i) := by
  unfold srch; rw [if_neg (by omega), if_neg (by omega), if_neg (by omega)]; congr 2; omega
theorem srch_setCost (f s) (i : Nat) (hi : i < 12) (c : Int) (o : Nat) : Pl.upd (srch f s) (1 + i) (.int .i64 c) o = srch f ⟨Pl.upd s.cost i c, s.hops, s.done⟩ o := by
  unfold Pl.upd srch
  by_cases h : o = 1 + i
  · subst h; rw [if_pos rfl, if_neg (by omega), if_pos (by omega)]; simp
  · rw [if_neg h]
    by_cases h0 : o = 0
    · simp [h0]
    · rw [if_neg h0, if_neg h0]
      by_cases h1 : o < 13
      · rw [if_pos h1, if_pos h1]; simp only; rw [if_neg (by omega)]
      · rw [if_neg h1, if_neg h1]
theorem srch_setHop (f s) (i k : Nat) (hi : i < 12) (hk : k < 12) (b : Bool) (o : Nat) (ho : o < 169) :
    Pl.upd (srch f s) (13 + i * 12 + k) (.bool b) o = srch f ⟨s.cost, Pl.upd s.hops i (Pl.upd (s.hops i) k b), s.done⟩ o := by
  unfold Pl.upd srch
  by_cases h : o = 13 + i * 12 + k
  · subst h
    rw [if_pos rfl, if_neg (by omega), if_neg (by omega), if_pos (by omega)]
    simp only
    rw [if_pos (by omega), if_pos (by omega)]
  · rw [if_neg h]
    by_cases h0 : o = 0
    · simp [h0]
    · rw [if_neg h0, if_neg h0]
      by_cases h1 : o < 13
      · rw [if_pos h1, if_pos h1]
      · rw [if_neg h1, if_neg h1]
        by_cases h2 : o < 157
        · rw [if_pos h2, if_pos h2]
          simp only
          by_cases h3 : (o - 13) / 12 = i
          · rw [if_pos h3, if_neg (by omega), h3]
          · rw [if_neg h3]
        · rw [if_neg h2, if_neg h2]
theorem srch_setDone (f s) (i : Nat) (hi : i < 12) (b : Bool) (o : Nat) : Pl.upd (srch f s) (157 + i) (.bool b) o = srch f ⟨s.cost, s.hops, Pl.upd s.done i b⟩ o := by
  unfold Pl.upd srch
  by_cases h : o = 157 + i
  · subst h; rw [if_pos rfl, if_neg (by omega), if_neg (by omega), if_neg (by omega)]; simp
  · rw [if_neg h]
    by_cases h0 : o = 0
    · simp [h0]
    · rw [if_neg h0, if_neg h0]
      by_cases h1 : o < 13
      · rw [if_pos h1, if_pos h1]
      · rw [if_neg h1, if_neg h1]
        by_cases h2 : o < 157
        · rw [if_pos h2, if_pos h2]
        · rw [if_neg h2, if_neg h2]; simp only; rw [if_neg (by omega)]

/-- a search lies in block B -/
def SAt (w : World) (B f : Nat) (s : Pl.DS) : Prop := CellsAt w B 82 169 (srch f s)
theorem SAt.from {w B f s} (h : SAt w B f s) : w.cell? ⟨B, 0, none⟩ = some (.int .i64 f) := CellsAt.cell h 0 (by omega)
theorem SAt.cost {w B f s} (h : SAt w B f s) (i : Nat) (hi : i < 12) : w.cell? ⟨B, 1 + i, none⟩ = some (.int .i64 (s.cost i)) := by rw [CellsAt.cell h _ (by omega), srch_cost _ _ _ hi]
theorem SAt.hops {w B f s} (h : SAt w B f s) (i k : Nat) (hi : i < 12) (hk : k < 12) : w.cell? ⟨B, 13 + i * 12 + k, none⟩ = some (.bool (s.hops i k)) := by rw [CellsAt.cell h _ (by omega), srch_hops _ _ _ _ hi hk]
theorem SAt.done {w B f s} (h : SAt w B f s) (i : Nat) (hi : i < 12) : w.cell? ⟨B, 157 + i, none⟩ = some (.bool (s.done i)) := by rw [CellsAt.cell h _ (by omega), srch_done _ _ _ hi]
theorem SAt.setCost {w B f s} (h : SAt w B f s) (i : Nat) (hi : i < 12) (c : Int) : SAt (w.setCell ⟨B, 1 + i, none⟩ (.int .i64 c)) B f ⟨Pl.upd s.cost i c, s.hops, s.done⟩ :=
  (CellsAt.set h (1 + i) _).ext fun o _ => srch_setCost f s i hi c o
theorem SAt.setHop {w B f s} (h : SAt w B f s) (i k : Nat) (hi : i < 12) (hk : k < 12) (b : Bool) : SAt (w.setCell ⟨B, 13 + i * 12 + k, none⟩ (.bool b)) B f ⟨s.cost, Pl.upd s.hops i (Pl.upd (s.hops i) k b), s.done⟩ :=
  (CellsAt.set h _ _).ext fun o ho => srch_setHop f s i k hi hk b o ho
theorem SAt.setDone {w B f s} (h : SAt w B f s) (i : Nat) (hi : i < 12) (b : Bool) : SAt (w.setCell ⟨B, 157 + i, none⟩ (.bool b)) B f ⟨s.cost, s.hops, Pl.upd s.done i b⟩ :=
  (CellsAt.set h _ _).ext fun o _ => srch_setDone f s i hi b o
/-- the hops of one node are cleared -/
theorem SAt.clearHops {w B f s} (h : SAt w B f s) (i : Nat) (hi : i < 12) : SAt (w.setCells B (13 + i * 12) (List.replicate 12 (.bool false))) B f ⟨s.cost, Pl.upd s.hops i (fun _ => false), s.done⟩ := by
  refine (CellsAt.sets _ (13 + i * 12) _ _ h).ext fun o ho => ?_
  simp only [List.length_replicate]
  by_cases h1 : 13 + i * 12 ≤ o ∧ o < 13 + i * 12 + 12
  · rw [if_pos h1]
    unfold srch
    rw [if_neg (by omega), if_neg (by omega), if_pos (by omega)]
    have e : (List.replicate 12 (Value.bool false)).getD (o - (13 + i * 12)) undef = .bool false := by
      rw [List.getD_eq_getElem?_getD, List.getElem?_replicate, if_pos (by omega)]; rfl
    rw [e]
    simp only [Pl.upd]
    rw [if_pos (by omega)]
  · rw [if_neg h1]
    unfold srch
    by_cases h0 : o = 0
    · simp [h0]
    · rw [if_neg h0, if_neg h0]
      by_cases h1 : o < 13
      · rw [if_pos h1, if_pos h1]
      · rw [if_neg h1, if_neg h1]
        by_cases h2 : o < 157
        · rw [if_pos h2, if_pos h2]
          simp only [Pl.upd]
          rw [if_neg (by omega)]
        · rw [if_neg h2, if_neg h2]
end Go.Proofs.YtpaobnhcbeklfaaGreatDoor
/-
  Contracts: a new search, and the nearest node of one.
-/
namespace Go.Proofs.YtpaobnhcbeklfaaGreatDoor
open Go.RowKit
set_option maxRecDepth 20000

def Pl.dNew (k : Nat) : Pl.DS := ⟨fun j => if j < k then -1 else 0, fun _ _ => false, fun _ => false⟩
theorem zeroSearch : Tryz.zeroCells82 = Array.ofFn (n := 169) fun i => srch 0 (Pl.dNew 0) i.1 := by kernel_rfl
theorem SAt.ext {w B f s t} (h : SAt w B f s) (e1 : ∀ i, i < 12 → s.cost i = t.cost i) (e2 : ∀ i k, i < 12 → k < 12 → s.hops i k = t.hops i k) (e3 : ∀ i, i < 12 → s.done i = t.done i) : SAt w B f t := by
  refine CellsAt.ext h fun o ho => ?_
  unfold srch
  split
  · rfl
  · split
    · rw [e1 _ (by omega)]
    · split
      · rw [e2 _ _ (by omega) (by omega)]
      · rw [e3 _ (by omega)]
theorem newSearch_block (f : Nat) (w : World) : SAt (w.alloc (.cells (Tryz.zeroCells82.setIfInBounds 0 (.int .i64 f)) 82)) w.heap.size f (Pl.dNew 0) := by
  refine CellsAt.new w _ _ _ _ (by rw [zeroSearch]; simp) fun i hi => ?_
  simp only [zeroSearch, Array.size_setIfInBounds, Array.size_ofFn] at hi
  rw [Array.getElem_setIfInBounds (by rw [zeroSearch]; simpa using hi)]
  simp only [zeroSearch, Array.getElem_ofFn]
  by_cases h : 0 = i
  · subst h; rfl
  · rw [if_neg h]; unfold srch; rw [if_neg (Ne.symm h), if_neg (Ne.symm h)]

set_option maxHeartbeats 1000000 in
theorem newSearch_any (f : Nat) (hf : f < 12) (w : World) :
    Calls Tryz.prog 19 #[.int .i64 f] w fun e w' => e = .returned (.pointer (some ⟨w.heap.size, 0, none⟩)) ∧ SAt w' w.heap.size f (Pl.dInit f) ∧ Below w.heap.size w w' := by
  go_enter Tryz.func19, Tryz.ntmps19
  go_wp2_with fail
  go_loopw [8] (fun i wr => ∃ k : Nat, k ≤ 12 ∧ i = .int .i64 k ∧ Hid (SAt wr w.heap.size f (Pl.dNew k)) ∧ Hid (Below w.heap.size w wr)) (fun i _ => 12 - (intOf i).toNat)
  case atStart => exact ⟨0, by omega, rfl, newSearch_block f w, (Below.refl _ _).alloc (Nat.le_refl _) _⟩
  case round =>
    obtain ⟨k, hk, rfl, HS, HB⟩ := hrel
    by_cases hlt : k < 12
    · have hc := HS.out.cost k hlt
      have hz := CellsAt.soft HS.out (1 + k)
      have hB := CellsAt.lt HS.out
      go_wp2_with fail
      go_roundw
      case rel =>
        refine ⟨k + 1, by omega, by go_num, (HS.out.setCost k hlt (-1)).ext (fun i hi => ?_) (fun _ _ _ _ => rfl) (fun _ _ => rfl), HB.out.setCell (Nat.le_refl _) _⟩
        simp only [Pl.dNew, Pl.upd]
        split <;> split <;> omega
      case measure => simp [intOf]; omega
    · obtain rfl : k = 12 := by omega
      have hc := HS.out.cost f hf
      have hz := CellsAt.soft HS.out (1 + f)
      have hB := CellsAt.lt HS.out
      go_wp2_with fail
      go_ret
      refine ⟨rfl, (HS.out.setCost f hf 0).ext (fun i hi => ?_) (fun _ _ _ _ => rfl) (fun _ _ => rfl), HB.out.setCell (Nat.le_refl _) _⟩
      simp only [Pl.dNew, Pl.upd, Pl.dInit]
      split
      · rfl
      · simp

theorem infoInts : (Tryz.prog.info? 78).map (·.size) = some 12 := by kernel_rfl
theorem infoBools : (Tryz.prog.info? 79).map (·.size) = some 12 := by kernel_rfl
def ints12 (c : Nat → Int) : List Value := (List.range 12).map fun i => .int .i64 (c i)
def bools12 (c : Nat → Bool) : List Value := (List.range 12).map fun i => .bool (c i)
theorem ints12_get (c : Nat → Int) (k : Nat) (hk : k < 12) : (ints12 c).toArray[k]? = some (.int .i64 (c k)) := by simp [ints12, hk]
theorem bools12_get (c : Nat → Bool) (k : Nat) (hk : k < 12) : (bools12 c).toArray[k]? = some (.bool (c k)) := by simp [bools12, hk]
theorem wpList_store_as {ops : Array Oper} {rest : List Oper} {op : Oper} {a : Act} {w w1 : World} {Q : Exit → Act → World → Prop} (hgd : op.guard = none) (ty : TypeId) (x y : Operand) (ho : op.op = .store ty x y)
    (b o : Nat) (cells : List Value) (hx : a.eval x = .pointer (some ⟨b, o, none⟩)) (hy : a.eval y = .agg cells.toArray)
    (ht : w.there b o cells.length) (hi : (Tryz.prog.info? ty).map (·.size) = some cells.length) (h1 : ∀ v ∈ cells, v.oneCell' = true) (hw : w1 = w.setCells b o cells)
    (h : wpList Tryz.prog ops Q rest (a.put op.dst undef) w1) : wpList Tryz.prog ops Q (op :: rest) a w :=
  wpList_store_mid hgd ty x y ho b o cells.toArray hx hy (by simpa using ht) (by simpa using hi) (all_oneCell_toArray h1) (by rw [hw] at h; exact h)

theorem infoInt1 : (Tryz.prog.info? 3).map (·.size) = some 1 := by kernel_rfl
theorem infoBool1 : (Tryz.prog.info? 4).map (·.size) = some 1 := by kernel_rfl
theorem infoSome {T : TypeId} {n : Nat} (h : (Tryz.prog.info? T).map (·.size) = some n) : ∃ i, Tryz.prog.info? T = some i ∧ i.size = n := by
  cases hx : Tryz.prog.info? T with
  | none => rw [hx] at h; cases h
  | some i => rw [hx] at h; exact ⟨i, rfl, by simpa using h⟩
theorem run_index_ints (c : Nat → Int) (k : Nat) (hk : k < 12) (w : World) : (Instr.index 78 (.agg (ints12 c).toArray) (.int .i64 k)).run Tryz.prog w = .ok (.int .i64 (c k)) w := by
  have h1 := ints12_get c k hk
  simp only [List.getElem?_toArray] at h1
  obtain ⟨i, hi, hz⟩ := infoSome infoInt1
  simp [Instr.index, part, isAgg, sizeOf, typeInfo, underlying, go_sem, Tryz.underlying78, Tryz.underlying3, hi, hz, h1, hk]
theorem run_index_bools (c : Nat → Bool) (k : Nat) (hk : k < 12) (w : World) : (Instr.index 79 (.agg (bools12 c).toArray) (.int .i64 k)).run Tryz.prog w = .ok (.bool (c k)) w := by
  have h1 := bools12_get c k hk
  simp only [List.getElem?_toArray] at h1
  obtain ⟨i, hi, hz⟩ := infoSome infoBool1
  simp [Instr.index, part, isAgg, sizeOf, typeInfo, underlying, go_sem, Tryz.underlying79, Tryz.underlying4, hi, hz, h1, hk]
theorem SAt.costs {w B f s} (h : SAt w B f s) : w.rangeAt B 1 (ints12 s.cost) := CellsAt.range h 1 _ (by simp [ints12]) fun j hj => by
  simp only [ints12, List.length_map, List.length_range] at hj
  rw [srch_cost _ _ _ hj]; simp [ints12]
theorem SAt.hopsOf {w B f s} (h : SAt w B f s) (i : Nat) (hi : i < 12) : w.rangeAt B (13 + i * 12) (bools12 (s.hops i)) := CellsAt.range h _ _ (by simp [bools12]; omega) fun j hj => by
  simp only [bools12, List.length_map, List.length_range] at hj
  rw [srch_hops _ _ _ _ hi hj]; simp [bools12]

set_option maxHeartbeats 1000000 in
theorem nearest_any (B f : Nat) (s : Pl.DS) (w : World) (h : SAt w B f s) :
    Calls Tryz.prog 40 #[.pointer (some ⟨B, 0, none⟩)] w fun e w' => e = .returned (.int .i64 (Pl.near s 12)) ∧ w' = w := by
  have HC := hid h.costs
  have HH := hid h
  clear h
  go_enter Tryz.func40, Tryz.ntmps40
  go_wp2_with (refine wpList_load_mid rfl 78 (.tmp 8) rfl B 1 rfl (ints12 s.cost) _ HC.out Tryz.underlying78 rfl infoInts ?_)
  go_loop [3, 10] (fun b i => ∃ (k : Nat) (v : Int), k ≤ 12 ∧ i = .int .i64 k ∧ b = .int .i64 v ∧ Hid (v = Pl.near s k)) (fun _ i => 12 - (intOf i).toNat)
  case atStart => exact ⟨0, -1, by omega, rfl, rfl, rfl⟩
  case round =>
    obtain ⟨k, v, hk, rfl, rfl, HV⟩ := hrel
    by_cases hlt : k < 12
    · have hg := run_index_ints s.cost k hlt w
      have hd := HH.out.done k hlt
      obtain ⟨c, HCK⟩ : ∃ c, Hid (s.cost k = c) := ⟨_, rfl⟩
      obtain ⟨d, HDK⟩ : ∃ d, Hid (s.done k = d) := ⟨_, rfl⟩
      rw [HCK.out] at hg
      rw [HDK.out] at hd
      have HN : Hid (Pl.near s (k + 1) = if c = -1 ∨ d = true then v else if v = -1 ∨ c < s.cost v.toNat then k else v) := hid (by
        conv => lhs; unfold Pl.near
        rw [HCK.out, HDK.out, ← HV.out])
      have hB := CellsAt.lt HH.out
      by_cases hc1 : c = -1
      · subst hc1
        go_wp2_with fail
        go_round
        case rel => exact ⟨k + 1, v, by omega, by go_num, rfl, by show _ = _; rw [HN.out, if_pos (.inl rfl)]⟩
        case measure => simp [intOf]; omega
      · cases d
        case true =>
          go_wp2_with fail
          go_round
          case rel => exact ⟨k + 1, v, by omega, by go_num, rfl, by show _ = _; rw [HN.out, if_pos (.inr rfl)]⟩
          case measure => simp [intOf]; omega
        case false =>
          have HN2 : Hid (Pl.near s (k + 1) = if v = -1 ∨ c < s.cost v.toNat then (k : Int) else v) := hid (by rw [HN.out, if_neg (by simpa using hc1)])
          clear HN
          by_cases hv : v = -1
          · subst hv
            go_wp2_with fail
            go_round
            case rel => exact ⟨k + 1, k, by omega, by go_num, rfl, by show _ = _; rw [HN2.out, if_pos (.inl rfl)]⟩
            case measure => simp [intOf]; omega
          · obtain ⟨n, rfl, hn⟩ : ∃ n : Nat, v = n ∧ n < 12 := by
              rcases Pl.near_spec s k with ⟨h1, _⟩ | ⟨n, h1, h2, _⟩
              · exact absurd (HV.out.trans h1) hv
              · exact ⟨n, HV.out.trans h1, by omega⟩
            have hcn := HH.out.cost n hn
            obtain ⟨q, HQ⟩ : ∃ q, Hid (s.cost n = q) := ⟨_, rfl⟩
            rw [HQ.out] at hcn
            have HN3 : Hid (Pl.near s (k + 1) = if c < q then (k : Int) else n) := hid (by
              have e := HN2.out
              rw [Int.toNat_natCast, HQ.out] at e
              rw [e]
              by_cases hx : c < q
              · rw [if_pos (.inr hx), if_pos hx]
              · rw [if_neg (by omega), if_neg hx])
            by_cases hx : c < q
            · go_wp2_with fail
              go_round
              case rel => exact ⟨k + 1, k, by omega, by go_num, rfl, by show _ = _; rw [HN3.out, if_pos hx]⟩
              case measure => simp [intOf]; omega
            · go_wp2_with fail
              go_round
              case rel => exact ⟨k + 1, n, by omega, by go_num, rfl, by show _ = _; rw [HN3.out, if_neg hx]⟩
              case measure => simp [intOf]; omega
    · obtain rfl : k = 12 := by omega
      go_wp2_with fail
      go_ret
      exact ⟨ret_int HV.out, rfl⟩
end Go.Proofs.YtpaobnhcbeklfaaGreatDoor
