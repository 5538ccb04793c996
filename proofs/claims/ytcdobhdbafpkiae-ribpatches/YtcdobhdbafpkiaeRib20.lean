/-
  Contracts: a route laid at its place (rib.lay); a table without some prefixes (rib.without).
-/
import Derived.Test.YtcdobhdbafpkiaeRib5
import Derived.Test.YtcdobhdbafpkiaeRib2
import Derived.Test.YtcdobhdbafpkiaeRib19
namespace Go.Proofs.Ytcdobhdbafpkiae
open Go.RowKit

/-- one route of a row laid anew -/
def set5 (w : World) (g o : Nat) (x : Pl.RH) : World := ((((w.setCell ⟨g, o, none⟩ (.int .i64 x.p.1)).setCell ⟨g, o + 1, none⟩ (.int .i64 x.p.2)).setCell ⟨g, o + 2, none⟩ (.bool x.here)).setCell ⟨g, o + 3, none⟩ (.int .i64 x.cost)).setCell ⟨g, o + 4, none⟩ (.slice x.ha x.hl x.hc)
theorem cellsR_set : ∀ (hs : List Pl.RH) (i : Nat) (x : Pl.RH), cellsR (hs.set i x) = (((((cellsR hs).set (i * 5) (.int .i64 x.p.1)).set (i * 5 + 1) (.int .i64 x.p.2)).set (i * 5 + 2) (.bool x.here)).set (i * 5 + 3) (.int .i64 x.cost)).set (i * 5 + 4) (.slice x.ha x.hl x.hc)
  | [], i, x => by simp [cellsR]
  | e :: r, 0, x => by simp [cellsR, cellsH]
  | e :: r, i + 1, x => by
    rw [List.set_cons_succ, cellsR, cellsR_set r i x, show (i + 1) * 5 = i * 5 + 5 by omega]
    simp [cellsR, cellsH]
theorem blk_setR {w : World} {g o : Nat} {cur : Array Value} {T : TypeId} {v : Value} (h : w.heap[g]? = some (.cells cur T (0, 0))) : (w.setCell ⟨g, o, none⟩ v).heap[g]? = some (.cells (cur.setIfInBounds o v) T (0, 0)) := by
  rw [setCell_eq_setRow w g o cur T (0, 0) v h]
  exact setRow_heap w g _ _ _ _ h
theorem OwnR.set {w : World} {base g cap : Nat} {hs : List Pl.RH} (h : OwnR w base (.slice (some ⟨g, 0, none⟩) hs.length cap) hs) (i : Nat) (x : Pl.RH) : OwnR (set5 w g (i * 5) x) base (.slice (some ⟨g, 0, none⟩) hs.length cap) (hs.set i x) := by
  obtain ⟨_, h | ⟨g', cap', cur, e, hb, hh, hn, hm, hs', hx⟩⟩ := h
  · simp at h
  · simp only [Value.slice.injEq, Option.some.injEq, Addr.mk.injEq, and_true] at e
    obtain ⟨rfl, _, rfl⟩ := e
    refine ⟨by simp [cellsR_len], .inr ⟨g, cap, _, by simp, hb, blk_setR (blk_setR (blk_setR (blk_setR (blk_setR hh)))), by simpa using hn, hm, by simpa using hs', ?_⟩⟩
    simp only [Array.toList_setIfInBounds, List.take_set, List.length_set]
    rw [hx, cellsR_set]
theorem But.set5 (w : World) (g o : Nat) (x : Pl.RH) : But g w (set5 w g o x) := (((((But.refl g w).setCell _ _).setCell _ _).setCell _ _).setCell _ _).setCell _ _
theorem OwnR.opened {w : World} {base : Nat} {v : Value} {hs : List Pl.RH} (h : OwnR w base v hs) (hne : 0 < hs.length) :
    ∃ g cap, v = .slice (some ⟨g, 0, none⟩) hs.length cap ∧ base ≤ g ∧ g < w.heap.size ∧ hs.length ≤ cap ∧ cap ≤ maxLen ∧ RowsAt w g 0 hs ∧ (∀ o, w.frozen? ⟨g, o, none⟩ = false) := by
  obtain ⟨a, cap, rfl, hr, hb⟩ := h.rows
  obtain ⟨b, off, rfl, hlt, hra⟩ := hr.at (k := 0) (by omega)
  obtain ⟨g, cap', L, e, hbg, hg, _⟩ := h.row hne
  simp only [Value.slice.injEq, Option.some.injEq, Addr.mk.injEq, and_true] at e
  obtain ⟨⟨rfl, rfl⟩, _⟩ := e
  exact ⟨b, cap, rfl, hbg, hlt, hr.2.1, hr.2.2.1, hra, fun o => by simp [World.frozen?, hg]⟩
theorem Pl.set_eq (hs : List Pl.RH) (i : Nat) (x : Pl.RH) (h : i < hs.length) : hs.set i x = hs.take i ++ x :: hs.drop (i + 1) := List.set_eq_take_append_cons_drop .. |>.trans (by rw [if_pos h])

/-- what is laid at a place, as it lies in memory -/
def Pl.layH (hs : List Pl.RH) (i : Nat) (instead : Bool) (x : Pl.RH) : List Pl.RH := hs.take i ++ x :: hs.drop (if instead then i + 1 else i)

set_option maxHeartbeats 2000000 in
theorem lay_rib (base : Nat) (v : Value) (hs : List Pl.RH) (x : Pl.RH) (w : World) (hown : OwnR w base v hs) (hbase : base ≤ w.heap.size) (has : Pl.AscP (Pl.hp hs)) (hb : hs.length ≤ 2000000) :
    Calls Try.prog 32 #[v, .agg #[.int .i64 x.p.1, .int .i64 x.p.2, .bool x.here, .int .i64 x.cost, .slice x.ha x.hl x.hc]] w fun e w' =>
      ∃ v', e = .returned v' ∧ OwnR w' base v' (Pl.layH hs (Pl.posP (Pl.hp hs) x.p) (Pl.thereP (Pl.hp hs) x.p) x) ∧ w.grownBy w' v.ownBlock := by
  have HO := hid hown
  obtain ⟨⟨p1, p2⟩, here, cost, ha, hl, hc⟩ := x
  simp only
  obtain ⟨tt, HT⟩ : ∃ t, Hid (Pl.thereP (Pl.hp hs) (p1, p2) = t) := ⟨_, rfl⟩
  obtain ⟨ix, HX⟩ : ∃ t, Hid (Pl.posP (Pl.hp hs) (p1, p2) = t) := ⟨_, rfl⟩
  have HIX : Hid (ix ≤ hs.length) := hid (by rw [← HX.out]; have := Pl.posP_le (Pl.hp hs) (p1, p2); rwa [Pl.hp_len] at this)
  have HLT : Hid (tt = true → ix < hs.length) := hid fun e => by rw [← HX.out]; have := Pl.thereP_lt (by rw [HT.out]; exact e : Pl.thereP (Pl.hp hs) (p1, p2) = true); rwa [Pl.hp_len] at this
  have HF : Hid (∀ W, Below w.heap.size w W → Calls Try.prog 23 #[v, .agg #[.int .i64 p1, .int .i64 p2]] W fun e w' => e = .returned (.tuple #[.int .i64 ix, .bool tt]) ∧ Below W.heap.size W w') := hid fun W hW => by
    obtain ⟨a, cap, rfl, hr, _⟩ := (HO.out.below hW).rows
    have := find_rib a hs.length cap hs p1 p2 W hr has hb
    rwa [HT.out, HX.out] at this
  rw [HT.out, HX.out]
  obtain ⟨rw1, HRW⟩ : ∃ r, Hid (v.ownBlock = r) := ⟨_, rfl⟩
  rw [HRW.out]
  clear hown has
  cases tt
  · go_enter Try.func32, Try.ntmps32
    go_wp2_with fail
    refine (HF.out _ ((Below.refl _ _).alloc (Nat.le_refl _) _)).mono ?_
    rintro e w1 ⟨rfl, hb1⟩
    obtain ⟨⟨y0, y1, y2, y3, y4⟩, hbx, hbw⟩ := box5 (by simpa using hb1)
    have HBW := hid hbw
    have HO1 := hid (HO.out.below hbw)
    have hz := hbw.size
    clear hb1 hbw
    go_wp2_with fail
    refine (Insert_any base v hs ix ⟨(p1, p2), here, cost, ha, hl, hc⟩ w1 HO1.out (by omega) hb HIX.out).mono ?_
    rintro e w2 ⟨v', rfl, ho2, hg2⟩
    have HO2 := hid ho2
    have HG2 := hid hg2
    clear ho2 hg2
    go_wp2_with fail
    go_ret
    refine ⟨_, rfl, HO2.out, ?_⟩
    have e1 := HG2.out
    rw [HRW.out] at e1
    exact grown_trans (grown_below HBW.out) (grown_trans (grown_below ((Below.refl _ _).alloc (Nat.le_refl _) _)) e1)
  · have hix := HLT.out rfl
    obtain ⟨g, cap, rfl, hbg, hgl, hnc, hm, hra, hsf⟩ := HO.out.opened (by omega)
    unfold maxLen at hm
    obtain ⟨c0, c1, c2, c3, c4⟩ := hra ix hix
    obtain ⟨n, HN⟩ : ∃ n, Hid (hs.length = n) := ⟨_, rfl⟩
    rw [HN.out] at HF hix hnc ⊢
    clear hra
    have hix' : (ix : Int) < (n : Int) := by omega
    go_enter Try.func32, Try.ntmps32
    go_wp2_with fail
    refine (HF.out _ ((Below.refl _ _).alloc (Nat.le_refl _) _)).mono ?_
    rintro e w1 ⟨rfl, hb1⟩
    obtain ⟨⟨y0, y1, y2, y3, y4⟩, hbx, hbw⟩ := box5 (by simpa using hb1)
    have HBW := hid hbw
    have HO1 := hid (HO.out.below hbw)
    have d0 := (hbw.cell (p := ⟨g, 0 + ix * 5, none⟩) hgl).trans c0
    have d1 := (hbw.cell (p := ⟨g, 0 + ix * 5 + 1, none⟩) hgl).trans c1
    have d2 := (hbw.cell (p := ⟨g, 0 + ix * 5 + 2, none⟩) hgl).trans c2
    have d3 := (hbw.cell (p := ⟨g, 0 + ix * 5 + 3, none⟩) hgl).trans c3
    have d4 := (hbw.cell (p := ⟨g, 0 + ix * 5 + 4, none⟩) hgl).trans c4
    have df : ∀ o, w1.frozen? ⟨g, o, none⟩ = false := fun o => (hbw.frozen (p := ⟨g, o, none⟩) hgl).trans (hsf o)
    simp only [Nat.zero_add] at d0 d1 d2 d3 d4
    clear hb1 hbw c0 c1 c2 c3 c4 hsf
    go_wp2_with fail
    go_ret
    refine ⟨_, rfl, ?_, ?_⟩
    · have := HO1.out.set ix ⟨(p1, p2), here, cost, ha, hl, hc⟩
      rw [Pl.set_eq hs ix _ (by rw [HN.out]; exact hix), HN.out] at this
      exact this
    · have e1 : rw1 = some g := HRW.out.symm
      rw [e1]
      exact grown_trans (grown_below HBW.out) (But.set5 w1 g (ix * 5) ⟨(p1, p2), here, cost, ha, hl, hc⟩).grown

theorem ReadsAll.take {w : World} {hs : List Pl.RH} {rs : List Pl.Rt} (h : ReadsAll w hs rs) (n : Nat) : ReadsAll w (hs.take n) (rs.take n) := by
  refine ⟨by simp [h.1], fun i hi => ?_⟩
  simp only [List.length_take] at hi
  rw [Pl.rh_take hs n i (by omega) (by omega)]
  have : Pl.rt (rs.take n) i = Pl.rt rs i := by
    have := h.1
    rw [Pl.rt_eq _ _ (by simp; omega), Pl.rt_eq _ _ (by omega)]; simp
  rw [this]
  exact h.2 i (by omega)
theorem ReadsAll.drop {w : World} {hs : List Pl.RH} {rs : List Pl.Rt} (h : ReadsAll w hs rs) (n : Nat) : ReadsAll w (hs.drop n) (rs.drop n) := by
  refine ⟨by simp [h.1], fun i hi => ?_⟩
  simp only [List.length_drop] at hi
  rw [Pl.rh_drop hs n i (by omega)]
  have : Pl.rt (rs.drop n) i = Pl.rt rs (n + i) := by
    have := h.1
    rw [Pl.rt_eq _ _ (by simp; omega), Pl.rt_eq _ _ (by omega)]; simp
  rw [this]
  exact h.2 (n + i) (by omega)
theorem ReadsAll.append {w : World} {hs gs : List Pl.RH} {rs ss : List Pl.Rt} (h : ReadsAll w hs rs) (k : ReadsAll w gs ss) : ReadsAll w (hs ++ gs) (rs ++ ss) := by
  refine ⟨by simp [h.1, k.1], fun i hi => ?_⟩
  simp only [List.length_append] at hi
  rcases Nat.lt_or_ge i hs.length with q | q
  · rw [Pl.rh_app_lt _ _ _ q, Pl.rt_app_lt _ _ _ (by rw [← h.1]; exact q)]
    exact h.2 i q
  · have e1 : Pl.rh (hs ++ gs) i = Pl.rh gs (i - hs.length) := by
      rw [Pl.rh_eq _ _ (by simp; omega), Pl.rh_eq _ _ (by omega), List.getElem_append_right q]
    have e2 : Pl.rt (rs ++ ss) i = Pl.rt ss (i - hs.length) := by
      have h1 := h.1
      have h2 := k.1
      rw [Pl.rt_eq _ _ (by simp; omega), Pl.rt_eq _ _ (by omega), List.getElem_append_right (by omega)]
      simp [h1]
    rw [e1, e2]
    exact k.2 _ (by omega)
theorem ReadsAll.one {w : World} {x : Pl.RH} {r : Pl.Rt} (h : Reads w x r) : ReadsAll w [x] [r] := ⟨rfl, fun i hi => by simp at hi; subst hi; exact h⟩
theorem ReadsAll.lay {w : World} {hs : List Pl.RH} {rs : List Pl.Rt} {x : Pl.RH} {r : Pl.Rt} (h : ReadsAll w hs rs) (hr : Reads w x r) : ReadsAll w (Pl.layH hs (Pl.posP (Pl.hp hs) x.p) (Pl.thereP (Pl.hp hs) x.p) x) (Pl.insR rs r) := by
  rw [← Pl.lay_insR]
  have e : Pl.hp hs = rs.map Pl.Rt.p := h.map_p
  rw [e, hr.1]
  unfold Pl.layH Pl.layR
  exact (h.take _).append ((ReadsAll.one hr).append (h.drop _))
theorem ReadsAll.del {w : World} {hs : List Pl.RH} {rs : List Pl.Rt} {p : Int × Int} (h : ReadsAll w hs rs) (ht : Pl.thereP (Pl.hp hs) p = true) : ReadsAll w (hs.take (Pl.posP (Pl.hp hs) p) ++ hs.drop (Pl.posP (Pl.hp hs) p + 1)) (Pl.delR rs p) := by
  have e : Pl.hp hs = rs.map Pl.Rt.p := h.map_p
  rw [e] at ht ⊢
  unfold Pl.delR
  rw [if_pos ht]
  exact (h.take _).append (h.drop _)
theorem ReadsAll.asc {w : World} {hs : List Pl.RH} {rs : List Pl.Rt} (h : ReadsAll w hs rs) (hs' : Pl.SrtR rs) : Pl.AscP (Pl.hp hs) := by
  show Pl.AscP (hs.map Pl.RH.p)
  rw [h.map_p]
  exact (Pl.ascP_srt rs).2 hs'

theorem append_copyR {w : World} {ops : Array Oper} {rest : List Oper} {o : Oper} {a : Act} {Q : Exit → Act → World → Prop} (hgd : o.guard = none) (s x : Operand)
    (ho : o.op = .call { callee := .builtin .append, args := #[s, x], argTypes := #[22, 22] })
    (ao : Option Addr) (len cap : Nat) (hs : List Pl.RH) (hs' : a.eval s = .slice none 0 0) (hx : a.eval x = .slice ao len cap) (hE : IsRows w ao len cap hs) (hb : len ≤ 2000000)
    (h : ∀ v' w', OwnR w' w.heap.size v' hs → Below w.heap.size w w' → wpList Try.prog ops Q rest (a.put o.dst v') w') : wpList Try.prog ops Q (o :: rest) a w := by
  obtain ⟨i0, hi0, hz0, hz1, hz2⟩ := partsOf infoRoute
  obtain ⟨hl, hc, hm, hnil, hrow⟩ := hE
  rcases ao with _ | ad
  · obtain rfl := hnil rfl
    obtain rfl : len = 0 := by omega
    obtain rfl : hs = [] := List.length_eq_zero_iff.1 hl
    exact wpList_append_own_none hgd s x 22 ho w.heap.size 30 i0 5 Try.underlying22 hi0 _ 0 [] hs' (World.ownsRow_nil _ _ _ _) hx (h _ _ (OwnR.nil _ _) (Below.refl _ _))
  · refine wpList_append_own (w := w) hgd s x 22 ho w.heap.size 30 i0 _ 5 56 Try.underlying22 hi0 hz0 hz1 hz2 rfl (by decide) _ 0 [] hs' (World.ownsRow_nil _ _ _ _) ad len cap (cellsR hs) hx (by rw [cellsR_len, hl]) ?_ (cellsR_one _) (by unfold maxLen; omega) (by omega) (Nat.le_refl _) ?_
    · intro j u hj
      rcases hrow with rfl | ⟨b, off, hba, _, hr⟩
      · simp [cellsR] at hj
      · cases hba
        rw [add_none]
        exact (rowsAt_cells _ _).1 hr j u hj
    · intro v' w' hown hg _
      rw [List.nil_append] at hown
      exact h v' w' (ownR_of hown rfl) ((Below.refl _ _).grown hg (Nat.le_refl _) (by intro k hk; cases hk))

theorem Pl.take_prR (ps : List (Int × Int)) (k : Nat) (h : k < ps.length) : ps.take (k + 1) = ps.take k ++ [Pl.pr ps k] := by
  rw [List.take_succ_eq_append_getElem h, Pl.pr_eq ps k h]
theorem Pl.delsR_succ (rs : List Pl.Rt) (ps : List (Int × Int)) (k : Nat) (h : k < ps.length) : Pl.delsR rs (ps.take (k + 1)) = Pl.delR (Pl.delsR rs (ps.take k)) (Pl.pr ps k) := by
  unfold Pl.delsR
  rw [Pl.take_prR ps k h, List.foldl_append]; rfl
theorem OwnR.block {w : World} {base : Nat} {v : Value} {hs : List Pl.RH} (h : OwnR w base v hs) : ∀ k, v.ownBlock = some k → base ≤ k := fun k hk => (World.ownsRow.lt h k hk).1

set_option maxHeartbeats 2000000 in
theorem without_any (a : Option Addr) (len cap : Nat) (hs : List Pl.RH) (rs : List Pl.Rt) (b : Option Addr) (gl gc : Nat) (ps : List (Int × Int)) (w : World) (h : IsRows w a len cap hs) (hrd : ReadsAll w hs rs) (hsrt : Pl.SrtR rs) (hb : len ≤ 200) (hp : IsPairs w b gl gc ps) :
    Calls Try.prog 31 #[.slice a len cap, .slice b gl gc] w fun e w' =>
      ∃ v' hs', e = .returned v' ∧ OwnR w' w.heap.size v' hs' ∧ ReadsAll w hs' (Pl.delsR rs ps) ∧ Below w.heap.size w w' := by
  have HH := hid h
  have HD := hid hrd
  have HS := hid hsrt
  have HLR : Hid (rs.length = len) := hid (by rw [← hrd.1]; exact h.1)
  obtain ⟨hpl, hpc, hpm, _, hrow⟩ := hp
  have HPL := hid hpl
  have HPR := hid hrow
  unfold maxLen at hpm
  clear h hrd hsrt hpl hrow
  go_enter Try.func31, Try.ntmps31
  go_wp2_with (at_builtin; refine append_copyR rfl _ (.tmp 10) rfl a len cap hs rfl rfl HH.out (by omega) ?_; intro v1 w1 ho1 hb1; have HO1 := hid ho1; have HB1 := hid hb1; clear ho1 hb1)
  go_loopw [5, 14] (fun v i wr => ∃ (k : Nat) (hs' : List Pl.RH), k ≤ gl ∧ i = .int .i64 k ∧ Hid (OwnR wr w.heap.size v hs') ∧ Hid (ReadsAll w hs' (Pl.delsR rs (ps.take k))) ∧ Hid (Below w.heap.size w wr)) (fun _ i _ => gl - (intOf i).toNat)
  case atStart => exact ⟨0, hs, Nat.zero_le _, rfl, HO1, HD, HB1⟩
  case round =>
    obtain ⟨k, hs', hk, rfl, HO, HR, HB⟩ := hrel
    by_cases hlt : k < gl
    · obtain ⟨b1, o1, rfl, hb1, hr1⟩ : ∃ b' off, b = some ⟨b', off, none⟩ ∧ b' < w.heap.size ∧ PairsAt w b' off ps := by
        rcases HPR.out with rfl | h
        · have := HPL.out; simp at this; omega
        · exact h
      obtain ⟨c0, c1⟩ := hr1.below hb1 HB.out k (by rw [HPL.out]; exact hlt)
      have HST := hid (Pl.delsR_succ rs ps k (by rw [HPL.out]; exact hlt))
      generalize Pl.pr ps k = pp at *
      obtain ⟨p1, p2⟩ := pp
      simp only at c0 c1
      have hz := HB.out.size
      have HSR : Hid (Pl.SrtR (Pl.delsR rs (ps.take k))) := hid (Pl.delsR_srt HS.out)
      have HLE : Hid (hs'.length ≤ 200) := hid (by
        rw [HR.out.1]
        have := Pl.delsR_len (ps := ps.take k) HS.out
        have := HLR.out
        omega)
      obtain ⟨tt, HT⟩ : ∃ t, Hid (Pl.thereP (Pl.hp hs') (p1, p2) = t) := ⟨_, rfl⟩
      obtain ⟨ix, HX⟩ : ∃ t, Hid (Pl.posP (Pl.hp hs') (p1, p2) = t) := ⟨_, rfl⟩
      have HLT : Hid (tt = true → ix < hs'.length) := hid fun e => by rw [← HX.out]; have := Pl.thereP_lt (by rw [HT.out]; exact e : Pl.thereP (Pl.hp hs') (p1, p2) = true); rwa [Pl.hp_len] at this
      have HF : Hid (∀ W, Below wr.heap.size wr W → Calls Try.prog 23 #[u5, .agg #[.int .i64 p1, .int .i64 p2]] W fun e w' => e = .returned (.tuple #[.int .i64 ix, .bool tt]) ∧ Below W.heap.size W w') := hid fun W hW => by
        obtain ⟨a', cap', e, hr, _⟩ := (HO.out.below hW).rows
        rw [e]
        have := find_rib a' hs'.length cap' hs' p1 p2 W hr (HR.out.asc HSR.out) (by have := HLE.out; omega)
        rwa [HT.out, HX.out] at this
      cases tt
      · have HNO : Hid (Pl.delR (Pl.delsR rs (ps.take k)) (p1, p2) = Pl.delsR rs (ps.take k)) := hid (by
          unfold Pl.delR
          rw [show (Pl.delsR rs (ps.take k)).map Pl.Rt.p = Pl.hp hs' from HR.out.map_p.symm, HT.out]; rfl)
        go_wp2_with fail
        refine (HF.out _ ((Below.refl _ _).alloc (Nat.le_refl _) _)).mono ?_
        rintro e w2 ⟨rfl, hb2⟩
        have HB2 := hid (((Below.refl wr.heap.size wr).alloc (Nat.le_refl _) (.cells #[.int .i64 p1, .int .i64 p2] 27)).trans (hb2.mono (by simp)))
        clear hb2
        go_wp2_with fail
        go_roundw
        case rel => exact ⟨k + 1, hs', by omega, by go_num, hid (HO.out.below HB2.out), hid (by rw [HST.out, HNO.out]; exact HR.out), hid (HB.out.trans (HB2.out.mono hz))⟩
        case measure => simp [intOf]; omega
      · have hix := HLT.out rfl
        have HDL := hid (HR.out.del HT.out)
        rw [HX.out] at HDL
        go_wp2_with fail
        refine (HF.out _ ((Below.refl _ _).alloc (Nat.le_refl _) _)).mono ?_
        rintro e w2 ⟨rfl, hb2⟩
        have HB2 := hid (((Below.refl wr.heap.size wr).alloc (Nat.le_refl _) (.cells #[.int .i64 p1, .int .i64 p2] 27)).trans (hb2.mono (by simp)))
        clear hb2
        have hixb : ix ≤ 200 := by have := HLE.out; omega
        go_wp2_with fail
        refine (Delete_any w.heap.size u5 hs' ix w2 (HO.out.below HB2.out) hix (by have := HLE.out; omega)).mono ?_
        rintro e w3 ⟨v3, rfl, ho3, hg3⟩
        have HO3 := hid ho3
        have HB3 := hid ((HB.out.trans (HB2.out.mono hz)).grown hg3 (Nat.le_trans hz HB2.out.size) (fun k hk => HO.out.block k hk))
        clear ho3 hg3
        go_wp2_with fail
        go_roundw
        case rel => exact ⟨k + 1, _, by omega, by go_num, HO3, hid (by rw [HST.out]; exact HDL.out), HB3⟩
        case measure => simp [intOf]; omega
    · have hnl : ¬ ((k : Int) < (gl : Int)) := by omega
      have HE : Hid (ReadsAll w hs' (Pl.delsR rs ps)) := hid (by
        have := HR.out
        rwa [List.take_of_length_le (by rw [HPL.out]; omega)] at this)
      go_wp2_with fail
      go_ret
      first | exact ⟨_, hs', rfl, HO.out, HE.out, HB.out⟩ | exact ⟨_, rfl, hs', HO.out, HE.out, HB.out⟩
end Go.Proofs.Ytcdobhdbafpkiae
