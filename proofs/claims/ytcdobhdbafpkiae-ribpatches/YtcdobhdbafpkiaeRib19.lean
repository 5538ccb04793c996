/-
  Contract: slices.Delete of one route of a row of one's own.
-/
import Derived.Test.YtcdobhdbafpkiaeRib18
namespace Go.Proofs.Ytcdobhdbafpkiae
open Go.RowKit

theorem OwnR.head {w : World} {base g cap : Nat} {hs : List Pl.RH} (h : OwnR w base (.slice (some ⟨g, 0, none⟩) hs.length cap) hs) (i : Nat) (hi : i ≤ hs.length) : OwnR w base (.slice (some ⟨g, 0, none⟩) i cap) (hs.take i) := by
  obtain ⟨_, h | ⟨g', cap', cur, e, hb, hh, hn, hm, hs', hx⟩⟩ := h
  · simp at h
  · simp only [Value.slice.injEq, Option.some.injEq, Addr.mk.injEq, and_true] at e
    obtain ⟨rfl, _, rfl⟩ := e
    have hl : (hs.take i).length = i := by simp; omega
    refine ⟨cellsR_len _, .inr ⟨g, cap, cur, by rw [hl], hb, hh, by omega, hm, hs', ?_⟩⟩
    rw [hl]
    have : cur.toList.take (i * 5) = (cur.toList.take (hs.length * 5)).take (i * 5) := by rw [List.take_take]; congr 1; omega
    rw [this, hx, cellsR_cut hs i, List.take_append_of_le_length (by rw [cellsR_len, hl]; exact Nat.le_refl _), List.take_of_length_le (by rw [cellsR_len, hl]; exact Nat.le_refl _)]

theorem step_appendR {w : World} {ops : Array Oper} {o : Oper} {a : Act} {K : Act → World → Prop} {Q : Exit → Act → World → Prop} {E : Prop} (hgd : o.guard = none) (s x : Operand)
    (ho : o.op = .call { callee := .builtin .append, args := #[s, x], argTypes := #[22, 22] })
    (base g k cap : Nat) (hs : List Pl.RH) (hk : hs.length = k) (hs' : a.eval s = .slice (some ⟨g, 0, none⟩) k cap) (hown : OwnR w base (.slice (some ⟨g, 0, none⟩) k cap) hs) (ad : Addr) (m c : Nat) (ns : List Pl.RH) (hx : a.eval x = .slice (some ad) m c) (hn : ns.length = m)
    (hsrc : ∀ j u, (cellsR ns)[j]? = some u → w.cell? (ad.add j) = some u) (hroom : k + m ≤ cap)
    (h : ∀ w', OwnR w' base (.slice (some ⟨g, 0, none⟩) (k + m) cap) (hs ++ ns) → w.grownBy w' (some g) → K (a.put o.dst (.slice (some ⟨g, 0, none⟩) (k + m) cap)) w') : if Region.wanted o (yielded ops a.tmps) = true then Oper.wp Try.prog o a w K Q else E := by
  have hw : Region.wanted o (yielded ops a.tmps) = true := by simp [Region.wanted, hgd]
  rw [if_pos hw]
  subst hk
  obtain ⟨i0, hi0, hz0, hz1, hz2⟩ := partsOf infoRoute
  obtain ⟨w', hrun, r1, r2⟩ := run_append_fits (P := Try.prog) w base 22 o.type 30 i0 5 Try.underlying22 hi0 hz1 g hs.length cap (cellsR hs) hown ad m c (cellsR ns) (by rw [cellsR_len, hn]) hsrc (cellsR_one _) hroom
  unfold Oper.wp
  simp [execOp, ho, resolve, invoke, builtin, hs', hx, hrun, Result.andThen]
  exact h w' (ownR_of r1 (by rw [cellsR_append])) r2

theorem run_clearR (w : World) (g o c : Nat) (L : List Value) (hg : w.heap[g]? = some (.cells L.toArray 30 (0, 0))) (hfit : o + 5 ≤ L.length) (ty : TypeId) :
    (Builtin.clear_ #[22] ty #[.slice (some ⟨g, o, none⟩) 1 c]).run Try.prog w = .ok (.tuple #[]) (w.setRow g (laid L o [.int .i64 0, .int .i64 0, .bool false, .int .i64 0, .slice none 0 0]).toArray) := by
  have hv : ∀ w, (zeroValue 30).run Try.prog w = .ok (.agg #[.int .i64 0, .int .i64 0, .bool false, .int .i64 0, .slice none 0 0]) w := Try.zeroValue30
  have hz : (Builtin.zeroCells (Value.agg #[.int .i64 0, .int .i64 0, .bool false, .int .i64 0, .slice none 0 0]).cells 1).toList = [.int .i64 0, .int .i64 0, .bool false, .int .i64 0, .slice none 0 0] := by kernel_rfl
  have hst := run_storeCells_at Try.prog g o 30 [.int .i64 0, .int .i64 0, .bool false, .int .i64 0, .slice none 0 0] 0 L.toArray w hg (by simpa using hfit) (by intro v hv; simp at hv; rcases hv with rfl | rfl | rfl | rfl | rfl <;> rfl)
  simp only [Nat.add_zero] at hst
  simp only [Builtin.clear_]
  simp [run_underlying Try.underlying22, hv, hz, hst, laid]

theorem wpList_clearR {w : World} {ops : Array Oper} {rest : List Oper} {o : Oper} {a : Act} {Q : Exit → Act → World → Prop} (hgd : o.guard = none) (s : Operand)
    (ho : o.op = .call { callee := .builtin .clear, args := #[s], argTypes := #[22] })
    (base g n cap off c : Nat) (hs' : a.eval s = .slice (some ⟨g, off, none⟩) 1 c) (hs : List Pl.RH) (hown : OwnR w base (.slice (some ⟨g, 0, none⟩) n cap) hs) (hn : hs.length = n) (hoff : off = n * 5) (hfit : n + 1 ≤ cap)
    (h : ∀ w' v', OwnR w' base (.slice (some ⟨g, 0, none⟩) n cap) hs → But g w w' → wpList Try.prog ops Q rest (a.put o.dst v') w') : wpList Try.prog ops Q (o :: rest) a w := by
  subst hn
  obtain ⟨_, h0 | ⟨g', cap', cur, e, hb, hh, hn, hm, hsz, hx⟩⟩ := hown
  · simp at h0
  · simp only [Value.slice.injEq, Option.some.injEq, Addr.mk.injEq, and_true] at e
    obtain ⟨rfl, _, rfl⟩ := e
    have hgL : w.heap[g]? = some (.cells cur.toList.toArray 30 (0, 0)) := by simpa using hh
    have hfit2 : off + 5 ≤ cur.toList.length := by simp; omega
    have hrun := run_clearR w g off c cur.toList hgL hfit2 o.type
    refine wpList_plain hgd fun K hK => ?_
    unfold Oper.wp
    simp [execOp, ho, resolve, invoke, builtin, hs', hrun, Result.andThen]
    refine hK _ _ (h _ _ (ownR_row hb (setRow_heap w g _ _ _ _ hgL) rfl hn hm ?_ ?_) (But.row w g _))
    · rw [laid_len _ _ _ (by simpa using hfit2)]
      simpa using hsz
    · unfold laid
      rw [List.append_assoc, List.take_append_of_le_length (by simp; omega), List.take_take, show min (hs.length * 5) off = hs.length * 5 by omega, hx]

set_option maxHeartbeats 4000000 in
theorem Delete_any (base : Nat) (v : Value) (hs : List Pl.RH) (i : Nat) (w : World) (hown : OwnR w base v hs) (hi : i < hs.length) (hbig : hs.length ≤ 2000000) :
    Calls Try.prog 41 #[v, .int .i64 i, .int .i64 ((i : Int) + 1)] w fun e w' =>
      ∃ v', e = .returned v' ∧ OwnR w' base v' (hs.take i ++ hs.drop (i + 1)) ∧ w.grownBy w' v.ownBlock := by
  obtain ⟨g, cap, L, rfl, hbg, hg, hnc, hm, hL, hx⟩ := hown.row (by omega)
  have HO1 := hid (hown.head i (by omega))
  have hm0 := hm
  unfold maxLen at hm
  obtain ⟨n, HN⟩ : ∃ n, Hid (hs.length = n) := ⟨_, rfl⟩
  have HG := hid hg
  have HSRC : Hid (∀ j u, (cellsR (hs.drop (i + 1)))[j]? = some u → L[(i + 1) * 5 + j]? = some u) := hid fun j u hj => by
    have h1 : (cellsR hs)[(i + 1) * 5 + j]? = some u := by
      rw [cellsR_cut hs (i + 1), List.getElem?_append_right (by rw [cellsR_len]; simp; omega), cellsR_len]
      simpa [show min (i + 1) hs.length = i + 1 by omega] using hj
    rw [← hx, List.getElem?_take] at h1
    split at h1
    · exact h1
    · cases h1
  have HLT : Hid ((hs.take i).length = i) := hid (by simp; omega)
  have HLD : Hid ((hs.drop (i + 1)).length = hs.length - (i + 1)) := hid (by simp)
  have HLA : Hid ((hs.take i ++ hs.drop (i + 1)).length = hs.length - 1) := hid (by simp; omega)
  rw [HN.out] at hi hbig hnc HLD HLA ⊢
  obtain ⟨T, HT⟩ : ∃ l, Hid (hs.take i = l) := ⟨_, rfl⟩
  obtain ⟨D, HD⟩ : ∃ l, Hid (hs.drop (i + 1) = l) := ⟨_, rfl⟩
  rw [HT.out] at HO1 HLT
  rw [HD.out] at HSRC HLD
  rw [HT.out, HD.out] at HLA ⊢
  clear hg hx hown
  have hi2 : (i : Int) ≤ (n : Int) := by omega
  have hi3 : (i : Int) + 1 ≤ (n : Int) := by omega
  have hi4 : ¬ (n = i) := by omega
  have hi5 : ((i : Int) == (i : Int) + 1) = false := by rw [beq_eq_false_iff_ne]; omega
  have hi9 : i ≤ cap := by omega
  have hi6 : (0 : Int) ≤ (i : Int) + 1 := by omega
  have hi7 : ((i : Int) + 1).toNat = i + 1 := by omega
  have hi8 : ¬ (cap = i) := by omega
  by_cases hc : cap = i + 1
  · obtain rfl : n = i + 1 := by omega
    subst hc
    have HD0 : Hid (D.length = 0) := hid (by rw [HLD.out]; omega)
    clear hi4 hi8
    have hq1 : (i : Int) ≤ (i : Int) + 1 := by omega
    have hq2 : i ≤ i + 1 := by omega
    go_enter Try.func41, Try.ntmps41
    go_wp2_with fail
    go_region_law (refine step_appendR rfl (.tmp 22) (.tmp 25) rfl base g i (i + 1) T HLT.out (by simp [Act.eval, Act.put]) HO1.out ⟨g, 0, none⟩ 0 0 D (by simp [Act.eval, Act.put]) HD0.out (fun j u hj => by have e : D = [] := List.length_eq_zero_iff.1 HD0.out; rw [e] at hj; simp [cellsR] at hj) (by omega) ?_; intro w1 ho1 hg1; rw [Nat.add_zero] at ho1 ⊢; have HO2 := hid ho1; have HG1 := hid hg1; clear ho1 hg1)
    all_goals
      go_wp2_with (refine wpList_clearR rfl (.tmp 31) rfl base g i (i + 1) (i * 5) 1 (by simp [Act.eval]) (T ++ D) HO2.out HLA.out rfl (by omega) ?_; intro w2 v2 ho2 hb2; have HO3 := hid ho2; have HB2 := hid hb2; clear ho2 hb2)
      go_ret
      exact ⟨_, rfl, HO3.out, grown_trans (grown_trans (grown_below ((Below.refl _ _).drew)) HG1.out) HB2.out.grown⟩
  · have hgo : i + (n - (i + 1)) = n - 1 := by omega
    have hcn : ¬ (cap = n - 1) := by omega
    go_enter Try.func41, Try.ntmps41
    go_wp2_with fail
    go_region_law (refine step_appendR rfl (.tmp 22) (.tmp 25) rfl base g i cap T HLT.out (by simp [Act.eval, Act.put]) HO1.out ⟨g, (i + 1) * 5, none⟩ (n - (i + 1)) (cap - (i + 1)) D (by simp [Act.eval, Act.put]) HLD.out (fun j u hj => by rw [add_none]; exact row_cell HG.out (HSRC.out j u hj)) (by omega) ?_; intro w1 ho1 hg1; rw [hgo] at ho1 ⊢; have HO2 := hid ho1; have HG1 := hid hg1; clear ho1 hg1)
    all_goals
      go_wp2_with (refine wpList_clearR rfl (.tmp 31) rfl base g (n - 1) cap ((n - 1) * 5) (cap - (n - 1)) (by simp [Act.eval]; try omega) (T ++ D) HO2.out HLA.out rfl (by omega) ?_; intro w2 v2 ho2 hb2; have HO3 := hid ho2; have HB2 := hid hb2; clear ho2 hb2)
      go_ret
      exact ⟨_, rfl, HO3.out, grown_trans (grown_trans (grown_below ((Below.refl _ _).drew)) HG1.out) HB2.out.grown⟩
end Go.Proofs.Ytcdobhdbafpkiae
