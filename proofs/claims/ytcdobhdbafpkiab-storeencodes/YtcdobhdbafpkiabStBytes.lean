/-
  Contract: what the document's StoreBytes answers at every list of entries.
-/
import Derived.Test.YtcdobhdbafpkiabEncode
import Derived.Deep.RegionHeld3
namespace Go.Proofs.Ytcdobhdbafpkiab
open Go.RowKit

theorem row_atb {w w' : World} {b off k : Nat} {es : List Pl.Ent} {y : Pl.Ent} (h : RowAt w b off es) (hb : b < w.heap.size) (hw : Below w.heap.size w w') (hy : Pl.ent es k = y) (hk : k < es.length) :
    w'.cell? ⟨b, off + k * 4, none⟩ = some (.string y.key) ∧ w'.cell? ⟨b, off + k * 4 + 1, none⟩ = some (.int .i64 y.ver) ∧ w'.cell? ⟨b, off + k * 4 + 2, none⟩ = some (.int .i64 y.org) ∧ w'.cell? ⟨b, off + k * 4 + 3, none⟩ = some (.string y.val) := by
  subst hy
  exact (h.below hb hw) k hk

theorem wrap_u8_id {n : Int} (h0 : 0 ≤ n) (h1 : n ≤ 255) : IntKind.u8.wrap n = n := by
  simp [IntKind.wrap, IntKind.bits, IntKind.signed]
  omega
theorem own_drew {w : World} {base : Nat} {v : Value} {bs : List UInt8} (h : OwnB w base v bs) : OwnB w.drew base v bs := h
theorem keep_drew {base : Nat} {w w' : World} {o : Obj} (hb : base ≤ w.heap.size) (h : Keep base (w.alloc o).drew w') : Keep base w w' := by
  have h1 : Keep base w (w.alloc o).drew := Keep.of_below (Below.drew ((Below.refl w.heap.size w).alloc (Nat.le_refl _) o)) hb
  exact h1.trans h
theorem dlen (s : ByteArray) : s.data.toList.length = s.size := by simp

/-- two bytes more, within a region that draws its order -/
theorem step_b2 {ops : Array Oper} {o : Oper} {a : Act} {w : World} {K : Act → World → Prop} {Q : Exit → Act → World → Prop} {E : Prop} (hg : o.guard = none) (s x : Operand)
    (ho : o.op = .call { callee := .builtin .append, args := #[s, x], argTypes := #[23, 23] })
    (base : Nat) (v : Value) (bs : List UInt8) (n m : Int) (hs : a.eval s = v) (hown : OwnB w base v bs) (hbase : base ≤ w.heap.size) (g : Nat) (hx : a.eval x = .slice (some ⟨g, 0, none⟩) 2 2)
    (c0 : w.cell? ⟨g, 0, none⟩ = some (.int .u8 n)) (c1 : w.cell? ⟨g, 1, none⟩ = some (.int .u8 m)) (h0 : 0 ≤ n) (h1 : n ≤ 255) (h2 : 0 ≤ m) (h3 : m ≤ 255) (hb : bs.length + 2 ≤ 140737488355328)
    (hK : ∀ v' w', OwnB w' base v' (bs ++ [Pl.u8 n, Pl.u8 m]) → Keep base w w' → K (a.put o.dst v') w') :
    if Region.wanted o (yielded ops a.tmps) = true then Oper.wp Try.prog o a w K Q else E := by
  have hw : Region.wanted o (yielded ops a.tmps) = true := by simp [Region.wanted, hg]
  rw [if_pos hw]
  obtain ⟨i0, hi0, hz0, hz1, hz2⟩ := info_parts infoByte
  refine wp_append_own (w := _) s x 23 ho base 5 i0 _ 1 1 Try.underlying23 hi0 hz0 hz1 hz2 rfl (by decide) _ bs.length (bcells bs) hs hown ⟨g, 0, none⟩ 2 2 [.int .u8 n, .int .u8 m] hx rfl ?_ ?_ (by unfold maxLen; omega) (by omega) hbase ?_
  · intro j u hj
    match j, hj with
    | 0, hj => simp at hj; subst hj; rw [add_none]; exact c0
    | 1, hj => simp at hj; subst hj; rw [add_none]; exact c1
  · intro u hu; simp at hu; rcases hu with rfl | rfl <;> rfl
  · intro v' w' hown' hg' _
    refine hK v' w' (ownb_of hown' ?_) (Keep.of_grown hown hg' hbase)
    rw [bcells_append]
    simp [bcells, Pl.u8_val h0 h1, Pl.u8_val h2 h3]

set_option maxHeartbeats 2000000 in
theorem StoreBytes_any (a : Option Addr) (len cap : Nat) (es : List Pl.Ent) (w : World) (h : IsEnts w a len cap es) :
    Calls Try.prog 9 #[.slice a len cap] w fun e w' => ∃ v, e = .returned (.tuple #[v, .int .i64 (Pl.fault es)]) ∧ OwnB w' w.heap.size v (Pl.encO es) ∧ Below w.heap.size w w' := by
  have HH := hid h
  have hlen : es.length = len := h.1
  have hcap := h.2.1
  have hm := h.2.2.1
  unfold maxLen at hm
  clear h
  obtain ⟨c, HC⟩ : ∃ c, Hid (Pl.fault es = c) := ⟨_, rfl⟩
  by_cases hc0 : c = 0
  · subst hc0
    have HG := hid ((Pl.good_iff es).1 HC.out)
    have hl60 : len ≤ 60 := by have := HG.out.1; omega
    go_enter Try.func9, Try.ntmps9
    go_wp2_with fail
    refine (StoreFault_any _ _ _ es _ HH.out).mono ?_
    rw [HC.out]
    rintro e w1 ⟨rfl, hb1⟩
    have hz1 := hb1.size
    go_wp2_with fail
    go_loopw [5, 6] (fun vv i wr => ∃ (k : Nat) (c : List UInt8) (u : Value), u = vv ∧ k ≤ len ∧ i = .int .i64 k ∧ Hid (OwnB wr w.heap.size u c) ∧ c.length ≤ 2 + k * 138 ∧ Hid (Pl.body es = c ++ Pl.encL (es.drop k)) ∧ Below w.heap.size w wr) (fun _ i _ => len - (intOf i).toNat)
    case atStart => exact ⟨0, [116, Pl.u8 (es.length : Int)], _, rfl, Nat.zero_le _, rfl, by rw [hlen]; exact (ownb_lit2 w1 116 (len : Int) (by omega) (by omega)).mono hz1, by simp, rfl, hb1.alloc hz1 _⟩
    case round =>
      obtain ⟨k, c, u, rfl, hk, rfl, HO, hcl, HE, hb⟩ := hrel
      have hz := hb.size
      by_cases hlt : k < len
      · obtain ⟨b, off, rfl, hbw, hr⟩ : ∃ b off, a = some ⟨b, off, none⟩ ∧ b < w.heap.size ∧ RowAt w b off es := by
          rcases HH.out.2.2.2.2 with h | h
          · rw [h] at hlen; simp at hlen; omega
          · exact h
        obtain ⟨q0, q1, q2, q3⟩ := hr.below hbw hb k (by omega)
        have HRW := hid hr
        have HLT : Hid (k < es.length) := by show _ < _; omega
        clear hr
        have hpp := Pl.may_parts (HG.out.2.1 _ (Pl.ent_mem es k (by omega)))
        have HLN := hid (Pl.encE_len (HG.out.2.1 _ (Pl.ent_mem es k (by omega))))
        have HD := hid (Pl.drop_ent es k (by omega))
        obtain ⟨x, HY⟩ : ∃ x, Hid (Pl.ent es k = x) := ⟨_, rfl⟩
        rw [HY.out] at q0 q1 q2 q3 hpp HLN HD
        obtain ⟨xk, xv, xo, xx⟩ := x
        simp only at q0 q1 q2 q3 hpp
        obtain ⟨p1, p2, p3, p4, p5, p6, p7⟩ := hpp
        go_wp2_with (first
          | (at_builtin; refine append_b1 rfl (.tmp 22) (.tmp 30) rfl w.heap.size u c (xk.size : Int) rfl HO.out hz rfl (by omega) (by omega) (by omega) ?_; intro v3 w3 ho3 hk3; have HO3 := hid ho3; clear ho3; have hz3 := hk3.1.size; have hbb3 := hb.trans hk3.1; clear q0 q1 q2 q3; obtain ⟨q0, q1, q2, q3⟩ := row_atb HRW.out hbw hbb3 HY.out HLT.out; have hl3 : (c ++ [Pl.u8 (xk.size : Int)]).length ≤ 2 + k * 138 + 1 := (by rw [List.length_append]; simp only [List.length_singleton]; omega))
          | (at_builtin; refine append_str rfl (.tmp 32) (.tmp 37) rfl w.heap.size v3 _ xk rfl HO3.out (by omega) rfl (by omega) ?_; intro v4 w4 ho4 hk4; have HO4 := hid ho4; clear ho4; have hz4 := hk4.1.size; have hbb4 := hbb3.trans hk4.1; clear q0 q1 q2 q3; obtain ⟨q0, q1, q2, q3⟩ := row_atb HRW.out hbw hbb4 HY.out HLT.out))
        have hl4 : (c ++ [Pl.u8 (xk.size : Int)] ++ xk.data.toList).length ≤ 2 + k * 138 + 9 := by rw [List.length_append, dlen]; omega
        refine (sevens_any 6 xv _ (by omega) (by simp only [Pl.lim]; omega) (by omega) (by omega)).mono ?_
        rintro e w5 ⟨v5, rfl, ho5, hb5⟩
        obtain ⟨a5, c5, rfl, hI5, hn5, _⟩ := ho5.shape
        have HI5 := hid hI5
        have HN5 := hid hn5
        have HO5 := hid (HO4.out.below hb5)
        have hz5 := hb5.size
        have hbb5 := hbb4.trans (hb5.mono (by omega))
        clear ho5 hI5 hn5 q0 q1 q2 q3
        have hl5 := Pl.encV_len 6 xv
        obtain ⟨q0, q1, q2, q3⟩ := row_atb HRW.out hbw hbb5 HY.out HLT.out
        go_wp2_with (at_builtin; refine append_bs rfl (.tmp 39) (.tmp 45) rfl w.heap.size v4 _ _ _ _ (Pl.encV 6 xv) rfl HO5.out (by omega) rfl HI5.out HN5.out (by omega) ?_; intro v6 w6 ho6 hk6; have HO6 := hid ho6; clear ho6; have hz6 := hk6.1.size; have hbb6 := hbb5.trans hk6.1; clear q0 q1 q2 q3; obtain ⟨q0, q1, q2, q3⟩ := row_atb HRW.out hbw hbb6 HY.out HLT.out)
        have hl6 : (c ++ [Pl.u8 (xk.size : Int)] ++ xk.data.toList ++ Pl.encV 6 xv).length ≤ 2 + k * 138 + 16 := by rw [List.length_append]; omega
        have hw1 : IntKind.u8.wrap xo = xo := wrap_u8_id (by omega) (by omega)
        have hw2 : IntKind.u8.wrap (xx.size : Int) = (xx.size : Int) := wrap_u8_id (by omega) (by omega)
        go_region_held3 (fun w' => w'.cell? ⟨b, off + k * 4 + 2, none⟩ = some (.int .i64 xo) ∧ w'.cell? ⟨b, off + k * 4 + 3, none⟩ = some (.string xx)) (go_keep) ((refine step_b2 rfl (.tmp 47) (.tmp 61) rfl w.heap.size v6 (c ++ [Pl.u8 (xk.size : Int)] ++ xk.data.toList ++ Pl.encV 6 xv) xo (xx.size : Int) rfl ?_ ?_ w6.heap.size rfl ?_ ?_ (by omega) (by omega) (by omega) (by omega) (by omega) ?_; (exact own_drew (World.ownsRow.alloc HO6.out _)); (simp; omega); simp; simp; intro v7 w7 ho7 hk7; have HO7 := hid ho7; clear ho7; have hk7' := keep_drew (by omega) hk7; have hz7 := hk7'.1.size; have hbb7 := hbb6.trans hk7'.1; obtain ⟨j0, j1, j2, j3⟩ := row_atb HRW.out hbw hbb7 HY.out HLT.out))
        have hl7 : (c ++ [Pl.u8 (xk.size : Int)] ++ xk.data.toList ++ Pl.encV 6 xv ++ [Pl.u8 xo, Pl.u8 (xx.size : Int)]).length ≤ 2 + k * 138 + 18 := by rw [List.length_append]; simp only [List.length_cons, List.length_nil]; omega
        have HEE : Hid (c ++ [Pl.u8 (xk.size : Int)] ++ xk.data.toList ++ Pl.encV 6 xv ++ [Pl.u8 xo, Pl.u8 (xx.size : Int)] ++ xx.data.toList = c ++ Pl.encE ⟨xk, xv, xo, xx⟩) := by
          show _ = _
          simp [Pl.encE, Pl.encT]
        go_wp2_with (at_builtin; refine append_str rfl (.tmp 63) (.tmp 68) rfl w.heap.size v7 _ xx rfl HO7.out (by omega) rfl (by omega) ?_; intro v8 w8 ho8 hk8; rw [HEE.out] at ho8; have HF := hid ho8; clear ho8)
        go_roundw
        case rel => exact ⟨k + 1, _, _, rfl, by omega, by go_num, HF, by rw [List.length_append]; have := HLN.out; omega, by show _ = _; rw [HE.out, HD.out]; simp [Pl.encL], hbb7.trans hk8.1⟩
        case measure => simp [intOf]; omega
      · obtain rfl : k = len := by omega
        have HB : Hid (Pl.body es = c) := by show _ = _; rw [HE.out, List.drop_eq_nil_of_le (by omega)]; simp [Pl.encL]
        obtain ⟨a2, c2, rfl, hI2, hn2, _⟩ := HO.out.shape
        have HI := hid hI2
        clear hI2 hn2
        go_wp2_with fail
        refine (SealOf_any _ _ _ c _ HI.out).mono ?_
        rintro e w3 ⟨v3, rfl, ho3, hb3⟩
        have hz3 := hb3.size
        obtain ⟨a3, c3, rfl, hI3, hn3, _⟩ := ho3.shape
        have HI3 := hid hI3
        have HN3 := hid hn3
        have HOC := hid (HO.out.below hb3)
        clear ho3 hI3 hn3
        go_wp2_with (at_builtin; refine append_bs rfl (.tmp 70) (.tmp 72) rfl w.heap.size _ c _ _ _ (Pl.sealL c) rfl HOC.out (by omega) rfl HI3.out HN3.out (by rw [Pl.sealL_len]; omega) ?_; intro v4 w4 ho4 hk4)
        go_ret2
        exact ⟨_, by rw [HC.out]; rfl, by unfold Pl.encO Pl.enc; rw [if_pos HC.out, HB.out]; exact ho4, (hb.trans (hb3.mono hz)).trans hk4.1⟩
  · have hcn : (c != 0) = true := by simp [hc0]
    have HP : Hid (Pl.encO es = []) := by show _ = _; unfold Pl.encO; rw [HC.out, if_neg hc0]
    clear hc0
    go_enter Try.func9, Try.ntmps9
    go_wp2_with fail
    refine (StoreFault_any _ _ _ es _ HH.out).mono ?_
    rw [HC.out]
    rintro e w1 ⟨rfl, hb1⟩
    go_wp2_with fail
    go_ret2
    exact ⟨_, by rw [HC.out]; rfl, by rw [HP.out]; exact OwnB.nil _ _, hb1⟩
end Go.Proofs.Ytcdobhdbafpkiab
