/-
  Contract: what the document's withEntry makes.
-/
import Derived.Test.YtcdobhdbafpkiaaApp
namespace Go.Proofs.Ytcdobhdbafpkiaa
open Go.RowKit

theorem wE_step (es : List Pl.Ent) (k : Nat) (dn : Bool) (x : Pl.Ent) (h : k < es.length) : Pl.wE (es.drop k) dn x = (if !dn && !Pl.ltB (Pl.ent es k).key x.key then [x] else []) ++ ((if (Pl.ent es k).key = x.key then [] else [Pl.ent es k]) ++ Pl.wE (es.drop (k + 1)) (dn || !Pl.ltB (Pl.ent es k).key x.key) x) := by
  rw [Pl.drop_ent es k h]; rfl

theorem row_at {w w' : World} {b off k : Nat} {es : List Pl.Ent} {y : Pl.Ent} (h : RowAt w b off es) (hb : b < w.heap.size) (hw : Below w.heap.size w w') (hy : Pl.ent es k = y) (hk : k < es.length) :
    w'.cell? ⟨b, off + k * 4, none⟩ = some (.string y.key) ∧ w'.cell? ⟨b, off + k * 4 + 1, none⟩ = some (.int .i64 y.ver) ∧ w'.cell? ⟨b, off + k * 4 + 2, none⟩ = some (.int .i64 y.org) ∧ w'.cell? ⟨b, off + k * 4 + 3, none⟩ = some (.string y.val) := by
  subst hy
  exact (h.below hb hw) k hk

set_option maxHeartbeats 2000000 in
theorem withEntry_any (a : Option Addr) (len cap : Nat) (es : List Pl.Ent) (x : Pl.Ent) (w : World) (h : IsEnts w a len cap es) (h60 : len ≤ 60) :
    Calls Try.prog 33 #[.slice a len cap, .agg #[.string x.key, .int .i64 x.ver, .int .i64 x.org, .string x.val]] w
      fun e w' => ∃ v, e = .returned v ∧ Own w' w.heap.size v (Pl.wE es false x) ∧ Below w.heap.size w w' := by
  obtain ⟨hl, hc, hm, hok, hrow⟩ := h
  unfold maxLen at hm
  have HW := wE_step es
  have HS : Hid _ := HW
  clear HW
  obtain ⟨xk, xv, xo, xx⟩ := x
  simp only
  have hbx : Below w.heap.size w (w.alloc (.cells #[.string xk, .int .i64 xv, .int .i64 xo, .string xx] 28)) := (Below.refl _ _).alloc (Nat.le_refl _) _
  have HBX : Hid _ := hbx
  clear hbx
  have HR : Hid (es = [] ∨ ∃ b off, a = some ⟨b, off, none⟩ ∧ b < w.heap.size ∧ RowAt w b off es) := hrow
  clear hrow
  go_enter Try.func33, Try.ntmps33
  go_wp2_with fail
  go_loopw [5, 6, 7] (fun vo d i wr => ∃ (k : Nat) (ol : List Pl.Ent) (dn : Bool) (vv : Value), vv = vo ∧ k ≤ len ∧ i = .int .i64 k ∧ d = .bool dn ∧ Hid (Own wr (w.heap.size + 1) vv ol) ∧ ol.length ≤ k + dn.toNat ∧ Hid (Pl.wE es false ⟨xk, xv, xo, xx⟩ = ol ++ Pl.wE (es.drop k) dn ⟨xk, xv, xo, xx⟩) ∧ Below (w.heap.size + 1) (w.alloc (.cells #[.string xk, .int .i64 xv, .int .i64 xo, .string xx] 28)) wr) (fun _ _ i _ => len - (intOf i).toNat)
  case atStart => exact ⟨0, [], false, _, rfl, Nat.zero_le _, rfl, rfl, Own.nil _ _, by simp, rfl, Below.refl _ _⟩
  case round =>
    obtain ⟨k, ol, dn, vo, rfl, hk, rfl, rfl, HO, hol, HE, hb⟩ := hrel
    obtain ⟨x0, x1, x2, x3⟩ := box4 hb
    have hz := hb.size
    simp at hz
    by_cases hlt : k < len
    · obtain ⟨b, off, rfl, hbw, hr⟩ : ∃ b off, a = some ⟨b, off, none⟩ ∧ b < w.heap.size ∧ RowAt w b off es := by
        rcases HR.out with h | h
        · rw [h] at hl; simp at hl; omega
        · exact h
      have HRW : Hid (RowAt w b off es) := hr
      clear hr
      have hr' := HRW.out.below hbw (HBX.out.trans (hb.mono (by omega)))
      obtain ⟨q0, q1, q2, q3⟩ := hr' k (by omega)
      clear hr'
      have HST : Hid _ := HS.out k dn ⟨xk, xv, xo, xx⟩ (by omega)
      obtain ⟨y, HY⟩ : ∃ y, Hid (Pl.ent es k = y) := ⟨_, rfl⟩
      rw [HY.out] at q0 q1 q2 q3 HST
      have HLT : Hid (k < es.length) := by show _ < _; omega
      obtain ⟨yk, yv, yo, yx⟩ := y
      simp only at q0 q1 q2 q3
      cases dn
      · simp only [Bool.toNat_false] at hol
        rcases Pl.tri yk xk with ⟨t1, t2, t3⟩ | rfl | ⟨t1, t2, t3⟩
        · have he := Pl.beqL_false t3
          have HF : Hid (Pl.wE es false ⟨xk, xv, xo, xx⟩ = (ol ++ [⟨yk, yv, yo, yx⟩]) ++ Pl.wE (es.drop (k + 1)) false ⟨xk, xv, xo, xx⟩) := by
            show _ = _
            rw [HE.out, HST.out]
            simp [show Pl.ltB yk xk = true from t1, t3]
          go_wp2_with fail
          go_quiet (fail)
          go_wp2_with fail
          go_quiet (fail)
          go_wp2_with (at_builtin; refine append_ent_d rfl (.tmp 38) (.tmp 43) rfl (w.heap.size + 1) vo ol ⟨yk, yv, yo, yx⟩ rfl HO.out (by omega) rfl (by omega) ?_; intro v7 w7 ho7 hb7)
          go_roundw
          case rel => exact ⟨k + 1, ol ++ [(⟨yk, yv, yo, yx⟩ : Pl.Ent)], false, _, rfl, by omega, by go_num, rfl, ho7, by simp; omega, HF, hb.trans hb7⟩
          case measure => simp [intOf]; omega
        · have t1 : Op.bytesLess yk.toList yk.toList = false := Pl.ltB_irrefl yk
          have HF : Hid (Pl.wE es false ⟨yk, xv, xo, xx⟩ = (ol ++ [⟨yk, xv, xo, xx⟩]) ++ Pl.wE (es.drop (k + 1)) true ⟨yk, xv, xo, xx⟩) := by
            show _ = _
            rw [HE.out, HST.out]
            simp [show Pl.ltB yk yk = false from t1]
          go_wp2_with fail
          go_quiet (fail)
          go_wp2_with (at_builtin; refine append_ent_d rfl (.tmp 26) (.tmp 28) rfl (w.heap.size + 1) vo ol ⟨yk, xv, xo, xx⟩ rfl HO.out (by omega) rfl (by omega) ?_; intro v7 w7 ho7 hb7; have hb7' := hb.trans hb7; obtain ⟨c0, c1, c2, c3⟩ := box4 hb7'; obtain ⟨d0, d1, d2, d3⟩ := row_at HRW.out hbw (HBX.out.trans (hb7'.mono (by omega))) HY.out HLT.out)
          go_quiet (fail)
          go_wp2_with fail
          go_roundw
          case rel => exact ⟨k + 1, ol ++ [(⟨yk, xv, xo, xx⟩ : Pl.Ent)], true, _, rfl, by omega, by go_num, rfl, ho7, by simp; omega, HF, below_drewN hb7' _⟩
          case measure => simp [intOf]; omega
        · have he := Pl.beqL_false t3
          have HF : Hid (Pl.wE es false ⟨xk, xv, xo, xx⟩ = ((ol ++ [⟨xk, xv, xo, xx⟩]) ++ [⟨yk, yv, yo, yx⟩]) ++ Pl.wE (es.drop (k + 1)) true ⟨xk, xv, xo, xx⟩) := by
            show _ = _
            rw [HE.out, HST.out]
            simp [show Pl.ltB yk xk = false from t1, t3]
          go_wp2_with fail
          go_quiet (fail)
          go_wp2_with (at_builtin; refine append_ent_d rfl (.tmp 26) (.tmp 28) rfl (w.heap.size + 1) vo ol ⟨xk, xv, xo, xx⟩ rfl HO.out (by omega) rfl (by omega) ?_; intro v7 w7 ho7 hb7; have hb7' := hb.trans hb7; obtain ⟨c0, c1, c2, c3⟩ := box4 hb7'; obtain ⟨d0, d1, d2, d3⟩ := row_at HRW.out hbw (HBX.out.trans (hb7'.mono (by omega))) HY.out HLT.out; have HO7 : Hid (Own w7 (w.heap.size + 1) v7 (ol ++ [⟨xk, xv, xo, xx⟩])) := ho7; clear ho7)
          have hz7 := hb7'.size
          simp at hz7
          have hl7 : (ol ++ [(⟨xk, xv, xo, xx⟩ : Pl.Ent)]).length ≤ k + 1 := by simp; omega
          go_quiet (fail)
          go_wp2_with (at_builtin; refine append_ent rfl (.tmp 38) (.tmp 43) rfl (w.heap.size + 1) v7 (ol ++ [⟨xk, xv, xo, xx⟩]) ⟨yk, yv, yo, yx⟩ rfl (Own.drewN HO7.out _) (by simp; omega) rfl (by omega) ?_; intro v8 w8 ho8 hb8)
          go_roundw
          case rel => exact ⟨k + 1, (ol ++ [(⟨xk, xv, xo, xx⟩ : Pl.Ent)]) ++ [(⟨yk, yv, yo, yx⟩ : Pl.Ent)], true, _, rfl, by omega, by go_num, rfl, ho8, by simp; omega, HF, (below_drewN hb7' _).trans hb8⟩
          case measure => simp [intOf]; omega
      · simp only [Bool.toNat_true] at hol
        by_cases t3 : yk = xk
        · subst t3
          have HF : Hid (Pl.wE es false ⟨yk, xv, xo, xx⟩ = ol ++ Pl.wE (es.drop (k + 1)) true ⟨yk, xv, xo, xx⟩) := by
            show _ = _
            rw [HE.out, HST.out]
            simp
          go_wp2_with fail
          go_quiet (fail)
          go_wp2_with fail
          go_quiet (fail)
          go_wp2_with fail
          go_roundw
          case rel => exact ⟨k + 1, ol, true, _, rfl, by omega, by go_num, rfl, HO, by simp; omega, HF, below_drewN hb _⟩
          case measure => simp [intOf]; omega
        · have he := Pl.beqL_false t3
          have HF : Hid (Pl.wE es false ⟨xk, xv, xo, xx⟩ = (ol ++ [⟨yk, yv, yo, yx⟩]) ++ Pl.wE (es.drop (k + 1)) true ⟨xk, xv, xo, xx⟩) := by
            show _ = _
            rw [HE.out, HST.out]
            simp [t3]
          go_wp2_with fail
          go_quiet (fail)
          go_wp2_with fail
          go_quiet (fail)
          go_wp2_with (at_builtin; refine append_ent_d rfl (.tmp 38) (.tmp 43) rfl (w.heap.size + 1) vo ol ⟨yk, yv, yo, yx⟩ rfl HO.out (by omega) rfl (by omega) ?_; intro v7 w7 ho7 hb7)
          go_roundw
          case rel => exact ⟨k + 1, ol ++ [(⟨yk, yv, yo, yx⟩ : Pl.Ent)], true, _, rfl, by omega, by go_num, rfl, ho7, by simp; omega, HF, hb.trans hb7⟩
          case measure => simp [intOf]; omega
    · obtain rfl : k = len := by omega
      have HN : Hid (es.drop k = []) := List.drop_eq_nil_of_le (by omega)
      cases dn
      · simp only [Bool.toNat_false] at hol
        have HF : Hid (Pl.wE es false ⟨xk, xv, xo, xx⟩ = ol ++ [⟨xk, xv, xo, xx⟩]) := by
          show _ = _
          rw [HE.out, HN.out]; rfl
        go_wp2_with (at_builtin; refine append_ent rfl (.tmp 47) (.tmp 49) rfl (w.heap.size + 1) vo ol ⟨xk, xv, xo, xx⟩ rfl HO.out (by omega) rfl (by omega) ?_; intro v7 w7 ho7 hb7)
        go_ret
        exact ⟨_, rfl, by rw [HF.out]; exact ho7.mono (by omega), HBX.out.trans ((hb.trans hb7).mono (by omega))⟩
      · have HF : Hid (Pl.wE es false ⟨xk, xv, xo, xx⟩ = ol) := by
          show _ = _
          rw [HE.out, HN.out]; simp [Pl.wE]
        go_wp2_with fail
        go_ret
        exact ⟨_, rfl, by rw [HF.out]; exact HO.out.mono (by omega), HBX.out.trans (hb.mono (by omega))⟩
end Go.Proofs.Ytcdobhdbafpkiaa
