/-
  Contract: readEntries: the entries that bytes tell, and what is wrong with them.
-/
import Derived.Test.YtcdobhdbafpkiadDec3
import Derived.Test.YtcdobhdbafpkiadAppE
namespace Go.Proofs.Ytcdobhdbafpkiad
open Go.RowKit
set_option maxRecDepth 20000

theorem rd_new {w : World} {a : Option Addr} {len cap : Nat} {bs : List UInt8} (h : IsBytes w a len cap bs) (hn : a = none → cap = 0) :
    RdAt (w.alloc (.cells #[.slice a len cap, .int .i64 0] 90)) w.heap.size w.heap.size 0 bs := by
  refine ⟨a, len, cap, by simp, by simp, by simp, by simp, h.below ((Below.refl _ _).alloc (Nat.le_refl _) _), hn, ?_, Nat.le_refl _, by simp, fun h => absurd rfl h⟩
  intro x hx hne
  rcases h.2.2.2 with h | ⟨b, off, rfl, hb, _⟩
  · exact absurd h hne
  · cases hx; exact hb
theorem Own.only {w w' : World} {R base : Nat} {v : Value} {es : List Pl.Ent} (h : Own w base v es) (k : Only R w w') (hb : R < base) : Own w' base v es := by
  refine Own.kept h k ?_
  have l1 := World.ownsRow.lt h
  cases e1 : v.ownBlock with
  | none => exact .inl rfl
  | some g => exact .inr (fun e => by cases e; have := (l1 _ e1).1; omega)
theorem append_ent2 {w : World} {X : Obj} {ops : Array Oper} {rest : List Oper} {o : Oper} {a : Act} {Q : Exit → Act → World → Prop} (hgd : o.guard = none) (s x : Operand)
    (ho : o.op = .call { callee := .builtin .append, args := #[s, x], argTypes := #[25, 25] })
    (base : Nat) (v : Value) (es : List Pl.Ent) (e : Pl.Ent) (hs : a.eval s = v) (hown : Own w base v es) (hbase : base ≤ w.heap.size) (hx : a.eval x = .slice (some ⟨w.heap.size + 1, 0, none⟩) 1 1) (hb : (es.length + 1) * 48 ≤ 140737488355328)
    (h : ∀ v' w', Own w' base v' (es ++ [e]) → Below base (w.alloc X) w' → wpList Try.prog ops Q rest (a.put o.dst v') w') :
    wpList Try.prog ops Q (o :: rest) a ((w.alloc X).alloc (.cells #[.string e.key, .int .i64 e.ver, .int .i64 e.org, .string e.val] 28)) :=
  append_ent (w := w.alloc X) hgd s x ho base v es e hs (hown.below ((Below.refl _ _).alloc (Nat.le_refl _) X)) (by simp; omega) (by rw [hx]; simp) hb h
theorem entsN_step {m : Nat} {l : List Pl.Ent} {c : Int} {r : List UInt8} (h : (Pl.ent4 c r).2.1 = 0) : Pl.entsN (m + 1) l c r = Pl.entsN m (l ++ [(Pl.ent4 c r).1]) 0 (Pl.ent4 c r).2.2 := by
  rw [Pl.entsN, if_pos h, h]
theorem entsN_bad {m : Nat} {l : List Pl.Ent} {c : Int} {r : List UInt8} (h : ¬ (Pl.ent4 c r).2.1 = 0) : Pl.entsN (m + 1) l c r = ([], (Pl.ent4 c r).2.1, []) := by
  rw [Pl.entsN, if_neg h]

set_option maxHeartbeats 1000000 in
theorem readEntries_any (a : Option Addr) (len cap : Nat) (bs : List UInt8) (w : World) (h : IsBytes w a len cap bs) (hn : a = none → cap = 0) :
    Calls Try.prog 35 #[.slice a len cap] w fun e w' => ∃ v, e = .returned (.tuple #[v, .int .i64 (Pl.rdL bs).2]) ∧ Own w' w.heap.size v (Pl.rdL bs).1 ∧ Below w.heap.size w w' := by
  have HD := hid (rd_new h hn)
  have hbx : Below w.heap.size w (w.alloc (.cells #[.slice a len cap, .int .i64 0] 90)) := (Below.refl _ _).alloc (Nat.le_refl _) _
  have HBX := hid hbx
  have hnr := Pl.num_range 0 bs
  have HNU := hid (number_any _ _ _ _ _ HD.out)
  have HL := hid (Pl.num_left 0 bs)
  have HRD : Hid (Pl.rdL bs = Pl.rdL bs) := rfl
  unfold Pl.rdL at HRD
  clear h hn hbx
  obtain ⟨n, c1, r1, HE⟩ : ∃ n c1 r1, Hid (Pl.num 0 bs = (n, c1, r1)) := ⟨_, _, _, rfl⟩
  have HRL : Hid (Pl.rdL bs = if c1 = 0 then (if (Pl.entsN n.toNat [] c1 r1).2.1 = 0 then (if (Pl.entsN n.toNat [] c1 r1).2.2 = [] then ((Pl.entsN n.toNat [] c1 r1).1, 0) else ([], 4)) else ([], (Pl.entsN n.toNat [] c1 r1).2.1)) else ([], c1)) := by
    show _ = _
    unfold Pl.rdL; rw [HE.out]
  clear HRD
  rw [HE.out] at hnr HNU HL
  simp only at hnr HNU
  obtain ⟨hn0, hn1⟩ := hnr
  obtain ⟨m, rfl⟩ := Int.eq_ofNat_of_zero_le hn0
  simp only [Int.toNat_natCast] at HRL
  go_enter Try.func35, Try.ntmps35
  go_wp2_with fail
  refine HNU.out.mono ?_
  rintro e w1 ⟨rfl, hr1, ho1⟩
  have hz1 := ho1.size
  simp at hz1
  have HR1 := hid hr1
  clear hr1
  go_wp2_with fail
  go_loopw [5, 10] (fun vl i wr => ∃ (k f : Nat) (l : List Pl.Ent) (c2 : Int) (r2 : List UInt8) (u : Value), u = vl ∧ f + k = m ∧ i = .int .i64 k ∧ Hid (Own wr (w.heap.size + 1) u l) ∧ l.length ≤ k ∧ Hid (RdAt wr w.heap.size w.heap.size c2 r2) ∧ Hid (Pl.entsN m [] c1 r1 = Pl.entsN f l c2 r2) ∧ Hid (c1 = 0 → c2 = 0) ∧ Hid (¬ c1 = 0 → c2 = c1 ∧ m = 0 ∧ l = []) ∧ Hid (Only w.heap.size (w.alloc (.cells #[.slice a len cap, .int .i64 0] 90)) wr)) (fun _ i _ => m - (intOf i).toNat)
  case atStart => exact ⟨0, m, [], c1, r1, _, rfl, rfl, rfl, Own.nil _ _, Nat.le_refl _, HR1, rfl, fun h => h, fun h => ⟨rfl, by have := (HL.out h).2; simp at this; omega, rfl⟩, ho1⟩
  case round =>
    obtain ⟨k, f, l, c2, r2, u, rfl, hfk, rfl, HO, hll, HR, HEN, HC0, HCN, HON⟩ := hrel
    have hz := HON.out.size
    simp at hz
    by_cases hlt : k < m
    · obtain ⟨g, rfl⟩ : ∃ g, f = g + 1 := ⟨f - 1, by omega⟩
      have hc1 : c1 = 0 := by
        by_cases h : c1 = 0
        · exact h
        · have := (HCN.out h).2.1; omega
      subst hc1
      have hc2 := HC0.out rfl
      subst hc2
      obtain ⟨x, c3, r3, H3⟩ : ∃ x c3 r3, Hid (Pl.ent4 0 r2 = (x, c3, r3)) := ⟨_, _, _, rfl⟩
      have hent := entry_any _ _ _ _ _ HR.out
      rw [H3.out] at hent
      have HENT := hid hent
      clear hent
      obtain ⟨xk, xv, xo, xx⟩ := x
      simp only at HENT
      by_cases hc3 : c3 = 0
      · subst hc3
        have HST : Hid (Pl.entsN m [] 0 r1 = Pl.entsN g (l ++ [⟨xk, xv, xo, xx⟩]) 0 r3) := by
          show _ = _
          rw [HEN.out, entsN_step (by rw [H3.out]), H3.out]
        go_wp2_with fail
        refine HENT.out.mono ?_
        rintro e w2 ⟨rfl, hr2, ho2⟩
        have hz2 := ho2.size
        have HR2 := hid hr2
        have HO2 := hid (HO.out.only ho2 (by omega))
        have hrb := hr2.below ((Below.refl _ _).alloc (Nat.le_refl _) (.cells #[.string xk, .int .i64 xv, .int .i64 xo, .string xx] 28))
        obtain ⟨a3, l3, c3, h0, h1, f0, f1, _, _, _, _, _, _⟩ := hr2
        go_wp2_with (at_builtin; refine append_ent2 rfl (.tmp 18) (.tmp 20) rfl (w.heap.size + 1) u l ⟨xk, xv, xo, xx⟩ rfl HO2.out (by omega) rfl (by omega) ?_; intro v5 w5 ho5 hb5)
        have HR5 : Hid (RdAt w5 w.heap.size w.heap.size 0 r3) := hrb.keep hb5.size (fun i _ hi => hb5.block i (by omega))
        have HON5 : Hid (Only w.heap.size (w.alloc (.cells #[.slice a len cap, .int .i64 0] 90)) w5) := by
          have o2 := HON.out.trans ho2
          have o3 := o2.trans (Only.of_below (R := w.heap.size) ((Below.refl _ _).alloc (Nat.le_refl _) (.cells #[.string xk, .int .i64 xv, .int .i64 xo, .string xx] 28)))
          exact ⟨hb5.os.trans o3.os, hb5.tape.trans o3.tape, hb5.output.trans o3.output, Nat.le_trans o3.size hb5.size, fun i hi hne => (hb5.block i (by simp at hi; omega)).trans (o3.block i hi hne)⟩
        clear hb5
        go_wp2_with fail
        go_roundw
        case rel => exact ⟨k + 1, g, l ++ [(⟨xk, xv, xo, xx⟩ : Pl.Ent)], 0, r3, _, rfl, by omega, by go_num, ho5, by simp; omega, HR5, HST, fun _ => rfl, fun h => by simp at h, HON5⟩
        case measure => simp [intOf]; omega
      · have HF : Hid (Pl.rdL bs = ([], c3)) := by
          show _ = _
          rw [HRL.out, if_pos rfl, HEN.out, entsN_bad (by rw [H3.out]; exact hc3), H3.out]
          simp only
          rw [if_neg hc3]
        have hcb : (c3 != 0) = true := by simp [hc3]
        clear hc3
        go_wp2_with fail
        refine HENT.out.mono ?_
        rintro e w2 ⟨rfl, hr2, ho2⟩
        have hz2 := ho2.size
        obtain ⟨a3, l3, cp3, h0, h1, f0, f1, _, _, _, _, _, _⟩ := hr2
        have hR2 : w.heap.size < w2.heap.size := by omega
        go_wp2_with fail
        go_quiet (fail)
        go_wp2
        go_ret2
        exact ⟨_, by rw [HF.out]; rfl, by rw [HF.out]; exact Own.nil _ _, below_drewN ((HBX.out.trans ((HON.out.trans ho2).below (Nat.le_refl _) (by simp))).alloc (by omega) _) _⟩
    · obtain rfl : k = m := by omega
      obtain rfl : f = 0 := by omega
      have HEN' : Hid (Pl.entsN k [] c1 r1 = (l, c2, r2)) := HEN
      have HRA := HR
      obtain ⟨a3, l3, cp3, h0, h1, f0, f1, hI, _, _, _, _, hcr⟩ := HR.out
      have hl3 := hI.1
      have hm3 := hI.2.2.1
      have hlc3 := hI.2.1
      unfold maxLen at hm3
      have hbl := (HBX.out.trans (HON.out.below (Nat.le_refl _) (by simp)))
      by_cases hne : l3 = 0
      · have hr2e : r2 = [] := List.length_eq_zero_iff.1 (by omega)
        have HF : Hid (Pl.rdL bs = (if c2 = 0 then l else [], c2)) := by
          show _ = _
          rw [HRL.out, HEN'.out]
          simp only
          by_cases hc1 : c1 = 0
          · have := HC0.out hc1
            rw [if_pos hc1, if_pos this, if_pos hr2e, this]; rfl
          · have := HCN.out hc1
            rw [if_neg hc1, this.1, if_neg hc1]
        have HL2 : Hid ((if c2 = 0 then l else []) = l) := by
          show _ = _
          by_cases hc1 : c1 = 0
          · rw [if_pos (HC0.out hc1)]
          · have := HCN.out hc1
            rw [this.2.2]; simp
        subst hne
        clear hI hcr
        go_wp2_with fail
        go_quiet (fail)
        go_wp2
        go_ret2
        exact ⟨_, by rw [HF.out]; rfl, by rw [HF.out]; simp only; rw [HL2.out]; exact (HO.out.mono (by omega)), below_drewN hbl _⟩
      · have hr2e : ¬ r2 = [] := fun h => by rw [h] at hl3; simp at hl3; omega
        have hc2 : c2 = 0 := by
          by_cases h : c2 = 0
          · exact h
          · exact absurd (hcr h) hr2e
        have hc1 : c1 = 0 := by
          by_cases h : c1 = 0
          · exact h
          · have := (HCN.out h).1; omega
        have HF : Hid (Pl.rdL bs = ([], 4)) := by
          show _ = _
          rw [HRL.out, HEN'.out, if_pos hc1]
          simp only
          rw [if_pos hc2, if_neg hr2e]
        have hpos : (0 : Int) < (l3 : Int) := by omega
        clear hI hcr hc2 hc1
        go_wp2_with fail
        go_ret2
        exact ⟨_, by rw [HF.out]; rfl, by rw [HF.out]; exact Own.nil _ _, hbl⟩
end Go.Proofs.Ytcdobhdbafpkiad
