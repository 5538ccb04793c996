/-
  Contract: pairs shown as a text: showPairs; the region that appends one part, by the rule of Inv.
-/
import Derived.Test.YtcdobhdbafpkiadDoorShowP
import Derived.Test.YtcdobhdbafpkiadDoorCuts
namespace Go.Proofs.YtcdobhdbafpkiadDoor
open Go.RowKit
set_option maxRecDepth 20000

def SF (p : Int × Int) (m : ByteArray) (R : Nat) (v0 : Value) (w : World) : Nat → Value → Prop
  | 0, v => v = v0
  | 1, v => v = .pointer (some ⟨R, 0, none⟩)
  | 2, v => v = .int .i64 p.1
  | 3, v => v = .string (Pl.dec p.1)
  | 4, v => v = .string m
  | 5, v => v = .string (Pl.dec p.1 ++ m)
  | 6, v => v = .pointer (some ⟨R, 1, none⟩)
  | 7, v => v = .int .i64 p.2
  | 8, v => v = .string (Pl.dec p.2)
  | 9, v => v = .string (Pl.sideT m p)
  | 10, v => ∃ b, v = .slice (some ⟨b, 0, none⟩) 1 1 ∧ b < w.heap.size ∧ w.cell? ⟨b, 0, none⟩ = some (.string (Pl.sideT m p))
  | _, _ => True
theorem SF.mono {p : Int × Int} {m : ByteArray} {R : Nat} {v0 : Value} {w w' : World} {k : Nat} {v : Value} (h : SF p m R v0 w k v) (hb : Below w.heap.size w w') : SF p m R v0 w' k v := by
  have hz := hb.size
  match k, h with
  | 10, ⟨b, h1, h2, h3⟩ => exact ⟨b, h1, by omega, ((bcell hb).1 b 0 h2).trans h3⟩
  | 0, h => exact h
  | 1, h => exact h
  | 2, h => exact h
  | 3, h => exact h
  | 4, h => exact h
  | 5, h => exact h
  | 6, h => exact h
  | 7, h => exact h
  | 8, h => exact h
  | 9, h => exact h
  | n + 11, h => exact h
/-- what holds while the region's operations are carried out; L: slots that it does not write -/
structure SInv (p : Int × Int) (m : ByteArray) (R base : Nat) (v0 : Value) (ks : List ByteArray) (W0 : World) (L : List (Nat × Value)) (listed : Array Bool) (a : Act) (w : World) : Prop where
  ls : listed.size = 13
  sz : a.tmps.size = 29
  df : a.defers = []
  keep : ∀ x ∈ L, a.tmps[x.1]?.getD undef = x.2
  s5 : listed.getD 12 false = false → a.tmps[5]?.getD undef = v0
  f : listed.getD 11 false = false → ∀ k, k < 11 → listed.getD k false = true → SF p m R v0 w k (a.tmps[k + 14]?.getD undef)
  nb : listed.getD 11 false = false → Below W0.heap.size W0 w
  al : listed.getD 12 false = true → listed.getD 11 false = true
  ap : listed.getD 11 false = true → listed.getD 12 false = false → ∃ v1, a.tmps[25]?.getD undef = v1 ∧ OwnT w base v1 (ks ++ [Pl.sideT m p]) ∧ Below base W0 w
  dn : listed.getD 12 false = true → ∃ v1, a.tmps[5]?.getD undef = v1 ∧ OwnT w base v1 (ks ++ [Pl.sideT m p]) ∧ Below base W0 w
theorem SInv.put {p : Int × Int} {m : ByteArray} {R base : Nat} {v0 : Value} {ks : List ByteArray} {W0 : World} {L : List (Nat × Value)} (hL : ∀ x ∈ L, x.1 ≠ 5 ∧ (x.1 < 14 ∨ 25 < x.1)) {listed : Array Bool} {a : Act} {w w' : World} {i : Nat} {v : Value}
    (h : SInv p m R base v0 ks W0 L listed a w) (hi : i < 11) (hn : listed.getD 11 false = false) (hn2 : listed.getD 12 false = false) (hb : Below w.heap.size w w') (hv : SF p m R v0 w' i v) :
    SInv p m R base v0 ks W0 L (listed.setIfInBounds i true) (a.put (some (i + 14)) v) w' := by
  have h11 : (listed.setIfInBounds i true).getD 11 false = false := by rw [getD_set_ne false (by omega)]; exact hn
  have h12 : (listed.setIfInBounds i true).getD 12 false = false := by rw [getD_set_ne false (by omega)]; exact hn2
  refine ⟨by simp [h.ls], by simp [Act.put, h.sz], h.df, ?_, ?_, ?_, fun _ => ?_, (fun h' => by rw [h12] at h'; cases h'), (fun h' => by rw [h11] at h'; cases h'), (fun h' => by rw [h12] at h'; cases h')⟩
  · intro x hx
    have := hL x hx
    rw [eval_ne (by omega)]; exact h.keep x hx
  · intro _
    rw [eval_ne (by omega)]; exact h.s5 hn2
  · intro _ k hk hl
    by_cases hki : i = k
    · subst hki
      rw [eval_eq (by rw [h.sz]; omega)]
      exact hv
    · rw [getD_set_ne false hki] at hl
      rw [eval_ne (by omega)]
      exact (h.f hn k hk hl).mono hb
  · have := h.nb hn
    exact this.trans (hb.mono this.size)
theorem arr29 (xs : Array Value) (h : xs.size = 29) : ∃ t0 t1 t2 t3 t4 t5 t6 t7 t8 t9 t10 t11 t12 t13 t14 t15 t16 t17 t18 t19 t20 t21 t22 t23 t24 t25 t26 t27 t28, xs = #[t0, t1, t2, t3, t4, t5, t6, t7, t8, t9, t10, t11, t12, t13, t14, t15, t16, t17, t18, t19, t20, t21, t22, t23, t24, t25, t26, t27, t28] := by
  obtain ⟨l⟩ := xs
  simp at h
  match l, h with
  | [t0, t1, t2, t3, t4, t5, t6, t7, t8, t9, t10, t11, t12, t13, t14, t15, t16, t17, t18, t19, t20, t21, t22, t23, t24, t25, t26, t27, t28], _ => exact ⟨t0, t1, t2, t3, t4, t5, t6, t7, t8, t9, t10, t11, t12, t13, t14, t15, t16, t17, t18, t19, t20, t21, t22, t23, t24, t25, t26, t27, t28, rfl⟩
end Go.Proofs.YtcdobhdbafpkiadDoor
