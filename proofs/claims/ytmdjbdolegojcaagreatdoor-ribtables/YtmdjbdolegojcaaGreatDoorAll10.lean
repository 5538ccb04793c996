/-
  Contracts and facts that the proof rests on, put together out of several texts.
-/
import Derived.Test.YtmdjbdolegojcaaGreatDoorAll9
import Derived.Test.YtmdjbdolegojcaaGreatDoorAll1
import Derived.Test.YtmdjbdolegojcaaGreatDoorAll6
import Derived.Test.YtmdjbdolegojcaaGreatDoorTOfQ
import Derived.Test.YtmdjbdolegojcaaGreatDoorAll5
import Derived.Test.YtmdjbdolegojcaaGreatDoorProg
import Derived.ProofKit
import Derived.OpenShut
import Derived.ShutString
import Derived.ChangeOld
import Derived.Lib.SmallJoins
import Derived.Deep.Slices
import Derived.SizedLaws
/-
  A region that draws its order, where of each slot that it writes a fact is known, kept when the world grows: calls whose answers lie in new memory, and operations that a guard leaves out.
-/
namespace Go.Proofs.YtmdjbdolegojcaaGreatDoor
open Go.RowKit
set_option maxRecDepth 20000

/-- off k: which of the n slots from s on operation k writes; V j v w: what is known of the value there -/
structure RInv (a0 : Act) (s n m : Nat) (off : Nat → Option Nat) (V : Nat → Value → World → Prop) (C : World → Prop) (listed : Array Bool) (a : Act) (w : World) : Prop where
  ls : listed.size = m
  fr : ∃ xs : List Value, xs.length = n ∧ a = { a0 with tmps := setFrom a0.tmps s xs } ∧ ∀ k j, off k = some j → listed.getD k false = true → V j (xs.getD j undef) w
  cw : C w
theorem RInv.put {a0 : Act} {s n m : Nat} {off : Nat → Option Nat} {V : Nat → Value → World → Prop} {C : World → Prop} {listed : Array Bool} {a : Act} {w w' : World} {i j : Nat} {v : Value}
    (h : RInv a0 s n m off V C listed a w) (ho : off i = some j) (hj : j < n) (hst : ∀ q u, V q u w → V q u w') (hv : V j v w') (hc : C w') : RInv a0 s n m off V C (listed.setIfInBounds i true) (a.put (some (s + j)) v) w' := by
  obtain ⟨xs, hl, rfl, hf⟩ := h.fr
  refine ⟨by simp [h.ls], ⟨xs.set j v, by simp [hl], ?_, ?_⟩, hc⟩
  · show ({ a0 with tmps := (setFrom a0.tmps s xs).setIfInBounds (s + j) v } : Act) = _
    rw [setFrom_set xs a0.tmps s j v (by omega)]
  · intro k q hk hlk
    by_cases e : q = j
    · subst e
      have : (xs.set q v).getD q undef = v := by simp [List.getD, hl, hj]
      rw [this]; exact hv
    · have e' : i ≠ k := by rintro rfl; rw [ho] at hk; cases hk; exact e rfl
      rw [getD_set_ne false e'] at hlk
      have : (xs.set j v).getD q undef = xs.getD q undef := by simp [List.getD, List.getElem?_set_ne (Ne.symm e)]
      rw [this]; exact hst _ _ (hf k q hk hlk)
theorem RInv.skip {a0 : Act} {s n m : Nat} {off : Nat → Option Nat} {V : Nat → Value → World → Prop} {C : World → Prop} {listed : Array Bool} {a : Act} {w w' : World} {i : Nat}
    (h : RInv a0 s n m off V C listed a w) (ho : off i = none) (hst : ∀ q u, V q u w → V q u w') (hc : C w') : RInv a0 s n m off V C (listed.setIfInBounds i true) a w' := by
  obtain ⟨xs, hl, rfl, hf⟩ := h.fr
  refine ⟨by simp [h.ls], ⟨xs, hl, rfl, ?_⟩, hc⟩
  intro k q hk hlk
  have e' : i ≠ k := by rintro rfl; rw [ho] at hk; cases hk
  rw [getD_set_ne false e'] at hlk
  exact hst _ _ (hf k q hk hlk)
theorem RInv.at {a0 : Act} {s n m : Nat} {off : Nat → Option Nat} {V : Nat → Value → World → Prop} {C : World → Prop} {listed : Array Bool} {a : Act} {w : World} {k j : Nat}
    (h : RInv a0 s n m off V C listed a w) (hs : s + n ≤ a0.tmps.size) (ho : off k = some j) (hj : j < n) (hl : listed.getD k false = true) : V j (a.tmps[s + j]?.getD undef) w := by
  obtain ⟨xs, hxl, rfl, hf⟩ := h.fr
  show V j ((setFrom a0.tmps s xs)[s + j]?.getD undef) w
  rw [setFrom_at xs a0.tmps s j (by omega) (by omega)]
  have := hf k j ho hl
  simpa [List.getD] using this
theorem RInv.out {a0 : Act} {s n m : Nat} {off : Nat → Option Nat} {V : Nat → Value → World → Prop} {C : World → Prop} {listed : Array Bool} {a : Act} {w : World} {k : Nat}
    (h : RInv a0 s n m off V C listed a w) (hk : k < s ∨ s + n ≤ k) : a.tmps[k]?.getD undef = a0.tmps[k]?.getD undef := by
  obtain ⟨xs, hxl, rfl, hf⟩ := h.fr
  show (setFrom a0.tmps s xs)[k]?.getD undef = _
  rw [setFrom_out xs a0.tmps s k (by omega)]
theorem RInv.start {a0 : Act} {s n m : Nat} {off : Nat → Option Nat} {V : Nat → Value → World → Prop} {C : World → Prop} {w : World} (hs : s + n ≤ a0.tmps.size) (hc : C w) : RInv a0 s n m off V C (Array.replicate m false) a0 w := by
  obtain ⟨xs, hxl, hxs⟩ := setFrom_self n a0.tmps s hs
  refine ⟨by simp, ⟨xs, hxl, by rw [hxs], ?_⟩, hc⟩
  intro k j _ h
  rw [show (Array.replicate m false).getD k false = false from by by_cases hk' : k < m <;> simp [hk']] at h
  cases h
/-- an operation that its guard leaves out -/
theorem wpOp_left {P : Program} {ops : Array Oper} {Q : Exit → Act → World → Prop} {i : Nat} {o : Oper} {K : Act → World → Prop} {a : Act} {w : World}
    (h : ops[i]? = some o) (hg : Region.wanted o (yielded ops a.tmps) = false) (hk : K (a.put o.dst undef) w) : wpOp P ops Q i K a w := by
  unfold wpOp
  simp only [h]
  rw [if_neg (by rw [hg]; exact Bool.false_ne_true)]
  exact hk
/-- .. that its guard lets through -/
theorem wpOp_let {P : Program} {ops : Array Oper} {Q : Exit → Act → World → Prop} {i : Nat} {o : Oper} {K : Act → World → Prop} {a : Act} {w : World}
    (h : ops[i]? = some o) (hg : Region.wanted o (yielded ops a.tmps) = true) (hw : o.wp P a w K Q) : wpOp P ops Q i K a w := by
  unfold wpOp
  simp only [h]
  rw [if_pos hg]
  exact .inl hw
/-- what a guard asks, where the slot that it looks at is known -/
theorem wanted_at {ops : Array Oper} {tmps : Array Value} {o og : Oper} {g d : Nat} {b c : Bool} (h : o.guard = some (g, b)) (hg : ops[g]? = some og) (hd : og.dst = some d) (hv : tmps[d]?.getD undef = .bool c) : Region.wanted o (yielded ops tmps) = (c == b) := by
  have e : tmps[d]? = some (.bool c) := by
    cases e : tmps[d]? with
    | none => rw [e] at hv; cases hv
    | some v => rw [e] at hv; exact congrArg some hv
  unfold Region.wanted yielded
  simp [h, hg, hd, e]
theorem wanted_undef {ops : Array Oper} {tmps : Array Value} {o og : Oper} {g d : Nat} {b : Bool} (h : o.guard = some (g, b)) (hg : ops[g]? = some og) (hd : og.dst = some d) (hv : tmps[d]?.getD undef = undef) : Region.wanted o (yielded ops tmps) = false := by
  unfold Region.wanted yielded
  cases e : tmps[d]? with
  | none => simp [h, hg, hd, e]
  | some v =>
    rw [e] at hv
    have hv : v = undef := hv
    subst hv
    simp [h, hg, hd, e, undef]

/-- the operations of a region, by its number -/
def regOps : Code → Nat → Option (Array Oper)
  | .region i ops _, n => if i = n then some ops else none
  | .seq a b, n => match regOps a n with
    | some x => some x
    | none => regOps b n
  | .cond _ a b, n => match regOps a n with
    | some x => some x
    | none => regOps b n
  | .block _ a, n => regOps a n
  | .loop a, n => regOps a n
  | .rangeFunc _ _ a b, n => match regOps a n with
    | some x => some x
    | none => regOps b n
  | .scope a, n => regOps a n
  | _, _ => none
def regIn (f : Func) (n : Nat) : Option (Array Oper) := match f.body with
  | some c => regOps c n
  | none => none

/-- as RInv, with one slot more, outside the others, that operation L writes -/
structure RInv2 (a0 : Act) (s n m t L : Nat) (off : Nat → Option Nat) (V : Nat → Value → World → Prop) (Z : Value) (C : World → Prop) (listed : Array Bool) (a : Act) (w : World) : Prop where
  ls : listed.size = m
  fr : ∃ (z : Value) (xs : List Value), xs.length = n ∧ a = { a0 with tmps := setFrom (a0.tmps.setIfInBounds t z) s xs } ∧ (∀ k j, off k = some j → listed.getD k false = true → V j (xs.getD j undef) w) ∧ (if listed.getD L false = true then z = Z else z = a0.tmps[t]?.getD undef)
  cw : C w
theorem RInv2.put {a0 : Act} {s n m t L : Nat} {off : Nat → Option Nat} {V : Nat → Value → World → Prop} {Z : Value} {C : World → Prop} {listed : Array Bool} {a : Act} {w w' : World} {i j : Nat} {v : Value}
    (h : RInv2 a0 s n m t L off V Z C listed a w) (ho : off i = some j) (hj : j < n) (hiL : i ≠ L) (hst : ∀ q u, V q u w → V q u w') (hv : V j v w') (hc : C w') : RInv2 a0 s n m t L off V Z C (listed.setIfInBounds i true) (a.put (some (s + j)) v) w' := by
  obtain ⟨z, xs, hl, rfl, hf, hz⟩ := h.fr
  refine ⟨by simp [h.ls], ⟨z, xs.set j v, by simp [hl], ?_, ?_, by rw [getD_set_ne false hiL]; exact hz⟩, hc⟩
  · show ({ a0 with tmps := (setFrom (a0.tmps.setIfInBounds t z) s xs).setIfInBounds (s + j) v } : Act) = _
    rw [setFrom_set xs _ s j v (by omega)]
  · intro k q hk hlk
    by_cases e : q = j
    · subst e
      have : (xs.set q v).getD q undef = v := by simp [List.getD, hl, hj]
      rw [this]; exact hv
    · have e' : i ≠ k := by rintro rfl; rw [ho] at hk; cases hk; exact e rfl
      rw [getD_set_ne false e'] at hlk
      have : (xs.set j v).getD q undef = xs.getD q undef := by simp [List.getD, List.getElem?_set_ne (Ne.symm e)]
      rw [this]; exact hst _ _ (hf k q hk hlk)
theorem setFrom_low (xs : List Value) : ∀ (ts : Array Value) (s t : Nat) (v : Value), t < s → (setFrom ts s xs).setIfInBounds t v = setFrom (ts.setIfInBounds t v) s xs := by
  induction xs with
  | nil => intro ts s t v _; rfl
  | cons x r ih =>
    intro ts s t v h
    show (setFrom (ts.setIfInBounds s x) (s + 1) r).setIfInBounds t v = setFrom ((ts.setIfInBounds t v).setIfInBounds s x) (s + 1) r
    rw [ih _ _ _ _ (by omega), Array.setIfInBounds_comm _ _ (by omega)]
theorem RInv2.last {a0 : Act} {s n m t L : Nat} {off : Nat → Option Nat} {V : Nat → Value → World → Prop} {Z : Value} {C : World → Prop} {listed : Array Bool} {a : Act} {w : World}
    (h : RInv2 a0 s n m t L off V Z C listed a w) (hL : off L = none) (hLm : L < m) (hts : t < s) : RInv2 a0 s n m t L off V Z C (listed.setIfInBounds L true) (a.put (some t) Z) w := by
  obtain ⟨z, xs, hl, rfl, hf, hz⟩ := h.fr
  refine ⟨by simp [h.ls], ⟨Z, xs, hl, ?_, ?_, ?_⟩, h.cw⟩
  · show ({ a0 with tmps := (setFrom (a0.tmps.setIfInBounds t z) s xs).setIfInBounds t Z } : Act) = _
    rw [setFrom_low xs _ s t Z hts]
    simp
  · intro k q hk hlk
    have e' : L ≠ k := by rintro rfl; rw [hL] at hk; cases hk
    rw [getD_set_ne false e'] at hlk
    exact hf k q hk hlk
  · have : L < listed.size := by rw [h.ls]; exact hLm
    simp [this]
theorem RInv2.at {a0 : Act} {s n m t L : Nat} {off : Nat → Option Nat} {V : Nat → Value → World → Prop} {Z : Value} {C : World → Prop} {listed : Array Bool} {a : Act} {w : World} {k j : Nat}
    (h : RInv2 a0 s n m t L off V Z C listed a w) (hs : s + n ≤ a0.tmps.size) (ho : off k = some j) (hj : j < n) (hl : listed.getD k false = true) : V j (a.tmps[s + j]?.getD undef) w := by
  obtain ⟨z, xs, hxl, rfl, hf, _⟩ := h.fr
  show V j ((setFrom (a0.tmps.setIfInBounds t z) s xs)[s + j]?.getD undef) w
  rw [setFrom_at xs _ s j (by omega) (by simp; omega)]
  have := hf k j ho hl
  simpa [List.getD] using this
theorem RInv2.out {a0 : Act} {s n m t L : Nat} {off : Nat → Option Nat} {V : Nat → Value → World → Prop} {Z : Value} {C : World → Prop} {listed : Array Bool} {a : Act} {w : World} {k : Nat}
    (h : RInv2 a0 s n m t L off V Z C listed a w) (hk : k < s ∨ s + n ≤ k) (hkt : k ≠ t) : a.tmps[k]?.getD undef = a0.tmps[k]?.getD undef := by
  obtain ⟨z, xs, hxl, rfl, hf, _⟩ := h.fr
  show (setFrom (a0.tmps.setIfInBounds t z) s xs)[k]?.getD undef = _
  rw [setFrom_out xs _ s k (by omega), Array.getElem?_setIfInBounds_ne (Ne.symm hkt)]
theorem RInv2.outT {a0 : Act} {s n m t L : Nat} {off : Nat → Option Nat} {V : Nat → Value → World → Prop} {Z : Value} {C : World → Prop} {listed : Array Bool} {a : Act} {w : World}
    (h : RInv2 a0 s n m t L off V Z C listed a w) (hts : t < s) (hta : t < a0.tmps.size) (hL : listed.getD L false = false) : a.tmps[t]?.getD undef = a0.tmps[t]?.getD undef := by
  obtain ⟨z, xs, hxl, rfl, hf, hz⟩ := h.fr
  rw [if_neg (by rw [hL]; exact Bool.false_ne_true)] at hz
  show (setFrom (a0.tmps.setIfInBounds t z) s xs)[t]?.getD undef = _
  rw [setFrom_out xs _ s t (by omega)]
  simp [hta, hz]
theorem RInv2.start {a0 : Act} {s n m t L : Nat} {off : Nat → Option Nat} {V : Nat → Value → World → Prop} {Z : Value} {C : World → Prop} {w : World} (hs : s + n ≤ a0.tmps.size) (hc : C w) : RInv2 a0 s n m t L off V Z C (Array.replicate m false) a0 w := by
  obtain ⟨xs, hxl, hxs⟩ := setFrom_self n a0.tmps s hs
  have hno : ∀ k, (Array.replicate m false).getD k false = false := fun k => by by_cases hk' : k < m <;> simp [hk']
  refine ⟨by simp, ⟨a0.tmps[t]?.getD undef, xs, hxl, ?_, ?_, ?_⟩, hc⟩
  · have : a0.tmps.setIfInBounds t (a0.tmps[t]?.getD undef) = a0.tmps := by
      apply Array.ext_getElem?
      intro i
      rw [Array.getElem?_setIfInBounds]
      split
      · rename_i e
        subst e
        split
        · rename_i h; simp [h]
        · rename_i h; simp at h; simp [h]
      · rfl
    rw [this, hxs]
  · intro k j _ h
    rw [hno] at h
    cases h
  · rw [hno, if_neg Bool.false_ne_true]

/-- what is known of the slots: at j0, where g lets it through, pairs of the call's own; else the value -/
def VV (T : TypeId) (base : Nat) (ps : List (Int × Int)) (j0 : Nat) (g : Bool) (VL : List Value) (j : Nat) (u : Value) (W : World) : Prop := (j = j0 → g = true → OwnP T W base u ps) ∧ ((j = j0 ∧ g = true) ∨ u = VL.getD j undef)
theorem VV.eq {T base ps j0 g VL j u W} (h : VV T base ps j0 g VL j u W) (hj : j ≠ j0) : u = VL.getD j undef := by
  rcases h.2 with ⟨e, _⟩ | e
  · exact absurd e hj
  · exact e
theorem VV.of {T base ps j0 g VL j u W} (hj : j ≠ j0) (h : u = VL.getD j undef) : VV T base ps j0 g VL j u W := ⟨fun e => absurd e hj, .inr h⟩
theorem VV.no {T base ps j0 VL j u W} (h : u = VL.getD j undef) : VV T base ps j0 false VL j u W := ⟨fun _ e => (by cases e), .inr h⟩
theorem VV.own {T base ps j0 g VL u W} (hg : g = true) (h : OwnP T W base u ps) : VV T base ps j0 g VL j0 u W := ⟨fun _ _ => h, .inl ⟨rfl, hg⟩⟩
theorem VV.grow {T base ps j0 g VL} {W W' : World} (hb : Below W.heap.size W W') : ∀ q u, VV T base ps j0 g VL q u W → VV T base ps j0 g VL q u W' := fun _ _ h => ⟨fun e1 e2 => (h.1 e1 e2).below hb, h.2⟩
end Go.Proofs.YtmdjbdolegojcaaGreatDoor
/-
  The document's table (TableOf): a region that draws its order, with calls whose answers lie in new memory (written by tools/gen_tof.py).
-/
namespace Go.Proofs.YtmdjbdolegojcaaGreatDoor
open Go.RowKit
set_option maxRecDepth 20000
theorem Pl.tP_ok {es : List Pl.Ent} {n : Nat} {p : Int × Int} (h : p ∈ Pl.tP es n) : Pl.pairOk p := Pl.rpS_ok _ p h
set_option maxHeartbeats 8000000 in
theorem tof13 {Q : Exit → Act → World → Prop} {a0 : Act} {wj : World} {a : Option Addr} {len cap : Nat} {es : List Pl.Ent} {n k b pb : Nat} {R : Bool}
    (h157 : a0.tmps.size = 157)
    (q0 : a0.tmps[0]?.getD undef = .slice a len cap)
    (q1 : a0.tmps[1]?.getD undef = .int .i64 n)
    (q11 : a0.tmps[11]?.getD undef = .pointer (some ⟨pb, 0, none⟩))
    (HE : IsEnts wj a len cap es)
    (HFT : Pl.fault es = 0)
    (hn : n < 12)
    (hpl : pb < wj.heap.size)
    (P0 : wj.cell? ⟨pb, 0, none⟩ = some (.int .i64 k))
    (P1 : wj.cell? ⟨pb, 1, none⟩ = some (.int .i64 b))
    (HR : decide (((k : Int), (b : Int)) ∈ Pl.tP es n) = R)
    (hQ : ∀ xs W, xs.length = 5 → xs.getD 4 undef = .bool R → Below wj.heap.size wj W → Q .normal { a0 with tmps := setFrom a0.tmps 42 xs } W) :
    ∀ ops, regIn Tryz.f5 13 = some ops → (Code.region 13 ops true).wp Tryz.prog Q a0 wj := by
  intro ops hops
  have eo := Option.some.inj (hops.symm.trans (rfl : regIn Tryz.f5 13 = some _))
  subst eo
  clear hops
  have hsz : 42 + 5 ≤ a0.tmps.size := by omega
  refine wp_region_any (by kernel_rfl) ?_
  refine wpAny_inv2 (RInv a0 42 5 5 (fun k => some k) (VV 38 wj.heap.size (Pl.tP es n) 2 true [.slice a len cap, .int .i64 n, undef, .agg #[.int .i64 k, .int .i64 b], .bool R]) (fun W => Below wj.heap.size wj W)) ?_ ?_ _ _ _ _ (by decide +kernel) ?_ (closed_start _ _ _)
  · rintro i listed a' W hi hCl hI
    rw [mem_ready] at hi
    obtain ⟨hl0, o, ho, hall⟩ := hi
    have hlti : i < 5 := (Array.getElem?_eq_some_iff.1 ho).1
    have o0 := (hI.out (k := 0) (by omega)).trans q0
    have o1 := (hI.out (k := 1) (by omega)).trans q1
    have o11 := (hI.out (k := 11) (by omega)).trans q11
    have p0 := (hI.cw.cell (p := ⟨pb, 0, none⟩) hpl).trans P0
    have p1 := (hI.cw.cell (p := ⟨pb, 1, none⟩) hpl).trans P1
    have hcs : i = 0 ∨ i = 1 ∨ i = 2 ∨ i = 3 ∨ i = 4 := by omega
    rcases hcs with rfl | rfl | rfl | rfl | rfl
    all_goals
      simp at ho
      subst ho
    · refine wpOp_of rfl rfl ?_
      simp [Oper.wp, go_sem, o0]
      exact hI.put (i := 0) (j := 0) rfl (by omega) (fun _ _ h => h) (VV.of (by decide) rfl) hI.cw
    · refine wpOp_of rfl rfl ?_
      simp [Oper.wp, go_sem, o1]
      exact hI.put (i := 1) (j := 1) rfl (by omega) (fun _ _ h => h) (VV.of (by decide) rfl) hI.cw
    · refine wpOp_of rfl rfl ?_
      have e0 : a'.tmps[42]?.getD undef = .slice a len cap := (hI.at (k := 0) (j := 0) hsz rfl (by omega) (hall ⟨0, .data⟩ (by simp) rfl)).eq (by decide)
      have e1 : a'.tmps[43]?.getD undef = .int .i64 n := (hI.at (k := 1) (j := 1) hsz rfl (by omega) (hall ⟨1, .data⟩ (by simp) rfl)).eq (by decide)
      simp [Oper.wp, go_sem, e0, e1]
      refine (PrefixesIn_any a len cap es n W (HE.below hI.cw) HFT (by omega)).mono ?_
      rintro e W' ⟨vl, rfl, ho', hb'⟩
      exact hI.put (i := 2) (j := 2) rfl (by omega) (VV.grow hb') (VV.own rfl (ho'.mono hI.cw.size)) (hI.cw.trans (hb'.mono hI.cw.size))
    · refine wpOp_of rfl rfl ?_
      simp [Oper.wp, go_sem, o11, p0, p1]
      exact hI.put (i := 3) (j := 3) rfl (by omega) (fun _ _ h => h) (VV.of (by decide) rfl) hI.cw
    · refine wpOp_of rfl rfl ?_
      have e3 : a'.tmps[45]?.getD undef = .agg #[.int .i64 k, .int .i64 b] := (hI.at (k := 3) (j := 3) hsz rfl (by omega) (hall ⟨3, .data⟩ (by simp) rfl)).eq (by decide)
      have hP := (hI.at (k := 2) (j := 2) hsz rfl (by omega) (hall ⟨2, .data⟩ (by simp) rfl)).1 rfl rfl
      obtain ⟨pa, pc, ev, hpp, _⟩ := hP.shape (fun p hp => Pl.tP_ok hp)
      have ev : a'.tmps[44]?.getD undef = .slice pa (Pl.tP es n).length pc := ev
      simp [Oper.wp, go_sem, ev, e3]
      refine (hasPrefix_any pa _ pc (Pl.tP es n) k b W hpp).mono ?_
      rintro e W' ⟨rfl, hb'⟩
      rw [HR]
      exact hI.put (i := 4) (j := 4) rfl (by omega) (VV.grow hb') (VV.of (by decide) rfl) (hI.cw.trans (hb'.mono hI.cw.size))
  · rintro listed a' W hr hI
    have hal := all_listed (by decide +kernel) hI.ls hr
    obtain ⟨xs, hxl, rfl, hf⟩ := hI.fr
    exact hQ xs W hxl ((hf 4 4 rfl (hal 4 (by decide))).eq (by decide)) hI.cw
  · exact RInv.start hsz (Below.refl _ _).drew
end Go.Proofs.YtmdjbdolegojcaaGreatDoor
/-
  The document's table (TableOf): a region that draws its order, with calls whose answers lie in new memory (written by tools/gen_tof.py).
-/
namespace Go.Proofs.YtmdjbdolegojcaaGreatDoor
open Go.RowKit
set_option maxRecDepth 20000

set_option maxHeartbeats 8000000 in
theorem tof19 {Q : Exit → Act → World → Prop} {a0 : Act} {wj : World} {a : Option Addr} {len cap : Nat} {es : List Pl.Ent} {n k b pb : Nat} {j g2 c2 rb : Nat} {c mm : Int} {b3 b4 b5 : Bool}
    (h157 : a0.tmps.size = 157)
    (q0 : a0.tmps[0]?.getD undef = .slice a len cap)
    (q1 : a0.tmps[1]?.getD undef = .int .i64 n)
    (q6 : a0.tmps[6]?.getD undef = .slice (some ⟨g2, 0, none⟩) 12 c2)
    (q11 : a0.tmps[11]?.getD undef = .pointer (some ⟨pb, 0, none⟩))
    (q12 : a0.tmps[12]?.getD undef = .pointer (some ⟨rb, 0, none⟩))
    (q13 : a0.tmps[13]?.getD undef = .int .i64 j)
    (HE : IsEnts wj a len cap es)
    (HFT : Pl.fault es = 0)
    (hpl : pb < wj.heap.size)
    (hg2 : g2 < wj.heap.size)
    (hrb : rb < wj.heap.size)
    (P0 : wj.cell? ⟨pb, 0, none⟩ = some (.int .i64 k))
    (P1 : wj.cell? ⟨pb, 1, none⟩ = some (.int .i64 b))
    (R3 : wj.cell? ⟨rb, 3, none⟩ = some (.int .i64 mm))
    (hj12 : (j : Int) < 12)
    (hjn : ((j : Int) != (n : Int)) = true)
    (Z0 : wj.cell? ⟨g2, j * 2, none⟩ = some (.int .i64 c))
    (hc0 : 0 ≤ c)
    (HB3 : decide (((k : Int), (b : Int)) ∈ Pl.tP es j) = b3)
    (hb4 : decide (mm < 0) = b4)
    (hb5 : decide (c < mm) = b5)
    (hQ : ∀ xs W, xs.length = 33 → xs.getD 32 undef = .bool (b3 && (b4 || b5)) → Below wj.heap.size wj W → Q .normal { a0 with tmps := setFrom a0.tmps 58 xs } W) :
    ∀ ops, regIn Tryz.f5 19 = some ops → (Code.region 19 ops true).wp Tryz.prog Q a0 wj := by
  intro ops hops
  have eo := Option.some.inj (hops.symm.trans (rfl : regIn Tryz.f5 19 = some _))
  subst eo
  clear hops
  have hsz : 58 + 33 ≤ a0.tmps.size := by omega
  refine wp_region_any (by kernel_rfl) ?_
  refine wpAny_inv2 (RInv a0 58 33 33 (fun k => some k) (VV 38 wj.heap.size (Pl.tP es j) 14 true [.int .i64 j, .int .i64 n, .bool true, .bool true, .slice (some ⟨g2, 0, none⟩) 12 c2, .int .i64 j, .pointer (some ⟨g2, j * 2, none⟩), .pointer (some ⟨g2, j * 2, none⟩), .int .i64 c, .bool true, .bool true, .bool true, .slice a len cap, .int .i64 j, undef, .agg #[.int .i64 k, .int .i64 b], .bool b3, .bool b3, .bool b3, cond b3 (.pointer (some ⟨rb, 3, none⟩)) undef, cond b3 (.int .i64 mm) undef, cond b3 (.bool b4) undef, cond b3 (.bool b4) undef, cond b3 (cond b4 undef (.slice (some ⟨g2, 0, none⟩) 12 c2)) undef, cond b3 (cond b4 undef (.int .i64 j)) undef, cond b3 (cond b4 undef (.pointer (some ⟨g2, j * 2, none⟩))) undef, cond b3 (cond b4 undef (.pointer (some ⟨g2, j * 2, none⟩))) undef, cond b3 (cond b4 undef (.int .i64 c)) undef, cond b3 (cond b4 undef (.pointer (some ⟨rb, 3, none⟩))) undef, cond b3 (cond b4 undef (.int .i64 mm)) undef, cond b3 (cond b4 undef (.bool b5)) undef, cond b3 (.bool (b4 || b5)) undef, .bool (b3 && (b4 || b5))]) (fun W => Below wj.heap.size wj W)) ?_ ?_ _ _ _ _ (by decide +kernel) ?_ (closed_start _ _ _)
  · rintro i listed a' W hi hCl hI
    rw [mem_ready] at hi
    obtain ⟨hl0, o, ho, hall⟩ := hi
    have hlti : i < 33 := (Array.getElem?_eq_some_iff.1 ho).1
    have o0 := (hI.out (k := 0) (by omega)).trans q0
    have o1 := (hI.out (k := 1) (by omega)).trans q1
    have o6 := (hI.out (k := 6) (by omega)).trans q6
    have o11 := (hI.out (k := 11) (by omega)).trans q11
    have o12 := (hI.out (k := 12) (by omega)).trans q12
    have o13 := (hI.out (k := 13) (by omega)).trans q13
    have p0 := (hI.cw.cell (p := ⟨pb, 0, none⟩) hpl).trans P0
    have p1 := (hI.cw.cell (p := ⟨pb, 1, none⟩) hpl).trans P1
    have z0 := (hI.cw.cell (p := ⟨g2, j * 2, none⟩) hg2).trans Z0
    have r3 := (hI.cw.cell (p := ⟨rb, 3, none⟩) hrb).trans R3
    have hcs : i = 0 ∨ i = 1 ∨ i = 2 ∨ i = 3 ∨ i = 4 ∨ i = 5 ∨ i = 6 ∨ i = 7 ∨ i = 8 ∨ i = 9 ∨ i = 10 ∨ i = 11 ∨ i = 12 ∨ i = 13 ∨ i = 14 ∨ i = 15 ∨ i = 16 ∨ i = 17 ∨ i = 18 ∨ i = 19 ∨ i = 20 ∨ i = 21 ∨ i = 22 ∨ i = 23 ∨ i = 24 ∨ i = 25 ∨ i = 26 ∨ i = 27 ∨ i = 28 ∨ i = 29 ∨ i = 30 ∨ i = 31 ∨ i = 32 := by omega
    rcases hcs with rfl | rfl | rfl | rfl | rfl | rfl | rfl | rfl | rfl | rfl | rfl | rfl | rfl | rfl | rfl | rfl | rfl | rfl | rfl | rfl | rfl | rfl | rfl | rfl | rfl | rfl | rfl | rfl | rfl | rfl | rfl | rfl | rfl
    all_goals
      simp at ho
      subst ho
    · refine wpOp_of rfl rfl ?_
      simp [Oper.wp, go_sem, o13]
      exact hI.put (i := 0) (j := 0) rfl (by omega) (fun _ _ h => h) (VV.of (by decide) rfl) hI.cw
    · refine wpOp_of rfl rfl ?_
      simp [Oper.wp, go_sem, o1]
      exact hI.put (i := 1) (j := 1) rfl (by omega) (fun _ _ h => h) (VV.of (by decide) rfl) hI.cw
    · refine wpOp_of rfl rfl ?_
      have e0 : a'.tmps[58]?.getD undef = .int .i64 j := (hI.at (k := 0) (j := 0) hsz rfl (by omega) (hall ⟨0, .data⟩ (by simp) rfl)).eq (by decide)
      have e1 : a'.tmps[59]?.getD undef = .int .i64 n := (hI.at (k := 1) (j := 1) hsz rfl (by omega) (hall ⟨1, .data⟩ (by simp) rfl)).eq (by decide)
      simp [Oper.wp, go_sem, e0, e1, hjn]
      exact hI.put (i := 2) (j := 2) rfl (by omega) (fun _ _ h => h) (VV.of (by decide) rfl) hI.cw
    · refine wpOp_of rfl rfl ?_
      have e2 : a'.tmps[60]?.getD undef = .bool true := (hI.at (k := 2) (j := 2) hsz rfl (by omega) (hall ⟨2, .data⟩ (by simp) rfl)).eq (by decide)
      simp [Oper.wp, go_sem, e2]
      exact hI.put (i := 3) (j := 3) rfl (by omega) (fun _ _ h => h) (VV.of (by decide) rfl) hI.cw
    · refine wpOp_let rfl ((wanted_at (c := true) rfl rfl rfl (show a'.tmps[61]?.getD undef = .bool true from (hI.at (k := 3) (j := 3) hsz rfl (by omega) (hall ⟨3, .guard⟩ (by simp) rfl)).eq (by decide))).trans rfl) ?_
      simp [Oper.wp, go_sem, o6]
      exact hI.put (i := 4) (j := 4) rfl (by omega) (fun _ _ h => h) (VV.of (by decide) rfl) hI.cw
    · refine wpOp_let rfl ((wanted_at (c := true) rfl rfl rfl (show a'.tmps[61]?.getD undef = .bool true from (hI.at (k := 3) (j := 3) hsz rfl (by omega) (hall ⟨3, .guard⟩ (by simp) rfl)).eq (by decide))).trans rfl) ?_
      simp [Oper.wp, go_sem, o13]
      exact hI.put (i := 5) (j := 5) rfl (by omega) (fun _ _ h => h) (VV.of (by decide) rfl) hI.cw
    · refine wpOp_let rfl ((wanted_at (c := true) rfl rfl rfl (show a'.tmps[61]?.getD undef = .bool true from (hI.at (k := 3) (j := 3) hsz rfl (by omega) (hall ⟨3, .guard⟩ (by simp) rfl)).eq (by decide))).trans rfl) ?_
      have e4 : a'.tmps[62]?.getD undef = .slice (some ⟨g2, 0, none⟩) 12 c2 := (hI.at (k := 4) (j := 4) hsz rfl (by omega) (hall ⟨4, .data⟩ (by simp) rfl)).eq (by decide)
      have e5 : a'.tmps[63]?.getD undef = .int .i64 j := (hI.at (k := 5) (j := 5) hsz rfl (by omega) (hall ⟨5, .data⟩ (by simp) rfl)).eq (by decide)
      simp [Oper.wp, go_sem, e4, e5, hj12]
      exact hI.put (i := 6) (j := 6) rfl (by omega) (fun _ _ h => h) (VV.of (by decide) rfl) hI.cw
    · refine wpOp_let rfl ((wanted_at (c := true) rfl rfl rfl (show a'.tmps[61]?.getD undef = .bool true from (hI.at (k := 3) (j := 3) hsz rfl (by omega) (hall ⟨3, .guard⟩ (by simp) rfl)).eq (by decide))).trans rfl) ?_
      have e6 : a'.tmps[64]?.getD undef = .pointer (some ⟨g2, j * 2, none⟩) := (hI.at (k := 6) (j := 6) hsz rfl (by omega) (hall ⟨6, .data⟩ (by simp) rfl)).eq (by decide)
      simp [Oper.wp, go_sem, e6]
      exact hI.put (i := 7) (j := 7) rfl (by omega) (fun _ _ h => h) (VV.of (by decide) rfl) hI.cw
    · refine wpOp_let rfl ((wanted_at (c := true) rfl rfl rfl (show a'.tmps[61]?.getD undef = .bool true from (hI.at (k := 3) (j := 3) hsz rfl (by omega) (hall ⟨3, .guard⟩ (by simp) rfl)).eq (by decide))).trans rfl) ?_
      have e7 : a'.tmps[65]?.getD undef = .pointer (some ⟨g2, j * 2, none⟩) := (hI.at (k := 7) (j := 7) hsz rfl (by omega) (hall ⟨7, .data⟩ (by simp) rfl)).eq (by decide)
      simp [Oper.wp, go_sem, e7, z0]
      exact hI.put (i := 8) (j := 8) rfl (by omega) (fun _ _ h => h) (VV.of (by decide) rfl) hI.cw
    · refine wpOp_let rfl ((wanted_at (c := true) rfl rfl rfl (show a'.tmps[61]?.getD undef = .bool true from (hI.at (k := 3) (j := 3) hsz rfl (by omega) (hall ⟨3, .guard⟩ (by simp) rfl)).eq (by decide))).trans rfl) ?_
      have e8 : a'.tmps[66]?.getD undef = .int .i64 c := (hI.at (k := 8) (j := 8) hsz rfl (by omega) (hall ⟨8, .data⟩ (by simp) rfl)).eq (by decide)
      simp [Oper.wp, go_sem, e8, hc0]
      exact hI.put (i := 9) (j := 9) rfl (by omega) (fun _ _ h => h) (VV.of (by decide) rfl) hI.cw
    · refine wpOp_of rfl rfl ?_
      have e3 : a'.tmps[61]?.getD undef = .bool true := (hI.at (k := 3) (j := 3) hsz rfl (by omega) (hall ⟨3, .data⟩ (by simp) rfl)).eq (by decide)
      have e9 : a'.tmps[67]?.getD undef = .bool true := (hI.at (k := 9) (j := 9) hsz rfl (by omega) (hall ⟨9, .data⟩ (by simp) rfl)).eq (by decide)
      simp [Oper.wp, go_sem, e3, e9]
      exact hI.put (i := 10) (j := 10) rfl (by omega) (fun _ _ h => h) (VV.of (by decide) rfl) hI.cw
    · refine wpOp_of rfl rfl ?_
      have e10 : a'.tmps[68]?.getD undef = .bool true := (hI.at (k := 10) (j := 10) hsz rfl (by omega) (hall ⟨10, .data⟩ (by simp) rfl)).eq (by decide)
      simp [Oper.wp, go_sem, e10]
      exact hI.put (i := 11) (j := 11) rfl (by omega) (fun _ _ h => h) (VV.of (by decide) rfl) hI.cw
    · refine wpOp_let rfl ((wanted_at (c := true) rfl rfl rfl (show a'.tmps[69]?.getD undef = .bool true from (hI.at (k := 11) (j := 11) hsz rfl (by omega) (hall ⟨11, .guard⟩ (by simp) rfl)).eq (by decide))).trans rfl) ?_
      simp [Oper.wp, go_sem, o0]
      exact hI.put (i := 12) (j := 12) rfl (by omega) (fun _ _ h => h) (VV.of (by decide) rfl) hI.cw
    · refine wpOp_let rfl ((wanted_at (c := true) rfl rfl rfl (show a'.tmps[69]?.getD undef = .bool true from (hI.at (k := 11) (j := 11) hsz rfl (by omega) (hall ⟨11, .guard⟩ (by simp) rfl)).eq (by decide))).trans rfl) ?_
      simp [Oper.wp, go_sem, o13]
      exact hI.put (i := 13) (j := 13) rfl (by omega) (fun _ _ h => h) (VV.of (by decide) rfl) hI.cw
    · refine wpOp_let rfl ((wanted_at (c := true) rfl rfl rfl (show a'.tmps[69]?.getD undef = .bool true from (hI.at (k := 11) (j := 11) hsz rfl (by omega) (hall ⟨11, .guard⟩ (by simp) rfl)).eq (by decide))).trans rfl) ?_
      have e12 : a'.tmps[70]?.getD undef = .slice a len cap := (hI.at (k := 12) (j := 12) hsz rfl (by omega) (hall ⟨12, .data⟩ (by simp) rfl)).eq (by decide)
      have e13 : a'.tmps[71]?.getD undef = .int .i64 j := (hI.at (k := 13) (j := 13) hsz rfl (by omega) (hall ⟨13, .data⟩ (by simp) rfl)).eq (by decide)
      simp [Oper.wp, go_sem, e12, e13]
      refine (PrefixesIn_any a len cap es j W (HE.below hI.cw) HFT (by omega)).mono ?_
      rintro e W' ⟨vl, rfl, ho', hb'⟩
      exact hI.put (i := 14) (j := 14) rfl (by omega) (VV.grow hb') (VV.own rfl (ho'.mono hI.cw.size)) (hI.cw.trans (hb'.mono hI.cw.size))
    · refine wpOp_let rfl ((wanted_at (c := true) rfl rfl rfl (show a'.tmps[69]?.getD undef = .bool true from (hI.at (k := 11) (j := 11) hsz rfl (by omega) (hall ⟨11, .guard⟩ (by simp) rfl)).eq (by decide))).trans rfl) ?_
      simp [Oper.wp, go_sem, o11, p0, p1]
      exact hI.put (i := 15) (j := 15) rfl (by omega) (fun _ _ h => h) (VV.of (by decide) rfl) hI.cw
    · refine wpOp_let rfl ((wanted_at (c := true) rfl rfl rfl (show a'.tmps[69]?.getD undef = .bool true from (hI.at (k := 11) (j := 11) hsz rfl (by omega) (hall ⟨11, .guard⟩ (by simp) rfl)).eq (by decide))).trans rfl) ?_
      have e15 : a'.tmps[73]?.getD undef = .agg #[.int .i64 k, .int .i64 b] := (hI.at (k := 15) (j := 15) hsz rfl (by omega) (hall ⟨15, .data⟩ (by simp) rfl)).eq (by decide)
      have hP := (hI.at (k := 14) (j := 14) hsz rfl (by omega) (hall ⟨14, .data⟩ (by simp) rfl)).1 rfl rfl
      obtain ⟨pa, pc, ev, hpp, _⟩ := hP.shape (fun p hp => Pl.tP_ok hp)
      have ev : a'.tmps[72]?.getD undef = .slice pa (Pl.tP es j).length pc := ev
      simp [Oper.wp, go_sem, ev, e15]
      refine (hasPrefix_any pa _ pc (Pl.tP es j) k b W hpp).mono ?_
      rintro e W' ⟨rfl, hb'⟩
      rw [HB3]
      exact hI.put (i := 16) (j := 16) rfl (by omega) (VV.grow hb') (VV.of (by decide) rfl) (hI.cw.trans (hb'.mono hI.cw.size))
    · refine wpOp_of rfl rfl ?_
      have e11 : a'.tmps[69]?.getD undef = .bool true := (hI.at (k := 11) (j := 11) hsz rfl (by omega) (hall ⟨11, .data⟩ (by simp) rfl)).eq (by decide)
      have e16 : a'.tmps[74]?.getD undef = .bool b3 := (hI.at (k := 16) (j := 16) hsz rfl (by omega) (hall ⟨16, .data⟩ (by simp) rfl)).eq (by decide)
      simp [Oper.wp, go_sem, e11, e16]
      exact hI.put (i := 17) (j := 17) rfl (by omega) (fun _ _ h => h) (VV.of (by decide) rfl) hI.cw
    · refine wpOp_of rfl rfl ?_
      have e17 : a'.tmps[75]?.getD undef = .bool b3 := (hI.at (k := 17) (j := 17) hsz rfl (by omega) (hall ⟨17, .data⟩ (by simp) rfl)).eq (by decide)
      simp [Oper.wp, go_sem, e17]
      exact hI.put (i := 18) (j := 18) rfl (by omega) (fun _ _ h => h) (VV.of (by decide) rfl) hI.cw
    · cases b3 with
      | false =>
        refine wpOp_left rfl ((wanted_at (c := false) rfl rfl rfl (show a'.tmps[76]?.getD undef = .bool false from (hI.at (k := 18) (j := 18) hsz rfl (by omega) (hall ⟨18, .guard⟩ (by simp) rfl)).eq (by decide))).trans rfl) ?_
        exact hI.put (i := 19) (j := 19) rfl (by omega) (fun _ _ h => h) (VV.of (by decide) rfl) hI.cw
      | true =>
        refine wpOp_let rfl ((wanted_at (c := true) rfl rfl rfl (show a'.tmps[76]?.getD undef = .bool true from (hI.at (k := 18) (j := 18) hsz rfl (by omega) (hall ⟨18, .guard⟩ (by simp) rfl)).eq (by decide))).trans rfl) ?_
        simp [Oper.wp, go_sem, o12]
        exact hI.put (i := 19) (j := 19) rfl (by omega) (fun _ _ h => h) (VV.of (by decide) rfl) hI.cw
    · cases b3 with
      | false =>
        refine wpOp_left rfl ((wanted_at (c := false) rfl rfl rfl (show a'.tmps[76]?.getD undef = .bool false from (hI.at (k := 18) (j := 18) hsz rfl (by omega) (hall ⟨18, .guard⟩ (by simp) rfl)).eq (by decide))).trans rfl) ?_
        exact hI.put (i := 20) (j := 20) rfl (by omega) (fun _ _ h => h) (VV.of (by decide) rfl) hI.cw
      | true =>
        refine wpOp_let rfl ((wanted_at (c := true) rfl rfl rfl (show a'.tmps[76]?.getD undef = .bool true from (hI.at (k := 18) (j := 18) hsz rfl (by omega) (hall ⟨18, .guard⟩ (by simp) rfl)).eq (by decide))).trans rfl) ?_
        have e19 : a'.tmps[77]?.getD undef = .pointer (some ⟨rb, 3, none⟩) := (hI.at (k := 19) (j := 19) hsz rfl (by omega) (hall ⟨19, .data⟩ (by simp) rfl)).eq (by decide)
        simp [Oper.wp, go_sem, e19, r3]
        exact hI.put (i := 20) (j := 20) rfl (by omega) (fun _ _ h => h) (VV.of (by decide) rfl) hI.cw
    · cases b3 with
      | false =>
        refine wpOp_left rfl ((wanted_at (c := false) rfl rfl rfl (show a'.tmps[76]?.getD undef = .bool false from (hI.at (k := 18) (j := 18) hsz rfl (by omega) (hall ⟨18, .guard⟩ (by simp) rfl)).eq (by decide))).trans rfl) ?_
        exact hI.put (i := 21) (j := 21) rfl (by omega) (fun _ _ h => h) (VV.of (by decide) rfl) hI.cw
      | true =>
        refine wpOp_let rfl ((wanted_at (c := true) rfl rfl rfl (show a'.tmps[76]?.getD undef = .bool true from (hI.at (k := 18) (j := 18) hsz rfl (by omega) (hall ⟨18, .guard⟩ (by simp) rfl)).eq (by decide))).trans rfl) ?_
        have e20 : a'.tmps[78]?.getD undef = .int .i64 mm := (hI.at (k := 20) (j := 20) hsz rfl (by omega) (hall ⟨20, .data⟩ (by simp) rfl)).eq (by decide)
        simp [Oper.wp, go_sem, e20, hb4]
        exact hI.put (i := 21) (j := 21) rfl (by omega) (fun _ _ h => h) (VV.of (by decide) rfl) hI.cw
    · cases b3 with
      | false =>
        refine wpOp_left rfl ((wanted_at (c := false) rfl rfl rfl (show a'.tmps[76]?.getD undef = .bool false from (hI.at (k := 18) (j := 18) hsz rfl (by omega) (hall ⟨18, .guard⟩ (by simp) rfl)).eq (by decide))).trans rfl) ?_
        exact hI.put (i := 22) (j := 22) rfl (by omega) (fun _ _ h => h) (VV.of (by decide) rfl) hI.cw
      | true =>
        refine wpOp_let rfl ((wanted_at (c := true) rfl rfl rfl (show a'.tmps[76]?.getD undef = .bool true from (hI.at (k := 18) (j := 18) hsz rfl (by omega) (hall ⟨18, .guard⟩ (by simp) rfl)).eq (by decide))).trans rfl) ?_
        have e21 : a'.tmps[79]?.getD undef = .bool b4 := (hI.at (k := 21) (j := 21) hsz rfl (by omega) (hall ⟨21, .data⟩ (by simp) rfl)).eq (by decide)
        simp [Oper.wp, go_sem, e21]
        exact hI.put (i := 22) (j := 22) rfl (by omega) (fun _ _ h => h) (VV.of (by decide) rfl) hI.cw
    · cases b3 with
      | false =>
        refine wpOp_left rfl (wanted_undef rfl rfl rfl (show a'.tmps[80]?.getD undef = undef from (hI.at (k := 22) (j := 22) hsz rfl (by omega) (hall ⟨22, .guard⟩ (by simp) rfl)).eq (by decide))) ?_
        exact hI.put (i := 23) (j := 23) rfl (by omega) (fun _ _ h => h) (VV.of (by decide) rfl) hI.cw
      | true =>
        cases b4 with
        | false =>
          refine wpOp_let rfl ((wanted_at (c := false) rfl rfl rfl (show a'.tmps[80]?.getD undef = .bool false from (hI.at (k := 22) (j := 22) hsz rfl (by omega) (hall ⟨22, .guard⟩ (by simp) rfl)).eq (by decide))).trans rfl) ?_
          simp [Oper.wp, go_sem, o6]
          exact hI.put (i := 23) (j := 23) rfl (by omega) (fun _ _ h => h) (VV.of (by decide) rfl) hI.cw
        | true =>
          refine wpOp_left rfl ((wanted_at (c := true) rfl rfl rfl (show a'.tmps[80]?.getD undef = .bool true from (hI.at (k := 22) (j := 22) hsz rfl (by omega) (hall ⟨22, .guard⟩ (by simp) rfl)).eq (by decide))).trans rfl) ?_
          exact hI.put (i := 23) (j := 23) rfl (by omega) (fun _ _ h => h) (VV.of (by decide) rfl) hI.cw
    · cases b3 with
      | false =>
        refine wpOp_left rfl (wanted_undef rfl rfl rfl (show a'.tmps[80]?.getD undef = undef from (hI.at (k := 22) (j := 22) hsz rfl (by omega) (hall ⟨22, .guard⟩ (by simp) rfl)).eq (by decide))) ?_
        exact hI.put (i := 24) (j := 24) rfl (by omega) (fun _ _ h => h) (VV.of (by decide) rfl) hI.cw
      | true =>
        cases b4 with
        | false =>
          refine wpOp_let rfl ((wanted_at (c := false) rfl rfl rfl (show a'.tmps[80]?.getD undef = .bool false from (hI.at (k := 22) (j := 22) hsz rfl (by omega) (hall ⟨22, .guard⟩ (by simp) rfl)).eq (by decide))).trans rfl) ?_
          simp [Oper.wp, go_sem, o13]
          exact hI.put (i := 24) (j := 24) rfl (by omega) (fun _ _ h => h) (VV.of (by decide) rfl) hI.cw
        | true =>
          refine wpOp_left rfl ((wanted_at (c := true) rfl rfl rfl (show a'.tmps[80]?.getD undef = .bool true from (hI.at (k := 22) (j := 22) hsz rfl (by omega) (hall ⟨22, .guard⟩ (by simp) rfl)).eq (by decide))).trans rfl) ?_
          exact hI.put (i := 24) (j := 24) rfl (by omega) (fun _ _ h => h) (VV.of (by decide) rfl) hI.cw
    · cases b3 with
      | false =>
        refine wpOp_left rfl (wanted_undef rfl rfl rfl (show a'.tmps[80]?.getD undef = undef from (hI.at (k := 22) (j := 22) hsz rfl (by omega) (hall ⟨22, .guard⟩ (by simp) rfl)).eq (by decide))) ?_
        exact hI.put (i := 25) (j := 25) rfl (by omega) (fun _ _ h => h) (VV.of (by decide) rfl) hI.cw
      | true =>
        cases b4 with
        | false =>
          refine wpOp_let rfl ((wanted_at (c := false) rfl rfl rfl (show a'.tmps[80]?.getD undef = .bool false from (hI.at (k := 22) (j := 22) hsz rfl (by omega) (hall ⟨22, .guard⟩ (by simp) rfl)).eq (by decide))).trans rfl) ?_
          have e23 : a'.tmps[81]?.getD undef = .slice (some ⟨g2, 0, none⟩) 12 c2 := (hI.at (k := 23) (j := 23) hsz rfl (by omega) (hall ⟨23, .data⟩ (by simp) rfl)).eq (by decide)
          have e24 : a'.tmps[82]?.getD undef = .int .i64 j := (hI.at (k := 24) (j := 24) hsz rfl (by omega) (hall ⟨24, .data⟩ (by simp) rfl)).eq (by decide)
          simp [Oper.wp, go_sem, e23, e24, hj12]
          exact hI.put (i := 25) (j := 25) rfl (by omega) (fun _ _ h => h) (VV.of (by decide) rfl) hI.cw
        | true =>
          refine wpOp_left rfl ((wanted_at (c := true) rfl rfl rfl (show a'.tmps[80]?.getD undef = .bool true from (hI.at (k := 22) (j := 22) hsz rfl (by omega) (hall ⟨22, .guard⟩ (by simp) rfl)).eq (by decide))).trans rfl) ?_
          exact hI.put (i := 25) (j := 25) rfl (by omega) (fun _ _ h => h) (VV.of (by decide) rfl) hI.cw
    · cases b3 with
      | false =>
        refine wpOp_left rfl (wanted_undef rfl rfl rfl (show a'.tmps[80]?.getD undef = undef from (hI.at (k := 22) (j := 22) hsz rfl (by omega) (hall ⟨22, .guard⟩ (by simp) rfl)).eq (by decide))) ?_
        exact hI.put (i := 26) (j := 26) rfl (by omega) (fun _ _ h => h) (VV.of (by decide) rfl) hI.cw
      | true =>
        cases b4 with
        | false =>
          refine wpOp_let rfl ((wanted_at (c := false) rfl rfl rfl (show a'.tmps[80]?.getD undef = .bool false from (hI.at (k := 22) (j := 22) hsz rfl (by omega) (hall ⟨22, .guard⟩ (by simp) rfl)).eq (by decide))).trans rfl) ?_
          have e25 : a'.tmps[83]?.getD undef = .pointer (some ⟨g2, j * 2, none⟩) := (hI.at (k := 25) (j := 25) hsz rfl (by omega) (hall ⟨25, .data⟩ (by simp) rfl)).eq (by decide)
          simp [Oper.wp, go_sem, e25]
          exact hI.put (i := 26) (j := 26) rfl (by omega) (fun _ _ h => h) (VV.of (by decide) rfl) hI.cw
        | true =>
          refine wpOp_left rfl ((wanted_at (c := true) rfl rfl rfl (show a'.tmps[80]?.getD undef = .bool true from (hI.at (k := 22) (j := 22) hsz rfl (by omega) (hall ⟨22, .guard⟩ (by simp) rfl)).eq (by decide))).trans rfl) ?_
          exact hI.put (i := 26) (j := 26) rfl (by omega) (fun _ _ h => h) (VV.of (by decide) rfl) hI.cw
    · cases b3 with
      | false =>
        refine wpOp_left rfl (wanted_undef rfl rfl rfl (show a'.tmps[80]?.getD undef = undef from (hI.at (k := 22) (j := 22) hsz rfl (by omega) (hall ⟨22, .guard⟩ (by simp) rfl)).eq (by decide))) ?_
        exact hI.put (i := 27) (j := 27) rfl (by omega) (fun _ _ h => h) (VV.of (by decide) rfl) hI.cw
      | true =>
        cases b4 with
        | false =>
          refine wpOp_let rfl ((wanted_at (c := false) rfl rfl rfl (show a'.tmps[80]?.getD undef = .bool false from (hI.at (k := 22) (j := 22) hsz rfl (by omega) (hall ⟨22, .guard⟩ (by simp) rfl)).eq (by decide))).trans rfl) ?_
          have e26 : a'.tmps[84]?.getD undef = .pointer (some ⟨g2, j * 2, none⟩) := (hI.at (k := 26) (j := 26) hsz rfl (by omega) (hall ⟨26, .data⟩ (by simp) rfl)).eq (by decide)
          simp [Oper.wp, go_sem, e26, z0]
          exact hI.put (i := 27) (j := 27) rfl (by omega) (fun _ _ h => h) (VV.of (by decide) rfl) hI.cw
        | true =>
          refine wpOp_left rfl ((wanted_at (c := true) rfl rfl rfl (show a'.tmps[80]?.getD undef = .bool true from (hI.at (k := 22) (j := 22) hsz rfl (by omega) (hall ⟨22, .guard⟩ (by simp) rfl)).eq (by decide))).trans rfl) ?_
          exact hI.put (i := 27) (j := 27) rfl (by omega) (fun _ _ h => h) (VV.of (by decide) rfl) hI.cw
    · cases b3 with
      | false =>
        refine wpOp_left rfl (wanted_undef rfl rfl rfl (show a'.tmps[80]?.getD undef = undef from (hI.at (k := 22) (j := 22) hsz rfl (by omega) (hall ⟨22, .guard⟩ (by simp) rfl)).eq (by decide))) ?_
        exact hI.put (i := 28) (j := 28) rfl (by omega) (fun _ _ h => h) (VV.of (by decide) rfl) hI.cw
      | true =>
        cases b4 with
        | false =>
          refine wpOp_let rfl ((wanted_at (c := false) rfl rfl rfl (show a'.tmps[80]?.getD undef = .bool false from (hI.at (k := 22) (j := 22) hsz rfl (by omega) (hall ⟨22, .guard⟩ (by simp) rfl)).eq (by decide))).trans rfl) ?_
          simp [Oper.wp, go_sem, o12]
          exact hI.put (i := 28) (j := 28) rfl (by omega) (fun _ _ h => h) (VV.of (by decide) rfl) hI.cw
        | true =>
          refine wpOp_left rfl ((wanted_at (c := true) rfl rfl rfl (show a'.tmps[80]?.getD undef = .bool true from (hI.at (k := 22) (j := 22) hsz rfl (by omega) (hall ⟨22, .guard⟩ (by simp) rfl)).eq (by decide))).trans rfl) ?_
          exact hI.put (i := 28) (j := 28) rfl (by omega) (fun _ _ h => h) (VV.of (by decide) rfl) hI.cw
    · cases b3 with
      | false =>
        refine wpOp_left rfl (wanted_undef rfl rfl rfl (show a'.tmps[80]?.getD undef = undef from (hI.at (k := 22) (j := 22) hsz rfl (by omega) (hall ⟨22, .guard⟩ (by simp) rfl)).eq (by decide))) ?_
        exact hI.put (i := 29) (j := 29) rfl (by omega) (fun _ _ h => h) (VV.of (by decide) rfl) hI.cw
      | true =>
        cases b4 with
        | false =>
          refine wpOp_let rfl ((wanted_at (c := false) rfl rfl rfl (show a'.tmps[80]?.getD undef = .bool false from (hI.at (k := 22) (j := 22) hsz rfl (by omega) (hall ⟨22, .guard⟩ (by simp) rfl)).eq (by decide))).trans rfl) ?_
          have e28 : a'.tmps[86]?.getD undef = .pointer (some ⟨rb, 3, none⟩) := (hI.at (k := 28) (j := 28) hsz rfl (by omega) (hall ⟨28, .data⟩ (by simp) rfl)).eq (by decide)
          simp [Oper.wp, go_sem, e28, r3]
          exact hI.put (i := 29) (j := 29) rfl (by omega) (fun _ _ h => h) (VV.of (by decide) rfl) hI.cw
        | true =>
          refine wpOp_left rfl ((wanted_at (c := true) rfl rfl rfl (show a'.tmps[80]?.getD undef = .bool true from (hI.at (k := 22) (j := 22) hsz rfl (by omega) (hall ⟨22, .guard⟩ (by simp) rfl)).eq (by decide))).trans rfl) ?_
          exact hI.put (i := 29) (j := 29) rfl (by omega) (fun _ _ h => h) (VV.of (by decide) rfl) hI.cw
    · cases b3 with
      | false =>
        refine wpOp_left rfl (wanted_undef rfl rfl rfl (show a'.tmps[80]?.getD undef = undef from (hI.at (k := 22) (j := 22) hsz rfl (by omega) (hall ⟨22, .guard⟩ (by simp) rfl)).eq (by decide))) ?_
        exact hI.put (i := 30) (j := 30) rfl (by omega) (fun _ _ h => h) (VV.of (by decide) rfl) hI.cw
      | true =>
        cases b4 with
        | false =>
          refine wpOp_let rfl ((wanted_at (c := false) rfl rfl rfl (show a'.tmps[80]?.getD undef = .bool false from (hI.at (k := 22) (j := 22) hsz rfl (by omega) (hall ⟨22, .guard⟩ (by simp) rfl)).eq (by decide))).trans rfl) ?_
          have e27 : a'.tmps[85]?.getD undef = .int .i64 c := (hI.at (k := 27) (j := 27) hsz rfl (by omega) (hall ⟨27, .data⟩ (by simp) rfl)).eq (by decide)
          have e29 : a'.tmps[87]?.getD undef = .int .i64 mm := (hI.at (k := 29) (j := 29) hsz rfl (by omega) (hall ⟨29, .data⟩ (by simp) rfl)).eq (by decide)
          simp [Oper.wp, go_sem, e27, e29, hb5]
          exact hI.put (i := 30) (j := 30) rfl (by omega) (fun _ _ h => h) (VV.of (by decide) rfl) hI.cw
        | true =>
          refine wpOp_left rfl ((wanted_at (c := true) rfl rfl rfl (show a'.tmps[80]?.getD undef = .bool true from (hI.at (k := 22) (j := 22) hsz rfl (by omega) (hall ⟨22, .guard⟩ (by simp) rfl)).eq (by decide))).trans rfl) ?_
          exact hI.put (i := 30) (j := 30) rfl (by omega) (fun _ _ h => h) (VV.of (by decide) rfl) hI.cw
    · cases b3 with
      | false =>
        refine wpOp_left rfl ((wanted_at (c := false) rfl rfl rfl (show a'.tmps[76]?.getD undef = .bool false from (hI.at (k := 18) (j := 18) hsz rfl (by omega) (hall ⟨18, .guard⟩ (by simp) rfl)).eq (by decide))).trans rfl) ?_
        exact hI.put (i := 31) (j := 31) rfl (by omega) (fun _ _ h => h) (VV.of (by decide) rfl) hI.cw
      | true =>
        refine wpOp_let rfl ((wanted_at (c := true) rfl rfl rfl (show a'.tmps[76]?.getD undef = .bool true from (hI.at (k := 18) (j := 18) hsz rfl (by omega) (hall ⟨18, .guard⟩ (by simp) rfl)).eq (by decide))).trans rfl) ?_
        cases b4 with
        | false =>
          have e22 : a'.tmps[80]?.getD undef = .bool false := (hI.at (k := 22) (j := 22) hsz rfl (by omega) (hall ⟨22, .data⟩ (by simp) rfl)).eq (by decide)
          have e30 : a'.tmps[88]?.getD undef = .bool b5 := (hI.at (k := 30) (j := 30) hsz rfl (by omega) (hall ⟨30, .data⟩ (by simp) rfl)).eq (by decide)
          simp [Oper.wp, go_sem, e22, e30]
          exact hI.put (i := 31) (j := 31) rfl (by omega) (fun _ _ h => h) (VV.of (by decide) rfl) hI.cw
        | true =>
          have e22 : a'.tmps[80]?.getD undef = .bool true := (hI.at (k := 22) (j := 22) hsz rfl (by omega) (hall ⟨22, .data⟩ (by simp) rfl)).eq (by decide)
          simp [Oper.wp, go_sem, e22]
          exact hI.put (i := 31) (j := 31) rfl (by omega) (fun _ _ h => h) (VV.of (by decide) rfl) hI.cw
    · cases b3 with
      | false =>
        refine wpOp_of rfl rfl ?_
        have e18 : a'.tmps[76]?.getD undef = .bool false := (hI.at (k := 18) (j := 18) hsz rfl (by omega) (hall ⟨18, .data⟩ (by simp) rfl)).eq (by decide)
        simp [Oper.wp, go_sem, e18]
        exact hI.put (i := 32) (j := 32) rfl (by omega) (fun _ _ h => h) (VV.of (by decide) rfl) hI.cw
      | true =>
        refine wpOp_of rfl rfl ?_
        have e18 : a'.tmps[76]?.getD undef = .bool true := (hI.at (k := 18) (j := 18) hsz rfl (by omega) (hall ⟨18, .data⟩ (by simp) rfl)).eq (by decide)
        have e31 : a'.tmps[89]?.getD undef = .bool (b4 || b5) := (hI.at (k := 31) (j := 31) hsz rfl (by omega) (hall ⟨31, .data⟩ (by simp) rfl)).eq (by decide)
        simp [Oper.wp, go_sem, e18, e31]
        exact hI.put (i := 32) (j := 32) rfl (by omega) (fun _ _ h => h) (VV.of (by decide) rfl) hI.cw
  · rintro listed a' W hr hI
    have hal := all_listed (by decide +kernel) hI.ls hr
    obtain ⟨xs, hxl, rfl, hf⟩ := hI.fr
    exact hQ xs W hxl ((hf 32 32 rfl (hal 32 (by decide))).eq (by decide)) hI.cw
  · exact RInv.start hsz (Below.refl _ _).drew
end Go.Proofs.YtmdjbdolegojcaaGreatDoor
/-
  The document's table (TableOf): a region that draws its order, with calls whose answers lie in new memory (written by tools/gen_tof.py).
-/
namespace Go.Proofs.YtmdjbdolegojcaaGreatDoor
open Go.RowKit
set_option maxRecDepth 20000

set_option maxHeartbeats 8000000 in
theorem tof28 {Q : Exit → Act → World → Prop} {a0 : Act} {wj : World} {a : Option Addr} {len cap : Nat} {es : List Pl.Ent} {n k b pb : Nat} {j g2 c2 rb hh hl ch : Nat} {ah : Option Addr} {mm : Int} {b3 b4 : Bool}
    (h157 : a0.tmps.size = 157)
    (q0 : a0.tmps[0]?.getD undef = .slice a len cap)
    (q1 : a0.tmps[1]?.getD undef = .int .i64 n)
    (q6 : a0.tmps[6]?.getD undef = .slice (some ⟨g2, 0, none⟩) 12 c2)
    (q11 : a0.tmps[11]?.getD undef = .pointer (some ⟨pb, 0, none⟩))
    (q12 : a0.tmps[12]?.getD undef = .pointer (some ⟨rb, 0, none⟩))
    (q14 : a0.tmps[14]?.getD undef = .int .i64 hh)
    (q15 : a0.tmps[15]?.getD undef = .bool false)
    (q16 : a0.tmps[16]?.getD undef = .int .i64 j)
    (HE : IsEnts wj a len cap es)
    (HFT : Pl.fault es = 0)
    (hpl : pb < wj.heap.size)
    (hg2 : g2 < wj.heap.size)
    (hrb : rb < wj.heap.size)
    (P0 : wj.cell? ⟨pb, 0, none⟩ = some (.int .i64 k))
    (P1 : wj.cell? ⟨pb, 1, none⟩ = some (.int .i64 b))
    (R3 : wj.cell? ⟨rb, 3, none⟩ = some (.int .i64 mm))
    (hj12 : (j : Int) < 12)
    (hjn : ((j : Int) != (n : Int)) = true)
    (Z0 : wj.cell? ⟨g2, j * 2, none⟩ = some (.int .i64 mm))
    (Z1 : wj.cell? ⟨g2, j * 2 + 1, none⟩ = some (.slice ah hl ch))
    (HHI : IsInts wj ah hl ch (Pl.wH es n j))
    (HB3 : decide (((k : Int), (b : Int)) ∈ Pl.tP es j) = b3)
    (HB4 : decide ((hh : Int) ∈ Pl.wH es n j) = b4)
    (hQ : ∀ xs W, xs.length = 32 → True → Below wj.heap.size wj W → Q .normal { a0 with tmps := setFrom (a0.tmps.setIfInBounds 15 (.bool (b3 && b4))) 110 xs } W) :
    ∀ ops, regIn Tryz.f5 28 = some ops → (Code.region 28 ops true).wp Tryz.prog Q a0 wj := by
  intro ops hops
  have eo := Option.some.inj (hops.symm.trans (rfl : regIn Tryz.f5 28 = some _))
  subst eo
  clear hops
  have hsz : 110 + 32 ≤ a0.tmps.size := by omega
  refine wp_region_any (by kernel_rfl) ?_
  refine wpAny_inv2 (RInv2 a0 110 32 33 15 32 (fun k => if k = 32 then none else some k) (VV 38 wj.heap.size (Pl.tP es j) 18 true [.bool false, .bool false, .int .i64 j, .int .i64 n, .bool true, .bool true, .slice (some ⟨g2, 0, none⟩) 12 c2, .int .i64 j, .pointer (some ⟨g2, j * 2, none⟩), .pointer (some ⟨g2, j * 2, none⟩), .int .i64 mm, .pointer (some ⟨rb, 3, none⟩), .int .i64 mm, .bool true, .bool true, .bool true, .slice a len cap, .int .i64 j, undef, .agg #[.int .i64 k, .int .i64 b], .bool b3, .bool b3, .bool b3, cond b3 (.slice (some ⟨g2, 0, none⟩) 12 c2) undef, cond b3 (.int .i64 j) undef, cond b3 (.pointer (some ⟨g2, j * 2, none⟩)) undef, cond b3 (.pointer (some ⟨g2, j * 2 + 1, none⟩)) undef, cond b3 (.slice ah hl ch) undef, cond b3 (.int .i64 hh) undef, cond b3 (.bool b4) undef, .bool (b3 && b4), .bool (b3 && b4)]) (.bool (b3 && b4)) (fun W => Below wj.heap.size wj W)) ?_ ?_ _ _ _ _ (by decide +kernel) ?_ (closed_start _ _ _)
  · rintro i listed a' W hi hCl hI
    rw [mem_ready] at hi
    obtain ⟨hl0, o, ho, hall⟩ := hi
    have hlti : i < 33 := (Array.getElem?_eq_some_iff.1 ho).1
    have o0 := (hI.out (k := 0) (by omega) (by decide)).trans q0
    have o1 := (hI.out (k := 1) (by omega) (by decide)).trans q1
    have o6 := (hI.out (k := 6) (by omega) (by decide)).trans q6
    have o11 := (hI.out (k := 11) (by omega) (by decide)).trans q11
    have o12 := (hI.out (k := 12) (by omega) (by decide)).trans q12
    have o14 := (hI.out (k := 14) (by omega) (by decide)).trans q14
    have o16 := (hI.out (k := 16) (by omega) (by decide)).trans q16
    have p0 := (hI.cw.cell (p := ⟨pb, 0, none⟩) hpl).trans P0
    have p1 := (hI.cw.cell (p := ⟨pb, 1, none⟩) hpl).trans P1
    have z0 := (hI.cw.cell (p := ⟨g2, j * 2, none⟩) hg2).trans Z0
    have r3 := (hI.cw.cell (p := ⟨rb, 3, none⟩) hrb).trans R3
    have z1 := (hI.cw.cell (p := ⟨g2, j * 2 + 1, none⟩) hg2).trans Z1
    have hcs : i = 0 ∨ i = 1 ∨ i = 2 ∨ i = 3 ∨ i = 4 ∨ i = 5 ∨ i = 6 ∨ i = 7 ∨ i = 8 ∨ i = 9 ∨ i = 10 ∨ i = 11 ∨ i = 12 ∨ i = 13 ∨ i = 14 ∨ i = 15 ∨ i = 16 ∨ i = 17 ∨ i = 18 ∨ i = 19 ∨ i = 20 ∨ i = 21 ∨ i = 22 ∨ i = 23 ∨ i = 24 ∨ i = 25 ∨ i = 26 ∨ i = 27 ∨ i = 28 ∨ i = 29 ∨ i = 30 ∨ i = 31 ∨ i = 32 := by omega
    rcases hcs with rfl | rfl | rfl | rfl | rfl | rfl | rfl | rfl | rfl | rfl | rfl | rfl | rfl | rfl | rfl | rfl | rfl | rfl | rfl | rfl | rfl | rfl | rfl | rfl | rfl | rfl | rfl | rfl | rfl | rfl | rfl | rfl | rfl
    all_goals
      simp at ho
      subst ho
    · refine wpOp_of rfl rfl ?_
      have h32 : listed.getD 32 false = false := by
        cases h : listed.getD 32 false with
        | false => rfl
        | true =>
          exfalso
          have e0 := hCl 32 _ rfl h ⟨0, .phase⟩ (by simp) rfl
          have hlt0 : 0 < listed.size := by rw [hI.ls]; omega
          simp [hlt0] at hl0 e0
          rw [hl0] at e0
          cases e0
      have o15 := (hI.outT (by omega) (by omega) h32).trans q15
      simp [Oper.wp, go_sem, o15]
      exact hI.put (i := 0) (j := 0) rfl (by omega) (by decide) (fun _ _ h => h) (VV.of (by decide) rfl) hI.cw
    · refine wpOp_of rfl rfl ?_
      have e0 : a'.tmps[110]?.getD undef = .bool false := (hI.at (k := 0) (j := 0) hsz rfl (by omega) (hall ⟨0, .data⟩ (by simp) rfl)).eq (by decide)
      simp [Oper.wp, go_sem, e0]
      exact hI.put (i := 1) (j := 1) rfl (by omega) (by decide) (fun _ _ h => h) (VV.of (by decide) rfl) hI.cw
    · refine wpOp_let rfl ((wanted_at (c := false) rfl rfl rfl (show a'.tmps[111]?.getD undef = .bool false from (hI.at (k := 1) (j := 1) hsz rfl (by omega) (hall ⟨1, .guard⟩ (by simp) rfl)).eq (by decide))).trans rfl) ?_
      simp [Oper.wp, go_sem, o16]
      exact hI.put (i := 2) (j := 2) rfl (by omega) (by decide) (fun _ _ h => h) (VV.of (by decide) rfl) hI.cw
    · refine wpOp_let rfl ((wanted_at (c := false) rfl rfl rfl (show a'.tmps[111]?.getD undef = .bool false from (hI.at (k := 1) (j := 1) hsz rfl (by omega) (hall ⟨1, .guard⟩ (by simp) rfl)).eq (by decide))).trans rfl) ?_
      simp [Oper.wp, go_sem, o1]
      exact hI.put (i := 3) (j := 3) rfl (by omega) (by decide) (fun _ _ h => h) (VV.of (by decide) rfl) hI.cw
    · refine wpOp_let rfl ((wanted_at (c := false) rfl rfl rfl (show a'.tmps[111]?.getD undef = .bool false from (hI.at (k := 1) (j := 1) hsz rfl (by omega) (hall ⟨1, .guard⟩ (by simp) rfl)).eq (by decide))).trans rfl) ?_
      have e2 : a'.tmps[112]?.getD undef = .int .i64 j := (hI.at (k := 2) (j := 2) hsz rfl (by omega) (hall ⟨2, .data⟩ (by simp) rfl)).eq (by decide)
      have e3 : a'.tmps[113]?.getD undef = .int .i64 n := (hI.at (k := 3) (j := 3) hsz rfl (by omega) (hall ⟨3, .data⟩ (by simp) rfl)).eq (by decide)
      simp [Oper.wp, go_sem, e2, e3, hjn]
      exact hI.put (i := 4) (j := 4) rfl (by omega) (by decide) (fun _ _ h => h) (VV.of (by decide) rfl) hI.cw
    · refine wpOp_let rfl ((wanted_at (c := false) rfl rfl rfl (show a'.tmps[111]?.getD undef = .bool false from (hI.at (k := 1) (j := 1) hsz rfl (by omega) (hall ⟨1, .guard⟩ (by simp) rfl)).eq (by decide))).trans rfl) ?_
      have e4 : a'.tmps[114]?.getD undef = .bool true := (hI.at (k := 4) (j := 4) hsz rfl (by omega) (hall ⟨4, .data⟩ (by simp) rfl)).eq (by decide)
      simp [Oper.wp, go_sem, e4]
      exact hI.put (i := 5) (j := 5) rfl (by omega) (by decide) (fun _ _ h => h) (VV.of (by decide) rfl) hI.cw
    · refine wpOp_let rfl ((wanted_at (c := true) rfl rfl rfl (show a'.tmps[115]?.getD undef = .bool true from (hI.at (k := 5) (j := 5) hsz rfl (by omega) (hall ⟨5, .guard⟩ (by simp) rfl)).eq (by decide))).trans rfl) ?_
      simp [Oper.wp, go_sem, o6]
      exact hI.put (i := 6) (j := 6) rfl (by omega) (by decide) (fun _ _ h => h) (VV.of (by decide) rfl) hI.cw
    · refine wpOp_let rfl ((wanted_at (c := true) rfl rfl rfl (show a'.tmps[115]?.getD undef = .bool true from (hI.at (k := 5) (j := 5) hsz rfl (by omega) (hall ⟨5, .guard⟩ (by simp) rfl)).eq (by decide))).trans rfl) ?_
      simp [Oper.wp, go_sem, o16]
      exact hI.put (i := 7) (j := 7) rfl (by omega) (by decide) (fun _ _ h => h) (VV.of (by decide) rfl) hI.cw
    · refine wpOp_let rfl ((wanted_at (c := true) rfl rfl rfl (show a'.tmps[115]?.getD undef = .bool true from (hI.at (k := 5) (j := 5) hsz rfl (by omega) (hall ⟨5, .guard⟩ (by simp) rfl)).eq (by decide))).trans rfl) ?_
      have e6 : a'.tmps[116]?.getD undef = .slice (some ⟨g2, 0, none⟩) 12 c2 := (hI.at (k := 6) (j := 6) hsz rfl (by omega) (hall ⟨6, .data⟩ (by simp) rfl)).eq (by decide)
      have e7 : a'.tmps[117]?.getD undef = .int .i64 j := (hI.at (k := 7) (j := 7) hsz rfl (by omega) (hall ⟨7, .data⟩ (by simp) rfl)).eq (by decide)
      simp [Oper.wp, go_sem, e6, e7, hj12]
      exact hI.put (i := 8) (j := 8) rfl (by omega) (by decide) (fun _ _ h => h) (VV.of (by decide) rfl) hI.cw
    · refine wpOp_let rfl ((wanted_at (c := true) rfl rfl rfl (show a'.tmps[115]?.getD undef = .bool true from (hI.at (k := 5) (j := 5) hsz rfl (by omega) (hall ⟨5, .guard⟩ (by simp) rfl)).eq (by decide))).trans rfl) ?_
      have e8 : a'.tmps[118]?.getD undef = .pointer (some ⟨g2, j * 2, none⟩) := (hI.at (k := 8) (j := 8) hsz rfl (by omega) (hall ⟨8, .data⟩ (by simp) rfl)).eq (by decide)
      simp [Oper.wp, go_sem, e8]
      exact hI.put (i := 9) (j := 9) rfl (by omega) (by decide) (fun _ _ h => h) (VV.of (by decide) rfl) hI.cw
    · refine wpOp_let rfl ((wanted_at (c := true) rfl rfl rfl (show a'.tmps[115]?.getD undef = .bool true from (hI.at (k := 5) (j := 5) hsz rfl (by omega) (hall ⟨5, .guard⟩ (by simp) rfl)).eq (by decide))).trans rfl) ?_
      have e9 : a'.tmps[119]?.getD undef = .pointer (some ⟨g2, j * 2, none⟩) := (hI.at (k := 9) (j := 9) hsz rfl (by omega) (hall ⟨9, .data⟩ (by simp) rfl)).eq (by decide)
      simp [Oper.wp, go_sem, e9, z0]
      exact hI.put (i := 10) (j := 10) rfl (by omega) (by decide) (fun _ _ h => h) (VV.of (by decide) rfl) hI.cw
    · refine wpOp_let rfl ((wanted_at (c := true) rfl rfl rfl (show a'.tmps[115]?.getD undef = .bool true from (hI.at (k := 5) (j := 5) hsz rfl (by omega) (hall ⟨5, .guard⟩ (by simp) rfl)).eq (by decide))).trans rfl) ?_
      simp [Oper.wp, go_sem, o12]
      exact hI.put (i := 11) (j := 11) rfl (by omega) (by decide) (fun _ _ h => h) (VV.of (by decide) rfl) hI.cw
    · refine wpOp_let rfl ((wanted_at (c := true) rfl rfl rfl (show a'.tmps[115]?.getD undef = .bool true from (hI.at (k := 5) (j := 5) hsz rfl (by omega) (hall ⟨5, .guard⟩ (by simp) rfl)).eq (by decide))).trans rfl) ?_
      have e11 : a'.tmps[121]?.getD undef = .pointer (some ⟨rb, 3, none⟩) := (hI.at (k := 11) (j := 11) hsz rfl (by omega) (hall ⟨11, .data⟩ (by simp) rfl)).eq (by decide)
      simp [Oper.wp, go_sem, e11, r3]
      exact hI.put (i := 12) (j := 12) rfl (by omega) (by decide) (fun _ _ h => h) (VV.of (by decide) rfl) hI.cw
    · refine wpOp_let rfl ((wanted_at (c := true) rfl rfl rfl (show a'.tmps[115]?.getD undef = .bool true from (hI.at (k := 5) (j := 5) hsz rfl (by omega) (hall ⟨5, .guard⟩ (by simp) rfl)).eq (by decide))).trans rfl) ?_
      have e10 : a'.tmps[120]?.getD undef = .int .i64 mm := (hI.at (k := 10) (j := 10) hsz rfl (by omega) (hall ⟨10, .data⟩ (by simp) rfl)).eq (by decide)
      have e12 : a'.tmps[122]?.getD undef = .int .i64 mm := (hI.at (k := 12) (j := 12) hsz rfl (by omega) (hall ⟨12, .data⟩ (by simp) rfl)).eq (by decide)
      simp [Oper.wp, go_sem, e10, e12]
      exact hI.put (i := 13) (j := 13) rfl (by omega) (by decide) (fun _ _ h => h) (VV.of (by decide) rfl) hI.cw
    · refine wpOp_let rfl ((wanted_at (c := false) rfl rfl rfl (show a'.tmps[111]?.getD undef = .bool false from (hI.at (k := 1) (j := 1) hsz rfl (by omega) (hall ⟨1, .guard⟩ (by simp) rfl)).eq (by decide))).trans rfl) ?_
      have e5 : a'.tmps[115]?.getD undef = .bool true := (hI.at (k := 5) (j := 5) hsz rfl (by omega) (hall ⟨5, .data⟩ (by simp) rfl)).eq (by decide)
      have e13 : a'.tmps[123]?.getD undef = .bool true := (hI.at (k := 13) (j := 13) hsz rfl (by omega) (hall ⟨13, .data⟩ (by simp) rfl)).eq (by decide)
      simp [Oper.wp, go_sem, e5, e13]
      exact hI.put (i := 14) (j := 14) rfl (by omega) (by decide) (fun _ _ h => h) (VV.of (by decide) rfl) hI.cw
    · refine wpOp_let rfl ((wanted_at (c := false) rfl rfl rfl (show a'.tmps[111]?.getD undef = .bool false from (hI.at (k := 1) (j := 1) hsz rfl (by omega) (hall ⟨1, .guard⟩ (by simp) rfl)).eq (by decide))).trans rfl) ?_
      have e14 : a'.tmps[124]?.getD undef = .bool true := (hI.at (k := 14) (j := 14) hsz rfl (by omega) (hall ⟨14, .data⟩ (by simp) rfl)).eq (by decide)
      simp [Oper.wp, go_sem, e14]
      exact hI.put (i := 15) (j := 15) rfl (by omega) (by decide) (fun _ _ h => h) (VV.of (by decide) rfl) hI.cw
    · refine wpOp_let rfl ((wanted_at (c := true) rfl rfl rfl (show a'.tmps[125]?.getD undef = .bool true from (hI.at (k := 15) (j := 15) hsz rfl (by omega) (hall ⟨15, .guard⟩ (by simp) rfl)).eq (by decide))).trans rfl) ?_
      simp [Oper.wp, go_sem, o0]
      exact hI.put (i := 16) (j := 16) rfl (by omega) (by decide) (fun _ _ h => h) (VV.of (by decide) rfl) hI.cw
    · refine wpOp_let rfl ((wanted_at (c := true) rfl rfl rfl (show a'.tmps[125]?.getD undef = .bool true from (hI.at (k := 15) (j := 15) hsz rfl (by omega) (hall ⟨15, .guard⟩ (by simp) rfl)).eq (by decide))).trans rfl) ?_
      simp [Oper.wp, go_sem, o16]
      exact hI.put (i := 17) (j := 17) rfl (by omega) (by decide) (fun _ _ h => h) (VV.of (by decide) rfl) hI.cw
    · refine wpOp_let rfl ((wanted_at (c := true) rfl rfl rfl (show a'.tmps[125]?.getD undef = .bool true from (hI.at (k := 15) (j := 15) hsz rfl (by omega) (hall ⟨15, .guard⟩ (by simp) rfl)).eq (by decide))).trans rfl) ?_
      have e16 : a'.tmps[126]?.getD undef = .slice a len cap := (hI.at (k := 16) (j := 16) hsz rfl (by omega) (hall ⟨16, .data⟩ (by simp) rfl)).eq (by decide)
      have e17 : a'.tmps[127]?.getD undef = .int .i64 j := (hI.at (k := 17) (j := 17) hsz rfl (by omega) (hall ⟨17, .data⟩ (by simp) rfl)).eq (by decide)
      simp [Oper.wp, go_sem, e16, e17]
      refine (PrefixesIn_any a len cap es j W (HE.below hI.cw) HFT (by omega)).mono ?_
      rintro e W' ⟨vl, rfl, ho', hb'⟩
      exact hI.put (i := 18) (j := 18) rfl (by omega) (by decide) (VV.grow hb') (VV.own rfl (ho'.mono hI.cw.size)) (hI.cw.trans (hb'.mono hI.cw.size))
    · refine wpOp_let rfl ((wanted_at (c := true) rfl rfl rfl (show a'.tmps[125]?.getD undef = .bool true from (hI.at (k := 15) (j := 15) hsz rfl (by omega) (hall ⟨15, .guard⟩ (by simp) rfl)).eq (by decide))).trans rfl) ?_
      simp [Oper.wp, go_sem, o11, p0, p1]
      exact hI.put (i := 19) (j := 19) rfl (by omega) (by decide) (fun _ _ h => h) (VV.of (by decide) rfl) hI.cw
    · refine wpOp_let rfl ((wanted_at (c := true) rfl rfl rfl (show a'.tmps[125]?.getD undef = .bool true from (hI.at (k := 15) (j := 15) hsz rfl (by omega) (hall ⟨15, .guard⟩ (by simp) rfl)).eq (by decide))).trans rfl) ?_
      have e19 : a'.tmps[129]?.getD undef = .agg #[.int .i64 k, .int .i64 b] := (hI.at (k := 19) (j := 19) hsz rfl (by omega) (hall ⟨19, .data⟩ (by simp) rfl)).eq (by decide)
      have hP := (hI.at (k := 18) (j := 18) hsz rfl (by omega) (hall ⟨18, .data⟩ (by simp) rfl)).1 rfl rfl
      obtain ⟨pa, pc, ev, hpp, _⟩ := hP.shape (fun p hp => Pl.tP_ok hp)
      have ev : a'.tmps[128]?.getD undef = .slice pa (Pl.tP es j).length pc := ev
      simp [Oper.wp, go_sem, ev, e19]
      refine (hasPrefix_any pa _ pc (Pl.tP es j) k b W hpp).mono ?_
      rintro e W' ⟨rfl, hb'⟩
      rw [HB3]
      exact hI.put (i := 20) (j := 20) rfl (by omega) (by decide) (VV.grow hb') (VV.of (by decide) rfl) (hI.cw.trans (hb'.mono hI.cw.size))
    · refine wpOp_let rfl ((wanted_at (c := false) rfl rfl rfl (show a'.tmps[111]?.getD undef = .bool false from (hI.at (k := 1) (j := 1) hsz rfl (by omega) (hall ⟨1, .guard⟩ (by simp) rfl)).eq (by decide))).trans rfl) ?_
      have e15 : a'.tmps[125]?.getD undef = .bool true := (hI.at (k := 15) (j := 15) hsz rfl (by omega) (hall ⟨15, .data⟩ (by simp) rfl)).eq (by decide)
      have e20 : a'.tmps[130]?.getD undef = .bool b3 := (hI.at (k := 20) (j := 20) hsz rfl (by omega) (hall ⟨20, .data⟩ (by simp) rfl)).eq (by decide)
      simp [Oper.wp, go_sem, e15, e20]
      exact hI.put (i := 21) (j := 21) rfl (by omega) (by decide) (fun _ _ h => h) (VV.of (by decide) rfl) hI.cw
    · refine wpOp_let rfl ((wanted_at (c := false) rfl rfl rfl (show a'.tmps[111]?.getD undef = .bool false from (hI.at (k := 1) (j := 1) hsz rfl (by omega) (hall ⟨1, .guard⟩ (by simp) rfl)).eq (by decide))).trans rfl) ?_
      have e21 : a'.tmps[131]?.getD undef = .bool b3 := (hI.at (k := 21) (j := 21) hsz rfl (by omega) (hall ⟨21, .data⟩ (by simp) rfl)).eq (by decide)
      simp [Oper.wp, go_sem, e21]
      exact hI.put (i := 22) (j := 22) rfl (by omega) (by decide) (fun _ _ h => h) (VV.of (by decide) rfl) hI.cw
    · cases b3 with
      | false =>
        refine wpOp_left rfl ((wanted_at (c := false) rfl rfl rfl (show a'.tmps[132]?.getD undef = .bool false from (hI.at (k := 22) (j := 22) hsz rfl (by omega) (hall ⟨22, .guard⟩ (by simp) rfl)).eq (by decide))).trans rfl) ?_
        exact hI.put (i := 23) (j := 23) rfl (by omega) (by decide) (fun _ _ h => h) (VV.of (by decide) rfl) hI.cw
      | true =>
        refine wpOp_let rfl ((wanted_at (c := true) rfl rfl rfl (show a'.tmps[132]?.getD undef = .bool true from (hI.at (k := 22) (j := 22) hsz rfl (by omega) (hall ⟨22, .guard⟩ (by simp) rfl)).eq (by decide))).trans rfl) ?_
        simp [Oper.wp, go_sem, o6]
        exact hI.put (i := 23) (j := 23) rfl (by omega) (by decide) (fun _ _ h => h) (VV.of (by decide) rfl) hI.cw
    · cases b3 with
      | false =>
        refine wpOp_left rfl ((wanted_at (c := false) rfl rfl rfl (show a'.tmps[132]?.getD undef = .bool false from (hI.at (k := 22) (j := 22) hsz rfl (by omega) (hall ⟨22, .guard⟩ (by simp) rfl)).eq (by decide))).trans rfl) ?_
        exact hI.put (i := 24) (j := 24) rfl (by omega) (by decide) (fun _ _ h => h) (VV.of (by decide) rfl) hI.cw
      | true =>
        refine wpOp_let rfl ((wanted_at (c := true) rfl rfl rfl (show a'.tmps[132]?.getD undef = .bool true from (hI.at (k := 22) (j := 22) hsz rfl (by omega) (hall ⟨22, .guard⟩ (by simp) rfl)).eq (by decide))).trans rfl) ?_
        simp [Oper.wp, go_sem, o16]
        exact hI.put (i := 24) (j := 24) rfl (by omega) (by decide) (fun _ _ h => h) (VV.of (by decide) rfl) hI.cw
    · cases b3 with
      | false =>
        refine wpOp_left rfl ((wanted_at (c := false) rfl rfl rfl (show a'.tmps[132]?.getD undef = .bool false from (hI.at (k := 22) (j := 22) hsz rfl (by omega) (hall ⟨22, .guard⟩ (by simp) rfl)).eq (by decide))).trans rfl) ?_
        exact hI.put (i := 25) (j := 25) rfl (by omega) (by decide) (fun _ _ h => h) (VV.of (by decide) rfl) hI.cw
      | true =>
        refine wpOp_let rfl ((wanted_at (c := true) rfl rfl rfl (show a'.tmps[132]?.getD undef = .bool true from (hI.at (k := 22) (j := 22) hsz rfl (by omega) (hall ⟨22, .guard⟩ (by simp) rfl)).eq (by decide))).trans rfl) ?_
        have e23 : a'.tmps[133]?.getD undef = .slice (some ⟨g2, 0, none⟩) 12 c2 := (hI.at (k := 23) (j := 23) hsz rfl (by omega) (hall ⟨23, .data⟩ (by simp) rfl)).eq (by decide)
        have e24 : a'.tmps[134]?.getD undef = .int .i64 j := (hI.at (k := 24) (j := 24) hsz rfl (by omega) (hall ⟨24, .data⟩ (by simp) rfl)).eq (by decide)
        simp [Oper.wp, go_sem, e23, e24, hj12]
        exact hI.put (i := 25) (j := 25) rfl (by omega) (by decide) (fun _ _ h => h) (VV.of (by decide) rfl) hI.cw
    · cases b3 with
      | false =>
        refine wpOp_left rfl ((wanted_at (c := false) rfl rfl rfl (show a'.tmps[132]?.getD undef = .bool false from (hI.at (k := 22) (j := 22) hsz rfl (by omega) (hall ⟨22, .guard⟩ (by simp) rfl)).eq (by decide))).trans rfl) ?_
        exact hI.put (i := 26) (j := 26) rfl (by omega) (by decide) (fun _ _ h => h) (VV.of (by decide) rfl) hI.cw
      | true =>
        refine wpOp_let rfl ((wanted_at (c := true) rfl rfl rfl (show a'.tmps[132]?.getD undef = .bool true from (hI.at (k := 22) (j := 22) hsz rfl (by omega) (hall ⟨22, .guard⟩ (by simp) rfl)).eq (by decide))).trans rfl) ?_
        have e25 : a'.tmps[135]?.getD undef = .pointer (some ⟨g2, j * 2, none⟩) := (hI.at (k := 25) (j := 25) hsz rfl (by omega) (hall ⟨25, .data⟩ (by simp) rfl)).eq (by decide)
        simp [Oper.wp, go_sem, e25]
        exact hI.put (i := 26) (j := 26) rfl (by omega) (by decide) (fun _ _ h => h) (VV.of (by decide) rfl) hI.cw
    · cases b3 with
      | false =>
        refine wpOp_left rfl ((wanted_at (c := false) rfl rfl rfl (show a'.tmps[132]?.getD undef = .bool false from (hI.at (k := 22) (j := 22) hsz rfl (by omega) (hall ⟨22, .guard⟩ (by simp) rfl)).eq (by decide))).trans rfl) ?_
        exact hI.put (i := 27) (j := 27) rfl (by omega) (by decide) (fun _ _ h => h) (VV.of (by decide) rfl) hI.cw
      | true =>
        refine wpOp_let rfl ((wanted_at (c := true) rfl rfl rfl (show a'.tmps[132]?.getD undef = .bool true from (hI.at (k := 22) (j := 22) hsz rfl (by omega) (hall ⟨22, .guard⟩ (by simp) rfl)).eq (by decide))).trans rfl) ?_
        have e26 : a'.tmps[136]?.getD undef = .pointer (some ⟨g2, j * 2 + 1, none⟩) := (hI.at (k := 26) (j := 26) hsz rfl (by omega) (hall ⟨26, .data⟩ (by simp) rfl)).eq (by decide)
        simp [Oper.wp, go_sem, e26, z1]
        exact hI.put (i := 27) (j := 27) rfl (by omega) (by decide) (fun _ _ h => h) (VV.of (by decide) rfl) hI.cw
    · cases b3 with
      | false =>
        refine wpOp_left rfl ((wanted_at (c := false) rfl rfl rfl (show a'.tmps[132]?.getD undef = .bool false from (hI.at (k := 22) (j := 22) hsz rfl (by omega) (hall ⟨22, .guard⟩ (by simp) rfl)).eq (by decide))).trans rfl) ?_
        exact hI.put (i := 28) (j := 28) rfl (by omega) (by decide) (fun _ _ h => h) (VV.of (by decide) rfl) hI.cw
      | true =>
        refine wpOp_let rfl ((wanted_at (c := true) rfl rfl rfl (show a'.tmps[132]?.getD undef = .bool true from (hI.at (k := 22) (j := 22) hsz rfl (by omega) (hall ⟨22, .guard⟩ (by simp) rfl)).eq (by decide))).trans rfl) ?_
        simp [Oper.wp, go_sem, o14]
        exact hI.put (i := 28) (j := 28) rfl (by omega) (by decide) (fun _ _ h => h) (VV.of (by decide) rfl) hI.cw
    · cases b3 with
      | false =>
        refine wpOp_left rfl ((wanted_at (c := false) rfl rfl rfl (show a'.tmps[132]?.getD undef = .bool false from (hI.at (k := 22) (j := 22) hsz rfl (by omega) (hall ⟨22, .guard⟩ (by simp) rfl)).eq (by decide))).trans rfl) ?_
        exact hI.put (i := 29) (j := 29) rfl (by omega) (by decide) (fun _ _ h => h) (VV.of (by decide) rfl) hI.cw
      | true =>
        refine wpOp_let rfl ((wanted_at (c := true) rfl rfl rfl (show a'.tmps[132]?.getD undef = .bool true from (hI.at (k := 22) (j := 22) hsz rfl (by omega) (hall ⟨22, .guard⟩ (by simp) rfl)).eq (by decide))).trans rfl) ?_
        have e27 : a'.tmps[137]?.getD undef = .slice ah hl ch := (hI.at (k := 27) (j := 27) hsz rfl (by omega) (hall ⟨27, .data⟩ (by simp) rfl)).eq (by decide)
        have e28 : a'.tmps[138]?.getD undef = .int .i64 hh := (hI.at (k := 28) (j := 28) hsz rfl (by omega) (hall ⟨28, .data⟩ (by simp) rfl)).eq (by decide)
        simp [Oper.wp, go_sem, e27, e28]
        refine (hasNode_any ah _ ch (Pl.wH es n j) hh W (HHI.below hI.cw)).mono ?_
        rintro e W' ⟨rfl, hb'⟩
        rw [HB4]
        exact hI.put (i := 29) (j := 29) rfl (by omega) (by decide) (VV.grow hb') (VV.of (by decide) rfl) (hI.cw.trans (hb'.mono hI.cw.size))
    · refine wpOp_let rfl ((wanted_at (c := false) rfl rfl rfl (show a'.tmps[111]?.getD undef = .bool false from (hI.at (k := 1) (j := 1) hsz rfl (by omega) (hall ⟨1, .guard⟩ (by simp) rfl)).eq (by decide))).trans rfl) ?_
      cases b3 with
      | false =>
        have e22 : a'.tmps[132]?.getD undef = .bool false := (hI.at (k := 22) (j := 22) hsz rfl (by omega) (hall ⟨22, .data⟩ (by simp) rfl)).eq (by decide)
        simp [Oper.wp, go_sem, e22]
        exact hI.put (i := 30) (j := 30) rfl (by omega) (by decide) (fun _ _ h => h) (VV.of (by decide) rfl) hI.cw
      | true =>
        have e22 : a'.tmps[132]?.getD undef = .bool true := (hI.at (k := 22) (j := 22) hsz rfl (by omega) (hall ⟨22, .data⟩ (by simp) rfl)).eq (by decide)
        have e29 : a'.tmps[139]?.getD undef = .bool b4 := (hI.at (k := 29) (j := 29) hsz rfl (by omega) (hall ⟨29, .data⟩ (by simp) rfl)).eq (by decide)
        simp [Oper.wp, go_sem, e22, e29]
        exact hI.put (i := 30) (j := 30) rfl (by omega) (by decide) (fun _ _ h => h) (VV.of (by decide) rfl) hI.cw
    · refine wpOp_of rfl rfl ?_
      have e1 : a'.tmps[111]?.getD undef = .bool false := (hI.at (k := 1) (j := 1) hsz rfl (by omega) (hall ⟨1, .data⟩ (by simp) rfl)).eq (by decide)
      have e30 : a'.tmps[140]?.getD undef = .bool (b3 && b4) := (hI.at (k := 30) (j := 30) hsz rfl (by omega) (hall ⟨30, .data⟩ (by simp) rfl)).eq (by decide)
      simp [Oper.wp, go_sem, e1, e30]
      exact hI.put (i := 31) (j := 31) rfl (by omega) (by decide) (fun _ _ h => h) (VV.of (by decide) rfl) hI.cw
    · refine wpOp_of rfl rfl ?_
      have e31 : a'.tmps[141]?.getD undef = .bool (b3 && b4) := (hI.at (k := 31) (j := 31) hsz rfl (by omega) (hall ⟨31, .data⟩ (by simp) rfl)).eq (by decide)
      simp [Oper.wp, go_sem, e31]
      exact hI.last rfl (by omega) (by omega)
  · rintro listed a' W hr hI
    have hal := all_listed (by decide +kernel) hI.ls hr
    obtain ⟨z, xs, hxl, rfl, _, hz⟩ := hI.fr
    rw [if_pos (hal 32 (by decide))] at hz
    subst hz
    exact hQ xs W hxl trivial hI.cw
  · exact RInv2.start hsz (Below.refl _ _).drew
end Go.Proofs.YtmdjbdolegojcaaGreatDoor
/-
  Contract: the document's table (TableOf).
-/
namespace Go.Proofs.YtmdjbdolegojcaaGreatDoor
open Go.RowKit
set_option maxRecDepth 20000

theorem Pl.pairOk_small {x y : Int} (h1 : 0 ≤ x) (h2 : x ≤ 1000) (h3 : 0 ≤ y) (h4 : y ≤ 1000) : Pl.pairOk (x, y) := by
  exact Pl.pairOk_of ⟨by simpa using h1, by simp; omega, by simpa using h3, by simp; omega⟩
theorem bx5_set3 {w : World} {B : Nat} {c0 c1 c2 c3 c4 : Value} {T : TypeId} (h : w.heap[B]? = some (.cells #[c0, c1, c2, c3, c4] T)) (v : Value) : (w.setCell ⟨B, 3, none⟩ v).heap[B]? = some (.cells #[c0, c1, c2, v, c4] T) := by
  have := blockLt h
  simp [World.setCell, Array.getElem?_modify, h]
theorem bx5_set4 {w : World} {B : Nat} {c0 c1 c2 c3 c4 : Value} {T : TypeId} (h : w.heap[B]? = some (.cells #[c0, c1, c2, c3, c4] T)) (v : Value) : (w.setCell ⟨B, 4, none⟩ v).heap[B]? = some (.cells #[c0, c1, c2, c3, v] T) := by
  have := blockLt h
  simp [World.setCell, Array.getElem?_modify, h]
theorem consL {n : Nat} {xs : List Value} (h : xs.length = n + 1) : ∃ x ys, xs = x :: ys ∧ ys.length = n := by
  cases xs with
  | nil => simp at h
  | cons x r => exact ⟨x, r, rfl, by simpa using h⟩
theorem listT5 (xs : List Value) (h : xs.length = 5) : ∃ x0 x1 x2 x3 x4, xs = [x0, x1, x2, x3, x4] := by
  obtain ⟨x0, y0, rfl, h0⟩ := consL h
  obtain ⟨x1, y1, rfl, h1⟩ := consL h0
  obtain ⟨x2, y2, rfl, h2⟩ := consL h1
  obtain ⟨x3, y3, rfl, h3⟩ := consL h2
  obtain ⟨x4, y4, rfl, h4⟩ := consL h3
  obtain rfl := List.length_eq_zero_iff.1 h4
  exact ⟨x0, x1, x2, x3, x4, rfl⟩
theorem listT32 (xs : List Value) (h : xs.length = 32) : ∃ x0 x1 x2 x3 x4 x5 x6 x7 x8 x9 x10 x11 x12 x13 x14 x15 x16 x17 x18 x19 x20 x21 x22 x23 x24 x25 x26 x27 x28 x29 x30 x31, xs = [x0, x1, x2, x3, x4, x5, x6, x7, x8, x9, x10, x11, x12, x13, x14, x15, x16, x17, x18, x19, x20, x21, x22, x23, x24, x25, x26, x27, x28, x29, x30, x31] := by
  obtain ⟨x0, y0, rfl, h0⟩ := consL h
  obtain ⟨x1, y1, rfl, h1⟩ := consL h0
  obtain ⟨x2, y2, rfl, h2⟩ := consL h1
  obtain ⟨x3, y3, rfl, h3⟩ := consL h2
  obtain ⟨x4, y4, rfl, h4⟩ := consL h3
  obtain ⟨x5, y5, rfl, h5⟩ := consL h4
  obtain ⟨x6, y6, rfl, h6⟩ := consL h5
  obtain ⟨x7, y7, rfl, h7⟩ := consL h6
  obtain ⟨x8, y8, rfl, h8⟩ := consL h7
  obtain ⟨x9, y9, rfl, h9⟩ := consL h8
  obtain ⟨x10, y10, rfl, h10⟩ := consL h9
  obtain ⟨x11, y11, rfl, h11⟩ := consL h10
  obtain ⟨x12, y12, rfl, h12⟩ := consL h11
  obtain ⟨x13, y13, rfl, h13⟩ := consL h12
  obtain ⟨x14, y14, rfl, h14⟩ := consL h13
  obtain ⟨x15, y15, rfl, h15⟩ := consL h14
  obtain ⟨x16, y16, rfl, h16⟩ := consL h15
  obtain ⟨x17, y17, rfl, h17⟩ := consL h16
  obtain ⟨x18, y18, rfl, h18⟩ := consL h17
  obtain ⟨x19, y19, rfl, h19⟩ := consL h18
  obtain ⟨x20, y20, rfl, h20⟩ := consL h19
  obtain ⟨x21, y21, rfl, h21⟩ := consL h20
  obtain ⟨x22, y22, rfl, h22⟩ := consL h21
  obtain ⟨x23, y23, rfl, h23⟩ := consL h22
  obtain ⟨x24, y24, rfl, h24⟩ := consL h23
  obtain ⟨x25, y25, rfl, h25⟩ := consL h24
  obtain ⟨x26, y26, rfl, h26⟩ := consL h25
  obtain ⟨x27, y27, rfl, h27⟩ := consL h26
  obtain ⟨x28, y28, rfl, h28⟩ := consL h27
  obtain ⟨x29, y29, rfl, h29⟩ := consL h28
  obtain ⟨x30, y30, rfl, h30⟩ := consL h29
  obtain ⟨x31, y31, rfl, h31⟩ := consL h30
  obtain rfl := List.length_eq_zero_iff.1 h31
  exact ⟨x0, x1, x2, x3, x4, x5, x6, x7, x8, x9, x10, x11, x12, x13, x14, x15, x16, x17, x18, x19, x20, x21, x22, x23, x24, x25, x26, x27, x28, x29, x30, x31, rfl⟩
theorem listT33 (xs : List Value) (h : xs.length = 33) : ∃ x0 x1 x2 x3 x4 x5 x6 x7 x8 x9 x10 x11 x12 x13 x14 x15 x16 x17 x18 x19 x20 x21 x22 x23 x24 x25 x26 x27 x28 x29 x30 x31 x32, xs = [x0, x1, x2, x3, x4, x5, x6, x7, x8, x9, x10, x11, x12, x13, x14, x15, x16, x17, x18, x19, x20, x21, x22, x23, x24, x25, x26, x27, x28, x29, x30, x31, x32] := by
  obtain ⟨x0, y0, rfl, h0⟩ := consL h
  obtain ⟨x1, y1, rfl, h1⟩ := consL h0
  obtain ⟨x2, y2, rfl, h2⟩ := consL h1
  obtain ⟨x3, y3, rfl, h3⟩ := consL h2
  obtain ⟨x4, y4, rfl, h4⟩ := consL h3
  obtain ⟨x5, y5, rfl, h5⟩ := consL h4
  obtain ⟨x6, y6, rfl, h6⟩ := consL h5
  obtain ⟨x7, y7, rfl, h7⟩ := consL h6
  obtain ⟨x8, y8, rfl, h8⟩ := consL h7
  obtain ⟨x9, y9, rfl, h9⟩ := consL h8
  obtain ⟨x10, y10, rfl, h10⟩ := consL h9
  obtain ⟨x11, y11, rfl, h11⟩ := consL h10
  obtain ⟨x12, y12, rfl, h12⟩ := consL h11
  obtain ⟨x13, y13, rfl, h13⟩ := consL h12
  obtain ⟨x14, y14, rfl, h14⟩ := consL h13
  obtain ⟨x15, y15, rfl, h15⟩ := consL h14
  obtain ⟨x16, y16, rfl, h16⟩ := consL h15
  obtain ⟨x17, y17, rfl, h17⟩ := consL h16
  obtain ⟨x18, y18, rfl, h18⟩ := consL h17
  obtain ⟨x19, y19, rfl, h19⟩ := consL h18
  obtain ⟨x20, y20, rfl, h20⟩ := consL h19
  obtain ⟨x21, y21, rfl, h21⟩ := consL h20
  obtain ⟨x22, y22, rfl, h22⟩ := consL h21
  obtain ⟨x23, y23, rfl, h23⟩ := consL h22
  obtain ⟨x24, y24, rfl, h24⟩ := consL h23
  obtain ⟨x25, y25, rfl, h25⟩ := consL h24
  obtain ⟨x26, y26, rfl, h26⟩ := consL h25
  obtain ⟨x27, y27, rfl, h27⟩ := consL h26
  obtain ⟨x28, y28, rfl, h28⟩ := consL h27
  obtain ⟨x29, y29, rfl, h29⟩ := consL h28
  obtain ⟨x30, y30, rfl, h30⟩ := consL h29
  obtain ⟨x31, y31, rfl, h31⟩ := consL h30
  obtain ⟨x32, y32, rfl, h32⟩ := consL h31
  obtain rfl := List.length_eq_zero_iff.1 h32
  exact ⟨x0, x1, x2, x3, x4, x5, x6, x7, x8, x9, x10, x11, x12, x13, x14, x15, x16, x17, x18, x19, x20, x21, x22, x23, x24, x25, x26, x27, x28, x29, x30, x31, x32, rfl⟩

set_option maxHeartbeats 16000000 in
theorem TableOf_any (a : Option Addr) (len cap : Nat) (es : List Pl.Ent) (f : Int) (w : World) (h : IsEnts w a len cap es) :
    Calls Tryz.prog 5 #[.slice a len cap, .int .i64 f] w fun e w' => ∃ v hs, e = .returned (.tuple #[v, .int .i64 (Pl.wayC es f)]) ∧ OwnTb w' w.heap.size v hs (Pl.tabA es f) ∧ Below w.heap.size w w' := by
  have HE := hid h
  clear h
  obtain ⟨cd, HCD⟩ : ∃ x, Hid (Pl.wayC es f = x) := ⟨_, hid rfl⟩
  rw [HCD.out]
  go_enter Tryz.func5, Tryz.ntmps5
  go_wp2_with fail
  refine (WaysOf_any a len cap es f w HE.out).mono ?_
  rw [HCD.out]
  rintro e w2 ⟨v2, ts, rfl, ho2, hf2, hb2⟩
  have HB2 := hid hb2
  by_cases hcd : cd = 0
  · subst hcd
    have HFT : Hid (Pl.fault es = 0) := hid (by
      have := HCD.out
      unfold Pl.wayC at this
      split at this
      · rename_i h; exact absurd this h
      · rename_i h; exact Classical.not_not.1 h)
    have hfr : 0 ≤ f ∧ f ≤ 11 := by
      have := HCD.out
      unfold Pl.wayC at this
      split at this
      · rename_i h; exact absurd this h
      · split at this
        · assumption
        · cases this
    obtain ⟨n, rfl⟩ : ∃ n : Nat, f = n := ⟨f.toNat, by omega⟩
    have hn : n < 12 := by omega
    have HTA : Hid (Pl.tabA es (n : Int) = Pl.rA es n 256) := hid (by unfold Pl.tabA; rw [HCD.out, if_pos rfl, Int.toNat_natCast, Pl.rA_all es hn])
    obtain ⟨g2, c2, rfl, hc2, hm2, ha2⟩ := ho2.at12 (hf2.trans (Pl.ways_same es _).symm) HCD.out
    unfold maxLen at hm2
    have HW2 := hid ha2
    have HE2 := hid (HE.out.below hb2)
    have hg2 := ha2.1
    clear ho2 hf2 hb2 ha2 hfr
    go_wp2_with fail
    go_loopw [8, 9] (fun v i wr => ∃ (k : Nat) (hs : List Pl.RH), k ≤ 256 ∧ i = .int .i64 k ∧ Hid (OwnTb wr w2.heap.size v hs (Pl.rA es n k)) ∧ Hid (Below w2.heap.size w2 wr)) (fun _ i _ => 256 - (intOf i).toNat)
    case atStart => exact ⟨0, [], by omega, rfl, hid (OwnTb.nil _ _), hid (Below.refl _ _)⟩
    case round =>
      obtain ⟨k, hs, hk, rfl, HO, HB⟩ := hrel
      by_cases hlt : k < 256
      · have hltd : decide ((k : Int) ≤ 255) = true := by simp; omega
        go_wp2_with fail
        go_loopw [8, 10] (fun vl i wr => ∃ (b : Nat) (v : Value) (hs : List Pl.RH), v = vl ∧ b ≤ 9 ∧ i = .int .i64 b ∧ Hid (OwnTb wr w2.heap.size v hs (Pl.rA es n k ++ Pl.rB es n k b)) ∧ Hid (Below w2.heap.size w2 wr)) (fun _ i _ => 9 - (intOf i).toNat)
        case atStart => exact ⟨0, _, hs, rfl, by omega, rfl, hid (by rw [show Pl.rB es n k 0 = [] from rfl, List.append_nil]; exact HO.out), HB⟩
        case round =>
          clear HO HB hs
          obtain ⟨b, v, hs, hvl, hbk, rfl, HO, HB⟩ := hrel
          subst hvl
          have hzr := HB.out.size
          by_cases hblt : b < 9
          · have hbd : decide ((b : Int) ≤ 8) = true := by simp; omega
            obtain ⟨sp, HSP⟩ : ∃ s, Hid (Pl.span (b : Int) = s) := ⟨_, hid rfl⟩
            have hsp := Pl.span_pos (b := (b : Int)) (by omega)
            have HCS := hid (fun W => spanOf_any (b : Int) W (by omega))
            rw [HSP.out] at hsp HCS
            have htm : (k : Int).tmod sp = (k : Int) % sp := Int.tmod_eq_emod_of_nonneg (by omega)
            have hs0 : (sp == 0) = false := by simp; omega
            obtain ⟨rm, HRM⟩ : ∃ c, Hid ((k : Int) % sp = c) := ⟨_, hid rfl⟩
            rw [HRM.out] at htm
            have HRX : Hid (Pl.rX es n k b = if rm = 0 then (Pl.rRt (Pl.wC es n) (Pl.wH es n) (Pl.tP es) n ((k : Int), (b : Int))).toList else []) := hid (by unfold Pl.rX; rw [HSP.out, HRM.out])
            have HST : Hid (Pl.rA es n k ++ Pl.rB es n k (b + 1) = (Pl.rA es n k ++ Pl.rB es n k b) ++ Pl.rX es n k b) := hid (by rw [List.append_assoc]; rfl)
            obtain ⟨W1, HW1⟩ : ∃ W1, Hid (W1 = wr.alloc (.cells #[.int .i64 k, .int .i64 b] 38)) := ⟨_, hid rfl⟩
            have HBX : Hid (W1.heap[wr.heap.size]? = some (.cells #[.int .i64 k, .int .i64 b] 38)) := hid (by rw [HW1.out]; exact heapNewZ wr _)
            have HB1 : Hid (Below wr.heap.size wr W1) := hid (by rw [HW1.out]; exact (Below.refl _ _).alloc (Nat.le_refl _) _)
            have HB21 : Hid (Below w2.heap.size w2 W1) := hid (HB.out.trans (HB1.out.mono hzr))
            by_cases hrm : rm = 0
            · have hrmb : (rm != 0) = false := by simp [hrm]
              go_wp2_with (go_at_call 11; refine (HCS.out _).mono ?_; rintro e w' ⟨rfl, hw'⟩; rw [hw']; clear hw' w')
              rw [← HW1.out]
              obtain ⟨P0, P1, hpl⟩ : Hid (W1.cell? ⟨wr.heap.size, 0, none⟩ = some (.int .i64 k)) ∧ Hid (W1.cell? ⟨wr.heap.size, 1, none⟩ = some (.int .i64 b)) ∧ wr.heap.size < W1.heap.size := by
                have := adjAt_cells HBX.out
                exact ⟨hid this.1, hid this.2.1, this.2.2.2.2⟩
              obtain ⟨R, HR⟩ : ∃ R, Hid (decide (((k : Int), (b : Int)) ∈ Pl.tP es n) = R) := ⟨_, hid rfl⟩
              refine tof13 (n := n) (k := k) (b := b) (pb := wr.heap.size) (R := R) rfl rfl rfl rfl (HE2.out.below HB21.out) HFT.out hn hpl P0.out P1.out HR.out ?_ _ (by kernel_rfl)
              · intro xs Wq hxl hx hbq
                rename_i K hK
                obtain ⟨x0, x1, x2, x3, x4, rfl⟩ := listT5 xs hxl
                have hx : x4 = .bool R := hx
                subst hx
                have HBq := hid hbq
                clear hbq hxl
                go_setlit
                refine hK _ Wq ?_
                have HB2q : Hid (Below w2.heap.size w2 Wq) := hid (HB21.out.trans (HBq.out.mono HB21.out.size))
                have HOq := hid ((HO.out.below HB1.out).below HBq.out)
                have p0 := (HBq.out.cell (p := ⟨wr.heap.size, 0, none⟩) hpl).trans P0.out
                have p1 := (HBq.out.cell (p := ⟨wr.heap.size, 1, none⟩) hpl).trans P1.out
                have hplq : wr.heap.size < Wq.heap.size := Nat.lt_of_lt_of_le hpl HBq.out.size
                have hsq := HB2q.out.size
                have HPOK : Hid (Pl.pairOk ((k : Int), (b : Int))) := hid (Pl.pairOk_small (by omega) (by omega) (by omega) (by omega))
                have HLEN : Hid (hs.length ≤ 4000) := hid (by
                  rw [HO.out.2.1, List.length_append]
                  have := (Pl.rA_srt (es := es) hn k).2
                  have := (Pl.rB_srt (es := es) hn k b).2
                  omega)
                cases R with
                | true =>
                  have HXX : Hid (Pl.rX es n k b = [⟨((k : Int), (b : Int)), true, 0, []⟩]) := hid (by
                    rw [HRX.out, if_pos hrm]
                    unfold Pl.rRt
                    rw [if_pos (of_decide_eq_true HR.out)]
                    rfl)
                  go_wp2_with (at_builtin; refine append_rt rfl (.tmp 47) (.tmp 50) rfl w2.heap.size v hs ⟨((k : Int), (b : Int)), true, 0, none, 0, 0⟩ rfl HOq.out.1 hsq rfl (by have := HLEN.out; omega) ?_; intro v5 w5 ho5 hg5 hb5; have HO5 := hid (HOq.out.snoc (r := ⟨((k : Int), (b : Int)), true, 0, []⟩) ⟨rfl, rfl, rfl, OwnZ.nil _ _, HPOK.out⟩ ho5 hg5); have HB5 := hid hb5; clear ho5 hg5 hb5)
                  go_roundw
                  case rel => exact ⟨b + 1, _, _, rfl, by omega, by go_num, hid (by rw [HST.out, HXX.out]; exact HO5.out), hid (HB2q.out.trans HB5.out)⟩
                  case measure => simp [intOf]; omega
                | false =>
                  have HRRT : Hid (Pl.rX es n k b = if Pl.rMin (Pl.wC es n) (Pl.tP es) n ((k : Int), (b : Int)) 12 < 0 then [] else [⟨((k : Int), (b : Int)), false, Pl.rMin (Pl.wC es n) (Pl.tP es) n ((k : Int), (b : Int)) 12, Pl.hopsL (fun h => Pl.rThere (Pl.wC es n) (Pl.wH es n) (Pl.tP es) n ((k : Int), (b : Int)) (Pl.rMin (Pl.wC es n) (Pl.tP es) n ((k : Int), (b : Int)) 12) (h : Int) 12) 12⟩]) := hid (by
                    rw [HRX.out, if_pos hrm]
                    unfold Pl.rRt
                    rw [if_neg (of_decide_eq_false HR.out)]
                    split
                    · rfl
                    · rfl)
                  go_wp2_with fail
                  generalize wr.heap.size = pb at *
                  go_loopw [13] (fun i wj => ∃ j : Nat, j ≤ 12 ∧ i = .int .i64 j ∧ Hid (wj.heap[Wq.heap.size]? = some (.cells #[.int .i64 k, .int .i64 b, .bool false, .int .i64 (Pl.rMin (Pl.wC es n) (Pl.tP es) n ((k : Int), (b : Int)) j), .slice none 0 0] 41)) ∧ Hid (Below Wq.heap.size Wq wj)) (fun i _ => 12 - (intOf i).toNat)
                  case atStart => exact ⟨0, by omega, rfl, hid (heapNewZ _ _), hid ((Below.refl _ _).alloc (Nat.le_refl _) _)⟩
                  case round =>
                    obtain ⟨j, hj, rfl, HX, HBj⟩ := hrel
                    rename World => wj
                    have HBj2 : Hid (Below w2.heap.size w2 wj) := hid (HB2q.out.trans (HBj.out.mono hsq))
                    obtain ⟨mm, HMM⟩ : ∃ m, Hid (Pl.rMin (Pl.wC es n) (Pl.tP es) n ((k : Int), (b : Int)) j = m) := ⟨_, hid rfl⟩
                    rw [HMM.out] at HX
                    obtain ⟨⟨_, _, _, r3, _⟩, rf, hrbj⟩ := bx5 HX.out
                    have R3 := hid r3
                    have RF := hid rf
                    have hg2j : g2 < wj.heap.size := Nat.lt_of_lt_of_le hg2 HBj2.out.size
                    have hplj : pb < wj.heap.size := Nat.lt_of_lt_of_le hplq HBj.out.size
                    have P0j := hid ((HBj.out.cell (p := ⟨pb, 0, none⟩) hplq).trans p0)
                    have P1j := hid ((HBj.out.cell (p := ⟨pb, 1, none⟩) hplq).trans p1)
                    by_cases hj12n : j < 12
                    · have hj12 : (j : Int) < 12 := by omega
                      obtain ⟨c, HC⟩ : ∃ c, Hid (Pl.wC es n j = c) := ⟨_, hid rfl⟩
                      have Z0 : Hid (wj.cell? ⟨g2, j * 2, none⟩ = some (.int .i64 c)) := hid (by rw [← HC.out]; exact (HBj2.out.cell (p := ⟨g2, j * 2, none⟩) hg2).trans (HW2.out.2 j hj12n).1)
                      have HNX : Hid (Pl.rMin (Pl.wC es n) (Pl.tP es) n ((k : Int), (b : Int)) (j + 1) = if j ≠ n ∧ 0 ≤ c ∧ ((k : Int), (b : Int)) ∈ Pl.tP es j ∧ (mm < 0 ∨ c < mm) then c else mm) := hid (by rw [← HMM.out, ← HC.out]; rfl)
                      clear r3 rf
                      by_cases hjn : j = n
                      · have hjnb : ((j : Int) != (n : Int)) = false := by simp [hjn]
                        have HS : Hid (Pl.rMin (Pl.wC es n) (Pl.tP es) n ((k : Int), (b : Int)) (j + 1) = mm) := hid (by rw [HNX.out, if_neg (fun h => h.1 hjn)])
                        clear hjn
                        go_wp2_with fail
                        go_quiet (fail)
                        go_wp2_with fail
                        go_roundw
                        case rel => exact ⟨j + 1, by omega, by go_num, hid (by rw [HS.out]; exact HX.out), hid (below_drew HBj.out _)⟩
                        case measure => simp [intOf]; omega
                      · by_cases hc0 : 0 ≤ c
                        · obtain ⟨b3, HB3⟩ : ∃ x, Hid (decide (((k : Int), (b : Int)) ∈ Pl.tP es j) = x) := ⟨_, hid rfl⟩
                          obtain ⟨b4, hb4⟩ : ∃ x, decide (mm < 0) = x := ⟨_, rfl⟩
                          obtain ⟨b5, hb5⟩ : ∃ x, decide (c < mm) = x := ⟨_, rfl⟩
                          have HS : Hid (Pl.rMin (Pl.wC es n) (Pl.tP es) n ((k : Int), (b : Int)) (j + 1) = if (b3 && (b4 || b5)) = true then c else mm) := hid (by
                            rw [HNX.out, ← HB3.out, ← hb4, ← hb5]
                            congr 1
                            simp [hjn, hc0])
                          go_wp2_with fail
                          refine tof19 (n := n) (k := k) (b := b) (pb := pb) (j := j) (g2 := g2) (c2 := c2) (rb := Wq.heap.size) (c := c) (mm := mm) (b3 := b3) (b4 := b4) (b5 := b5) rfl rfl rfl rfl rfl rfl rfl (HE2.out.below HBj2.out) HFT.out hplj hg2j hrbj P0j.out P1j.out R3.out hj12 (by simp; omega) Z0.out hc0 HB3.out hb4 hb5 ?_ _ (by kernel_rfl)
                          · intro xs W hxl hx hbw
                            rename_i K hK
                            obtain ⟨x0, x1, x2, x3, x4, x5, x6, x7, x8, x9, x10, x11, x12, x13, x14, x15, x16, x17, x18, x19, x20, x21, x22, x23, x24, x25, x26, x27, x28, x29, x30, x31, x32, rfl⟩ := listT33 xs hxl
                            have hx : x32 = .bool (b3 && (b4 || b5)) := hx
                            subst hx
                            have HBW := hid hbw
                            clear hbw hxl
                            go_setlit
                            refine hK _ W ?_
                            have HXW := hid ((HBW.out.block _ hrbj).trans HX.out)
                            have HBW2 := hid (HBj.out.trans (HBW.out.mono HBj.out.size))
                            generalize (b3 && (b4 || b5)) = res at *
                            cases res with
                            | true =>
                              have z0 := (HBW.out.cell (p := ⟨g2, j * 2, none⟩) hg2j).trans Z0.out
                              obtain ⟨⟨_, _, _, r3, _⟩, rf, hrbw⟩ := bx5 HXW.out
                              clear hb4 hb5 hc0
                              go_wp2_with fail
                              go_roundw
                              case rel => exact ⟨j + 1, by omega, by go_num, hid (by rw [HS.out]; exact bx5_set3 HXW.out _), hid (HBW2.out.setCell (p := ⟨Wq.heap.size, 3, none⟩) (Nat.le_refl _) _)⟩
                              case measure => simp [intOf]; omega
                            | false =>
                              clear hb4 hb5 hc0
                              go_wp2_with fail
                              go_roundw
                              case rel => exact ⟨j + 1, by omega, by go_num, hid (by rw [HS.out]; exact HXW.out), HBW2⟩
                              case measure => simp [intOf]; omega
                        · have hc0b : decide (0 ≤ c) = false := by simpa using hc0
                          have hjnb : ((j : Int) != (n : Int)) = true := by simp; omega
                          have z0 := Z0.out
                          have HS : Hid (Pl.rMin (Pl.wC es n) (Pl.tP es) n ((k : Int), (b : Int)) (j + 1) = mm) := hid (by rw [HNX.out, if_neg (fun h => hc0 h.2.1)])
                          clear hc0 hjn
                          go_wp2_with fail
                          go_quiet (fail)
                          go_wp2_with fail
                          go_roundw
                          case rel => exact ⟨j + 1, by omega, by go_num, hid (by rw [HS.out]; exact HX.out), hid (below_drew HBj.out _)⟩
                          case measure => simp [intOf]; omega
                    · obtain rfl : j = 12 := by omega
                      obtain ⟨HF, HHF⟩ : ∃ g : Nat → Bool, Hid (∀ h : Nat, Pl.rThere (Pl.wC es n) (Pl.wH es n) (Pl.tP es) n ((k : Int), (b : Int)) mm (h : Int) 12 = g h) := ⟨fun h => Pl.rThere (Pl.wC es n) (Pl.wH es n) (Pl.tP es) n ((k : Int), (b : Int)) mm (h : Int) 12, hid fun _ => rfl⟩
                      have HEQ : Hid (Pl.rX es n k b = if mm < 0 then [] else [⟨((k : Int), (b : Int)), false, mm, Pl.hopsL HF 12⟩]) := hid (by rw [HRRT.out, HMM.out, show (fun h : Nat => Pl.rThere (Pl.wC es n) (Pl.wH es n) (Pl.tP es) n ((k : Int), (b : Int)) mm (h : Int) 12) = HF from funext HHF.out])
                      clear r3 rf
                      go_wp2_with fail
                      go_loopw [14] (fun i wh => ∃ (hh : Nat) (hv : Value), hh ≤ 12 ∧ i = .int .i64 hh ∧ Hid (mm < 0 → hh = 0) ∧ Hid (wh.heap[Wq.heap.size]? = some (.cells #[.int .i64 k, .int .i64 b, .bool false, .int .i64 mm, hv] 41)) ∧ Hid (OwnI wh (Wq.heap.size + 1) hv (Pl.hopsL HF hh)) ∧ Hid (Below Wq.heap.size Wq wh)) (fun i _ => 12 - (intOf i).toNat)
                      case atStart => exact ⟨0, _, by omega, rfl, hid (fun _ => rfl), HX, hid (OwnI.nil _ _), HBj⟩
                      case round =>
                        clear HX HBj HBj2 R3 RF P0j P1j hg2j hplj hrbj HMM HRRT
                        obtain ⟨hh, hv, hhl, rfl, HNEG, HXh, HI, HBh⟩ := hrel
                        rename World => wh
                        have HBh2 : Hid (Below w2.heap.size w2 wh) := hid (HB2q.out.trans (HBh.out.mono hsq))
                        have hlen := Pl.hopsL_len HF hh
                        obtain ⟨a3, cap3, rfl⟩ := HI.out.slice
                        obtain ⟨n3, HN3⟩ : ∃ n, Hid ((Pl.hopsL HF hh).length = n) := ⟨_, hid rfl⟩
                        rw [HN3.out] at HXh HI hlen
                        obtain ⟨⟨y0, y1, y2, y3, y4⟩, yf, hyl⟩ := bx5 HXh.out
                        have hsh := HBh.out.size
                        by_cases hmm : mm < 0
                        · obtain rfl : hh = 0 := HNEG.out hmm
                          have hmmb : decide (0 ≤ mm) = false := by simp; omega
                          have HEQ0 : Hid (Pl.rX es n k b = []) := hid (by rw [HEQ.out, if_pos hmm])
                          clear hmm
                          go_wp2_with fail
                          go_roundw
                          case rel => exact ⟨b + 1, _, hs, rfl, by omega, by go_num, hid (by rw [HST.out, HEQ0.out, List.append_nil]; exact HOq.out.below HBh.out), HBh2⟩
                          case measure => simp [intOf]; omega
                        · have hmmb : decide (0 ≤ mm) = true := by simp; omega
                          by_cases hh12 : hh < 12
                          · have hh12' : (hh : Int) < 12 := by omega
                            clear y0 y1 y2 y4
                            go_wp2_with fail
                            go_loopw [15, 16] (fun t i wj => ∃ (j : Nat) (tb : Bool), j ≤ 12 ∧ t = .bool tb ∧ i = .int .i64 j ∧ Hid (Pl.rThere (Pl.wC es n) (Pl.wH es n) (Pl.tP es) n ((k : Int), (b : Int)) mm (hh : Int) j = tb) ∧ Hid (Below wh.heap.size wh wj)) (fun _ i _ => 12 - (intOf i).toNat)
                            case atStart => exact ⟨0, false, by omega, rfl, rfl, hid rfl, hid (Below.refl _ _)⟩
                            case round =>
                              obtain ⟨j, tb, hj, rfl, rfl, HTB, HBz⟩ := hrel
                              rename World => wj
                              have HBjq : Hid (Below Wq.heap.size Wq wj) := hid (HBh.out.trans (HBz.out.mono hsh))
                              have HBj2 : Hid (Below w2.heap.size w2 wj) := hid (HBh2.out.trans (HBz.out.mono HBh2.out.size))
                              have HXj := hid ((HBz.out.block _ hyl).trans HXh.out)
                              obtain ⟨⟨_, _, _, r3, r4⟩, rf, hrbj⟩ := bx5 HXj.out
                              have R3 := hid r3
                              have hg2j : g2 < wj.heap.size := Nat.lt_of_lt_of_le hg2 HBj2.out.size
                              have hplj : pb < wj.heap.size := Nat.lt_of_lt_of_le hplq HBjq.out.size
                              have P0j := hid ((HBjq.out.cell (p := ⟨pb, 0, none⟩) hplq).trans p0)
                              have P1j := hid ((HBjq.out.cell (p := ⟨pb, 1, none⟩) hplq).trans p1)
                              by_cases hj12n : j < 12
                              · have hj12 : (j : Int) < 12 := by omega
                                obtain ⟨c, HC⟩ : ∃ c, Hid (Pl.wC es n j = c) := ⟨_, hid rfl⟩
                                have Z0 : Hid (wj.cell? ⟨g2, j * 2, none⟩ = some (.int .i64 c)) := hid (by rw [← HC.out]; exact (HBj2.out.cell (p := ⟨g2, j * 2, none⟩) hg2).trans (HW2.out.2 j hj12n).1)
                                have HNX : Hid (Pl.rThere (Pl.wC es n) (Pl.wH es n) (Pl.tP es) n ((k : Int), (b : Int)) mm (hh : Int) (j + 1) = (tb || (decide (j ≠ n) && decide (c = mm) && decide (((k : Int), (b : Int)) ∈ Pl.tP es j) && decide ((hh : Int) ∈ Pl.wH es n j)))) := hid (by rw [← HTB.out, ← HC.out]; rfl)
                                clear r4 rf
                                cases tb with
                                | true =>
                                  have HS : Hid (Pl.rThere (Pl.wC es n) (Pl.wH es n) (Pl.tP es) n ((k : Int), (b : Int)) mm (hh : Int) (j + 1) = true) := hid (by rw [HNX.out]; rfl)
                                  go_wp2_with fail
                                  go_quiet (fail)
                                  go_wp2_with fail
                                  go_roundw
                                  case rel => exact ⟨j + 1, true, by omega, rfl, by go_num, HS, hid (below_drew HBz.out _)⟩
                                  case measure => simp [intOf]; omega
                                | false =>
                                  by_cases hjn : j = n
                                  · have hjnb : ((j : Int) != (n : Int)) = false := by simp [hjn]
                                    have HS : Hid (Pl.rThere (Pl.wC es n) (Pl.wH es n) (Pl.tP es) n ((k : Int), (b : Int)) mm (hh : Int) (j + 1) = false) := hid (by rw [HNX.out]; simp [hjn])
                                    clear hjn
                                    go_wp2_with fail
                                    go_quiet (fail)
                                    go_wp2_with fail
                                    go_roundw
                                    case rel => exact ⟨j + 1, false, by omega, rfl, by go_num, HS, hid (below_drew HBz.out _)⟩
                                    case measure => simp [intOf]; omega
                                  · by_cases hcm : mm = c
                                    · subst hcm
                                      obtain ⟨b3, HB3⟩ : ∃ x, Hid (decide (((k : Int), (b : Int)) ∈ Pl.tP es j) = x) := ⟨_, hid rfl⟩
                                      obtain ⟨b4, HB4⟩ : ∃ x, Hid (decide ((hh : Int) ∈ Pl.wH es n j) = x) := ⟨_, hid rfl⟩
                                      have HS : Hid (Pl.rThere (Pl.wC es n) (Pl.wH es n) (Pl.tP es) n ((k : Int), (b : Int)) mm (hh : Int) (j + 1) = (b3 && b4)) := hid (by rw [HNX.out, HB3.out, HB4.out]; simp [hjn])
                                      obtain ⟨ah, ch, Z1', HZI'⟩ := (HW2.out.2 j hj12n).2
                                      obtain ⟨hl, HHL⟩ : ∃ m, Hid ((Pl.wH es n j).length = m) := ⟨_, hid rfl⟩
                                      rw [HHL.out] at Z1' HZI'
                                      have Z1 := hid ((HBj2.out.cell (p := ⟨g2, j * 2 + 1, none⟩) hg2).trans Z1')
                                      have HHI := hid (HZI'.below HBj2.out)
                                      clear Z1' HZI'
                                      go_wp2_with fail
                                      refine tof28 (n := n) (k := k) (b := b) (pb := pb) (j := j) (g2 := g2) (c2 := c2) (rb := Wq.heap.size) (hh := hh) (hl := hl) (ch := ch) (ah := ah) (mm := mm) (b3 := b3) (b4 := b4) rfl rfl rfl rfl rfl rfl rfl rfl rfl (HE2.out.below HBj2.out) HFT.out hplj hg2j hrbj P0j.out P1j.out R3.out hj12 (by simp; omega) Z0.out Z1.out HHI.out HB3.out HB4.out ?_ _ (by kernel_rfl)
                                      · intro xs W hxl hTr hbw
                                        rename_i K hK
                                        obtain ⟨x0, x1, x2, x3, x4, x5, x6, x7, x8, x9, x10, x11, x12, x13, x14, x15, x16, x17, x18, x19, x20, x21, x22, x23, x24, x25, x26, x27, x28, x29, x30, x31, rfl⟩ := listT32 xs hxl
                                        have HBW := hid hbw
                                        clear hbw hxl hTr
                                        go_setlit
                                        refine hK _ W ?_
                                        go_wp2_with fail
                                        go_roundw
                                        case rel => exact ⟨j + 1, _, by omega, rfl, by go_num, HS, hid (HBz.out.trans (HBW.out.mono HBz.out.size))⟩
                                        case measure => simp [intOf]; omega
                                    · have hcmb : (c == mm) = false := by simp; omega
                                      have hjnb : ((j : Int) != (n : Int)) = true := by simp; omega
                                      have z0 := Z0.out
                                      have HS : Hid (Pl.rThere (Pl.wC es n) (Pl.wH es n) (Pl.tP es) n ((k : Int), (b : Int)) mm (hh : Int) (j + 1) = false) := hid (by rw [HNX.out, show decide (c = mm) = false by simp; omega]; simp)
                                      clear hcm hjn
                                      go_wp2_with fail
                                      go_quiet (fail)
                                      go_wp2_with fail
                                      go_roundw
                                      case rel => exact ⟨j + 1, false, by omega, rfl, by go_num, HS, hid (below_drew HBz.out _)⟩
                                      case measure => simp [intOf]; omega
                              · obtain rfl : j = 12 := by omega
                                have HFB : Hid (HF hh = tb) := hid (by rw [← HHF.out, HTB.out])
                                have HIj := hid (HI.out.below HBz.out)
                                have hszj := HBz.out.size
                                cases tb with
                                | true =>
                                  have HNXT := hid (Pl.hopsL_on HFB.out)
                                  clear r3
                                  go_wp2_with (at_builtin; refine append_intT Tryz.underlying32 rfl (.tmp 144) (.tmp 146) rfl (Wq.heap.size + 1) (.slice a3 n3 cap3) (Pl.hopsL HF hh) hh rfl HIj.out (by omega) rfl (by have := HN3.out; omega) ?_; intro v5 w5 ho5 hb5; obtain ⟨a5, cap5, rfl⟩ := ho5.slice; obtain ⟨n5, HN5⟩ : ∃ n, Hid ((Pl.hopsL HF hh ++ [(hh : Int)]).length = n) := ⟨_, hid rfl⟩; rw [HN5.out] at ho5; have HO5 := hid ho5; have HB5 := hid hb5; have h5 := (hb5.block Wq.heap.size (Nat.lt_succ_self _)).trans HXj.out; obtain ⟨⟨_, _, _, _, k4⟩, kf, hkl⟩ := bx5 h5; have H5 := hid h5; rw [HN5.out]; clear ho5 hb5 h5)
                                  go_roundw
                                  case rel =>
                                    repeat apply Exists.intro
                                    refine ⟨⟨hh + 1, .slice a5 n5 cap5, by omega, by go_num, hid (fun h => absurd h (by omega)), hid (bx5_set4 H5.out _), hid ?_, hid ((HBjq.out.trans (HB5.out.mono (Nat.le_succ _))).setCell (p := ⟨Wq.heap.size, 4, none⟩) (Nat.le_refl _) _)⟩, rfl⟩
                                    rw [HNXT.out]
                                    exact ownsRow_setCell_below HO5.out (Nat.lt_succ_self _) _
                                  case measure => simp [intOf]; omega
                                | false =>
                                  have HNXT := hid (Pl.hopsL_off HFB.out)
                                  go_wp2_with fail
                                  go_roundw
                                  case rel =>
                                    repeat apply Exists.intro
                                    exact ⟨⟨hh + 1, .slice a3 n3 cap3, by omega, by go_num, hid (fun h => absurd h (by omega)), HXj, hid (by rw [HNXT.out]; exact HIj.out), HBjq⟩, rfl⟩
                                  case measure => simp [intOf]; omega
                          · obtain rfl : hh = 12 := by omega
                            have HEQ1 : Hid (Pl.rX es n k b = [⟨((k : Int), (b : Int)), false, mm, Pl.hopsL HF 12⟩]) := hid (by rw [HEQ.out, if_neg hmm])
                            have HOh := hid (HOq.out.below HBh.out)
                            have hs2h := HBh2.out.size
                            have HIZ : Hid (OwnZ wh w2.heap.size (.slice a3 n3 cap3) (Pl.hopsL HF 12)) := hid (OwnZ.mono (show OwnZ wh (Wq.heap.size + 1) _ _ from HI.out) (by omega))
                            clear hmm
                            go_wp2_with (at_builtin; refine append_rt rfl (.tmp 152) (.tmp 154) rfl w2.heap.size v hs ⟨((k : Int), (b : Int)), false, mm, a3, n3, cap3⟩ rfl HOh.out.1 hs2h rfl (by have := HLEN.out; omega) ?_; intro v5 w5 ho5 hg5 hb5; have HO5 := hid (HOh.out.snoc (r := ⟨((k : Int), (b : Int)), false, mm, Pl.hopsL HF 12⟩) ⟨rfl, rfl, rfl, HIZ.out, HPOK.out⟩ ho5 hg5); have HB5 := hid hb5; clear ho5 hg5 hb5)
                            go_roundw
                            case rel => exact ⟨b + 1, _, _, rfl, by omega, by go_num, hid (by rw [HST.out, HEQ1.out]; exact HO5.out), hid (HBh2.out.trans HB5.out)⟩
                            case measure => simp [intOf]; omega
            · have hrmb : (rm != 0) = true := by simpa using hrm
              go_wp2_with (go_at_call 11; refine (HCS.out _).mono ?_; rintro e w' ⟨rfl, hw'⟩; rw [hw']; clear hw' w')
              rw [← HW1.out]
              go_roundw
              case rel => exact ⟨b + 1, _, hs, rfl, by omega, by go_num, hid (by rw [HST.out, HRX.out, if_neg hrm, List.append_nil]; exact HO.out.below HB1.out), HB21⟩
              case measure => simp [intOf]; omega
          · obtain rfl : b = 9 := by omega
            go_wp2_with fail
            go_roundw
            case rel => exact ⟨k + 1, hs, by omega, by go_num, HO, HB⟩
            case measure => simp [intOf]; omega
      · obtain rfl : k = 256 := by omega
        go_wp2_with fail
        refine bodyPost_ret (results_tmp2 rfl _ _ _) rfl ⟨_, hs, ret_two rfl rfl, by rw [HTA.out]; exact HO.out.mono HB2.out.size, HB2.out.trans (HB.out.mono HB2.out.size)⟩
  · have HTA : Hid (Pl.tabA es f = []) := hid (by unfold Pl.tabA; rw [HCD.out, if_neg hcd])
    have hcdb : (cd != 0) = true := by simpa using hcd
    go_wp2_with fail
    refine bodyPost_ret (results_tmp2 rfl _ _ _) rfl ⟨_, [], ret_two rfl rfl, by rw [HTA.out]; exact OwnTb.nil _ _, HB2.out⟩
end Go.Proofs.YtmdjbdolegojcaaGreatDoor
/-
  Contracts: two lists of the same numbers, two routes that are the same, are told the same (the law's own sameInts, sameRoute).
-/
namespace Go.Proofs.YtmdjbdolegojcaaGreatDoor
open Go.RowKit
set_option maxRecDepth 20000

set_option maxHeartbeats 1000000 in
theorem sameInts_law (a b : Option Addr) (len capa capb : Nat) (zs : List Int) (w : World) (h1 : IsInts w a len capa zs) (h2 : IsInts w b len capb zs) :
    Calls Tryz.prog 35 #[.slice a len capa, .slice b len capb] w fun e w' => e = .returned (.bool true) ∧ Below w.heap.size w w' := by
  have HA := hid h1
  have HB2 := hid h2
  have HL : Hid (zs.length = len) := hid h1.1
  have hc1 := h1.2.1
  have hm1 := h1.2.2.1
  have hc2 := h2.2.1
  have hm2 := h2.2.2.1
  unfold maxLen at hm1 hm2
  clear h1 h2
  go_enter Tryz.func35, Tryz.ntmps35
  go_wp2_with fail
  go_loopw [5] (fun i wr => ∃ k : Nat, k ≤ len ∧ i = .int .i64 k ∧ Hid (Below w.heap.size w wr)) (fun i _ => len - (intOf i).toNat)
  case atStart => exact ⟨0, Nat.zero_le _, rfl, Below.refl _ _⟩
  case round =>
    obtain ⟨k, hk, rfl, HB⟩ := hrel
    by_cases hlt : k < len
    · obtain ⟨g1, o1, rfl, hg1, hr1⟩ := HA.out.at hlt
      obtain ⟨g2, o2, rfl, hg2, hr2⟩ := HB2.out.at hlt
      have c1 := (HB.out.cell (p := ⟨g1, o1 + k, none⟩) hg1).trans (hr1 k (by rw [HL.out]; exact hlt))
      have c2 := (HB.out.cell (p := ⟨g2, o2 + k, none⟩) hg2).trans (hr2 k (by rw [HL.out]; exact hlt))
      generalize Pl.nm zs k = y at *
      clear hr1 hr2
      have hz := HB.out.size
      have l1 : g1 < wr.heap.size := by omega
      have l2 : g2 < wr.heap.size := by omega
      have hlt' : (k : Int) < (len : Int) := by omega
      go_wp2_with fail
      go_region
      go_wp2_with fail
      go_roundw
      case rel => exact ⟨k + 1, by omega, by go_num, HB.out.drew⟩
      case measure => simp [intOf]; omega
    · obtain rfl : k = len := by omega
      go_wp2_with fail
      go_ret
      exact ⟨rfl, HB.out⟩

set_option maxHeartbeats 1000000 in
theorem sameRoute_law (g h : Pl.RH) (r : Pl.Rt) (w : World) (h1 : Reads w g r) (h2 : Reads w h r) :
    Calls Tryz.prog 15 #[.agg #[.int .i64 g.p.1, .int .i64 g.p.2, .bool g.here, .int .i64 g.cost, .slice g.ha g.hl g.hc], .agg #[.int .i64 h.p.1, .int .i64 h.p.2, .bool h.here, .int .i64 h.cost, .slice h.ha h.hl h.hc]] w fun e w' => e = .returned (.bool true) ∧ Below w.heap.size w w' := by
  obtain ⟨a1, a2, a3, a4, _⟩ := h1
  obtain ⟨b1, b2, b3, b4, _⟩ := h2
  obtain ⟨⟨p1, p2⟩, here, cost, ha, hl, hc⟩ := g
  obtain ⟨⟨q1, q2⟩, here', cost', hb, hl', hc'⟩ := h
  simp only at a1 a2 a3 a4 b1 b2 b3 b4
  obtain ⟨rp, rh, rc, rz⟩ := r
  simp only at a1 a2 a3 a4 b1 b2 b3 b4
  subst a1 a2 a3
  simp only [Prod.mk.injEq] at b1
  obtain ⟨rfl, rfl⟩ := b1
  subst b2 b3
  obtain rfl : hl' = hl := by rw [← a4.1, ← b4.1]
  have HA := hid a4
  have HB := hid b4
  clear a4 b4
  go_enter Tryz.func15, Tryz.ntmps15
  go_wp2_with (go_at_call 35; refine (sameInts_law _ _ _ _ _ rz _ (HA.out.below (((Below.refl _ _).alloc (Nat.le_refl _) _).alloc (by simp) _)) (HB.out.below (((Below.refl _ _).alloc (Nat.le_refl _) _).alloc (by simp) _))).mono ?_; rintro e w1 ⟨rfl, hb1⟩)
  go_ret
  exact ⟨rfl, (((Below.refl _ _).alloc (Nat.le_refl _) _).alloc (by simp) _).trans (hb1.mono (by simp; omega))⟩
end Go.Proofs.YtmdjbdolegojcaaGreatDoor
/-
  Contracts: two tables that are the same, two lists of the same prefixes, are told the same (the law's own sameTable, samePrefixes).
-/
namespace Go.Proofs.YtmdjbdolegojcaaGreatDoor
open Go.RowKit
set_option maxRecDepth 20000

set_option maxHeartbeats 2000000 in
theorem sameTable_law (a : Option Addr) (len ca : Nat) (hs : List Pl.RH) (b : Option Addr) (cb : Nat) (gs : List Pl.RH) (rs : List Pl.Rt) (w : World) (h1 : IsRows w a len ca hs) (d1 : ReadsAll w hs rs) (h2 : IsRows w b len cb gs) (d2 : ReadsAll w gs rs) :
    Calls Tryz.prog 6 #[.slice a len ca, .slice b len cb] w fun e w' => e = .returned (.bool true) ∧ Below w.heap.size w w' := by
  have H1 := hid h1
  have D1 := hid d1
  have H2 := hid h2
  have D2 := hid d2
  have HL1 : Hid (hs.length = len) := hid h1.1
  have HL2 : Hid (gs.length = len) := hid h2.1
  have hc1 := h1.2.1
  have hm1 := h1.2.2.1
  have hc2 := h2.2.1
  have hm2 := h2.2.2.1
  unfold maxLen at hm1 hm2
  clear h1 d1 h2 d2
  go_enter Tryz.func6, Tryz.ntmps6
  go_wp2_with fail
  go_loopw [5] (fun i wr => ∃ k : Nat, k ≤ len ∧ i = .int .i64 k ∧ Hid (Below w.heap.size w wr)) (fun i _ => len - (intOf i).toNat)
  case atStart => exact ⟨0, Nat.zero_le _, rfl, Below.refl _ _⟩
  case round =>
    obtain ⟨k, hk, rfl, HB⟩ := hrel
    by_cases hlt : k < len
    · obtain ⟨b1, o1, rfl, hb1, hr1⟩ := H1.out.at hlt
      obtain ⟨b2, o2, rfl, hb2, hr2⟩ := H2.out.at hlt
      obtain ⟨c0, c1, c2, c3, c4⟩ := hr1.below hb1 HB.out k (by rw [HL1.out]; exact hlt)
      obtain ⟨d0, d1, d2, d3, d4⟩ := hr2.below hb2 HB.out k (by rw [HL2.out]; exact hlt)
      have HR1 := hid ((D1.out.2 k (by rw [HL1.out]; exact hlt)).below HB.out)
      have HR2 := hid ((D2.out.2 k (by rw [HL2.out]; exact hlt)).below HB.out)
      generalize Pl.rh hs k = g at *
      generalize Pl.rh gs k = h at *
      generalize Pl.rt rs k = r at *
      clear hr1 hr2
      have hz := HB.out.size
      have l1 : b1 < wr.heap.size := by omega
      have l2 : b2 < wr.heap.size := by omega
      have hlt' : (k : Int) < (len : Int) := by omega
      go_wp2_with fail
      have i0 := in_cell l1 c0
      have i1 := in_cell l1 c1
      have i2 := in_cell l1 c2
      have i3 := in_cell l1 c3
      have i4 := in_cell l1 c4
      have j0 := in_cell l2 d0
      have j1 := in_cell l2 d1
      have j2 := in_cell l2 d2
      have j3 := in_cell l2 d3
      have j4 := in_cell l2 d4
      have HAA := hid (fun x : WIn wr => sameRoute_law g h r x.w (HR1.out.below x.h) (HR2.out.below x.h))
      have hne := in_some wr
      clear c0 c1 c2 c3 c4 d0 d1 d2 d3 d4
      refine wp_region_in (by kernel_rfl) (by kernel_rfl) ?_
      repeat (go_big_quiet_step ((go_at_call 15; exact in_call (HAA.out _))))
      refine wpQuiet_nil ?_
      intro w5 hw'
      have hb5 := in_out hw'
      clear hw' i0 i1 i2 i3 i4 j0 j1 j2 j3 j4 hne
      go_wp2_with fail
      go_roundw
      case rel => exact ⟨k + 1, by omega, by go_num, HB.out.trans (hb5.mono hz)⟩
      case measure => simp [intOf]; omega
    · obtain rfl : k = len := by omega
      go_wp2_with fail
      go_ret
      exact ⟨rfl, HB.out⟩

end Go.Proofs.YtmdjbdolegojcaaGreatDoor
/-
  Small facts that the opening of parameters needs.
-/
namespace Go.Proofs.YtmdjbdolegojcaaGreatDoor
open Go.ChangeShapes Go.WideShapes Go.ChangeAt Go.RowKit
set_option maxRecDepth 20000

theorem cell_lt {W : World} {x : Addr} {v : Value} (h : W.cell? x = some v) : x.block < W.heap.size := by
  rcases Nat.lt_or_ge x.block W.heap.size with h' | h'
  · exact h'
  · simp [World.cell?, Array.getElem?_eq_none h'] at h

theorem own : ownKnob Tryz.prog.godebug = none := by kernel_rfl
theorem laidOut : laidOutB Tryz.prog = true := by kernel_rfl
end Go.Proofs.YtmdjbdolegojcaaGreatDoor
/-
  What a parameter holds when it is read as data: an entry, a slice of entries.
-/
namespace Go.Proofs.YtmdjbdolegojcaaGreatDoor
open Go.ChangeShapes Go.WideShapes Go.ChangeAt Go.RowKit
set_option maxRecDepth 20000

theorem cellsEntry : Tryz.prog.cellsOf 60 = 4 := by kernel_rfl

theorem entry_of_trod {H : Type} {enc : TypeId × Value → H} {w : World} {base : Nat} {spare : Nat → Bool} {held : Bool} {n : Nat} {cs : List Value} {x : DataW H × List MemPlace}
    (h : DataW.trod enc Tryz.prog w base spare held n 60 cs = some x) : ∃ e : Pl.Ent, cs = [.string e.key, .int .i64 e.ver, .int .i64 e.org, .string e.val] ∧ e.ok := by
  obtain ⟨y0, y1, y2, y3, m, _, hl, h0, h1, h2, h3⟩ := Go.Joins.trod_struct4 Tryz.underlying60 h
  rw [cellsEntry] at hl
  match cs, hl with
  | [c0, c1, c2, c3], _ =>
    have e9 : Tryz.prog.cellsOf 9 = 1 := by kernel_rfl
    have e3 : Tryz.prog.cellsOf 3 = 1 := by kernel_rfl
    simp only [e9, e3] at h0 h1 h2 h3
    obtain ⟨s0, a0, _, b0⟩ := DataW.trod_string Tryz.underlying9 h0
    obtain ⟨s1, a1, _, b1⟩ := DataW.trod_int Tryz.underlying3 h1
    obtain ⟨s2, a2, _, b2⟩ := DataW.trod_int Tryz.underlying3 h2
    obtain ⟨s3, a3, _, b3⟩ := DataW.trod_string Tryz.underlying9 h3
    simp at a0 a1 a2 a3
    subst a0 a1 a2 a3
    exact ⟨⟨s0, s1, s2, s3⟩, rfl, b0, b1, b2, b3⟩

theorem open_ent {H : Type} {enc : TypeId × Value → H} {w : World} {r : Reach} {b0 base : Nat} {spare : Nat → Bool} {held : Bool} {v : Value} {d : DataW H} {p : List MemPlace}
    (hv : Value.okWide Tryz.prog w r b0 60 v) (h : DataW.Trod enc Tryz.prog w base spare held 60 v d p) :
    ∃ e : Pl.Ent, v = .agg #[.string e.key, .int .i64 e.ver, .int .i64 e.org, .string e.val] ∧ e.ok := by
  obtain ⟨fuel, hf⟩ := h
  obtain ⟨cs, rfl, hsz⟩ := okWide_struct Tryz.underlying60 hv
  obtain ⟨e, he, hok⟩ := entry_of_trod hf
  refine ⟨e, ?_, hok⟩
  simp [Value.cells] at he
  rw [← he]

theorem open_ents {H : Type} {enc : TypeId × Value → H} {w : World} {r : Reach} {b0 : Nat} {held : Bool} {v : Value} {d : DataW H} {p : List MemPlace}
    (hv : Value.okWide Tryz.prog w r b0 22 v) (h : DataW.Trod enc Tryz.prog w 0 (fun _ => true) held 22 v d p) :
    ∃ a len cap es, v = .slice a len cap ∧ IsEnts w a len cap es := by
  obtain ⟨a, len, cap, rfl⟩ := okWide_slice Tryz.underlying22 hv
  obtain ⟨fuel, hf⟩ := h
  rcases Go.Deep.open_slice Tryz.underlying22 hf with ⟨hcs, _⟩ | ⟨x, l, c, m, n, D, Q, hcs, _, hl, hm, hmm, _, hx⟩
  · simp [Value.cells] at hcs
    obtain ⟨rfl, rfl, rfl⟩ := hcs
    exact ⟨_, _, _, [], rfl, rfl, Nat.le_refl _, by simp, by simp, .inl rfl⟩
  · simp [Value.cells] at hcs
    obtain ⟨rfl, rfl, rfl⟩ := hcs
    simp only [if_true] at hmm
    subst hmm
    rw [cellsEntry] at hx
    have hx' : ∀ i, i < len → ∃ e : Pl.Ent, w.cells? 0 (x.add (i * 4)) 4 = some [.string e.key, .int .i64 e.ver, .int .i64 e.org, .string e.val] ∧ e.ok := by
      intro i hi
      obtain ⟨cs', h1, h2⟩ := hx i (by omega)
      obtain ⟨e, rfl, hok⟩ := entry_of_trod h2
      exact ⟨e, h1, hok⟩
    obtain ⟨F, hF⟩ := @Go.Deep.choose_lt Pl.Ent ⟨Pl.Ent.none⟩ len _ hx'
    have hlen : ((List.range len).map F).length = len := by simp
    have hent : ∀ i, i < len → Pl.ent ((List.range len).map F) i = F i := by
      intro i hi
      rw [Pl.ent_eq _ _ (by simpa using hi)]; simp
    refine ⟨_, _, _, (List.range len).map F, rfl, hlen, hl, hm, ?_, ?_⟩
    · intro e he
      simp only [List.mem_map, List.mem_range] at he
      obtain ⟨i, hi, rfl⟩ := he
      exact (hF i hi).2
    · rcases Nat.eq_zero_or_pos len with h0 | hpos
      · subst h0; exact .inl rfl
      · right
        obtain ⟨b, off, spot⟩ := x
        have hc0 := (World.cells?_some (hF 0 hpos).1).2.2 0 (by omega)
        simp only [List.getElem?_cons_zero] at hc0
        have hsp : spot = none := by simpa [Addr.add] using World.cell?_spot hc0
        subst hsp
        refine ⟨b, off, rfl, ?_, ?_⟩
        · have := cell_lt hc0; simpa [Addr.add] using this
        · intro i hi
          rw [hlen] at hi
          rw [hent i hi]
          have hc := (World.cells?_some (hF i hi).1).2.2
          have c0 := hc 0 (by omega)
          have c1 := hc 1 (by omega)
          have c2 := hc 2 (by omega)
          have c3 := hc 3 (by omega)
          simp only [add_none, List.getElem?_cons_zero, List.getElem?_cons_succ, Nat.add_zero] at c0 c1 c2 c3
          exact ⟨c0, c1, c2, c3⟩

theorem open_ents_sized {H : Type} {enc : TypeId × Value → H} {w : World} {r : Reach} {b0 : Nat} {held : Bool} {v : Value} {d : DataW H} {p : List MemPlace}
    (hv : Value.okWide Tryz.prog w r b0 22 v) (h : DataW.Trod enc Tryz.prog w 0 (fun _ => true) held 22 v d p) :
    ∃ a len cap es, v = .slice a len cap ∧ IsEnts w a len cap es ∧ (a = none → cap = 0) ∧ ((d = .nil ∧ len = 0) ∨ ∃ el sp, d = .slice el sp ∧ el.length = len) := by
  obtain ⟨a, len, cap, es, rfl, hE⟩ := open_ents hv h
  refine ⟨a, len, cap, es, rfl, hE, ?_⟩
  obtain ⟨fuel, hf⟩ := h
  rcases Go.Deep.open_slice Tryz.underlying22 hf with ⟨hcs, hx⟩ | ⟨x, l, c, m, n, D, Q, hcs, _, hl, hm, hmm, hx, _⟩
  · simp [Value.cells] at hcs
    obtain ⟨rfl, rfl, rfl⟩ := hcs
    simp only [Prod.mk.injEq] at hx
    exact ⟨fun _ => rfl, .inl ⟨hx.1, rfl⟩⟩
  · simp [Value.cells] at hcs
    obtain ⟨rfl, rfl, rfl⟩ := hcs
    simp only [Prod.mk.injEq] at hx
    exact ⟨by simp, .inr ⟨_, _, hx.1, by simp⟩⟩
end Go.Proofs.YtmdjbdolegojcaaGreatDoor
