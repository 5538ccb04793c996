/-
  Contracts and facts that the proof rests on, put together out of several texts.
-/
import Derived.Test.YtpaobnhcbeklfaaGreatDoorAll1
import Derived.Orders
import Derived.Test.YtpaobnhcbeklfaaGreatDoorShelf
import Derived.Lib.ItoaMem
import Derived.Lib.ItoaLen
import Derived.Lib.Join
import Derived.WalkKit
import Derived.Test.YtpaobnhcbeklfaaGreatDoorProg
import Derived.WalkLawsBesides
import Derived.WalkSpells
import Derived.Deep.RegionWith
import Derived.Deep.QuietTactic
import Derived.BigQuiet
import Derived.Test.YtpaobnhcbeklfaaGreatDoorAll2
import Derived.Test.YtpaobnhcbeklfaaGreatDoorAll4
import Derived.OwnWalk
/-
  A rule of our own: a region that draws its order, by an invariant over what has been carried out, the frame and the world.
-/
namespace Go.Proofs.YtpaobnhcbeklfaaGreatDoor
open Go.RowKit
set_option maxRecDepth 20000

/-- how many operations are still to be carried out -/
def left (n : Nat) (listed : Array Bool) : Nat := (List.range n).countP (fun j => !listed.getD j true)

theorem left_set {n i : Nat} {listed : Array Bool} (hi : i < n) (h : listed.getD i true = false) : left n (listed.setIfInBounds i true) + 1 ≤ left n listed := by
  unfold left
  have hs : ∀ j, j ≠ i → (listed.setIfInBounds i true).getD j true = listed.getD j true := fun j hj => getD_set_ne true (Ne.symm hj)
  have hi1 : (listed.setIfInBounds i true).getD i true = true := by
    have hlt : i < listed.size := by
      rcases Nat.lt_or_ge i listed.size with h' | h'
      · exact h'
      · simp [Array.getElem?_eq_none h'] at h
    simp [hlt]
  have key : ∀ m, (List.range m).countP (fun j => !(listed.setIfInBounds i true).getD j true) + (if i < m then 1 else 0) = (List.range m).countP (fun j => !listed.getD j true) := by
    intro m
    induction m with
    | zero => simp
    | succ m ih =>
      rw [List.range_succ, List.countP_append, List.countP_append, List.countP_singleton, List.countP_singleton]
      by_cases hm : m = i
      · subst hm
        rw [hi1, h]
        rw [if_neg (Nat.lt_irrefl _)] at ih
        simp at ih ⊢
        exact ih
      · rw [hs m hm]
        have e : (i < m + 1) ↔ (i < m) := by omega
        simp only [e]
        omega
  have := key n
  rw [if_pos hi] at this
  omega

theorem ready_none {md : Region.Mode} {ops : Array Oper} {listed : Array Bool} (h : left ops.size listed = 0) : Region.ready md ops listed = [] := by
  rw [List.eq_nil_iff_forall_not_mem]
  intro j hj
  rw [mem_ready] at hj
  obtain ⟨h0, o, ho, _⟩ := hj
  have hlt : j < ops.size := (Array.getElem?_eq_some_iff.1 ho).1
  unfold left at h
  rw [List.countP_eq_zero] at h
  have := h j (List.mem_range.2 hlt)
  rw [h0] at this
  simp at this

theorem wpAny_inv {P : Program} {md : Region.Mode} {ops : Array Oper} {Q : Exit → Act → World → Prop} (Inv : Array Bool → Act → World → Prop)
    (hstep : ∀ i listed a w, i ∈ Region.ready md ops listed → Inv listed a w → wpOp P ops Q i (Inv (listed.setIfInBounds i true)) a w)
    (hend : ∀ listed a w, Region.ready md ops listed = [] → Inv listed a w → Q .normal a w) :
    ∀ (fuel : Nat) (listed : Array Bool) (a : Act) (w : World), left ops.size listed ≤ fuel → Inv listed a w → wpAny P md ops Q fuel listed a w := by
  intro fuel
  induction fuel with
  | zero =>
    intro listed a w hf hI
    have hr := ready_none (md := md) (Nat.le_zero.1 hf)
    exact ⟨hr, hend _ _ _ hr hI⟩
  | succ fuel ih =>
    intro listed a w hf hI
    refine ⟨fun hr => hend _ _ _ hr hI, fun i hi => ?_⟩
    have hm := mem_ready.1 hi
    obtain ⟨h0, o, ho, _⟩ := hm
    have hlt : i < ops.size := (Array.getElem?_eq_some_iff.1 ho).1
    have hl := left_set hlt h0
    exact wpOp_mono (fun a' w' h => ih _ a' w' (by omega) h) (hstep i listed a w hi hI)

/-- where each operation waits only for earlier ones: if none may come up, all have come up -/
theorem all_listed {md : Region.Mode} {ops : Array Oper} {listed : Array Bool} (hb0 : (List.range ops.size).all (fun i => (ops[i]?.map (fun o => o.after.all (fun e => decide (e.on < i)))).getD true) = true) (hs : listed.size = ops.size) (hr : Region.ready md ops listed = []) :
    ∀ i, i < ops.size → listed.getD i false = true := by
  have hb : ∀ (i : Nat) (o : Oper), ops[i]? = some o → ∀ e ∈ o.after, e.on < i := by
    intro i o ho e he
    have hi : i < ops.size := (Array.getElem?_eq_some_iff.1 ho).1
    have := List.all_eq_true.1 hb0 i (List.mem_range.2 hi)
    rw [ho] at this
    simp only [Option.map_some, Option.getD_some] at this
    have := Array.all_eq_true_iff_forall_mem.1 this e he
    exact of_decide_eq_true this
  intro i
  induction i using Nat.strongRecOn with
  | _ i ih =>
    intro hi
    cases hl : listed.getD i false with
    | true => rfl
    | false =>
      exfalso
      have hm : i ∈ Region.ready md ops listed := by
        rw [mem_ready]
        refine ⟨?_, ops[i], Array.getElem?_eq_getElem hi, fun e he _ => ?_⟩
        · have : i < listed.size := by omega
          simp [this] at hl ⊢
          exact hl
        · have he' := hb i ops[i] (Array.getElem?_eq_getElem hi) e he
          exact ih e.on he' (by omega)
      rw [hr] at hm
      cases hm

/-- what has been carried out stands behind all that it waits for -/
def Closed (md : Region.Mode) (ops : Array Oper) (listed : Array Bool) : Prop :=
  ∀ (i : Nat) (o : Oper), ops[i]? = some o → listed.getD i false = true → ∀ e ∈ o.after, Region.binds md e = true → listed.getD e.on false = true
theorem set_stays {listed : Array Bool} {i k : Nat} (h : listed.getD k false = true) : (listed.setIfInBounds i true).getD k false = true := by
  by_cases e : i = k
  · subst e
    have : i < listed.size := by
      rcases Nat.lt_or_ge i listed.size with h' | h'
      · exact h'
      · simp [Array.getElem?_eq_none h'] at h
    simp [this]
  · rw [getD_set_ne false e]; exact h
theorem closed_step {md : Region.Mode} {ops : Array Oper} {listed : Array Bool} {i : Nat} (hi : i ∈ Region.ready md ops listed) (h : Closed md ops listed) : Closed md ops (listed.setIfInBounds i true) := by
  intro j o ho hj e he hb
  by_cases e' : i = j
  · subst e'
    obtain ⟨_, o', ho', hall⟩ := mem_ready.1 hi
    rw [ho] at ho'
    cases ho'
    exact set_stays (hall e he hb)
  · rw [getD_set_ne false e'] at hj
    exact set_stays (h j o ho hj e he hb)
theorem closed_start (md : Region.Mode) (ops : Array Oper) (n : Nat) : Closed md ops (Array.replicate n false) := by
  intro i o _ h
  rw [show (Array.replicate n false).getD i false = false from by by_cases hk' : i < n <;> simp [hk']] at h
  cases h
theorem wpAny_inv2 {P : Program} {md : Region.Mode} {ops : Array Oper} {Q : Exit → Act → World → Prop} (Inv : Array Bool → Act → World → Prop)
    (hstep : ∀ i listed a w, i ∈ Region.ready md ops listed → Closed md ops listed → Inv listed a w → wpOp P ops Q i (Inv (listed.setIfInBounds i true)) a w)
    (hend : ∀ listed a w, Region.ready md ops listed = [] → Inv listed a w → Q .normal a w)
    (fuel : Nat) (listed : Array Bool) (a : Act) (w : World) (hf : left ops.size listed ≤ fuel) (hI : Inv listed a w) (hC : Closed md ops listed) : wpAny P md ops Q fuel listed a w :=
  wpAny_inv (fun l a w => Inv l a w ∧ Closed md ops l) (fun i l a w hi h => wpOp_mono (fun _ _ h' => ⟨h', closed_step hi h.2⟩) (hstep i l a w hi h.2 h.1)) (fun l a w hr h => hend l a w hr h.1) fuel listed a w hf ⟨hI, hC⟩

theorem wpOp_of {P : Program} {ops : Array Oper} {Q : Exit → Act → World → Prop} {i : Nat} {o : Oper} {K : Act → World → Prop} {a : Act} {w : World}
    (h : ops[i]? = some o) (hg : o.guard = none) (hw : o.wp P a w K Q) : wpOp P ops Q i K a w := by
  unfold wpOp
  simp only [h]
  rw [if_pos (by simp [Region.wanted, hg])]
  exact .inl hw
theorem eval_ne {a : Act} {n m : Nat} {v : Value} (h : m ≠ n) : (a.put (some m) v).tmps[n]?.getD undef = a.tmps[n]?.getD undef := by
  simp [Act.put, Array.getElem?_setIfInBounds_ne h]
theorem eval_eq {a : Act} {m : Nat} {v : Value} (h : m < a.tmps.size) : (a.put (some m) v).tmps[m]?.getD undef = v := by
  simp [Act.put, h]
end Go.Proofs.YtpaobnhcbeklfaaGreatDoor
/-
  Plain: pairs shown as a text; contracts of the library's strconv.Itoa and of the document's dec.
-/
namespace Go.Proofs.YtpaobnhcbeklfaaGreatDoor
open Go.RowKit
set_option maxRecDepth 20000

/-- the table that strconv reads -/
def Tab (w : World) : Prop := Lib.TabIs Tryz.prog w "internal/strconv.uint64pow10" .u64 Lib.pow10Tab
theorem Tab.below {w w' : World} (h : Tab w) (k : Below w.heap.size w w') : Tab w' := by
  unfold Tab Lib.TabIs World.var? at h ⊢
  cases hg : Tryz.prog.globalNamed "internal/strconv.uint64pow10" with
  | none => rw [hg] at h; cases h
  | some g =>
  rw [hg] at h
  simp only [Option.bind_some] at h ⊢
  have hlt : g < w.heap.size := by
    rcases Nat.lt_or_ge g w.heap.size with h' | h'
    · exact h'
    · rw [Array.getElem?_eq_none h'] at h; cases h
  rw [k.block g hlt]
  exact h
theorem below_grow (w : World) (k : Nat) (os : Array Obj) : Below w.heap.size w (Sort.grow (w.drewN k) os) := by
  refine ⟨rfl, rfl, rfl, ?_, fun j hj => ?_⟩
  · show w.heap.size ≤ (w.heap ++ os).size
    simp
  · show (w.heap ++ os)[j]? = w.heap[j]?
    rw [Array.getElem?_append_left hj]

/-- a number's digits -/
def Pl.dec (n : Int) : ByteArray := ⟨(Lib.itoa n).toArray⟩
theorem Pl.dec_size (n : Int) (h0 : -9223372036854775808 ≤ n) (h1 : n ≤ 9223372036854775807) : (Pl.dec n).size ≤ 21 := by
  have := Lib.itoa_length_le n h0 h1
  show (Lib.itoa n).toArray.size ≤ 21
  simpa using this
theorem Itoa_any (n : Int) (w : World) (h0 : 0 ≤ n) (h1 : n ≤ 100000) (hT : Tab w) :
    Calls Tryz.prog 43 #[.int .i64 n] w fun e w' => e = .returned (.string (Pl.dec n)) ∧ Below w.heap.size w w' :=
  (Tryz.strconv_Itoa n (by omega) (by omega) w hT).mono fun e w' ⟨h, k, os, hw⟩ => ⟨h, hw ▸ below_grow w k os⟩

/-- a pair as a text, with a sign between -/
def Pl.sideT (m : ByteArray) (p : Int × Int) : ByteArray := Pl.dec p.1 ++ m ++ Pl.dec p.2
/-- pairs as a text -/
def Pl.showT (m : ByteArray) (ps : List (Int × Int)) : ByteArray := ⟨(Lib.join ((ps.map (Pl.sideT m)).map (·.data.toList)) [44]).toArray⟩
def Pl.small (p : Int × Int) : Prop := 0 ≤ p.1 ∧ p.1 ≤ 1000 ∧ 0 ≤ p.2 ∧ p.2 ≤ 1000
theorem Pl.dec_le (n : Int) (h0 : 0 ≤ n) (h1 : n ≤ 1000) : (Pl.dec n).size ≤ 21 := Pl.dec_size n (by omega) (by omega)
theorem Pl.sideT_size (m : ByteArray) (p : Int × Int) (h : Pl.small p) : (Pl.sideT m p).size ≤ 42 + m.size := by
  obtain ⟨h1, h2, h3, h4⟩ := h
  unfold Pl.sideT
  rw [ByteArray.size_append, ByteArray.size_append]
  have := Pl.dec_le p.1 h1 h2
  have := Pl.dec_le p.2 h3 h4
  omega
end Go.Proofs.YtpaobnhcbeklfaaGreatDoor
/-
  Plain definitions: lists of entries as stores, what is wrong with one; no program in sight.
-/
namespace Go.Proofs.YtpaobnhcbeklfaaGreatDoor.Pl

structure Ent where
  key : ByteArray
  ver : Int
  org : Int
  val : ByteArray

def Ent.none : Ent := ⟨⟨#[]⟩, 0, 0, ⟨#[]⟩⟩
/-- the entry at a place -/
def ent (es : List Ent) (i : Nat) : Ent := es.getD i Ent.none
theorem ent_cons_succ (e : Ent) (es : List Ent) (i : Nat) : ent (e :: es) (i + 1) = ent es i := by simp [ent]
theorem ent_cons_zero (e : Ent) (es : List Ent) : ent (e :: es) 0 = e := by simp [ent]
theorem ent_eq (es : List Ent) (i : Nat) (h : i < es.length) : ent es i = es[i] := by simp [ent, List.getD, h]
theorem ent_mem (es : List Ent) (i : Nat) (h : i < es.length) : ent es i ∈ es := by rw [ent_eq es i h]; exact List.getElem_mem h
theorem drop_ent (es : List Ent) (i : Nat) (h : i < es.length) : es.drop i = ent es i :: es.drop (i + 1) := by
  rw [ent_eq es i h]; exact List.drop_eq_getElem_cons h

/-- what fits the kinds -/
def Ent.ok (e : Ent) : Prop := e.key.size ≤ maxLen ∧ (Lit.int .i64 e.ver).wf = true ∧ (Lit.int .i64 e.org).wf = true ∧ e.val.size ≤ maxLen

/-- may an entry be one of a store? -/
def entB (k : ByteArray) (v o : Int) (x : ByteArray) : Bool := keyB k && decide (1 ≤ v ∧ v ≤ 1099511627776) && decide (0 ≤ o ∧ o ≤ 11) && decide (x.size ≤ 120)
def Ent.may (e : Ent) : Bool := entB e.key e.ver e.org e.val
theorem entB_eq {k : ByteArray} {v o : Int} {x : ByteArray} (hk : keyB k = true) : entB k v o x = (decide (1 ≤ v) && decide (v ≤ 1099511627776) && decide (0 ≤ o ∧ o ≤ 11) && decide ((x.size : Int) ≤ 120)) := by
  unfold entB; rw [hk, Bool.eq_iff_iff]; simp; omega
theorem entB_of {k : ByteArray} {v o : Int} {x : ByteArray} (hk : keyB k = true) (h1 : 1 ≤ v) (h2 : v ≤ 1099511627776) (h3 : 0 ≤ o ∧ o ≤ 11) (h4 : x.size ≤ 120) : entB k v o x = true := by
  simp [entB, hk, h1, h2, h3, h4]
theorem entB_k {k : ByteArray} {v o : Int} {x : ByteArray} (hk : keyB k = false) : entB k v o x = false := by simp [entB, hk]
theorem entB_v {k : ByteArray} {v o : Int} {x : ByteArray} (h : ¬ (1 ≤ v ∧ v ≤ 1099511627776)) : entB k v o x = false := by
  unfold entB; rw [decide_eq_false h]; simp
theorem entB_o {k : ByteArray} {v o : Int} {x : ByteArray} (h : ¬ (0 ≤ o ∧ o ≤ 11)) : entB k v o x = false := by
  unfold entB; rw [decide_eq_false h]; simp
theorem entB_x {k : ByteArray} {v o : Int} {x : ByteArray} (h : ¬ x.size ≤ 120) : entB k v o x = false := by
  unfold entB; rw [decide_eq_false h]; simp

/-- is a place's key not above that of the one ahead? -/
def lowB (es : List Ent) (i : Nat) : Bool := decide (0 < i) && !ltB (ent es (i - 1)).key (ent es i).key
theorem lowB_true {es : List Ent} {m : Nat} (h : Op.bytesLess (ent es (m + 1)).key.toList (ent es m).key.toList = true ∨ ((ent es (m + 1)).key.toList == (ent es m).key.toList) = true) : lowB es (m + 1) = true := by
  unfold lowB
  simp only [Nat.zero_lt_succ, decide_true, Nat.add_sub_cancel, Bool.true_and, Bool.not_eq_true']
  rcases h with h | h
  · exact ltB_asymm h
  · rw [beqL] at h
    rw [of_decide_eq_true h]; exact ltB_irrefl _
theorem lowB_false {es : List Ent} {m : Nat} (h : Op.bytesLess (ent es (m + 1)).key.toList (ent es m).key.toList = false ∧ ((ent es (m + 1)).key.toList == (ent es m).key.toList) = false) : lowB es (m + 1) = false := by
  unfold lowB
  simp only [Nat.zero_lt_succ, decide_true, Nat.add_sub_cancel, Bool.true_and, Bool.not_eq_false']
  obtain ⟨h1, h2⟩ := h
  rw [beqL] at h2
  cases k : ltB (ent es m).key (ent es (m + 1)).key
  · exact absurd (ltB_total h1 k) (of_decide_eq_false h2)
  · rfl
/-- what is wrong from a place on: so many are still to be looked at -/
def faultN (es : List Ent) : Nat → Nat → Int
  | 0, _ => 0
  | n + 1, i => if (ent es i).may then (if lowB es i then 7 else faultN es n (i + 1)) else 4
def fault (es : List Ent) : Int := if es.length ≤ 60 then faultN es es.length 0 else 1
theorem fault_size {es : List Ent} (h : 60 < es.length) : fault es = 1 := by unfold fault; rw [if_neg (by omega)]
theorem fault_from {es : List Ent} (h : es.length ≤ 60) : fault es = faultN es es.length 0 := by unfold fault; rw [if_pos h]
theorem faultN_form {es : List Ent} {n i : Nat} (h : (ent es i).may = false) : faultN es (n + 1) i = 4 := by simp [faultN, h]
theorem faultN_low {es : List Ent} {n i : Nat} (h : (ent es i).may = true) (k : lowB es i = true) : faultN es (n + 1) i = 7 := by simp [faultN, h, k]
theorem faultN_on {es : List Ent} {n i : Nat} (h : (ent es i).may = true) (k : lowB es i = false) : faultN es (n + 1) i = faultN es n (i + 1) := by simp [faultN, h, k]
end Go.Proofs.YtpaobnhcbeklfaaGreatDoor.Pl
/-
  Contracts: what Check and StoreFault, and what they call, answer at every list of entries.
-/
namespace Go.Proofs.YtpaobnhcbeklfaaGreatDoor
open Go.RowKit
set_option maxRecDepth 20000

/-- the cells of entries, one behind the other -/
def RowAt (w : World) (b off : Nat) (es : List Pl.Ent) : Prop := ∀ i, i < es.length →
  w.cell? ⟨b, off + i * 4, none⟩ = some (.string (Pl.ent es i).key) ∧ w.cell? ⟨b, off + i * 4 + 1, none⟩ = some (.int .i64 (Pl.ent es i).ver) ∧
  w.cell? ⟨b, off + i * 4 + 2, none⟩ = some (.int .i64 (Pl.ent es i).org) ∧ w.cell? ⟨b, off + i * 4 + 3, none⟩ = some (.string (Pl.ent es i).val)

/-- a slice of entries -/
def IsEnts (w : World) (a : Option Addr) (len cap : Nat) (es : List Pl.Ent) : Prop :=
  es.length = len ∧ len ≤ cap ∧ cap ≤ maxLen ∧ (∀ e ∈ es, e.ok) ∧ (es = [] ∨ ∃ b off, a = some ⟨b, off, none⟩ ∧ b < w.heap.size ∧ RowAt w b off es)

set_option maxHeartbeats 400000 in
theorem isEntry_any (k : ByteArray) (v o : Int) (x : ByteArray) (w : World) (hk : k.size ≤ maxLen) (_hx : x.size ≤ maxLen) :
    Calls Tryz.prog 36 #[.agg #[.string k, .int .i64 v, .int .i64 o, .string x]] w
      fun e w' => e = .returned (.bool (Pl.entB k v o x)) ∧ Below w.heap.size w w' := by
  unfold maxLen at _hx
  obtain ⟨kk, HB⟩ : ∃ kk, Hid (Pl.keyB k = kk) := ⟨_, rfl⟩
  cases kk
  · have HR : Hid (Pl.entB k v o x = false) := Pl.entB_k HB.out
    go_enter Tryz.func36, Tryz.ntmps36
    go_wp2_with (go_at_call 58; refine (Key_any _ _ hk).mono ?_; rw [HB.out]; rintro e w' ⟨rfl, rfl⟩)
    go_ret
    exact ⟨ret_bool HR.out.symm, (Below.refl _ _).alloc (Nat.le_refl _) _⟩
  · obtain ⟨oo, HO⟩ : ∃ oo, Hid (decide (0 ≤ o ∧ o ≤ 11) = oo) := ⟨_, rfl⟩
    have HR : Hid (Pl.entB k v o x = (decide (1 ≤ v) && decide (v ≤ 1099511627776) && oo && decide ((x.size : Int) ≤ 120))) := by
      show _ = _
      rw [Pl.entB_eq HB.out, HO.out]
    by_cases h1 : 1 ≤ v
    all_goals by_cases h2 : v ≤ 1099511627776
    all_goals first | (exfalso; omega) | skip
    all_goals cases oo
    all_goals
      go_enter Tryz.func36, Tryz.ntmps36
      go_wp2_with (first | (go_at_call 58; refine (Key_any _ _ hk).mono ?_; rw [HB.out]; rintro e w' ⟨rfl, rfl⟩) | (go_at_call 17; refine (isNode_any _ _).mono ?_; rw [HO.out]; rintro e w' ⟨rfl, rfl⟩))
      go_ret
      exact ⟨ret_bool (by rw [HR.out, Bool.eq_iff_iff]; simp <;> omega), (Below.refl _ _).alloc (Nat.le_refl _) _⟩

theorem RowAt.below {w w' : World} {b off : Nat} {es : List Pl.Ent} (h : RowAt w b off es) (hb : b < w.heap.size) (k : Below w.heap.size w w') : RowAt w' b off es := by
  intro i hi
  obtain ⟨c0, c1, c2, c3⟩ := h i hi
  exact ⟨(k.cell (p := ⟨b, _, none⟩) hb).trans c0, (k.cell (p := ⟨b, _, none⟩) hb).trans c1, (k.cell (p := ⟨b, _, none⟩) hb).trans c2, (k.cell (p := ⟨b, _, none⟩) hb).trans c3⟩

theorem IsEnts.below {w w' : World} {a : Option Addr} {len cap : Nat} {es : List Pl.Ent} (h : IsEnts w a len cap es) (k : Below w.heap.size w w') : IsEnts w' a len cap es := by
  obtain ⟨h1, h2, h3, h4, h5⟩ := h
  refine ⟨h1, h2, h3, h4, ?_⟩
  rcases h5 with h5 | ⟨b, off, rfl, hb, hr⟩
  · exact .inl h5
  · exact .inr ⟨b, off, rfl, Nat.lt_of_lt_of_le hb k.size, hr.below hb k⟩

theorem below_drewN {B : Nat} {a w : World} (h : Below B a w) (n : Nat) : Below B a (w.drewN n) := h.trans ⟨rfl, rfl, rfl, Nat.le_refl _, fun _ _ => rfl⟩

set_option maxHeartbeats 400000 in
theorem Check_any (a : Option Addr) (len cap : Nat) (es : List Pl.Ent) (w : World) (h : IsEnts w a len cap es) :
    Calls Tryz.prog 16 #[.slice a len cap] w fun e w' => e = .returned (.int .i64 (Pl.fault es)) ∧ Below w.heap.size w w' := by
  obtain ⟨hl, hc, hm, hok, hrow⟩ := h
  unfold maxLen at hm
  by_cases h60 : 60 < len
  · go_enter Tryz.func16, Tryz.ntmps16
    go_wp2
    go_ret
    exact ⟨ret_int (Pl.fault_size (by omega)).symm, Below.refl _ _⟩
  go_enter Tryz.func16, Tryz.ntmps16
  go_wp2
  go_loopw [10] (fun i wr => ∃ k : Nat, k ≤ len ∧ i = .int .i64 k ∧ Hid (Pl.fault es = Pl.faultN es (len - k) k) ∧ Below w.heap.size w wr) (fun i _ => len - (intOf i).toNat)
  case atStart => exact ⟨0, Nat.zero_le _, rfl, by show _ = _; rw [Pl.fault_from (by omega), hl]; rfl, Below.refl _ _⟩
  case round =>
    obtain ⟨k, hk, rfl, HF, hb⟩ := hrel
    by_cases hlt : k < len
    · obtain ⟨b, off, rfl, hbw, hr⟩ : ∃ b off, a = some ⟨b, off, none⟩ ∧ b < w.heap.size ∧ RowAt w b off es := by
        rcases hrow with rfl | h
        · simp at hl; omega
        · exact h
      clear hrow
      have hr' := hr.below hbw hb
      obtain ⟨c0, c1, c2, c3⟩ := hr' k (by omega)
      have hoke := hok _ (Pl.ent_mem es k (by omega))
      obtain ⟨hok0, _, _, hok3⟩ := hoke
      have hz := hb.size
      obtain ⟨mm, HM⟩ : ∃ mm, Hid (Pl.entB (Pl.ent es k).key (Pl.ent es k).ver (Pl.ent es k).org (Pl.ent es k).val = mm) := ⟨_, rfl⟩
      have HM' : Hid ((Pl.ent es k).may = mm) := HM
      obtain ⟨n, hn⟩ : ∃ n, len - k = n + 1 := ⟨len - k - 1, by omega⟩
      have HN : Hid (len - k = n + 1) := hn
      clear hn
      cases mm
      · go_wp2_with fail
        refine (isEntry_any _ _ _ _ _ hok0 hok3).mono ?_
        rw [HM.out]
        rintro e w1 ⟨rfl, hb1⟩
        go_wp2_with fail
        go_ret
        exact ⟨ret_int (by rw [HF.out, HN.out, Pl.faultN_form HM'.out]), (hb.alloc hz _).trans (hb1.mono (by simp; omega))⟩
      · rcases Nat.eq_zero_or_pos k with hk0 | hk0
        · have hd : decide (0 < k) = false := by simp; omega
          have HK0 : Hid (k = 0) := hk0
          clear hk0
          go_wp2_with fail
          refine (isEntry_any _ _ _ _ _ hok0 hok3).mono ?_
          rw [HM.out]
          rintro e w1 ⟨rfl, hb1⟩
          go_wp2_with fail
          go_quiet (fail)
          go_wp2
          go_roundw
          case rel => exact ⟨k + 1, by omega, by go_num, by show _ = _; rw [HF.out, HN.out, Pl.faultN_on HM'.out (by simp [Pl.lowB, HK0.out])]; congr 1; have := HN.out; omega, below_drewN ((hb.alloc hz _).trans (hb1.mono (by simp; omega))) _⟩
          case measure => simp [intOf]; omega
        · obtain ⟨m, rfl⟩ : ∃ m, k = m + 1 := ⟨k - 1, by omega⟩
          obtain ⟨d0, d1, d2, d3⟩ := hr' m (by omega)
          have hbr : b < wr.heap.size := by omega
          go_wp2_with fail
          refine (isEntry_any _ _ _ _ _ hok0 hok3).mono ?_
          rw [HM.out]
          rintro e w1 ⟨rfl, hb1⟩
          obtain ⟨hcc, hff⟩ := bcell hb1
          clear hff
          go_wp2_with fail
          go_quiet (fail)
          go_wp2
          · go_ret
            exact ⟨ret_int (by rw [HF.out, HN.out, Pl.faultN_low HM'.out (Pl.lowB_true ‹_›)]), below_drewN ((hb.alloc hz _).trans (hb1.mono (by simp; omega))) _⟩
          · go_roundw
            case rel => exact ⟨m + 1 + 1, by omega, by go_num, by show _ = _; rw [HF.out, HN.out, Pl.faultN_on HM'.out (Pl.lowB_false ‹_›)]; congr 1; have := HN.out; omega, below_drewN ((hb.alloc hz _).trans (hb1.mono (by simp; omega))) _⟩
            case measure => simp [intOf]; omega
    · obtain rfl : k = len := by omega
      go_wp2
      go_ret
      exact ⟨ret_int (by rw [HF.out]; simp [Pl.faultN]), hb⟩
end Go.Proofs.YtpaobnhcbeklfaaGreatDoor
/-
  Plain facts: stores in their order, the place of a key; no program in sight.
-/
namespace Go.Proofs.YtpaobnhcbeklfaaGreatDoor.Pl

/-- the keys ascend -/
def Asc (es : List Ent) : Prop := ∀ i j, i < j → j < es.length → ltB (ent es i).key (ent es j).key = true
/-- all entries may be -/
def May (es : List Ent) : Prop := ∀ i, i < es.length → (ent es i).may = true

theorem faultN_zero (es : List Ent) : ∀ n i, faultN es n i = 0 → ∀ j, i ≤ j → j < i + n → (ent es j).may = true ∧ lowB es j = false
  | 0, _, _, j, h1, h2 => by omega
  | n + 1, i, h, j, h1, h2 => by
    simp only [faultN] at h
    cases hm : (ent es i).may
    · simp [hm] at h
    · cases hl : lowB es i
      · simp only [hm, hl] at h
        rcases Nat.lt_or_ge i j with k | k
        · exact faultN_zero es n (i + 1) (by simpa using h) j (by omega) (by omega)
        · obtain rfl : j = i := by omega
          exact ⟨hm, hl⟩
      · simp [hm, hl] at h

theorem good_of_fault {es : List Ent} (h : fault es = 0) : es.length ≤ 60 ∧ May es ∧ Asc es := by
  unfold fault at h
  split at h
  · rename_i hl
    have hz := faultN_zero es es.length 0 h
    refine ⟨hl, fun i hi => (hz i (by omega) (by omega)).1, ?_⟩
    intro i j hij hj
    induction j with
    | zero => omega
    | succ m ih =>
      have hlow := (hz (m + 1) (by omega) (by omega)).2
      have hstep : ltB (ent es m).key (ent es (m + 1)).key = true := by
        unfold lowB at hlow
        simpa using hlow
      rcases Nat.lt_or_ge i m with k | k
      · exact ltB_trans (ih k (by omega)) hstep
      · obtain rfl : i = m := by omega
        exact hstep
  · cases h

theorem faultN_of_good (es : List Ent) (h : ∀ j, j < es.length → (ent es j).may = true ∧ lowB es j = false) : ∀ n i, i + n ≤ es.length → faultN es n i = 0
  | 0, _, _ => rfl
  | n + 1, i, hi => by
    obtain ⟨h1, h2⟩ := h i (by omega)
    rw [faultN_on h1 h2]
    exact faultN_of_good es h n (i + 1) (by omega)

theorem fault_of_good {es : List Ent} (hl : es.length ≤ 60) (hm : May es) (ha : Asc es) : fault es = 0 := by
  rw [fault_from hl]
  refine faultN_of_good es (fun j hj => ⟨hm j hj, ?_⟩) _ _ (by omega)
  unfold lowB
  rcases Nat.eq_zero_or_pos j with rfl | k
  · rfl
  · rw [ha (j - 1) j (by omega) hj]; simp

/-- the place of a key, or that at which it would come -/
def pos : List Ent → ByteArray → Nat
  | [], _ => 0
  | e :: r, key => if ltB e.key key then pos r key + 1 else 0

theorem pos_le : ∀ (es : List Ent) (key : ByteArray), pos es key ≤ es.length
  | [], _ => Nat.le_refl _
  | e :: r, key => by
    simp only [pos, List.length_cons]
    have := pos_le r key
    split <;> omega
theorem pos_lt : ∀ (es : List Ent) (key : ByteArray) (i : Nat), i < pos es key → ltB (ent es i).key key = true
  | [], _, i, h => by simp [pos] at h
  | e :: r, key, i, h => by
    simp only [pos] at h
    split at h
    · rename_i he
      cases i with
      | zero => simpa [ent] using he
      | succ i => rw [ent_cons_succ]; exact pos_lt r key i (by omega)
    · omega
theorem pos_at : ∀ (es : List Ent) (key : ByteArray), pos es key < es.length → ltB (ent es (pos es key)).key key = false
  | [], _, h => by simp at h
  | e :: r, key, h => by
    cases he : ltB e.key key
    · simp [pos, he, ent]
    · simp only [pos, he, if_true] at h ⊢
      rw [ent_cons_succ]
      exact pos_at r key (by simpa using h)
theorem pos_of {es : List Ent} {key : ByteArray} {i : Nat} (hi : i ≤ es.length) (h1 : ∀ t, t < i → ltB (ent es t).key key = true) (h2 : i < es.length → ltB (ent es i).key key = false) : pos es key = i := by
  rcases Nat.lt_trichotomy (pos es key) i with k | k | k
  · have a := h1 _ k
    rw [pos_at es key (by omega)] at a; cases a
  · exact k
  · have a := pos_lt es key i k
    have b := pos_le es key
    rw [h2 (by omega)] at a; cases a

/-- is the key there? -/
def there (es : List Ent) (key : ByteArray) : Bool := decide (pos es key < es.length) && decide ((ent es (pos es key)).key = key)

theorem asc_lt {es : List Ent} (h : Asc es) {key : ByteArray} {t m : Nat} (hm : m < es.length) (ht : t ≤ m) (k : ltB (ent es m).key key = true) : ltB (ent es t).key key = true := by
  rcases Nat.lt_or_ge t m with q | q
  · exact ltB_trans (h t m q hm) k
  · obtain rfl : t = m := by omega
    exact k
theorem asc_ge {es : List Ent} (h : Asc es) {key : ByteArray} {t m : Nat} (ht : t < es.length) (hm : m ≤ t) (k : ltB (ent es m).key key = false) : ltB (ent es t).key key = false := by
  cases q : ltB (ent es t).key key
  · rfl
  · rw [asc_lt h ht hm q] at k; cases k

/-- the first place of a key, or the length -/
def idx : List Ent → ByteArray → Nat
  | [], _ => 0
  | e :: r, key => if e.key = key then 0 else idx r key + 1
def idxI (es : List Ent) (key : ByteArray) : Int := if idx es key < es.length then (idx es key : Int) else -1
theorem idx_le : ∀ (es : List Ent) (key : ByteArray), idx es key ≤ es.length
  | [], _ => Nat.le_refl _
  | e :: r, key => by
    simp only [idx, List.length_cons]
    have := idx_le r key
    split <;> omega
theorem idx_of : ∀ (es : List Ent) (key : ByteArray) (i : Nat), i ≤ es.length → (∀ t, t < i → ¬ (ent es t).key = key) → (i < es.length → (ent es i).key = key) → idx es key = i
  | [], _, i, h, _, _ => by simp at h; simp [idx, h]
  | e :: r, key, i, h, h1, h2 => by
    cases i with
    | zero =>
      have : e.key = key := by simpa [ent] using h2 (by simp)
      simp [idx, this]
    | succ i =>
      have h0 : ¬ e.key = key := by simpa [ent] using h1 0 (by omega)
      simp only [idx, h0, if_false]
      rw [idx_of r key i (by simpa using h) (fun t ht => by have := h1 (t + 1) (by omega); rwa [ent_cons_succ] at this) (fun hi => by have := h2 (by simpa using hi); rwa [ent_cons_succ] at this)]
theorem idx_asc {es : List Ent} (h : Asc es) (key : ByteArray) : idx es key = if there es key then pos es key else es.length := by
  have hle := pos_le es key
  cases ht : there es key
  · simp only [Bool.false_eq_true, if_false]
    refine idx_of es key _ (Nat.le_refl _) (fun t hlt he => ?_) (fun k => by omega)
    have hp : pos es key = t := by
      refine pos_of (by omega) (fun u hu => ?_) (fun _ => by rw [he]; exact ltB_irrefl _)
      have := h u t hu hlt
      rwa [he] at this
    unfold there at ht
    rw [hp] at ht
    simp [hlt, he] at ht
  · unfold there at ht
    simp only [Bool.and_eq_true, decide_eq_true_eq] at ht
    simp only [if_true]
    refine idx_of es key _ hle (fun t hlt he => ?_) (fun _ => ht.2)
    have := pos_lt es key t hlt
    rw [he, ltB_irrefl] at this; cases this
theorem idxI_asc {es : List Ent} (h : Asc es) (key : ByteArray) : idxI es key = if there es key then (pos es key : Int) else -1 := by
  unfold idxI
  rw [idx_asc h key]
  cases ht : there es key
  · simp
  · simp only [if_true]
    unfold there at ht
    simp only [Bool.and_eq_true, decide_eq_true_eq] at ht
    rw [if_pos ht.1]
end Go.Proofs.YtpaobnhcbeklfaaGreatDoor.Pl
/-
  Contracts: the place of a key in a store in order: the closure, the search, find; the document's placeOf.
-/
namespace Go.Proofs.YtpaobnhcbeklfaaGreatDoor
open Go.RowKit
set_option maxRecDepth 20000

theorem RowAt.drewN {w : World} {b off : Nat} {es : List Pl.Ent} (h : RowAt w b off es) (n : Nat) : RowAt (w.drewN n) b off es := fun i hi => h i hi

set_option maxHeartbeats 400000 in
theorem clo_any (es : List Pl.Ent) (key : ByteArray) (b off len cap bl bk i : Nat) (w : World) (hl : es.length = len) (_hc : len ≤ cap) (_hm : cap ≤ maxLen)
    (hrow : RowAt w b off es) (h1 : w.cell? ⟨bl, 0, none⟩ = some (.slice (some ⟨b, off, none⟩) len cap)) (h2 : w.cell? ⟨bk, 0, none⟩ = some (.string key)) (hi : i < len) :
    Calls Tryz.prog 61 #[.int .i64 i, .pointer (some ⟨bl, 0, none⟩), .pointer (some ⟨bk, 0, none⟩)] w fun e w' => e = .returned (.bool (!Pl.ltB (Pl.ent es i).key key)) ∧ ∃ n, w' = w.drewN n := by
  unfold maxLen at _hm
  obtain ⟨c0, _, _, _⟩ := hrow i (by omega)
  have hi' : (i : Int) < (len : Int) := by omega
  go_enter Tryz.func61, Tryz.ntmps61
  go_wp2_with fail
  go_quiet (fail)
  go_wp2
  go_ret
  exact ⟨rfl, _, rfl⟩

set_option maxHeartbeats 400000 in
theorem Search_any (es : List Pl.Ent) (key : ByteArray) (a : Option Addr) (len cap bl bk : Nat) (w : World) (hl : es.length = len) (hc : len ≤ cap) (hm : cap ≤ maxLen)
    (hrow : es = [] ∨ ∃ b off, a = some ⟨b, off, none⟩ ∧ RowAt w b off es) (h1 : w.cell? ⟨bl, 0, none⟩ = some (.slice a len cap)) (h2 : w.cell? ⟨bk, 0, none⟩ = some (.string key)) (has : Pl.Asc es) (h60 : len ≤ 60) :
    Calls Tryz.prog 46 #[.int .i64 len, .func (.func 61) #[] #[.pointer (some ⟨bl, 0, none⟩), .pointer (some ⟨bk, 0, none⟩)]] w fun e w' => e = .returned (.int .i64 (Pl.pos es key)) ∧ ∃ n, w' = w.drewN n := by
  have hm' : cap ≤ maxLen := hm
  have HM : Hid (cap ≤ maxLen) := hm'
  clear hm'
  unfold maxLen at hm
  have HR : Hid (es = [] ∨ ∃ b off, a = some ⟨b, off, none⟩ ∧ RowAt w b off es) := hrow
  have H1 : Hid (w.cell? ⟨bl, 0, none⟩ = some (.slice a len cap)) := h1
  have H2 : Hid (w.cell? ⟨bk, 0, none⟩ = some (.string key)) := h2
  have HA : Hid (Pl.Asc es) := has
  clear hrow h1 h2 has
  go_enter Tryz.func46, Tryz.ntmps46
  go_wp2
  go_loopw [5, 6] (fun i j wr => ∃ x y n : Nat, x ≤ y ∧ y ≤ len ∧ i = .int .i64 x ∧ j = .int .i64 y ∧ Hid (wr = w.drewN n) ∧ Hid (∀ t, t < x → Pl.ltB (Pl.ent es t).key key = true) ∧ Hid (∀ t, y ≤ t → t < len → Pl.ltB (Pl.ent es t).key key = false)) (fun i j _ => (intOf j).toNat - (intOf i).toNat)
  case atStart => exact ⟨0, len, 0, Nat.zero_le _, Nat.le_refl _, rfl, rfl, rfl, fun t h => by omega, fun t h h' => by omega⟩
  case round =>
    obtain ⟨x, y, n, hxy, hy, rfl, rfl, HW, HX, HY⟩ := hrel
    by_cases hlt : x < y
    · obtain ⟨b, off, rfl, hrow⟩ : ∃ b off, a = some ⟨b, off, none⟩ ∧ RowAt w b off es := by
        rcases HR.out with h | h
        · rw [h] at hl; simp at hl; omega
        · exact h
      have hr : RowAt wr b off es := by rw [HW.out]; exact hrow.drewN n
      have h1 : wr.cell? ⟨bl, 0, none⟩ = some (.slice (some ⟨b, off, none⟩) len cap) := by rw [HW.out]; exact H1.out
      have h2 : wr.cell? ⟨bk, 0, none⟩ = some (.string key) := by rw [HW.out]; exact H2.out
      have HC := fun m => clo_any es key b off len cap bl bk m wr hl hc HM.out hr h1 h2
      have HC' : Hid _ := HC
      clear HC hr h1 h2
      go_wp2_with fail
      obtain ⟨m, hm2, hxm, hmy⟩ : ∃ m : Nat, ((x : Int) + (y : Int)) / 2 = (m : Int) ∧ x ≤ m ∧ m < y := ⟨(x + y) / 2, by omega, by omega, by omega⟩
      rw [hm2]
      clear hm2
      refine (HC'.out m (by omega)).mono ?_
      rintro e w' ⟨rfl, q, hq⟩
      have HQ : Hid (w' = wr.drewN q) := hq
      clear hq
      obtain ⟨ll, HL⟩ : ∃ ll, Hid (Pl.ltB (Pl.ent es m).key key = ll) := ⟨_, rfl⟩
      rw [HL.out]
      have HW' : Hid (w' = w.drewN (n + q)) := by show _ = _; rw [HQ.out, HW.out, World.drewN_drewN]
      cases ll
      · go_wp2
        go_roundw
        case rel => exact ⟨x, m, n + q, by omega, by omega, rfl, rfl, HW', HX, fun t h h' => Pl.asc_ge HA.out (by omega) h HL.out⟩
        case measure => simp [intOf]; omega
      · go_wp2
        go_roundw
        case rel => exact ⟨m + 1, y, n + q, by omega, by omega, by go_num, rfl, HW', fun t h => Pl.asc_lt HA.out (by omega) (by omega) HL.out, HY⟩
        case measure => simp [intOf]; omega
    · obtain rfl : x = y := by omega
      go_wp2
      go_ret
      exact ⟨ret_int (by rw [Pl.pos_of (by omega) HX.out (fun h => HY.out x (Nat.le_refl _) (by omega))]), n, HW.out⟩

set_option maxHeartbeats 400000 in
theorem find_any (a : Option Addr) (len cap : Nat) (es : List Pl.Ent) (key : ByteArray) (w : World) (h : IsEnts w a len cap es) (has : Pl.Asc es) (h60 : len ≤ 60) :
    Calls Tryz.prog 42 #[.slice a len cap, .string key] w fun e w' => e = .returned (.tuple #[.int .i64 (Pl.pos es key), .bool (Pl.there es key)]) ∧ Below w.heap.size w w' := by
  obtain ⟨hl, hc, hm, _, hrow⟩ := h
  have hmf : ∀ (fn : Fn) (first cap : Array Value) (w : World), (Instr.makeFunc fn first cap).run Tryz.prog w = .ok (.func fn first cap) w := fun _ _ _ _ => rfl
  have HB : Hid (Below w.heap.size w ((w.alloc (.cells #[.slice a len cap] 22)).alloc (.cells #[.string key] 9))) := ((Below.refl _ _).alloc (Nat.le_refl _) _).alloc (by simp) _
  have HS : Hid (Calls Tryz.prog 46 #[.int .i64 len, .func (.func 61) #[] #[.pointer (some ⟨w.heap.size, 0, none⟩), .pointer (some ⟨w.heap.size + 1, 0, none⟩)]] ((w.alloc (.cells #[.slice a len cap] 22)).alloc (.cells #[.string key] 9)) fun e w' => e = .returned (.int .i64 (Pl.pos es key)) ∧ ∃ n, w' = ((w.alloc (.cells #[.slice a len cap] 22)).alloc (.cells #[.string key] 9)).drewN n) := by
    refine Search_any es key a len cap _ _ _ hl hc hm ?_ ?_ ?_ has h60
    · rcases hrow with h | ⟨b, off, rfl, hb, hr⟩
      · exact .inl h
      · exact .inr ⟨b, off, rfl, hr.below hb HB.out⟩
    · go_simp
    · go_simp
  have hp := Pl.pos_le es key
  unfold maxLen at hm
  rcases Nat.lt_or_ge (Pl.pos es key) len with hlt | hge
  · obtain ⟨b, off, rfl, hb, hr⟩ : ∃ b off, a = some ⟨b, off, none⟩ ∧ b < w.heap.size ∧ RowAt w b off es := by
      rcases hrow with h | h
      · rw [h] at hl; simp at hl; omega
      · exact h
    obtain ⟨c0, _, _, _⟩ := hr (Pl.pos es key) (by omega)
    have HT : Hid (Pl.there es key = ((Pl.ent es (Pl.pos es key)).key.toList == key.toList)) := by
      show _ = _
      unfold Pl.there
      rw [Pl.beqL, decide_eq_true (show Pl.pos es key < es.length by omega)]; rfl
    generalize Pl.pos es key = p at *
    clear hrow hr
    have hlt' : (p : Int) < (len : Int) := by omega
    go_enter Tryz.func42, Tryz.ntmps42
    go_wp2_with fail
    refine HS.out.mono ?_
    rintro e w' ⟨rfl, n, hn⟩
    subst hn
    go_wp2_with fail
    go_quiet (fail)
    go_wp2
    go_ret2
    exact ⟨by rw [HT.out]; rfl, below_drewN (below_drewN HB.out _) _⟩
  · have HT : Hid (Pl.there es key = false) := by
      show _ = _
      unfold Pl.there
      rw [decide_eq_false (show ¬ Pl.pos es key < es.length by omega)]; rfl
    generalize Pl.pos es key = p at *
    have hd : decide ((p : Int) < (len : Int)) = false := by simp; omega
    have hd' : decide (p < len) = false := by simp; omega
    go_enter Tryz.func42, Tryz.ntmps42
    go_wp2_with fail
    refine HS.out.mono ?_
    rintro e w' ⟨rfl, n, hn⟩
    subst hn
    go_wp2_with fail
    go_quiet (fail)
    go_wp2
    go_ret2
    exact ⟨by rw [HT.out]; rfl, below_drewN (below_drewN HB.out _) _⟩

set_option maxHeartbeats 400000 in
theorem placeOf_any (a : Option Addr) (len cap : Nat) (es : List Pl.Ent) (key : ByteArray) (w : World) (h : IsEnts w a len cap es) :
    Calls Tryz.prog 32 #[.slice a len cap, .string key] w fun e w' => e = .returned (.int .i64 (Pl.idxI es key)) ∧ w' = w := by
  obtain ⟨hl, hc, hm, _, hrow⟩ := h
  unfold maxLen at hm
  go_enter Tryz.func32, Tryz.ntmps32
  go_wp2
  go_loop [5] (fun i => ∃ k : Nat, k ≤ len ∧ i = .int .i64 k ∧ Hid (∀ t, t < k → ¬ (Pl.ent es t).key = key)) (fun i => len - (intOf i).toNat)
  case atStart => exact ⟨0, Nat.zero_le _, rfl, fun t h => by omega⟩
  case round =>
    obtain ⟨k, hk, rfl, HK⟩ := hrel
    by_cases hlt : k < len
    · obtain ⟨b, off, rfl, hb, hr⟩ : ∃ b off, a = some ⟨b, off, none⟩ ∧ b < w.heap.size ∧ RowAt w b off es := by
        rcases hrow with h | h
        · rw [h] at hl; simp at hl; omega
        · exact h
      obtain ⟨c0, _, _, _⟩ := hr k (by omega)
      clear hrow hr
      by_cases he : (Pl.ent es k).key = key
      · have HE : Hid ((Pl.ent es k).key = key) := he
        have hb1 : ((Pl.ent es k).key.toList == key.toList) = true := by rw [he]; simp
        clear he
        go_wp2
        go_ret
        exact ⟨ret_int (by have := Pl.idx_of es key k (by omega) HK.out (fun _ => HE.out); unfold Pl.idxI; rw [this, if_pos (by omega)]), rfl⟩
      · have HE : Hid (¬ (Pl.ent es k).key = key) := he
        have hb1 := Pl.beqL_false he
        clear he
        go_wp2
        go_round
        case rel => exact ⟨k + 1, by omega, by go_num, fun t h => by rcases Nat.lt_or_ge t k with q | q; exact HK.out t q; obtain rfl : t = k := (by omega); exact HE.out⟩
        case measure => simp [intOf]; omega
    · obtain rfl : k = len := by omega
      go_wp2
      go_ret
      exact ⟨ret_int (by have := Pl.idx_of es key k (by omega) HK.out (fun h => by omega); unfold Pl.idxI; rw [this, if_neg (by omega)]), rfl⟩
end Go.Proofs.YtpaobnhcbeklfaaGreatDoor
/-
  Contract: what StoreFault, the document's answer to Check, answers at every list of entries.
-/
namespace Go.Proofs.YtpaobnhcbeklfaaGreatDoor
open Go.RowKit
set_option maxRecDepth 20000

set_option maxHeartbeats 1000000 in
theorem StoreFault_any (a : Option Addr) (len cap : Nat) (es : List Pl.Ent) (w : World) (h : IsEnts w a len cap es) :
    Calls Tryz.prog 29 #[.slice a len cap] w fun e w' => e = .returned (.int .i64 (Pl.fault es)) ∧ Below w.heap.size w w' := by
  obtain ⟨hl, hc, hm, hok, hrow⟩ := h
  unfold maxLen at hm
  by_cases h60 : 60 < len
  · go_enter Tryz.func29, Tryz.ntmps29
    go_wp2
    go_ret
    exact ⟨ret_int (Pl.fault_size (by omega)).symm, Below.refl _ _⟩
  go_enter Tryz.func29, Tryz.ntmps29
  go_wp2
  go_loopw [3] (fun i wr => ∃ k : Nat, k ≤ len ∧ i = .int .i64 k ∧ Hid (Pl.fault es = Pl.faultN es (len - k) k) ∧ Below w.heap.size w wr) (fun i _ => len - (intOf i).toNat)
  case atStart => exact ⟨0, Nat.zero_le _, rfl, by show _ = _; rw [Pl.fault_from (by omega), hl]; rfl, Below.refl _ _⟩
  case round =>
    obtain ⟨k, hk, rfl, HF, hb⟩ := hrel
    by_cases hlt : k < len
    · obtain ⟨b, off, rfl, hbw, hr⟩ : ∃ b off, a = some ⟨b, off, none⟩ ∧ b < w.heap.size ∧ RowAt w b off es := by
        rcases hrow with rfl | h
        · simp at hl; omega
        · exact h
      clear hrow
      have hr' := hr.below hbw hb
      obtain ⟨c0, c1, c2, c3⟩ := hr' k (by omega)
      have hoke := hok _ (Pl.ent_mem es k (by omega))
      obtain ⟨hok0, _, _, hok3⟩ := hoke
      have hz := hb.size
      obtain ⟨n, hn⟩ : ∃ n, len - k = n + 1 := ⟨len - k - 1, by omega⟩
      have HN : Hid (len - k = n + 1) := hn
      clear hn
      obtain ⟨kk, HK⟩ : ∃ kk, Hid (Pl.keyB (Pl.ent es k).key = kk) := ⟨_, rfl⟩
      obtain ⟨vv, HV⟩ : ∃ vv, Hid (decide (1 ≤ (Pl.ent es k).ver ∧ (Pl.ent es k).ver ≤ 1099511627776) = vv) := ⟨_, rfl⟩
      obtain ⟨oo, HO⟩ : ∃ oo, Hid (decide (0 ≤ (Pl.ent es k).org ∧ (Pl.ent es k).org ≤ 11) = oo) := ⟨_, rfl⟩
      obtain ⟨xx, HX⟩ : ∃ xx, Hid (decide ((Pl.ent es k).val.size ≤ 120) = xx) := ⟨_, rfl⟩
      have HM : Hid ((Pl.ent es k).may = (kk && vv && oo && xx)) := by
        show _ = _
        unfold Pl.Ent.may Pl.entB
        rw [HK.out, HV.out, HO.out, HX.out]
      have hx120 : ((120 : Int) < ((Pl.ent es k).val.size : Int)) = (xx = false) := by
        have := HX.out
        cases xx
        · simp at this ⊢; omega
        · simp at this ⊢; omega
      by_cases hall : (kk && vv && oo && xx) = true
      · simp only [Bool.and_eq_true] at hall
        obtain ⟨⟨⟨rfl, rfl⟩, rfl⟩, rfl⟩ := hall
        have HM' : Hid ((Pl.ent es k).may = true) := HM.out
        clear HM
        rcases Nat.eq_zero_or_pos k with hk0 | hk0
        · have hd : decide (0 < k) = false := by simp; omega
          have HK0 : Hid (k = 0) := hk0
          clear hk0
          go_wp2_with (first | (go_at_call 52; refine (KeyMay_any _ _ hok0).mono ?_; rw [HK.out]; rintro e w' ⟨rfl, rfl⟩) | (go_at_call 30; refine (In_any _ _ _ _).mono ?_; (first | rw [HV.out] | rw [HO.out]); rintro e w' ⟨rfl, rfl⟩))
          go_quiet (fail)
          go_wp2
          go_roundw
          case rel => exact ⟨k + 1, by omega, by go_num, by show _ = _; rw [HF.out, HN.out, Pl.faultN_on HM'.out (by simp [Pl.lowB, HK0.out])]; congr 1; have := HN.out; omega, below_drewN (hb.alloc hz _) _⟩
          case measure => simp [intOf]; omega
        · obtain ⟨m, rfl⟩ : ∃ m, k = m + 1 := ⟨k - 1, by omega⟩
          obtain ⟨d0, d1, d2, d3⟩ := hr' m (by omega)
          have hbr : b < wr.heap.size := by omega
          go_wp2_with (first | (go_at_call 52; refine (KeyMay_any _ _ hok0).mono ?_; rw [HK.out]; rintro e w' ⟨rfl, rfl⟩) | (go_at_call 30; refine (In_any _ _ _ _).mono ?_; (first | rw [HV.out] | rw [HO.out]); rintro e w' ⟨rfl, rfl⟩))
          go_quiet (fail)
          go_wp2
          · go_ret
            exact ⟨ret_int (by rw [HF.out, HN.out, Pl.faultN_low HM'.out (Pl.lowB_true ‹_›)]), below_drewN (hb.alloc hz _) _⟩
          · go_roundw
            case rel => exact ⟨m + 1 + 1, by omega, by go_num, by show _ = _; rw [HF.out, HN.out, Pl.faultN_on HM'.out (Pl.lowB_false ‹_›)]; congr 1; have := HN.out; omega, below_drewN (hb.alloc hz _) _⟩
            case measure => simp [intOf]; omega
      · have HM' : Hid ((Pl.ent es k).may = false) := by
          show _ = _
          rw [HM.out]; simpa using hall
        have HR : Hid (Pl.fault es = 4) := by
          show _ = _
          rw [HF.out, HN.out, Pl.faultN_form HM'.out]
        cases kk
        all_goals cases vv
        all_goals cases oo
        all_goals cases xx
        all_goals first | (exact absurd rfl hall) | skip
        all_goals
          go_wp2_with (first | (go_at_call 52; refine (KeyMay_any _ _ hok0).mono ?_; rw [HK.out]; rintro e w' ⟨rfl, rfl⟩) | (go_at_call 30; refine (In_any _ _ _ _).mono ?_; (first | rw [HV.out] | rw [HO.out]); rintro e w' ⟨rfl, rfl⟩))
          go_ret
          exact ⟨ret_int HR.out.symm, hb.alloc hz _⟩
    · obtain rfl : k = len := by omega
      go_wp2
      go_ret
      exact ⟨ret_int (by rw [HF.out]; simp [Pl.faultN]), hb⟩
end Go.Proofs.YtpaobnhcbeklfaaGreatDoor
/-
  Contracts: what Get and the document's GotOf answer at every list of entries and every key.
-/
namespace Go.Proofs.YtpaobnhcbeklfaaGreatDoor
open Go.RowKit
set_option maxRecDepth 20000

/-- the entry that is told -/
def Pl.gotE (es : List Pl.Ent) (key : ByteArray) : Pl.Ent := if Pl.fault es = 0 then (if Pl.there es key then Pl.ent es (Pl.pos es key) else Pl.Ent.none) else Pl.Ent.none
def Pl.gotC (es : List Pl.Ent) (key : ByteArray) : Int := if Pl.fault es = 0 then (if Pl.there es key then 0 else 6) else Pl.fault es

set_option maxHeartbeats 400000 in
theorem Get_any (a : Option Addr) (len cap : Nat) (es : List Pl.Ent) (key : ByteArray) (w : World) (h : IsEnts w a len cap es) :
    Calls Tryz.prog 22 #[.slice a len cap, .string key] w fun e w' =>
      e = .returned (.tuple #[.agg #[.string (Pl.gotE es key).key, .int .i64 (Pl.gotE es key).ver, .int .i64 (Pl.gotE es key).org, .string (Pl.gotE es key).val], .int .i64 (Pl.gotC es key)]) ∧ Below w.heap.size w w' := by
  have HH : Hid (IsEnts w a len cap es) := h
  clear h
  obtain ⟨c, HC⟩ : ∃ c, Hid (Pl.fault es = c) := ⟨_, rfl⟩
  by_cases hc0 : c = 0
  · subst hc0
    obtain ⟨g1, g2, g3⟩ := Pl.good_of_fault HC.out
    have hlen : es.length = len := HH.out.1
    have HL : Hid (len ≤ 60) := by show _ ≤ _; omega
    have HA : Hid (Pl.Asc es) := g3
    clear g1 g2 g3
    obtain ⟨t, HT⟩ : ∃ t, Hid (Pl.there es key = t) := ⟨_, rfl⟩
    cases t
    · have HE : Hid (Pl.gotE es key = Pl.Ent.none ∧ Pl.gotC es key = 6) := by unfold Pl.gotE Pl.gotC; rw [HC.out, HT.out]; exact ⟨rfl, rfl⟩
      go_enter Tryz.func22, Tryz.ntmps22
      go_wp2_with fail
      refine (Check_any _ _ _ es _ (HH.out.below ((Below.refl _ _).alloc (Nat.le_refl _) _))).mono ?_
      rw [HC.out]
      rintro e w1 ⟨rfl, hb1⟩
      have hz := hb1.size
      simp at hz
      go_wp2_with fail
      refine (find_any _ _ _ es key _ (HH.out.below (((Below.refl _ _).alloc (Nat.le_refl _) _).trans (hb1.mono (by simp)))) HA.out HL.out).mono ?_
      rw [HT.out]
      rintro e w2 ⟨rfl, hb2⟩
      have hb12 := hb1.trans (hb2.mono (by simp; omega))
      obtain ⟨hcc, hff⟩ := bcell hb12
      go_wp2_with fail
      refine bodyPost_ret (v := .tuple #[.agg #[.string (Pl.gotE es key).key, .int .i64 (Pl.gotE es key).ver, .int .i64 (Pl.gotE es key).org, .string (Pl.gotE es key).val], .int .i64 (Pl.gotC es key)]) (by rw [HE.out.1, HE.out.2]; simp [results, Tryz.results22, go_sem, hcc, Pl.Ent.none]) rfl ⟨rfl, ((((((Below.refl _ _).alloc (Nat.le_refl _) _).trans (hb12.mono (by simp))).setCell (Nat.le_refl _) _).setCell (Nat.le_refl _) _).setCell (Nat.le_refl _) _).setCell (Nat.le_refl _) _⟩
    · have hlt : Pl.pos es key < len := by
        have := HT.out
        unfold Pl.there at this
        simp only [Bool.and_eq_true, decide_eq_true_eq] at this
        omega
      have HE : Hid (Pl.gotE es key = Pl.ent es (Pl.pos es key) ∧ Pl.gotC es key = 0) := by unfold Pl.gotE Pl.gotC; rw [HC.out, HT.out]; exact ⟨rfl, rfl⟩
      obtain ⟨p, HP⟩ : ∃ p, Hid (Pl.pos es key = p) := ⟨_, rfl⟩
      rw [HP.out] at hlt HE
      obtain ⟨b, off, rfl, hbw, hr⟩ : ∃ b off, a = some ⟨b, off, none⟩ ∧ b < w.heap.size ∧ RowAt w b off es := by
        rcases HH.out.2.2.2.2 with h | h
        · rw [h] at hlen; simp at hlen; omega
        · exact h
      have hcap := HH.out.2.1
      have hm := HH.out.2.2.1
      unfold maxLen at hm
      obtain ⟨q0, q1, q2, q3⟩ := hr p (by omega)
      have hlt' : (p : Int) < (len : Int) := by omega
      go_enter Tryz.func22, Tryz.ntmps22
      go_wp2_with fail
      refine (Check_any _ _ _ es _ (HH.out.below ((Below.refl _ _).alloc (Nat.le_refl _) _))).mono ?_
      rw [HC.out]
      rintro e w1 ⟨rfl, hb1⟩
      have hz := hb1.size
      simp at hz
      go_wp2_with fail
      refine (find_any _ _ _ es key _ (HH.out.below (((Below.refl _ _).alloc (Nat.le_refl _) _).trans (hb1.mono (by simp)))) HA.out HL.out).mono ?_
      rw [HT.out, HP.out]
      rintro e w2 ⟨rfl, hb2⟩
      have hb12 := hb1.trans (hb2.mono (by simp; omega))
      obtain ⟨hcc, hff⟩ := bcell hb12
      go_wp2_with fail
      refine bodyPost_ret (v := .tuple #[.agg #[.string (Pl.gotE es key).key, .int .i64 (Pl.gotE es key).ver, .int .i64 (Pl.gotE es key).org, .string (Pl.gotE es key).val], .int .i64 (Pl.gotC es key)]) (by rw [HE.out.1, HE.out.2]; simp [results, Tryz.results22, go_sem, hcc]) rfl ⟨rfl, ((((((Below.refl _ _).alloc (Nat.le_refl _) _).trans (hb12.mono (by simp))).setCell (Nat.le_refl _) _).setCell (Nat.le_refl _) _).setCell (Nat.le_refl _) _).setCell (Nat.le_refl _) _⟩
  · have hcn : (c != 0) = true := by simp [hc0]
    have HE : Hid (Pl.gotE es key = Pl.Ent.none ∧ Pl.gotC es key = c) := by unfold Pl.gotE Pl.gotC; rw [HC.out, if_neg hc0, if_neg hc0]; exact ⟨rfl, rfl⟩
    clear hc0
    go_enter Tryz.func22, Tryz.ntmps22
    go_wp2_with fail
    refine (Check_any _ _ _ es _ (HH.out.below ((Below.refl _ _).alloc (Nat.le_refl _) _))).mono ?_
    rw [HC.out]
    rintro e w1 ⟨rfl, hb12⟩
    obtain ⟨hcc, hff⟩ := bcell hb12
    go_wp2_with fail
    refine bodyPost_ret (v := .tuple #[.agg #[.string (Pl.gotE es key).key, .int .i64 (Pl.gotE es key).ver, .int .i64 (Pl.gotE es key).org, .string (Pl.gotE es key).val], .int .i64 (Pl.gotC es key)]) (by rw [HE.out.1, HE.out.2]; simp [results, Tryz.results22, go_sem, hcc, Pl.Ent.none]) rfl ⟨rfl, ((((((Below.refl _ _).alloc (Nat.le_refl _) _).trans (hb12.mono (by simp))).setCell (Nat.le_refl _) _).setCell (Nat.le_refl _) _).setCell (Nat.le_refl _) _).setCell (Nat.le_refl _) _⟩

end Go.Proofs.YtpaobnhcbeklfaaGreatDoor
/-
  Contracts: where a node tells of its links (AdjKey), and what it tells (toldAdj).
-/
namespace Go.Proofs.YtpaobnhcbeklfaaGreatDoor
open Go.RowKit
set_option maxRecDepth 20000

def Pl.adjKey (n : Int) : ByteArray := ⟨#[97, 58]⟩ ++ Pl.dec n
def Pl.pfxKey (n : Int) : ByteArray := ⟨#[112, 58]⟩ ++ Pl.dec n
theorem Pl.adjKey_size (n : Int) (h0 : 0 ≤ n) (h1 : n ≤ 1000) : (Pl.adjKey n).size ≤ 23 := by
  unfold Pl.adjKey
  rw [ByteArray.size_append]
  have := Pl.dec_le n h0 h1
  show 2 + _ ≤ 23
  omega
/-- what a node's entry says -/
def Pl.toldV (es : List Pl.Ent) (n : Int) : ByteArray := (Pl.gotE es (Pl.adjKey n)).val
theorem Pl.gotE_val (es : List Pl.Ent) (k : ByteArray) : (Pl.gotE es k).val.size ≤ 120 := by
  unfold Pl.gotE
  split
  · rename_i hf
    split
    · rename_i ht
      obtain ⟨h1, h2, h3⟩ := Pl.good_of_fault hf
      have hp : Pl.pos es k < es.length := by unfold Pl.there at ht; simp only [Bool.and_eq_true, decide_eq_true_eq] at ht; exact ht.1
      have := h2 _ hp
      unfold Pl.Ent.may Pl.entB at this
      simp only [Bool.and_eq_true, decide_eq_true_eq] at this
      exact this.2
    · simp [Pl.Ent.none, ByteArray.size]
  · simp [Pl.Ent.none, ByteArray.size]

theorem adjAt_set0 {w : World} {B : Nat} {c0 c1 : Value} {T : TypeId} (h : w.heap[B]? = some (.cells #[c0, c1] T)) (v : Value) : (w.setCell ⟨B, 0, none⟩ v).heap[B]? = some (.cells #[v, c1] T) := by
  have := blockLt h
  simp [World.setCell, Array.getElem?_modify, h]

set_option maxHeartbeats 1000000 in
theorem AdjKey_any (n : Int) (w : World) (h0 : 0 ≤ n) (h1 : n ≤ 1000) (hT : Tab w) :
    Calls Tryz.prog 37 #[.int .i64 n] w fun e w' => e = .returned (.string (Pl.adjKey n)) ∧ Below w.heap.size w w' := by
  have HT := hid hT
  have hz := Pl.dec_le n h0 h1
  clear hT
  have HIT := hid (Itoa_any n w h0 (by omega) HT.out)
  have HK : Hid (Pl.adjKey n = ⟨#[97, 58]⟩ ++ Pl.dec n) := hid rfl
  generalize Pl.dec n = s at *
  go_enter Tryz.func37, Tryz.ntmps37
  go_wp2_with fail
  refine HIT.out.mono ?_
  rintro e w1 ⟨rfl, hb1⟩
  go_wp2_with fail
  go_ret
  exact ⟨by rw [HK.out]; rfl, hb1⟩

set_option maxHeartbeats 1000000 in
theorem toldAdj_any (a : Option Addr) (len cap : Nat) (es : List Pl.Ent) (n : Int) (w : World) (h : IsEnts w a len cap es) (h0 : 0 ≤ n) (h1 : n ≤ 1000) (hT : Tab w) :
    Calls Tryz.prog 18 #[.slice a len cap, .int .i64 n] w fun e w' => ∃ vl : Value, e = .returned (.agg #[.bool (Pl.adjD (Pl.toldV es n).data.toList), vl]) ∧
      OwnP 109 w' w.heap.size vl (Pl.adjS (Pl.toldV es n).data.toList) ∧ Below w.heap.size w w' := by
  have HH := hid h
  have HT := hid hT
  clear h hT
  have hvz : (Pl.toldV es n).size ≤ 120 := Pl.gotE_val _ _
  obtain ⟨g, HG⟩ : ∃ g, Hid (Pl.gotE es (Pl.adjKey n) = g) := ⟨_, hid rfl⟩
  have HV : Hid (Pl.toldV es n = g.val) := hid (by unfold Pl.toldV; rw [HG.out])
  rw [HV.out] at hvz
  rw [HV.out]
  obtain ⟨gk, gv, go, gx⟩ := g
  simp only at hvz ⊢
  obtain ⟨rc, HRC⟩ : ∃ x, Hid (Pl.adjC gx.data.toList = x) := ⟨_, hid rfl⟩
  obtain ⟨rd, HRD⟩ : ∃ x, Hid (Pl.adjD gx.data.toList = x) := ⟨_, hid rfl⟩
  obtain ⟨rs, HRS⟩ : ∃ x, Hid (Pl.adjS gx.data.toList = x) := ⟨_, hid rfl⟩
  rw [HRD.out, HRS.out]
  have b1 : Below w.heap.size w (w.alloc (.cells #[.bool false, .slice none 0 0] 50)) := (Below.refl _ _).alloc (Nat.le_refl _) _
  go_enter Tryz.func18, Tryz.ntmps18
  go_wp2_with fail
  refine (AdjKey_any n _ h0 h1 (HT.out.below b1)).mono ?_
  rintro e w1 ⟨rfl, hb1⟩
  have hbA : Below (w.heap.size + 1) (w.alloc (.cells #[.bool false, .slice none 0 0] 50)) w1 := by simpa using hb1
  have hw1 : Below w.heap.size w w1 := b1.trans (hb1.mono b1.size)
  clear hb1
  go_wp2_with fail
  refine (Get_any _ _ _ es (Pl.adjKey n) _ (HH.out.below hw1)).mono ?_
  rw [HG.out]
  rintro e w2 ⟨rfl, hb2⟩
  have hbA2 := hbA.trans (hb2.mono (by have := hbA.size; simp at this; omega))
  clear hb2
  go_wp2_with fail
  refine (ReadAdj_any gx _ (by omega)).mono ?_
  rw [HRC.out, HRD.out, HRS.out]
  rintro e w3 ⟨v3, rfl, ho3, hb3⟩
  have hz2 := hbA2.size
  simp at hz2
  have hbA3 : Below (w.heap.size + 1) (w.alloc (.cells #[.bool false, .slice none 0 0] 50)) w3 := (hbA2.alloc (by omega) _).trans (hb3.mono (by simp; omega))
  obtain ⟨a3, n3, cap3, rfl⟩ := ho3.slice
  have HO3 := hid ho3
  obtain ⟨x0, x1, xs, hbb⟩ := box2 hbA3
  obtain ⟨f0, f1⟩ := box2f hbA3
  have hz3 := hb3.size
  simp at hz3
  clear ho3 hb3
  go_wp2_with fail
  have hblk : w3.heap[w.heap.size]? = some (.cells #[.bool false, .slice none 0 0] 50) := (hbA3.block _ (Nat.lt_succ_self _)).trans (heapNew w _)
  have hfin := heapOld (adjAt_set (adjAt_set0 hblk (.bool rd)) (.slice a3 n3 cap3)) (.cells #[.bool rd, .slice a3 n3 cap3] 50)
  obtain ⟨z0, z1, _, _⟩ := adjAt_cells hfin
  refine bodyPost_ret (v := .agg #[.bool rd, .slice a3 n3 cap3]) (by simp [results, Tryz.results18, go_sem, z0, z1]) rfl ⟨_, rfl, ?_, ?_⟩
  · exact OwnP.mono (World.ownsRow.alloc (ownsRow_setCell_below (ownsRow_setCell_below HO3.out (by simp; omega) _) (by simp; omega) _) _) (by simp; omega)
  · exact ((hbb.setCell (Nat.le_refl _) _).setCell (Nat.le_refl _) _).alloc (by simp [World.setCell]; omega) _
end Go.Proofs.YtpaobnhcbeklfaaGreatDoor
/-
  Contract: what graph.Ways answers at every list of entries and every number.
-/
namespace Go.Proofs.YtpaobnhcbeklfaaGreatDoor
open Go.RowKit
set_option maxRecDepth 20000

/-- sides, each with a node and a cost, the nodes rising -/
def Pl.sidesUp (ps : List (Int × Int)) : Prop := ∀ j, j < ps.length → (0 ≤ (Pl.pr ps j).1 ∧ (Pl.pr ps j).1 ≤ 11 ∧ 1 ≤ (Pl.pr ps j).2 ∧ (Pl.pr ps j).2 ≤ 1000) ∧ (0 < j → (Pl.pr ps (j - 1)).1 < (Pl.pr ps j).1)
theorem Pl.adjN_up (ps : List (Int × Int)) : ∀ (n i : Nat), i + n = ps.length → Pl.adjN ps n i = 0 → ∀ j, i ≤ j → j < ps.length → Pl.sideB (Pl.pr ps j).1 (Pl.pr ps j).2 = true ∧ (0 < j → (Pl.pr ps (j - 1)).1 < (Pl.pr ps j).1)
  | 0, i, h, _, j, h1, h2 => by omega
  | n + 1, i, h, h0, j, h1, h2 => by
    rw [Pl.adjN] at h0
    by_cases g1 : Pl.sideB (Pl.pr ps i).1 (Pl.pr ps i).2 = true
    · rw [if_pos g1] at h0
      by_cases g2 : 0 < i ∧ (Pl.pr ps i).1 ≤ (Pl.pr ps (i - 1)).1
      · rw [if_pos g2] at h0; cases h0
      · rw [if_neg g2] at h0
        rcases Nat.eq_or_lt_of_le h1 with e | h1
        · subst e
          exact ⟨g1, fun hp => by omega⟩
        · exact Pl.adjN_up ps n (i + 1) (by omega) h0 j h1 h2
    · rw [if_neg g1] at h0; cases h0
theorem Pl.adjF_up {ps : List (Int × Int)} (h : Pl.adjF ps = 0) : Pl.sidesUp ps := by
  intro j hj
  obtain ⟨h1, h2⟩ := Pl.adjN_up ps ps.length 0 (by omega) h j (by omega) hj
  unfold Pl.sideB at h1
  simp at h1
  exact ⟨by omega, h2⟩
theorem Pl.adjS_up (l : List UInt8) : Pl.sidesUp (Pl.adjS l) := by
  unfold Pl.adjS
  by_cases h : Pl.adjC l = 0
  · rw [if_pos h]
    unfold Pl.adjC at h
    cases hs : Pl.sidesL l with
    | none => rw [hs] at h; cases h
    | some ps => rw [hs] at h; exact Pl.adjF_up h
  · rw [if_neg h]
    intro j hj; simp at hj
theorem Pl.sidesUp.ok {ps : List (Int × Int)} (h : Pl.sidesUp ps) : Pl.sidesOk ps := by
  intro p hp
  obtain ⟨i, hi, rfl⟩ := List.getElem_of_mem hp
  have := (h i hi).1
  rw [Pl.pr_eq ps i hi] at this
  exact this
theorem Pl.sidesOk.pairs {ps : List (Int × Int)} (h : Pl.sidesOk ps) : ∀ p ∈ ps, Pl.pairOk p := fun p hp => by
  have := h p hp
  exact Pl.pairOk_of ⟨by omega, by omega, by omega, by omega⟩

theorem IsPairs.but {w w' : World} {A : Nat} {a : Option Addr} {len cap : Nat} {ps : List (Int × Int)} (h : IsPairs w a len cap ps) (hx : ∀ x, a = some x → x.block ≠ A) (k : But A w w') : IsPairs w' a len cap ps := by
  obtain ⟨h1, h2, h3, h4, h5⟩ := h
  refine ⟨h1, h2, h3, h4, ?_⟩
  rcases h5 with h5 | ⟨b, off, rfl, hb, hr⟩
  · exact .inl h5
  · refine .inr ⟨b, off, rfl, Nat.lt_of_lt_of_le hb k.size, fun i hi => ?_⟩
    obtain ⟨c0, c1⟩ := hr i hi
    have e : w'.heap[b]? = w.heap[b]? := k.block b hb (hx _ rfl)
    exact ⟨(World.cell?_of_block (w := w) e).trans c0, (World.cell?_of_block (w := w) e).trans c1⟩
theorem ToldAt.set {w A D ps} (h : ToldAt w A D ps) (k : Nat) (d : Bool) (a : Option Addr) (len cap : Nat) (q : List (Int × Int)) (hx : ∀ x, a = some x → x.block ≠ A) (hp : IsPairs w a len cap q) :
    ToldAt ((w.setCell ⟨A, k * 2, none⟩ (.bool d)).setCell ⟨A, k * 2 + 1, none⟩ (.slice a len cap)) A (Pl.upd D k d) (Pl.upd ps k q) := by
  obtain ⟨V, h1, h2⟩ := h
  have hb : But A w ((w.setCell ⟨A, k * 2, none⟩ (.bool d)).setCell ⟨A, k * 2 + 1, none⟩ (.slice a len cap)) := ((But.refl A w).setCell _ _).setCell _ _
  refine ⟨Pl.upd V k (.slice a len cap), ?_, fun i hi => ?_⟩
  · refine ((h1.set _ _).set _ _).ext fun o ho => ?_
    unfold Pl.upd toldCell
    by_cases g1 : o = k * 2 + 1
    · subst g1; rw [if_pos rfl, if_neg (by omega)]; simp only; rw [if_pos (by omega)]
    · rw [if_neg g1]
      by_cases g2 : o = k * 2
      · subst g2; rw [if_pos rfl, if_pos (by omega)]; simp only; rw [if_pos (by omega)]
      · rw [if_neg g2]
        by_cases g3 : o % 2 = 0
        · rw [if_pos g3, if_pos g3]; simp only; rw [if_neg (by omega)]
        · rw [if_neg g3, if_neg g3]; simp only; rw [if_neg (by omega)]
  · by_cases hik : i = k
    · subst hik
      refine ⟨a, len, cap, Pl.upd_same _ _ _, hx, ?_⟩
      rw [Pl.upd_same]
      exact hp.but hx hb
    · obtain ⟨a', len', cap', e, hx', hp'⟩ := h2 i hi
      refine ⟨a', len', cap', by rw [Pl.upd_ne _ _ hik]; exact e, hx', ?_⟩
      rw [Pl.upd_ne _ _ hik]
      exact hp'.but hx' hb
theorem ToldAt.ext {w A D ps D' ps'} (h : ToldAt w A D ps) (h1 : ∀ i, i < 12 → D i = D' i) (h2 : ∀ i, i < 12 → ps i = ps' i) : ToldAt w A D' ps' := by
  obtain ⟨V, g1, g2⟩ := h
  refine ⟨V, g1.ext fun o ho => ?_, fun i hi => ?_⟩
  · unfold toldCell; split
    · rw [h1 _ (by omega)]
    · rfl
  · rw [← h2 i hi]; exact g2 i hi
theorem ToldAt.new (w : World) (cs : Array Value) (e : cs = Array.ofFn (n := 24) fun i => toldCell (fun _ => false) (fun _ => .slice none 0 0) i.1) : ToldAt (w.alloc (.cells cs 52)) w.heap.size (fun _ => false) (fun _ => []) := by
  refine ⟨fun _ => .slice none 0 0, CellsAt.new w _ _ _ _ (by rw [e]; simp) fun i hi => ?_, fun i hi => ⟨none, 0, 0, rfl, by simp, rfl, Nat.le_refl _, by simp, by simp, .inl rfl⟩⟩
  simp only [e, Array.getElem_ofFn]

/-- what a store tells of each node's links -/
def Pl.tD (es : List Pl.Ent) (i : Nat) : Bool := Pl.adjD (Pl.toldV es i).data.toList
def Pl.tS (es : List Pl.Ent) (i : Nat) : List (Int × Int) := Pl.adjS (Pl.toldV es i).data.toList
def Pl.wayC (es : List Pl.Ent) (f : Int) : Int := if Pl.fault es ≠ 0 then Pl.fault es else if 0 ≤ f ∧ f ≤ 11 then 0 else 2
def Pl.wayA (es : List Pl.Ent) (f : Int) : List (Int × List Int) := if Pl.wayC es f = 0 then Pl.wayL (Pl.dIter (Pl.lnk (Pl.tS es)) (Pl.tD es) f.toNat 12) 12 else []

theorem ret_two {v u : Value} {a b : Int} (h : v = u) (e : a = b) : Ending.returned (.tuple #[v, .int .i64 a]) = .returned (.tuple #[u, .int .i64 b]) := by rw [h, e]
theorem World.ownsRow_mono {w : World} {base base' : Nat} {e : TypeId} {sz : Nat} {v : Value} {n : Nat} {xs : List Value} (h : w.ownsRow base e sz v n xs) (k : base' ≤ base) : w.ownsRow base' e sz v n xs := by
  obtain ⟨h0, h1⟩ := h
  refine ⟨h0, ?_⟩
  rcases h1 with h1 | ⟨g, cap, cur, rfl, hb, hr⟩
  · exact .inl h1
  · exact .inr ⟨g, cap, cur, rfl, by omega, hr⟩

set_option maxHeartbeats 2000000 in
theorem Ways_any (a : Option Addr) (len cap : Nat) (es : List Pl.Ent) (f : Int) (w : World) (h : IsEnts w a len cap es) (hT : Tab w) :
    Calls Tryz.prog 7 #[.slice a len cap, .int .i64 f] w fun e w' => ∃ v ts, e = .returned (.tuple #[v, .int .i64 (Pl.wayC es f)]) ∧ OwnW w' w.heap.size v ts ∧ Pl.flat ts = Pl.wayA es f ∧ Below w.heap.size w w' := by
  have HE := hid h
  have HTab := hid hT
  clear h hT
  obtain ⟨cd, HCD⟩ : ∃ x, Hid (Pl.fault es = x) := ⟨_, rfl⟩
  go_enter Tryz.func7, Tryz.ntmps7
  go_wp2_with fail
  refine (Check_any a len cap es w HE.out).mono ?_
  rw [HCD.out]
  rintro e w1 ⟨rfl, hb1⟩
  have HB1 := hid hb1
  clear hb1
  by_cases hcd : cd = 0
  · subst hcd
    by_cases hfr : 0 ≤ f ∧ f ≤ 11
    · obtain ⟨n, rfl⟩ : ∃ n : Nat, f = n := ⟨f.toNat, by omega⟩
      have hn : n < 12 := by omega
      have hdec : decide (0 ≤ (n : Int) ∧ (n : Int) ≤ 11) = true := by simp; omega
      have HWC : Hid (Pl.wayC es n = 0) := hid (by unfold Pl.wayC; rw [HCD.out, if_neg (by simp), if_pos (by omega)])
      go_wp2_with (go_at_call 17; refine (isNode_any _ _).mono ?_; rw [hdec]; rintro e w' ⟨rfl, hw'⟩; rw [hw']; clear hw' w')
      go_loopw [18] (fun i wr => ∃ k : Nat, k ≤ 12 ∧ i = .int .i64 k ∧ Hid (ToldAt wr w1.heap.size (fun i => decide (i < k) && Pl.tD es i) (fun i => if i < k then Pl.tS es i else [])) ∧ Hid (Below w1.heap.size w1 wr)) (fun i _ => 12 - (intOf i).toNat)
      case atStart => exact ⟨0, by omega, rfl, (ToldAt.new w1 _ (by kernel_rfl)).ext (fun i _ => by simp) (fun i _ => by simp), (Below.refl _ _).alloc (Nat.le_refl _) _⟩
      case round =>
        obtain ⟨k, hk, rfl, HT, HB⟩ := hrel
        have HBW := hid (HB1.out.trans (HB.out.mono HB1.out.size))
        have hAr := HT.out.lt
        by_cases hlt : k < 12
        · go_wp2_with fail
          refine (toldAdj_any a len cap es k wr (HE.out.below HBW.out) (by omega) (by omega) (HTab.out.below HBW.out)).mono ?_
          rintro e w2 ⟨vl, rfl, ho2, hb2⟩
          obtain ⟨a2, cap2, rfl, hp2, _, hx2⟩ := OwnP.shape ho2 (Pl.adjS_up _).ok.pairs
          have HP2 := hid hp2
          have HX2 := hid hx2
          have HB2 := hid hb2
          have HT2 := hid (HT.out.below hb2)
          clear ho2 hp2 hx2 hb2
          obtain ⟨V2, g1, _⟩ := HT2.out
          have c0 := g1.cell (k * 2) (by omega)
          have c1 := g1.cell (k * 2 + 1) (by omega)
          have f0 := g1.soft (k * 2)
          have f1 := g1.soft (k * 2 + 1)
          have hA2 := g1.lt
          clear g1
          go_wp2_with fail
          go_roundw
          case rel =>
            refine ⟨k + 1, by omega, by go_num, (HT2.out.set k _ a2 _ cap2 _ (fun x hx => ?_) HP2.out).ext (fun i hi => ?_) (fun i hi => ?_), hid (((HB.out.trans (HB2.out.mono (by omega))).setCell (Nat.le_refl _) _).setCell (Nat.le_refl _) _)⟩
            · have := HX2.out x hx; omega
            · by_cases hik : i = k
              · subst hik; rw [Pl.upd_same]; simp [Pl.tD]
              · rw [Pl.upd_ne _ _ hik, show decide (i < k + 1) = decide (i < k) from decide_eq_decide.2 (by omega)]
            · by_cases hik : i = k
              · subst hik; rw [Pl.upd_same, if_pos (by omega)]; rfl
              · rw [Pl.upd_ne _ _ hik]
                by_cases h1 : i < k
                · rw [if_pos h1, if_pos (by omega)]
                · rw [if_neg h1, if_neg (by omega)]
          case measure => simp [intOf]; omega
        · obtain rfl : k = 12 := by omega
          have HTA := hid (HT.out.ext (D' := Pl.tD es) (ps' := Pl.tS es) (fun i hi => by simp [hi]) (fun i hi => by rw [if_pos hi]))
          have HOK : Hid (∀ i, i < 12 → Pl.sidesOk (Pl.tS es i)) := hid fun i _ => (Pl.adjS_up _).ok
          have HL : Hid (∀ a b, Pl.lnk (Pl.tS es) a b ≤ 1000) := hid fun x y => by
            unfold Pl.lnk
            split
            · exact (Pl.say_le (Pl.adjS_up _).ok y).2
            · omega
          go_wp2_with fail
          refine (newSearch_any n hn wr).mono ?_
          rintro e w2 ⟨rfl, hs2, hb2⟩
          have HS2 := hid hs2
          have HB2 := hid hb2
          have HT2 := hid (HTA.out.below hb2)
          clear hs2 hb2
          go_wp2_with fail
          refine (run_any wr.heap.size w1.heap.size n (Pl.tD es) (Pl.tS es) w2 HS2.out HT2.out (by omega) hn HOK.out HL.out).mono ?_
          rintro e w3 ⟨rfl, hs3, hu3⟩
          have HS3 := hid hs3
          have HU3 := hid hu3
          clear hs3 hu3
          go_wp2_with fail
          refine (ways_any wr.heap.size n _ w3 HS3.out).mono ?_
          rintro e w4 ⟨v, ts, rfl, ho4, hf4, hb4⟩
          have HO4 := hid ho4
          have HF4 := hid hf4
          have HB4 := hid hb4
          clear ho4 hf4 hb4
          go_wp2_with fail
          have hz := HBW.out.size
          have HBF : Hid (Below w.heap.size w w3) := hid ((HBW.out.trans (HB2.out.mono hz)).trans (HU3.out.below hz (Nat.le_trans hz HB2.out.size)))
          refine bodyPost_ret (results_tmp2 rfl _ _ _) rfl ⟨v, ts, ret_two rfl HWC.out.symm, ?_, ?_, HBF.out.trans (HB4.out.mono HBF.out.size)⟩
          · exact ⟨World.ownsRow_mono HO4.out.1 HBF.out.size, HO4.out.2⟩
          · rw [HF4.out]; unfold Pl.wayA; rw [HWC.out, if_pos rfl, Int.toNat_natCast]
    · have hdec : decide (0 ≤ f ∧ f ≤ 11) = false := by simp; omega
      have HWC : Hid (Pl.wayC es f = 2) := hid (by unfold Pl.wayC; rw [HCD.out, if_neg (by simp), if_neg hfr])
      go_wp2_with (go_at_call 17; refine (isNode_any _ _).mono ?_; rw [hdec]; rintro e w' ⟨rfl, hw'⟩; rw [hw']; clear hw' w')
      refine bodyPost_ret (results_tmp2 rfl _ _ _) rfl ⟨_, [], ret_two rfl HWC.out.symm, OwnW.nil _ _, ?_, HB1.out⟩
      unfold Pl.wayA; rw [HWC.out, if_neg (by decide)]; rfl
  · have HWC : Hid (Pl.wayC es f = cd) := hid (by unfold Pl.wayC; rw [HCD.out, if_pos hcd])
    go_wp2_with fail
    refine bodyPost_ret (results_tmp2 rfl _ _ _) rfl ⟨_, [], ret_two rfl HWC.out.symm, OwnW.nil _ _, ?_, HB1.out⟩
    unfold Pl.wayA; rw [HWC.out, if_neg hcd]; rfl
end Go.Proofs.YtpaobnhcbeklfaaGreatDoor
/-
  Contracts: what Compare, ComparedOf and Above answer at every two entries.
-/
namespace Go.Proofs.YtpaobnhcbeklfaaGreatDoor
open Go.RowKit
set_option maxRecDepth 20000

theorem isNaNi_any (n : Int) (w : World) :
    Calls Tryz.prog 80 #[.int .i64 n] w fun e w' => e = .returned (.bool false) ∧ w' = w := by
  go_enter Tryz.func80, Tryz.ntmps80
  go_wp2
  go_ret
  exact ⟨ret_bool (by simp), rfl⟩

set_option maxHeartbeats 400000 in
theorem cmpi_any (a b : Int) (w : World) :
    Calls Tryz.prog 67 #[.int .i64 a, .int .i64 b] w fun e w' => e = .returned (.int .i64 (Pl.cmpI a b)) ∧ w' = w := by
  rcases Int.lt_trichotomy a b with h | rfl | h
  · go_enter Tryz.func67, Tryz.ntmps67
    go_wp2_with (go_at_call 80; refine (isNaNi_any _ _).mono ?_; rintro e w' ⟨rfl, rfl⟩)
    go_ret
    exact ⟨ret_int (Pl.cmpI_lt h).symm, rfl⟩
  · go_enter Tryz.func67, Tryz.ntmps67
    go_wp2_with (go_at_call 80; refine (isNaNi_any _ _).mono ?_; rintro e w' ⟨rfl, rfl⟩)
    go_ret
    exact ⟨ret_int (Pl.cmpI_eq _).symm, rfl⟩
  · have h' : ¬ a < b := by omega
    go_enter Tryz.func67, Tryz.ntmps67
    go_wp2_with (go_at_call 80; refine (isNaNi_any _ _).mono ?_; rintro e w' ⟨rfl, rfl⟩)
    go_ret
    exact ⟨ret_int (Pl.cmpI_gt h).symm, rfl⟩

end Go.Proofs.YtpaobnhcbeklfaaGreatDoor
/-
  A region that draws its order, whose operations read old memory and whose callees make new memory alone: one walk, in the order of the text.
-/
namespace Go.Proofs.YtpaobnhcbeklfaaGreatDoor
open Go.RowKit
set_option maxRecDepth 20000

/-- a world that has grown out of another: what was there is as it was -/
structure WIn (W : World) where
  w : World
  h : Below W.heap.size W w

theorem wp_region_in {P : Program} {id : Nat} {Q : Exit → Act → World → Prop} {a : Act} {w : World} {l : List Oper} (hm : P.follows .mixedOrders = true) (hB : Region.lexB .any l.toArray = true)
    (h : wpQuiet P l.toArray (fun w' => ∃ x : WIn w, w' = x.w) (fun a' => ∀ w', (∃ x : WIn w, w' = x.w) → Q .normal a' w') l a) : (Code.region id l.toArray true).wp P Q a w :=
  wp_region_quiet (C := fun w' => ∃ x : WIn w, w' = x.w) hm hB ⟨⟨_, (Below.refl _ _).drew⟩, rfl⟩ (by simpa using h)

theorem in_call {P : Program} {f : FuncId} {args : Array Value} {W : World} {x : WIn W} {v : Value}
    (h : Calls P f args x.w fun e w' => e = .returned v ∧ Below x.w.heap.size x.w w') : Calls P f args x.w fun e w'' => e = .returned v ∧ ∃ y : WIn W, w'' = y.w :=
  h.mono fun _ w' ⟨he, hb⟩ => ⟨he, ⟨w', x.h.trans (hb.mono x.h.size)⟩, rfl⟩

theorem in_out {W w' : World} (h : ∃ x : WIn W, w' = x.w) : Below W.heap.size W w' := by
  obtain ⟨x, rfl⟩ := h
  exact x.h
theorem in_some (W : World) : Nonempty (WIn W) := ⟨⟨_, Below.refl _ _⟩⟩
theorem in_cell {W : World} {b o : Nat} {v : Value} (hb : b < W.heap.size) (h : W.cell? ⟨b, o, none⟩ = some v) : ∀ x : WIn W, x.w.cell? ⟨b, o, none⟩ = some v := fun x => (x.h.cell (p := ⟨b, o, none⟩) hb).trans h
end Go.Proofs.YtpaobnhcbeklfaaGreatDoor
/-
  Contracts: what CheckPrefixes, and what it calls, answers at every list of prefixes.
-/
namespace Go.Proofs.YtpaobnhcbeklfaaGreatDoor
open Go.RowKit
set_option maxRecDepth 20000

set_option maxHeartbeats 1000000 in
theorem Or_any (b off : Nat) (x y : Int) (w : World) (h0 : w.cell? ⟨b, off, none⟩ = some (.int .i64 x)) (h1 : w.cell? ⟨b, off + 1, none⟩ = some (.int .i64 y)) :
    Calls Tryz.prog 66 #[.slice (some ⟨b, off, none⟩) 2 2] w fun e w' => e = .returned (.int .i64 (if x ≠ 0 then x else y)) ∧ w' = w := by
  obtain ⟨r, HR⟩ : ∃ r, Hid ((if x ≠ 0 then x else y) = r) := ⟨_, rfl⟩
  rw [HR.out]
  go_enter Tryz.func66, Tryz.ntmps66
  go_wp2
  go_loop [8] (fun i => ∃ k : Nat, k ≤ 2 ∧ i = .int .i64 k ∧ Hid (0 < k → x = 0) ∧ Hid (1 < k → y = 0)) (fun i => 2 - (intOf i).toNat)
  case atStart => exact ⟨0, by omega, rfl, hid (by omega), hid (by omega)⟩
  case round =>
    obtain ⟨k, hk, rfl, K1, K2⟩ := hrel
    have hks : k = 0 ∨ k = 1 ∨ k = 2 := by omega
    rcases hks with rfl | rfl | rfl
    · by_cases hx : x = 0
      · subst hx
        go_wp2
        go_round
        case rel => exact ⟨1, by omega, by go_num, hid (by first | (intro _; rfl) | simp), hid (by omega)⟩
        case measure => simp [intOf]
      · have hr : r = x := by rw [← HR.out, if_pos hx]
        have HX := hid hr
        have b1 : (x == 0) = false := by simpa using hx
        clear hx hr
        go_wp2
        go_ret
        exact ⟨ret_int HX.out.symm, rfl⟩
    · have hx : x = 0 := K1.out (by omega)
      have hr : r = y := by rw [← HR.out, if_neg (by simp [hx])]
      have HX := hid hr
      have HX0 := hid hx
      clear hr hx K1 K2 HR
      by_cases hy : y = 0
      · subst hy
        go_wp2
        go_round
        case rel => exact ⟨2, by omega, by go_num, hid (fun _ => HX0.out), hid (by first | (intro _; rfl) | simp)⟩
        case measure => simp [intOf]
      · have b1 : (y == 0) = false := by simpa using hy
        clear hy
        go_wp2
        go_ret
        exact ⟨ret_int HX.out.symm, rfl⟩
    · have hr : r = 0 := by rw [← HR.out, if_neg (by simp [K1.out (by omega)]), K2.out (by omega)]
      have HX := hid hr
      clear hr
      go_wp2
      go_ret
      exact ⟨ret_int HX.out.symm, rfl⟩

theorem Or_new (A : World) (n : Nat) (x y : Int) (hn : A.heap.size = n) :
    Calls Tryz.prog 66 #[.slice (some ⟨n, 0, none⟩) 2 2] (A.alloc (.cells #[.int .i64 x, .int .i64 y] 3)).drew fun e w' => e = .returned (.int .i64 (if x ≠ 0 then x else y)) ∧ w' = (A.alloc (.cells #[.int .i64 x, .int .i64 y] 3)).drew := by
  subst hn
  obtain ⟨W, hW⟩ : ∃ W, W = A.alloc (.cells #[.int .i64 x, .int .i64 y] 3) := ⟨_, rfl⟩
  have h0 : W.cell? ⟨A.heap.size, 0, none⟩ = some (.int .i64 x) := by rw [hW]; simp
  have h1 : W.cell? ⟨A.heap.size, 0 + 1, none⟩ = some (.int .i64 y) := by rw [hW]; simp
  rw [← hW]
  clear hW
  exact Or_any A.heap.size 0 x y W.drew (by rw [World.cell?_drew]; exact h0) (by rw [World.cell?_drew]; exact h1)

end Go.Proofs.YtpaobnhcbeklfaaGreatDoor
/-
  Contract: which of two prefixes comes first.
-/
namespace Go.Proofs.YtpaobnhcbeklfaaGreatDoor
open Go.RowKit
set_option maxRecDepth 20000

def PF (p1 p2 q1 q2 c1 c2 r : Int) (R : Nat) (w : World) : Nat → Value → Prop
  | 0, v => v = .pointer (some ⟨R, 0, none⟩)
  | 1, v => v = .int .i64 p1
  | 2, v => v = .pointer (some ⟨R + 1, 0, none⟩)
  | 3, v => v = .int .i64 q1
  | 4, v => v = .int .i64 c1
  | 5, v => v = .pointer (some ⟨R, 1, none⟩)
  | 6, v => v = .int .i64 p2
  | 7, v => v = .pointer (some ⟨R + 1, 1, none⟩)
  | 8, v => v = .int .i64 q2
  | 9, v => v = .int .i64 c2
  | 10, v => ∃ b, v = .slice (some ⟨b, 0, none⟩) 2 2 ∧ b < w.heap.size ∧ w.cell? ⟨b, 0, none⟩ = some (.int .i64 c1) ∧ w.cell? ⟨b, 1, none⟩ = some (.int .i64 c2)
  | 11, v => v = .int .i64 r
  | _, _ => True
theorem PF.mono {p1 p2 q1 q2 c1 c2 r : Int} {R : Nat} {w w' : World} {k : Nat} {v : Value} (h : PF p1 p2 q1 q2 c1 c2 r R w k v) (hb : Below w.heap.size w w') : PF p1 p2 q1 q2 c1 c2 r R w' k v := by
  have hz := hb.size
  match k, h with
  | 10, ⟨b, h1, h2, h3, h4⟩ => exact ⟨b, h1, by omega, ((bcell hb).1 b 0 h2).trans h3, ((bcell hb).1 b 1 h2).trans h4⟩
  | 0, h => exact h
  | 1, h => exact h
  | 2, h => exact h
  | 3, h => exact h
  | 4, h => exact h
  | 5, h => exact h
  | 6, h => exact h
  | 7, h => exact h
  | 8, h => exact h
  | 9, h => exact h
  | 11, h => exact h
  | n + 12, h => exact h
structure PInv (p1 p2 q1 q2 c1 c2 r : Int) (R : Nat) (W0 : World) (listed : Array Bool) (a : Act) (w : World) : Prop where
  ls : listed.size = 13
  sz : a.tmps.size = 17
  df : a.defers = []
  s2 : a.tmps[2]?.getD undef = .pointer (some ⟨R, 0, none⟩)
  s3 : a.tmps[3]?.getD undef = .pointer (some ⟨R + 1, 0, none⟩)
  f : ∀ k, k < 12 → listed.getD k false = true → PF p1 p2 q1 q2 c1 c2 r R w k (a.tmps[k + 5]?.getD undef)
  nb : Below W0.heap.size W0 w
  dn : listed.getD 12 false = true → a.tmps[4]?.getD undef = .int .i64 r
theorem PInv.put {p1 p2 q1 q2 c1 c2 r : Int} {R : Nat} {W0 : World} {listed : Array Bool} {a : Act} {w w' : World} {i : Nat} {v : Value} (h : PInv p1 p2 q1 q2 c1 c2 r R W0 listed a w) (hi : i < 12) (hb : Below w.heap.size w w') (hv : PF p1 p2 q1 q2 c1 c2 r R w' i v) :
    PInv p1 p2 q1 q2 c1 c2 r R W0 (listed.setIfInBounds i true) (a.put (some (i + 5)) v) w' := by
  refine ⟨by simp [h.ls], by simp [Act.put, h.sz], h.df, by rw [eval_ne (by omega)]; exact h.s2, by rw [eval_ne (by omega)]; exact h.s3, ?_, h.nb.trans (hb.mono h.nb.size), fun h' => ?_⟩
  · intro k hk hl
    by_cases hki : i = k
    · subst hki
      rw [eval_eq (by rw [h.sz]; omega)]
      exact hv
    · rw [getD_set_ne false hki] at hl
      rw [eval_ne (by omega)]
      exact (h.f k hk hl).mono hb
  · rw [getD_set_ne false (by omega)] at h'
    rw [eval_ne (by omega)]
    exact h.dn h'

set_option maxHeartbeats 4000000 in
theorem comparePrefixes_any (p q : Int × Int) (w : World) :
    Calls Tryz.prog 48 #[.agg #[.int .i64 p.1, .int .i64 p.2], .agg #[.int .i64 q.1, .int .i64 q.2]] w fun e w' => e = .returned (.int .i64 (Pl.pfxC p q)) ∧ Below w.heap.size w w' := by
  obtain ⟨p1, p2⟩ := p
  obtain ⟨q1, q2⟩ := q
  obtain ⟨c1, H1⟩ : ∃ c, Hid (Pl.cmpI p1 q1 = c) := ⟨_, rfl⟩
  obtain ⟨c2, H2⟩ : ∃ c, Hid (Pl.cmpI p2 q2 = c) := ⟨_, rfl⟩
  obtain ⟨r, HR⟩ : ∃ c, Hid ((if c1 ≠ 0 then c1 else c2) = c) := ⟨_, rfl⟩
  have HF : Hid (Pl.pfxC (p1, p2) (q1, q2) = r) := hid (by unfold Pl.pfxC; rw [H1.out, H2.out, HR.out])
  go_enter Tryz.func48, Tryz.ntmps48
  go_wp2_with fail
  refine wp_region_any (by kernel_rfl) ?_
  obtain ⟨W0, hW0⟩ : ∃ W0 : World, W0 = ((w.alloc (.cells #[.int .i64 p1, .int .i64 p2] 38)).alloc (.cells #[.int .i64 q1, .int .i64 q2] 38)) := ⟨_, rfl⟩
  have hR : w.heap.size < W0.heap.size := by rw [hW0]; simp; omega
  have hR1 : w.heap.size + 1 < W0.heap.size := by rw [hW0]; simp
  have d0 : W0.cell? ⟨w.heap.size, 0, none⟩ = some (.int .i64 p1) := by rw [hW0]; simp
  have d1 : W0.cell? ⟨w.heap.size, 1, none⟩ = some (.int .i64 p2) := by rw [hW0]; simp
  have d2 : W0.cell? ⟨w.heap.size + 1, 0, none⟩ = some (.int .i64 q1) := by rw [hW0]; simp
  have d3 : W0.cell? ⟨w.heap.size + 1, 1, none⟩ = some (.int .i64 q2) := by rw [hW0]; simp
  have hB0 : Below w.heap.size w W0 := by rw [hW0]; exact ((Below.refl _ _).alloc (Nat.le_refl _) _).alloc (by simp) _
  refine wpAny_inv (PInv p1 p2 q1 q2 c1 c2 r w.heap.size W0) ?_ ?_ _ _ _ _ (by decide +kernel) ?_
  · intro i listed a W hi hI
    rw [mem_ready] at hi
    obtain ⟨hl, o, ho, hall⟩ := hi
    have hlt : i < 13 := (Array.getElem?_eq_some_iff.1 ho).1
    have hcs : i = 0 ∨ i = 1 ∨ i = 2 ∨ i = 3 ∨ i = 4 ∨ i = 5 ∨ i = 6 ∨ i = 7 ∨ i = 8 ∨ i = 9 ∨ i = 10 ∨ i = 11 ∨ i = 12 := by omega
    rcases hcs with rfl | rfl | rfl | rfl | rfl | rfl | rfl | rfl | rfl | rfl | rfl | rfl | rfl
    all_goals
      simp at ho
      subst ho
      refine wpOp_of rfl rfl ?_
    · have e1 := hI.s2
      simp [Oper.wp, go_sem, e1]
      exact hI.put (i := 0) (by omega) (Below.refl _ _) rfl
    · have e1 : a.tmps[5]?.getD undef = .pointer (some ⟨w.heap.size, 0, none⟩) := hI.f 0 (by omega) (hall ⟨0, .data⟩ (by simp) rfl)
      have e2 := ((bcell hI.nb).1 w.heap.size 0 hR).trans d0
      simp [Oper.wp, go_sem, e1, e2]
      exact hI.put (i := 1) (by omega) (Below.refl _ _) rfl
    · have e1 := hI.s3
      simp [Oper.wp, go_sem, e1]
      exact hI.put (i := 2) (by omega) (Below.refl _ _) rfl
    · have e1 : a.tmps[7]?.getD undef = .pointer (some ⟨w.heap.size + 1, 0, none⟩) := hI.f 2 (by omega) (hall ⟨2, .data⟩ (by simp) rfl)
      have e2 := ((bcell hI.nb).1 (w.heap.size + 1) 0 hR1).trans d2
      simp [Oper.wp, go_sem, e1, e2]
      exact hI.put (i := 3) (by omega) (Below.refl _ _) rfl
    · have e1 : a.tmps[6]?.getD undef = .int .i64 p1 := hI.f 1 (by omega) (hall ⟨1, .data⟩ (by simp) rfl)
      have e2 : a.tmps[8]?.getD undef = .int .i64 q1 := hI.f 3 (by omega) (hall ⟨3, .data⟩ (by simp) rfl)
      simp [Oper.wp, go_sem, e1, e2]
      refine (cmpi_any p1 q1 W).mono ?_
      rw [H1.out]
      rintro e w1 ⟨rfl, rfl⟩
      exact hI.put (i := 4) (by omega) (Below.refl _ _) rfl
    · have e1 := hI.s2
      simp [Oper.wp, go_sem, e1]
      exact hI.put (i := 5) (by omega) (Below.refl _ _) rfl
    · have e1 : a.tmps[10]?.getD undef = .pointer (some ⟨w.heap.size, 1, none⟩) := hI.f 5 (by omega) (hall ⟨5, .data⟩ (by simp) rfl)
      have e2 := ((bcell hI.nb).1 w.heap.size 1 hR).trans d1
      simp [Oper.wp, go_sem, e1, e2]
      exact hI.put (i := 6) (by omega) (Below.refl _ _) rfl
    · have e1 := hI.s3
      simp [Oper.wp, go_sem, e1]
      exact hI.put (i := 7) (by omega) (Below.refl _ _) rfl
    · have e1 : a.tmps[12]?.getD undef = .pointer (some ⟨w.heap.size + 1, 1, none⟩) := hI.f 7 (by omega) (hall ⟨7, .data⟩ (by simp) rfl)
      have e2 := ((bcell hI.nb).1 (w.heap.size + 1) 1 hR1).trans d3
      simp [Oper.wp, go_sem, e1, e2]
      exact hI.put (i := 8) (by omega) (Below.refl _ _) rfl
    · have e1 : a.tmps[11]?.getD undef = .int .i64 p2 := hI.f 6 (by omega) (hall ⟨6, .data⟩ (by simp) rfl)
      have e2 : a.tmps[13]?.getD undef = .int .i64 q2 := hI.f 8 (by omega) (hall ⟨8, .data⟩ (by simp) rfl)
      simp [Oper.wp, go_sem, e1, e2]
      refine (cmpi_any p2 q2 W).mono ?_
      rw [H2.out]
      rintro e w1 ⟨rfl, rfl⟩
      exact hI.put (i := 9) (by omega) (Below.refl _ _) rfl
    · have e1 : a.tmps[9]?.getD undef = .int .i64 c1 := hI.f 4 (by omega) (hall ⟨4, .data⟩ (by simp) rfl)
      have e2 : a.tmps[14]?.getD undef = .int .i64 c2 := hI.f 9 (by omega) (hall ⟨9, .data⟩ (by simp) rfl)
      simp [Oper.wp, go_sem, e1, e2]
      exact hI.put (i := 10) (by omega) ((Below.refl _ _).alloc (Nat.le_refl _) _) ⟨W.heap.size, rfl, by simp, by simp, by simp⟩
    · obtain ⟨b, e1, hb, hc0, hc1⟩ := hI.f 10 (by omega) (hall ⟨10, .data⟩ (by simp) rfl)
      simp only [Nat.reduceAdd] at e1
      simp [Oper.wp, go_sem, e1]
      refine (Or_any b 0 c1 c2 W hc0 hc1).mono ?_
      rw [HR.out]
      rintro e w1 ⟨rfl, rfl⟩
      exact hI.put (i := 11) (by omega) (Below.refl _ _) rfl
    · have e1 : a.tmps[16]?.getD undef = .int .i64 r := hI.f 11 (by omega) (hall ⟨11, .data⟩ (by simp) rfl)
      simp [Oper.wp, go_sem, e1]
      refine ⟨by simp [hI.ls], by simp [hI.sz], hI.df, ?_, ?_, ?_, hI.nb, ?_⟩
      · have := eval_ne (a := a) (m := 4) (n := 2) (v := .int .i64 r) (by omega); exact this.trans hI.s2
      · have := eval_ne (a := a) (m := 4) (n := 3) (v := .int .i64 r) (by omega); exact this.trans hI.s3
      · intro k hk hlk
        rw [getD_set_ne false (by omega)] at hlk
        have := eval_ne (a := a) (m := 4) (n := k + 5) (v := .int .i64 r) (by omega)
        exact this ▸ hI.f k hk hlk
      · intro _
        exact eval_eq (a := a) (m := 4) (v := .int .i64 r) (by rw [hI.sz]; omega)
  · intro listed a W hr hI
    rename_i K hK
    have hal := all_listed (by decide +kernel) hI.ls hr 12 (by decide)
    have e4 := hI.dn hal
    refine hK a W ?_
    refine wp_ret ?_
    show bodyPost Tryz.prog Tryz.f48 _ Exit.ret a W
    refine bodyPost_ret (v := .int .i64 r) (by simp [results, Tryz.results48, go_sem, e4]) hI.df ⟨ret_int HF.out.symm, hB0.trans (hI.nb.mono hB0.size)⟩
  · rw [← hW0]
    refine ⟨by rfl, by rfl, rfl, by rfl, by rfl, ?_, Below.drew (Below.refl _ _), ?_⟩
    · intro k hk h
      have : (Array.replicate 13 false).getD k false = true := h
      rw [show (Array.replicate 13 false).getD k false = false from by by_cases hk' : k < 13 <;> simp [hk']] at this
      cases this
    · intro h
      have : (Array.replicate 13 false).getD 12 false = true := h
      simp at this
end Go.Proofs.YtpaobnhcbeklfaaGreatDoor
