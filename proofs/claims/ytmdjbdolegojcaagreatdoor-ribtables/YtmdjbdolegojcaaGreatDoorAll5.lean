/-
  Contracts and facts that the proof rests on, put together out of several texts.
-/
import Derived.Test.YtmdjbdolegojcaaGreatDoorAll1
import Derived.Orders
import Derived.Test.YtmdjbdolegojcaaGreatDoorShelf
import Derived.Lib.ItoaMem
import Derived.Lib.ItoaLen
import Derived.Lib.Join
import Derived.WalkKit
import Derived.Test.YtmdjbdolegojcaaGreatDoorProg
import Derived.WalkLawsBesides
import Derived.WalkSpells
import Derived.Deep.RegionWith
import Derived.Deep.QuietTactic
import Derived.BigQuiet
import Derived.Test.YtmdjbdolegojcaaGreatDoorAll3
import Derived.OwnWalk
import Derived.Laws.IdiomStrings
import Derived.Lib.BufferRead
/-
  A rule of our own: a region that draws its order, by an invariant over what has been carried out, the frame and the world.
-/
namespace Go.Proofs.YtmdjbdolegojcaaGreatDoor
open Go.RowKit
set_option maxRecDepth 20000

/-- how many operations are still to be carried out -/
def left (n : Nat) (listed : Array Bool) : Nat := (List.range n).countP (fun j => !listed.getD j true)

theorem left_set {n i : Nat} {listed : Array Bool} (hi : i < n) (h : listed.getD i true = false) : left n (listed.setIfInBounds i true) + 1 ≤ left n listed := by
  unfold left
  have hs : ∀ j, j ≠ i → (listed.setIfInBounds i true).getD j true = listed.getD j true := fun j hj => getD_set_ne true (Ne.symm hj)
  have hi1 : (listed.setIfInBounds i true).getD i true = true := by
    have hlt : i < listed.size := by
      rcases Nat.lt_or_ge i listed.size with h' | h'
      · exact h'
      · simp [Array.getElem?_eq_none h'] at h
    simp [hlt]
  have key : ∀ m, (List.range m).countP (fun j => !(listed.setIfInBounds i true).getD j true) + (if i < m then 1 else 0) = (List.range m).countP (fun j => !listed.getD j true) := by
    intro m
    induction m with
    | zero => simp
    | succ m ih =>
      rw [List.range_succ, List.countP_append, List.countP_append, List.countP_singleton, List.countP_singleton]
      by_cases hm : m = i
      · subst hm
        rw [hi1, h]
        rw [if_neg (Nat.lt_irrefl _)] at ih
        simp at ih ⊢
        exact ih
      · rw [hs m hm]
        have e : (i < m + 1) ↔ (i < m) := by omega
        simp only [e]
        omega
  have := key n
  rw [if_pos hi] at this
  omega

theorem ready_none {md : Region.Mode} {ops : Array Oper} {listed : Array Bool} (h : left ops.size listed = 0) : Region.ready md ops listed = [] := by
  rw [List.eq_nil_iff_forall_not_mem]
  intro j hj
  rw [mem_ready] at hj
  obtain ⟨h0, o, ho, _⟩ := hj
  have hlt : j < ops.size := (Array.getElem?_eq_some_iff.1 ho).1
  unfold left at h
  rw [List.countP_eq_zero] at h
  have := h j (List.mem_range.2 hlt)
  rw [h0] at this
  simp at this

theorem wpAny_inv {P : Program} {md : Region.Mode} {ops : Array Oper} {Q : Exit → Act → World → Prop} (Inv : Array Bool → Act → World → Prop)
    (hstep : ∀ i listed a w, i ∈ Region.ready md ops listed → Inv listed a w → wpOp P ops Q i (Inv (listed.setIfInBounds i true)) a w)
    (hend : ∀ listed a w, Region.ready md ops listed = [] → Inv listed a w → Q .normal a w) :
    ∀ (fuel : Nat) (listed : Array Bool) (a : Act) (w : World), left ops.size listed ≤ fuel → Inv listed a w → wpAny P md ops Q fuel listed a w := by
  intro fuel
  induction fuel with
  | zero =>
    intro listed a w hf hI
    have hr := ready_none (md := md) (Nat.le_zero.1 hf)
    exact ⟨hr, hend _ _ _ hr hI⟩
  | succ fuel ih =>
    intro listed a w hf hI
    refine ⟨fun hr => hend _ _ _ hr hI, fun i hi => ?_⟩
    have hm := mem_ready.1 hi
    obtain ⟨h0, o, ho, _⟩ := hm
    have hlt : i < ops.size := (Array.getElem?_eq_some_iff.1 ho).1
    have hl := left_set hlt h0
    exact wpOp_mono (fun a' w' h => ih _ a' w' (by omega) h) (hstep i listed a w hi hI)

/-- where each operation waits only for earlier ones: if none may come up, all have come up -/
theorem all_listed {md : Region.Mode} {ops : Array Oper} {listed : Array Bool} (hb0 : (List.range ops.size).all (fun i => (ops[i]?.map (fun o => o.after.all (fun e => decide (e.on < i)))).getD true) = true) (hs : listed.size = ops.size) (hr : Region.ready md ops listed = []) :
    ∀ i, i < ops.size → listed.getD i false = true := by
  have hb : ∀ (i : Nat) (o : Oper), ops[i]? = some o → ∀ e ∈ o.after, e.on < i := by
    intro i o ho e he
    have hi : i < ops.size := (Array.getElem?_eq_some_iff.1 ho).1
    have := List.all_eq_true.1 hb0 i (List.mem_range.2 hi)
    rw [ho] at this
    simp only [Option.map_some, Option.getD_some] at this
    have := Array.all_eq_true_iff_forall_mem.1 this e he
    exact of_decide_eq_true this
  intro i
  induction i using Nat.strongRecOn with
  | _ i ih =>
    intro hi
    cases hl : listed.getD i false with
    | true => rfl
    | false =>
      exfalso
      have hm : i ∈ Region.ready md ops listed := by
        rw [mem_ready]
        refine ⟨?_, ops[i], Array.getElem?_eq_getElem hi, fun e he _ => ?_⟩
        · have : i < listed.size := by omega
          simp [this] at hl ⊢
          exact hl
        · have he' := hb i ops[i] (Array.getElem?_eq_getElem hi) e he
          exact ih e.on he' (by omega)
      rw [hr] at hm
      cases hm

/-- what has been carried out stands behind all that it waits for -/
def Closed (md : Region.Mode) (ops : Array Oper) (listed : Array Bool) : Prop :=
  ∀ (i : Nat) (o : Oper), ops[i]? = some o → listed.getD i false = true → ∀ e ∈ o.after, Region.binds md e = true → listed.getD e.on false = true
theorem set_stays {listed : Array Bool} {i k : Nat} (h : listed.getD k false = true) : (listed.setIfInBounds i true).getD k false = true := by
  by_cases e : i = k
  · subst e
    have : i < listed.size := by
      rcases Nat.lt_or_ge i listed.size with h' | h'
      · exact h'
      · simp [Array.getElem?_eq_none h'] at h
    simp [this]
  · rw [getD_set_ne false e]; exact h
theorem closed_step {md : Region.Mode} {ops : Array Oper} {listed : Array Bool} {i : Nat} (hi : i ∈ Region.ready md ops listed) (h : Closed md ops listed) : Closed md ops (listed.setIfInBounds i true) := by
  intro j o ho hj e he hb
  by_cases e' : i = j
  · subst e'
    obtain ⟨_, o', ho', hall⟩ := mem_ready.1 hi
    rw [ho] at ho'
    cases ho'
    exact set_stays (hall e he hb)
  · rw [getD_set_ne false e'] at hj
    exact set_stays (h j o ho hj e he hb)
theorem closed_start (md : Region.Mode) (ops : Array Oper) (n : Nat) : Closed md ops (Array.replicate n false) := by
  intro i o _ h
  rw [show (Array.replicate n false).getD i false = false from by by_cases hk' : i < n <;> simp [hk']] at h
  cases h
theorem wpAny_inv2 {P : Program} {md : Region.Mode} {ops : Array Oper} {Q : Exit → Act → World → Prop} (Inv : Array Bool → Act → World → Prop)
    (hstep : ∀ i listed a w, i ∈ Region.ready md ops listed → Closed md ops listed → Inv listed a w → wpOp P ops Q i (Inv (listed.setIfInBounds i true)) a w)
    (hend : ∀ listed a w, Region.ready md ops listed = [] → Inv listed a w → Q .normal a w)
    (fuel : Nat) (listed : Array Bool) (a : Act) (w : World) (hf : left ops.size listed ≤ fuel) (hI : Inv listed a w) (hC : Closed md ops listed) : wpAny P md ops Q fuel listed a w :=
  wpAny_inv (fun l a w => Inv l a w ∧ Closed md ops l) (fun i l a w hi h => wpOp_mono (fun _ _ h' => ⟨h', closed_step hi h.2⟩) (hstep i l a w hi h.2 h.1)) (fun l a w hr h => hend l a w hr h.1) fuel listed a w hf ⟨hI, hC⟩

theorem wpOp_of {P : Program} {ops : Array Oper} {Q : Exit → Act → World → Prop} {i : Nat} {o : Oper} {K : Act → World → Prop} {a : Act} {w : World}
    (h : ops[i]? = some o) (hg : o.guard = none) (hw : o.wp P a w K Q) : wpOp P ops Q i K a w := by
  unfold wpOp
  simp only [h]
  rw [if_pos (by simp [Region.wanted, hg])]
  exact .inl hw
theorem eval_ne {a : Act} {n m : Nat} {v : Value} (h : m ≠ n) : (a.put (some m) v).tmps[n]?.getD undef = a.tmps[n]?.getD undef := by
  simp [Act.put, Array.getElem?_setIfInBounds_ne h]
theorem eval_eq {a : Act} {m : Nat} {v : Value} (h : m < a.tmps.size) : (a.put (some m) v).tmps[m]?.getD undef = v := by
  simp [Act.put, h]
end Go.Proofs.YtmdjbdolegojcaaGreatDoor
/-
  Plain: pairs shown as a text; contracts of the library's strconv.Itoa and of the document's dec.
-/
namespace Go.Proofs.YtmdjbdolegojcaaGreatDoor
open Go.RowKit
set_option maxRecDepth 20000

/-- the table that strconv reads -/
def Tab (w : World) : Prop := Lib.TabIs Tryz.prog w "internal/strconv.uint64pow10" .u64 Lib.pow10Tab
theorem Tab.below {w w' : World} (h : Tab w) (k : Below w.heap.size w w') : Tab w' := by
  unfold Tab Lib.TabIs World.var? at h ⊢
  cases hg : Tryz.prog.globalNamed "internal/strconv.uint64pow10" with
  | none => rw [hg] at h; cases h
  | some g =>
  rw [hg] at h
  simp only [Option.bind_some] at h ⊢
  have hlt : g < w.heap.size := by
    rcases Nat.lt_or_ge g w.heap.size with h' | h'
    · exact h'
    · rw [Array.getElem?_eq_none h'] at h; cases h
  rw [k.block g hlt]
  exact h
theorem below_grow (w : World) (k : Nat) (os : Array Obj) : Below w.heap.size w (Sort.grow (w.drewN k) os) := by
  refine ⟨rfl, rfl, rfl, ?_, fun j hj => ?_⟩
  · show w.heap.size ≤ (w.heap ++ os).size
    simp
  · show (w.heap ++ os)[j]? = w.heap[j]?
    rw [Array.getElem?_append_left hj]

/-- a number's digits -/
def Pl.dec (n : Int) : ByteArray := ⟨(Lib.itoa n).toArray⟩
theorem Pl.dec_size (n : Int) (h0 : -9223372036854775808 ≤ n) (h1 : n ≤ 9223372036854775807) : (Pl.dec n).size ≤ 21 := by
  have := Lib.itoa_length_le n h0 h1
  show (Lib.itoa n).toArray.size ≤ 21
  simpa using this
theorem Itoa_any (n : Int) (w : World) (h0 : 0 ≤ n) (h1 : n ≤ 100000) (hT : Tab w) :
    Calls Tryz.prog 43 #[.int .i64 n] w fun e w' => e = .returned (.string (Pl.dec n)) ∧ Below w.heap.size w w' :=
  (Tryz.strconv_Itoa n (by omega) (by omega) w hT).mono fun e w' ⟨h, k, os, hw⟩ => ⟨h, hw ▸ below_grow w k os⟩

/-- a pair as a text, with a sign between -/
def Pl.sideT (m : ByteArray) (p : Int × Int) : ByteArray := Pl.dec p.1 ++ m ++ Pl.dec p.2
/-- pairs as a text -/
def Pl.showT (m : ByteArray) (ps : List (Int × Int)) : ByteArray := ⟨(Lib.join ((ps.map (Pl.sideT m)).map (·.data.toList)) [44]).toArray⟩
def Pl.small (p : Int × Int) : Prop := 0 ≤ p.1 ∧ p.1 ≤ 1000 ∧ 0 ≤ p.2 ∧ p.2 ≤ 1000
theorem Pl.dec_le (n : Int) (h0 : 0 ≤ n) (h1 : n ≤ 1000) : (Pl.dec n).size ≤ 21 := Pl.dec_size n (by omega) (by omega)
theorem Pl.sideT_size (m : ByteArray) (p : Int × Int) (h : Pl.small p) : (Pl.sideT m p).size ≤ 42 + m.size := by
  obtain ⟨h1, h2, h3, h4⟩ := h
  unfold Pl.sideT
  rw [ByteArray.size_append, ByteArray.size_append]
  have := Pl.dec_le p.1 h1 h2
  have := Pl.dec_le p.2 h3 h4
  omega
end Go.Proofs.YtmdjbdolegojcaaGreatDoor
/-
  Plain definitions: lists of entries as stores, what is wrong with one; no program in sight.
-/
namespace Go.Proofs.YtmdjbdolegojcaaGreatDoor.Pl

structure Ent where
  key : ByteArray
  ver : Int
  org : Int
  val : ByteArray

def Ent.none : Ent := ⟨⟨#[]⟩, 0, 0, ⟨#[]⟩⟩
/-- the entry at a place -/
def ent (es : List Ent) (i : Nat) : Ent := es.getD i Ent.none
theorem ent_cons_succ (e : Ent) (es : List Ent) (i : Nat) : ent (e :: es) (i + 1) = ent es i := by simp [ent]
theorem ent_cons_zero (e : Ent) (es : List Ent) : ent (e :: es) 0 = e := by simp [ent]
theorem ent_eq (es : List Ent) (i : Nat) (h : i < es.length) : ent es i = es[i] := by simp [ent, List.getD, h]
theorem ent_mem (es : List Ent) (i : Nat) (h : i < es.length) : ent es i ∈ es := by rw [ent_eq es i h]; exact List.getElem_mem h
theorem drop_ent (es : List Ent) (i : Nat) (h : i < es.length) : es.drop i = ent es i :: es.drop (i + 1) := by
  rw [ent_eq es i h]; exact List.drop_eq_getElem_cons h

/-- what fits the kinds -/
def Ent.ok (e : Ent) : Prop := e.key.size ≤ maxLen ∧ (Lit.int .i64 e.ver).wf = true ∧ (Lit.int .i64 e.org).wf = true ∧ e.val.size ≤ maxLen

/-- may an entry be one of a store? -/
def entB (k : ByteArray) (v o : Int) (x : ByteArray) : Bool := keyB k && decide (1 ≤ v ∧ v ≤ 1099511627776) && decide (0 ≤ o ∧ o ≤ 11) && decide (x.size ≤ 120)
def Ent.may (e : Ent) : Bool := entB e.key e.ver e.org e.val
theorem entB_eq {k : ByteArray} {v o : Int} {x : ByteArray} (hk : keyB k = true) : entB k v o x = (decide (1 ≤ v) && decide (v ≤ 1099511627776) && decide (0 ≤ o ∧ o ≤ 11) && decide ((x.size : Int) ≤ 120)) := by
  unfold entB; rw [hk, Bool.eq_iff_iff]; simp; omega
theorem entB_of {k : ByteArray} {v o : Int} {x : ByteArray} (hk : keyB k = true) (h1 : 1 ≤ v) (h2 : v ≤ 1099511627776) (h3 : 0 ≤ o ∧ o ≤ 11) (h4 : x.size ≤ 120) : entB k v o x = true := by
  simp [entB, hk, h1, h2, h3, h4]
theorem entB_k {k : ByteArray} {v o : Int} {x : ByteArray} (hk : keyB k = false) : entB k v o x = false := by simp [entB, hk]
theorem entB_v {k : ByteArray} {v o : Int} {x : ByteArray} (h : ¬ (1 ≤ v ∧ v ≤ 1099511627776)) : entB k v o x = false := by
  unfold entB; rw [decide_eq_false h]; simp
theorem entB_o {k : ByteArray} {v o : Int} {x : ByteArray} (h : ¬ (0 ≤ o ∧ o ≤ 11)) : entB k v o x = false := by
  unfold entB; rw [decide_eq_false h]; simp
theorem entB_x {k : ByteArray} {v o : Int} {x : ByteArray} (h : ¬ x.size ≤ 120) : entB k v o x = false := by
  unfold entB; rw [decide_eq_false h]; simp

/-- is a place's key not above that of the one ahead? -/
def lowB (es : List Ent) (i : Nat) : Bool := decide (0 < i) && !ltB (ent es (i - 1)).key (ent es i).key
theorem lowB_true {es : List Ent} {m : Nat} (h : Op.bytesLess (ent es (m + 1)).key.toList (ent es m).key.toList = true ∨ ((ent es (m + 1)).key.toList == (ent es m).key.toList) = true) : lowB es (m + 1) = true := by
  unfold lowB
  simp only [Nat.zero_lt_succ, decide_true, Nat.add_sub_cancel, Bool.true_and, Bool.not_eq_true']
  rcases h with h | h
  · exact ltB_asymm h
  · rw [beqL] at h
    rw [of_decide_eq_true h]; exact ltB_irrefl _
theorem lowB_false {es : List Ent} {m : Nat} (h : Op.bytesLess (ent es (m + 1)).key.toList (ent es m).key.toList = false ∧ ((ent es (m + 1)).key.toList == (ent es m).key.toList) = false) : lowB es (m + 1) = false := by
  unfold lowB
  simp only [Nat.zero_lt_succ, decide_true, Nat.add_sub_cancel, Bool.true_and, Bool.not_eq_false']
  obtain ⟨h1, h2⟩ := h
  rw [beqL] at h2
  cases k : ltB (ent es m).key (ent es (m + 1)).key
  · exact absurd (ltB_total h1 k) (of_decide_eq_false h2)
  · rfl
/-- what is wrong from a place on: so many are still to be looked at -/
def faultN (es : List Ent) : Nat → Nat → Int
  | 0, _ => 0
  | n + 1, i => if (ent es i).may then (if lowB es i then 7 else faultN es n (i + 1)) else 4
def fault (es : List Ent) : Int := if es.length ≤ 60 then faultN es es.length 0 else 1
theorem fault_size {es : List Ent} (h : 60 < es.length) : fault es = 1 := by unfold fault; rw [if_neg (by omega)]
theorem fault_from {es : List Ent} (h : es.length ≤ 60) : fault es = faultN es es.length 0 := by unfold fault; rw [if_pos h]
theorem faultN_form {es : List Ent} {n i : Nat} (h : (ent es i).may = false) : faultN es (n + 1) i = 4 := by simp [faultN, h]
theorem faultN_low {es : List Ent} {n i : Nat} (h : (ent es i).may = true) (k : lowB es i = true) : faultN es (n + 1) i = 7 := by simp [faultN, h, k]
theorem faultN_on {es : List Ent} {n i : Nat} (h : (ent es i).may = true) (k : lowB es i = false) : faultN es (n + 1) i = faultN es n (i + 1) := by simp [faultN, h, k]
end Go.Proofs.YtmdjbdolegojcaaGreatDoor.Pl
/-
  Contracts: what Check and StoreFault, and what they call, answer at every list of entries.
-/
namespace Go.Proofs.YtmdjbdolegojcaaGreatDoor
open Go.RowKit
set_option maxRecDepth 20000

/-- the cells of entries, one behind the other -/
def RowAt (w : World) (b off : Nat) (es : List Pl.Ent) : Prop := ∀ i, i < es.length →
  w.cell? ⟨b, off + i * 4, none⟩ = some (.string (Pl.ent es i).key) ∧ w.cell? ⟨b, off + i * 4 + 1, none⟩ = some (.int .i64 (Pl.ent es i).ver) ∧
  w.cell? ⟨b, off + i * 4 + 2, none⟩ = some (.int .i64 (Pl.ent es i).org) ∧ w.cell? ⟨b, off + i * 4 + 3, none⟩ = some (.string (Pl.ent es i).val)

/-- a slice of entries -/
def IsEnts (w : World) (a : Option Addr) (len cap : Nat) (es : List Pl.Ent) : Prop :=
  es.length = len ∧ len ≤ cap ∧ cap ≤ maxLen ∧ (∀ e ∈ es, e.ok) ∧ (es = [] ∨ ∃ b off, a = some ⟨b, off, none⟩ ∧ b < w.heap.size ∧ RowAt w b off es)

set_option maxHeartbeats 400000 in
theorem isEntry_any (k : ByteArray) (v o : Int) (x : ByteArray) (w : World) (hk : k.size ≤ maxLen) (_hx : x.size ≤ maxLen) :
    Calls Tryz.prog 36 #[.agg #[.string k, .int .i64 v, .int .i64 o, .string x]] w
      fun e w' => e = .returned (.bool (Pl.entB k v o x)) ∧ Below w.heap.size w w' := by
  unfold maxLen at _hx
  obtain ⟨kk, HB⟩ : ∃ kk, Hid (Pl.keyB k = kk) := ⟨_, rfl⟩
  cases kk
  · have HR : Hid (Pl.entB k v o x = false) := Pl.entB_k HB.out
    go_enter Tryz.func36, Tryz.ntmps36
    go_wp2_with (go_at_call 58; refine (Key_any _ _ hk).mono ?_; rw [HB.out]; rintro e w' ⟨rfl, rfl⟩)
    go_ret
    exact ⟨ret_bool HR.out.symm, (Below.refl _ _).alloc (Nat.le_refl _) _⟩
  · obtain ⟨oo, HO⟩ : ∃ oo, Hid (decide (0 ≤ o ∧ o ≤ 11) = oo) := ⟨_, rfl⟩
    have HR : Hid (Pl.entB k v o x = (decide (1 ≤ v) && decide (v ≤ 1099511627776) && oo && decide ((x.size : Int) ≤ 120))) := by
      show _ = _
      rw [Pl.entB_eq HB.out, HO.out]
    by_cases h1 : 1 ≤ v
    all_goals by_cases h2 : v ≤ 1099511627776
    all_goals first | (exfalso; omega) | skip
    all_goals cases oo
    all_goals
      go_enter Tryz.func36, Tryz.ntmps36
      go_wp2_with (first | (go_at_call 58; refine (Key_any _ _ hk).mono ?_; rw [HB.out]; rintro e w' ⟨rfl, rfl⟩) | (go_at_call 17; refine (isNode_any _ _).mono ?_; rw [HO.out]; rintro e w' ⟨rfl, rfl⟩))
      go_ret
      exact ⟨ret_bool (by rw [HR.out, Bool.eq_iff_iff]; simp <;> omega), (Below.refl _ _).alloc (Nat.le_refl _) _⟩

theorem RowAt.below {w w' : World} {b off : Nat} {es : List Pl.Ent} (h : RowAt w b off es) (hb : b < w.heap.size) (k : Below w.heap.size w w') : RowAt w' b off es := by
  intro i hi
  obtain ⟨c0, c1, c2, c3⟩ := h i hi
  exact ⟨(k.cell (p := ⟨b, _, none⟩) hb).trans c0, (k.cell (p := ⟨b, _, none⟩) hb).trans c1, (k.cell (p := ⟨b, _, none⟩) hb).trans c2, (k.cell (p := ⟨b, _, none⟩) hb).trans c3⟩

theorem IsEnts.below {w w' : World} {a : Option Addr} {len cap : Nat} {es : List Pl.Ent} (h : IsEnts w a len cap es) (k : Below w.heap.size w w') : IsEnts w' a len cap es := by
  obtain ⟨h1, h2, h3, h4, h5⟩ := h
  refine ⟨h1, h2, h3, h4, ?_⟩
  rcases h5 with h5 | ⟨b, off, rfl, hb, hr⟩
  · exact .inl h5
  · exact .inr ⟨b, off, rfl, Nat.lt_of_lt_of_le hb k.size, hr.below hb k⟩

theorem below_drewN {B : Nat} {a w : World} (h : Below B a w) (n : Nat) : Below B a (w.drewN n) := h.trans ⟨rfl, rfl, rfl, Nat.le_refl _, fun _ _ => rfl⟩

set_option maxHeartbeats 400000 in
theorem Check_any (a : Option Addr) (len cap : Nat) (es : List Pl.Ent) (w : World) (h : IsEnts w a len cap es) :
    Calls Tryz.prog 16 #[.slice a len cap] w fun e w' => e = .returned (.int .i64 (Pl.fault es)) ∧ Below w.heap.size w w' := by
  obtain ⟨hl, hc, hm, hok, hrow⟩ := h
  unfold maxLen at hm
  by_cases h60 : 60 < len
  · go_enter Tryz.func16, Tryz.ntmps16
    go_wp2
    go_ret
    exact ⟨ret_int (Pl.fault_size (by omega)).symm, Below.refl _ _⟩
  go_enter Tryz.func16, Tryz.ntmps16
  go_wp2
  go_loopw [10] (fun i wr => ∃ k : Nat, k ≤ len ∧ i = .int .i64 k ∧ Hid (Pl.fault es = Pl.faultN es (len - k) k) ∧ Below w.heap.size w wr) (fun i _ => len - (intOf i).toNat)
  case atStart => exact ⟨0, Nat.zero_le _, rfl, by show _ = _; rw [Pl.fault_from (by omega), hl]; rfl, Below.refl _ _⟩
  case round =>
    obtain ⟨k, hk, rfl, HF, hb⟩ := hrel
    by_cases hlt : k < len
    · obtain ⟨b, off, rfl, hbw, hr⟩ : ∃ b off, a = some ⟨b, off, none⟩ ∧ b < w.heap.size ∧ RowAt w b off es := by
        rcases hrow with rfl | h
        · simp at hl; omega
        · exact h
      clear hrow
      have hr' := hr.below hbw hb
      obtain ⟨c0, c1, c2, c3⟩ := hr' k (by omega)
      have hoke := hok _ (Pl.ent_mem es k (by omega))
      obtain ⟨hok0, _, _, hok3⟩ := hoke
      have hz := hb.size
      obtain ⟨mm, HM⟩ : ∃ mm, Hid (Pl.entB (Pl.ent es k).key (Pl.ent es k).ver (Pl.ent es k).org (Pl.ent es k).val = mm) := ⟨_, rfl⟩
      have HM' : Hid ((Pl.ent es k).may = mm) := HM
      obtain ⟨n, hn⟩ : ∃ n, len - k = n + 1 := ⟨len - k - 1, by omega⟩
      have HN : Hid (len - k = n + 1) := hn
      clear hn
      cases mm
      · go_wp2_with fail
        refine (isEntry_any _ _ _ _ _ hok0 hok3).mono ?_
        rw [HM.out]
        rintro e w1 ⟨rfl, hb1⟩
        go_wp2_with fail
        go_ret
        exact ⟨ret_int (by rw [HF.out, HN.out, Pl.faultN_form HM'.out]), (hb.alloc hz _).trans (hb1.mono (by simp; omega))⟩
      · rcases Nat.eq_zero_or_pos k with hk0 | hk0
        · have hd : decide (0 < k) = false := by simp; omega
          have HK0 : Hid (k = 0) := hk0
          clear hk0
          go_wp2_with fail
          refine (isEntry_any _ _ _ _ _ hok0 hok3).mono ?_
          rw [HM.out]
          rintro e w1 ⟨rfl, hb1⟩
          go_wp2_with fail
          go_quiet (fail)
          go_wp2
          go_roundw
          case rel => exact ⟨k + 1, by omega, by go_num, by show _ = _; rw [HF.out, HN.out, Pl.faultN_on HM'.out (by simp [Pl.lowB, HK0.out])]; congr 1; have := HN.out; omega, below_drewN ((hb.alloc hz _).trans (hb1.mono (by simp; omega))) _⟩
          case measure => simp [intOf]; omega
        · obtain ⟨m, rfl⟩ : ∃ m, k = m + 1 := ⟨k - 1, by omega⟩
          obtain ⟨d0, d1, d2, d3⟩ := hr' m (by omega)
          have hbr : b < wr.heap.size := by omega
          go_wp2_with fail
          refine (isEntry_any _ _ _ _ _ hok0 hok3).mono ?_
          rw [HM.out]
          rintro e w1 ⟨rfl, hb1⟩
          obtain ⟨hcc, hff⟩ := bcell hb1
          clear hff
          go_wp2_with fail
          go_quiet (fail)
          go_wp2
          · go_ret
            exact ⟨ret_int (by rw [HF.out, HN.out, Pl.faultN_low HM'.out (Pl.lowB_true ‹_›)]), below_drewN ((hb.alloc hz _).trans (hb1.mono (by simp; omega))) _⟩
          · go_roundw
            case rel => exact ⟨m + 1 + 1, by omega, by go_num, by show _ = _; rw [HF.out, HN.out, Pl.faultN_on HM'.out (Pl.lowB_false ‹_›)]; congr 1; have := HN.out; omega, below_drewN ((hb.alloc hz _).trans (hb1.mono (by simp; omega))) _⟩
            case measure => simp [intOf]; omega
    · obtain rfl : k = len := by omega
      go_wp2
      go_ret
      exact ⟨ret_int (by rw [HF.out]; simp [Pl.faultN]), hb⟩
end Go.Proofs.YtmdjbdolegojcaaGreatDoor
/-
  Plain facts: stores in their order, the place of a key; no program in sight.
-/
namespace Go.Proofs.YtmdjbdolegojcaaGreatDoor.Pl

/-- the keys ascend -/
def Asc (es : List Ent) : Prop := ∀ i j, i < j → j < es.length → ltB (ent es i).key (ent es j).key = true
/-- all entries may be -/
def May (es : List Ent) : Prop := ∀ i, i < es.length → (ent es i).may = true

theorem faultN_zero (es : List Ent) : ∀ n i, faultN es n i = 0 → ∀ j, i ≤ j → j < i + n → (ent es j).may = true ∧ lowB es j = false
  | 0, _, _, j, h1, h2 => by omega
  | n + 1, i, h, j, h1, h2 => by
    simp only [faultN] at h
    cases hm : (ent es i).may
    · simp [hm] at h
    · cases hl : lowB es i
      · simp only [hm, hl] at h
        rcases Nat.lt_or_ge i j with k | k
        · exact faultN_zero es n (i + 1) (by simpa using h) j (by omega) (by omega)
        · obtain rfl : j = i := by omega
          exact ⟨hm, hl⟩
      · simp [hm, hl] at h

theorem good_of_fault {es : List Ent} (h : fault es = 0) : es.length ≤ 60 ∧ May es ∧ Asc es := by
  unfold fault at h
  split at h
  · rename_i hl
    have hz := faultN_zero es es.length 0 h
    refine ⟨hl, fun i hi => (hz i (by omega) (by omega)).1, ?_⟩
    intro i j hij hj
    induction j with
    | zero => omega
    | succ m ih =>
      have hlow := (hz (m + 1) (by omega) (by omega)).2
      have hstep : ltB (ent es m).key (ent es (m + 1)).key = true := by
        unfold lowB at hlow
        simpa using hlow
      rcases Nat.lt_or_ge i m with k | k
      · exact ltB_trans (ih k (by omega)) hstep
      · obtain rfl : i = m := by omega
        exact hstep
  · cases h

theorem faultN_of_good (es : List Ent) (h : ∀ j, j < es.length → (ent es j).may = true ∧ lowB es j = false) : ∀ n i, i + n ≤ es.length → faultN es n i = 0
  | 0, _, _ => rfl
  | n + 1, i, hi => by
    obtain ⟨h1, h2⟩ := h i (by omega)
    rw [faultN_on h1 h2]
    exact faultN_of_good es h n (i + 1) (by omega)

theorem fault_of_good {es : List Ent} (hl : es.length ≤ 60) (hm : May es) (ha : Asc es) : fault es = 0 := by
  rw [fault_from hl]
  refine faultN_of_good es (fun j hj => ⟨hm j hj, ?_⟩) _ _ (by omega)
  unfold lowB
  rcases Nat.eq_zero_or_pos j with rfl | k
  · rfl
  · rw [ha (j - 1) j (by omega) hj]; simp

/-- the place of a key, or that at which it would come -/
def pos : List Ent → ByteArray → Nat
  | [], _ => 0
  | e :: r, key => if ltB e.key key then pos r key + 1 else 0

theorem pos_le : ∀ (es : List Ent) (key : ByteArray), pos es key ≤ es.length
  | [], _ => Nat.le_refl _
  | e :: r, key => by
    simp only [pos, List.length_cons]
    have := pos_le r key
    split <;> omega
theorem pos_lt : ∀ (es : List Ent) (key : ByteArray) (i : Nat), i < pos es key → ltB (ent es i).key key = true
  | [], _, i, h => by simp [pos] at h
  | e :: r, key, i, h => by
    simp only [pos] at h
    split at h
    · rename_i he
      cases i with
      | zero => simpa [ent] using he
      | succ i => rw [ent_cons_succ]; exact pos_lt r key i (by omega)
    · omega
theorem pos_at : ∀ (es : List Ent) (key : ByteArray), pos es key < es.length → ltB (ent es (pos es key)).key key = false
  | [], _, h => by simp at h
  | e :: r, key, h => by
    cases he : ltB e.key key
    · simp [pos, he, ent]
    · simp only [pos, he, if_true] at h ⊢
      rw [ent_cons_succ]
      exact pos_at r key (by simpa using h)
theorem pos_of {es : List Ent} {key : ByteArray} {i : Nat} (hi : i ≤ es.length) (h1 : ∀ t, t < i → ltB (ent es t).key key = true) (h2 : i < es.length → ltB (ent es i).key key = false) : pos es key = i := by
  rcases Nat.lt_trichotomy (pos es key) i with k | k | k
  · have a := h1 _ k
    rw [pos_at es key (by omega)] at a; cases a
  · exact k
  · have a := pos_lt es key i k
    have b := pos_le es key
    rw [h2 (by omega)] at a; cases a

/-- is the key there? -/
def there (es : List Ent) (key : ByteArray) : Bool := decide (pos es key < es.length) && decide ((ent es (pos es key)).key = key)

theorem asc_lt {es : List Ent} (h : Asc es) {key : ByteArray} {t m : Nat} (hm : m < es.length) (ht : t ≤ m) (k : ltB (ent es m).key key = true) : ltB (ent es t).key key = true := by
  rcases Nat.lt_or_ge t m with q | q
  · exact ltB_trans (h t m q hm) k
  · obtain rfl : t = m := by omega
    exact k
theorem asc_ge {es : List Ent} (h : Asc es) {key : ByteArray} {t m : Nat} (ht : t < es.length) (hm : m ≤ t) (k : ltB (ent es m).key key = false) : ltB (ent es t).key key = false := by
  cases q : ltB (ent es t).key key
  · rfl
  · rw [asc_lt h ht hm q] at k; cases k

/-- the first place of a key, or the length -/
def idx : List Ent → ByteArray → Nat
  | [], _ => 0
  | e :: r, key => if e.key = key then 0 else idx r key + 1
def idxI (es : List Ent) (key : ByteArray) : Int := if idx es key < es.length then (idx es key : Int) else -1
theorem idx_le : ∀ (es : List Ent) (key : ByteArray), idx es key ≤ es.length
  | [], _ => Nat.le_refl _
  | e :: r, key => by
    simp only [idx, List.length_cons]
    have := idx_le r key
    split <;> omega
theorem idx_of : ∀ (es : List Ent) (key : ByteArray) (i : Nat), i ≤ es.length → (∀ t, t < i → ¬ (ent es t).key = key) → (i < es.length → (ent es i).key = key) → idx es key = i
  | [], _, i, h, _, _ => by simp at h; simp [idx, h]
  | e :: r, key, i, h, h1, h2 => by
    cases i with
    | zero =>
      have : e.key = key := by simpa [ent] using h2 (by simp)
      simp [idx, this]
    | succ i =>
      have h0 : ¬ e.key = key := by simpa [ent] using h1 0 (by omega)
      simp only [idx, h0, if_false]
      rw [idx_of r key i (by simpa using h) (fun t ht => by have := h1 (t + 1) (by omega); rwa [ent_cons_succ] at this) (fun hi => by have := h2 (by simpa using hi); rwa [ent_cons_succ] at this)]
theorem idx_asc {es : List Ent} (h : Asc es) (key : ByteArray) : idx es key = if there es key then pos es key else es.length := by
  have hle := pos_le es key
  cases ht : there es key
  · simp only [Bool.false_eq_true, if_false]
    refine idx_of es key _ (Nat.le_refl _) (fun t hlt he => ?_) (fun k => by omega)
    have hp : pos es key = t := by
      refine pos_of (by omega) (fun u hu => ?_) (fun _ => by rw [he]; exact ltB_irrefl _)
      have := h u t hu hlt
      rwa [he] at this
    unfold there at ht
    rw [hp] at ht
    simp [hlt, he] at ht
  · unfold there at ht
    simp only [Bool.and_eq_true, decide_eq_true_eq] at ht
    simp only [if_true]
    refine idx_of es key _ hle (fun t hlt he => ?_) (fun _ => ht.2)
    have := pos_lt es key t hlt
    rw [he, ltB_irrefl] at this; cases this
theorem idxI_asc {es : List Ent} (h : Asc es) (key : ByteArray) : idxI es key = if there es key then (pos es key : Int) else -1 := by
  unfold idxI
  rw [idx_asc h key]
  cases ht : there es key
  · simp
  · simp only [if_true]
    unfold there at ht
    simp only [Bool.and_eq_true, decide_eq_true_eq] at ht
    rw [if_pos ht.1]
end Go.Proofs.YtmdjbdolegojcaaGreatDoor.Pl
/-
  Contracts: the place of a key in a store in order: the closure, the search, find; the document's placeOf.
-/
namespace Go.Proofs.YtmdjbdolegojcaaGreatDoor
open Go.RowKit
set_option maxRecDepth 20000

theorem RowAt.drewN {w : World} {b off : Nat} {es : List Pl.Ent} (h : RowAt w b off es) (n : Nat) : RowAt (w.drewN n) b off es := fun i hi => h i hi

set_option maxHeartbeats 400000 in
theorem clo_any (es : List Pl.Ent) (key : ByteArray) (b off len cap bl bk i : Nat) (w : World) (hl : es.length = len) (_hc : len ≤ cap) (_hm : cap ≤ maxLen)
    (hrow : RowAt w b off es) (h1 : w.cell? ⟨bl, 0, none⟩ = some (.slice (some ⟨b, off, none⟩) len cap)) (h2 : w.cell? ⟨bk, 0, none⟩ = some (.string key)) (hi : i < len) :
    Calls Tryz.prog 61 #[.int .i64 i, .pointer (some ⟨bl, 0, none⟩), .pointer (some ⟨bk, 0, none⟩)] w fun e w' => e = .returned (.bool (!Pl.ltB (Pl.ent es i).key key)) ∧ ∃ n, w' = w.drewN n := by
  unfold maxLen at _hm
  obtain ⟨c0, _, _, _⟩ := hrow i (by omega)
  have hi' : (i : Int) < (len : Int) := by omega
  go_enter Tryz.func61, Tryz.ntmps61
  go_wp2_with fail
  go_quiet (fail)
  go_wp2
  go_ret
  exact ⟨rfl, _, rfl⟩

set_option maxHeartbeats 400000 in
theorem Search_any (es : List Pl.Ent) (key : ByteArray) (a : Option Addr) (len cap bl bk : Nat) (w : World) (hl : es.length = len) (hc : len ≤ cap) (hm : cap ≤ maxLen)
    (hrow : es = [] ∨ ∃ b off, a = some ⟨b, off, none⟩ ∧ RowAt w b off es) (h1 : w.cell? ⟨bl, 0, none⟩ = some (.slice a len cap)) (h2 : w.cell? ⟨bk, 0, none⟩ = some (.string key)) (has : Pl.Asc es) (h60 : len ≤ 60) :
    Calls Tryz.prog 46 #[.int .i64 len, .func (.func 61) #[] #[.pointer (some ⟨bl, 0, none⟩), .pointer (some ⟨bk, 0, none⟩)]] w fun e w' => e = .returned (.int .i64 (Pl.pos es key)) ∧ ∃ n, w' = w.drewN n := by
  have hm' : cap ≤ maxLen := hm
  have HM : Hid (cap ≤ maxLen) := hm'
  clear hm'
  unfold maxLen at hm
  have HR : Hid (es = [] ∨ ∃ b off, a = some ⟨b, off, none⟩ ∧ RowAt w b off es) := hrow
  have H1 : Hid (w.cell? ⟨bl, 0, none⟩ = some (.slice a len cap)) := h1
  have H2 : Hid (w.cell? ⟨bk, 0, none⟩ = some (.string key)) := h2
  have HA : Hid (Pl.Asc es) := has
  clear hrow h1 h2 has
  go_enter Tryz.func46, Tryz.ntmps46
  go_wp2
  go_loopw [5, 6] (fun i j wr => ∃ x y n : Nat, x ≤ y ∧ y ≤ len ∧ i = .int .i64 x ∧ j = .int .i64 y ∧ Hid (wr = w.drewN n) ∧ Hid (∀ t, t < x → Pl.ltB (Pl.ent es t).key key = true) ∧ Hid (∀ t, y ≤ t → t < len → Pl.ltB (Pl.ent es t).key key = false)) (fun i j _ => (intOf j).toNat - (intOf i).toNat)
  case atStart => exact ⟨0, len, 0, Nat.zero_le _, Nat.le_refl _, rfl, rfl, rfl, fun t h => by omega, fun t h h' => by omega⟩
  case round =>
    obtain ⟨x, y, n, hxy, hy, rfl, rfl, HW, HX, HY⟩ := hrel
    by_cases hlt : x < y
    · obtain ⟨b, off, rfl, hrow⟩ : ∃ b off, a = some ⟨b, off, none⟩ ∧ RowAt w b off es := by
        rcases HR.out with h | h
        · rw [h] at hl; simp at hl; omega
        · exact h
      have hr : RowAt wr b off es := by rw [HW.out]; exact hrow.drewN n
      have h1 : wr.cell? ⟨bl, 0, none⟩ = some (.slice (some ⟨b, off, none⟩) len cap) := by rw [HW.out]; exact H1.out
      have h2 : wr.cell? ⟨bk, 0, none⟩ = some (.string key) := by rw [HW.out]; exact H2.out
      have HC := fun m => clo_any es key b off len cap bl bk m wr hl hc HM.out hr h1 h2
      have HC' : Hid _ := HC
      clear HC hr h1 h2
      go_wp2_with fail
      obtain ⟨m, hm2, hxm, hmy⟩ : ∃ m : Nat, ((x : Int) + (y : Int)) / 2 = (m : Int) ∧ x ≤ m ∧ m < y := ⟨(x + y) / 2, by omega, by omega, by omega⟩
      rw [hm2]
      clear hm2
      refine (HC'.out m (by omega)).mono ?_
      rintro e w' ⟨rfl, q, hq⟩
      have HQ : Hid (w' = wr.drewN q) := hq
      clear hq
      obtain ⟨ll, HL⟩ : ∃ ll, Hid (Pl.ltB (Pl.ent es m).key key = ll) := ⟨_, rfl⟩
      rw [HL.out]
      have HW' : Hid (w' = w.drewN (n + q)) := by show _ = _; rw [HQ.out, HW.out, World.drewN_drewN]
      cases ll
      · go_wp2
        go_roundw
        case rel => exact ⟨x, m, n + q, by omega, by omega, rfl, rfl, HW', HX, fun t h h' => Pl.asc_ge HA.out (by omega) h HL.out⟩
        case measure => simp [intOf]; omega
      · go_wp2
        go_roundw
        case rel => exact ⟨m + 1, y, n + q, by omega, by omega, by go_num, rfl, HW', fun t h => Pl.asc_lt HA.out (by omega) (by omega) HL.out, HY⟩
        case measure => simp [intOf]; omega
    · obtain rfl : x = y := by omega
      go_wp2
      go_ret
      exact ⟨ret_int (by rw [Pl.pos_of (by omega) HX.out (fun h => HY.out x (Nat.le_refl _) (by omega))]), n, HW.out⟩

set_option maxHeartbeats 400000 in
theorem find_any (a : Option Addr) (len cap : Nat) (es : List Pl.Ent) (key : ByteArray) (w : World) (h : IsEnts w a len cap es) (has : Pl.Asc es) (h60 : len ≤ 60) :
    Calls Tryz.prog 42 #[.slice a len cap, .string key] w fun e w' => e = .returned (.tuple #[.int .i64 (Pl.pos es key), .bool (Pl.there es key)]) ∧ Below w.heap.size w w' := by
  obtain ⟨hl, hc, hm, _, hrow⟩ := h
  have hmf : ∀ (fn : Fn) (first cap : Array Value) (w : World), (Instr.makeFunc fn first cap).run Tryz.prog w = .ok (.func fn first cap) w := fun _ _ _ _ => rfl
  have HB : Hid (Below w.heap.size w ((w.alloc (.cells #[.slice a len cap] 22)).alloc (.cells #[.string key] 9))) := ((Below.refl _ _).alloc (Nat.le_refl _) _).alloc (by simp) _
  have HS : Hid (Calls Tryz.prog 46 #[.int .i64 len, .func (.func 61) #[] #[.pointer (some ⟨w.heap.size, 0, none⟩), .pointer (some ⟨w.heap.size + 1, 0, none⟩)]] ((w.alloc (.cells #[.slice a len cap] 22)).alloc (.cells #[.string key] 9)) fun e w' => e = .returned (.int .i64 (Pl.pos es key)) ∧ ∃ n, w' = ((w.alloc (.cells #[.slice a len cap] 22)).alloc (.cells #[.string key] 9)).drewN n) := by
    refine Search_any es key a len cap _ _ _ hl hc hm ?_ ?_ ?_ has h60
    · rcases hrow with h | ⟨b, off, rfl, hb, hr⟩
      · exact .inl h
      · exact .inr ⟨b, off, rfl, hr.below hb HB.out⟩
    · go_simp
    · go_simp
  have hp := Pl.pos_le es key
  unfold maxLen at hm
  rcases Nat.lt_or_ge (Pl.pos es key) len with hlt | hge
  · obtain ⟨b, off, rfl, hb, hr⟩ : ∃ b off, a = some ⟨b, off, none⟩ ∧ b < w.heap.size ∧ RowAt w b off es := by
      rcases hrow with h | h
      · rw [h] at hl; simp at hl; omega
      · exact h
    obtain ⟨c0, _, _, _⟩ := hr (Pl.pos es key) (by omega)
    have HT : Hid (Pl.there es key = ((Pl.ent es (Pl.pos es key)).key.toList == key.toList)) := by
      show _ = _
      unfold Pl.there
      rw [Pl.beqL, decide_eq_true (show Pl.pos es key < es.length by omega)]; rfl
    generalize Pl.pos es key = p at *
    clear hrow hr
    have hlt' : (p : Int) < (len : Int) := by omega
    go_enter Tryz.func42, Tryz.ntmps42
    go_wp2_with fail
    refine HS.out.mono ?_
    rintro e w' ⟨rfl, n, hn⟩
    subst hn
    go_wp2_with fail
    go_quiet (fail)
    go_wp2
    go_ret2
    exact ⟨by rw [HT.out]; rfl, below_drewN (below_drewN HB.out _) _⟩
  · have HT : Hid (Pl.there es key = false) := by
      show _ = _
      unfold Pl.there
      rw [decide_eq_false (show ¬ Pl.pos es key < es.length by omega)]; rfl
    generalize Pl.pos es key = p at *
    have hd : decide ((p : Int) < (len : Int)) = false := by simp; omega
    have hd' : decide (p < len) = false := by simp; omega
    go_enter Tryz.func42, Tryz.ntmps42
    go_wp2_with fail
    refine HS.out.mono ?_
    rintro e w' ⟨rfl, n, hn⟩
    subst hn
    go_wp2_with fail
    go_quiet (fail)
    go_wp2
    go_ret2
    exact ⟨by rw [HT.out]; rfl, below_drewN (below_drewN HB.out _) _⟩

set_option maxHeartbeats 400000 in
theorem placeOf_any (a : Option Addr) (len cap : Nat) (es : List Pl.Ent) (key : ByteArray) (w : World) (h : IsEnts w a len cap es) :
    Calls Tryz.prog 32 #[.slice a len cap, .string key] w fun e w' => e = .returned (.int .i64 (Pl.idxI es key)) ∧ w' = w := by
  obtain ⟨hl, hc, hm, _, hrow⟩ := h
  unfold maxLen at hm
  go_enter Tryz.func32, Tryz.ntmps32
  go_wp2
  go_loop [5] (fun i => ∃ k : Nat, k ≤ len ∧ i = .int .i64 k ∧ Hid (∀ t, t < k → ¬ (Pl.ent es t).key = key)) (fun i => len - (intOf i).toNat)
  case atStart => exact ⟨0, Nat.zero_le _, rfl, fun t h => by omega⟩
  case round =>
    obtain ⟨k, hk, rfl, HK⟩ := hrel
    by_cases hlt : k < len
    · obtain ⟨b, off, rfl, hb, hr⟩ : ∃ b off, a = some ⟨b, off, none⟩ ∧ b < w.heap.size ∧ RowAt w b off es := by
        rcases hrow with h | h
        · rw [h] at hl; simp at hl; omega
        · exact h
      obtain ⟨c0, _, _, _⟩ := hr k (by omega)
      clear hrow hr
      by_cases he : (Pl.ent es k).key = key
      · have HE : Hid ((Pl.ent es k).key = key) := he
        have hb1 : ((Pl.ent es k).key.toList == key.toList) = true := by rw [he]; simp
        clear he
        go_wp2
        go_ret
        exact ⟨ret_int (by have := Pl.idx_of es key k (by omega) HK.out (fun _ => HE.out); unfold Pl.idxI; rw [this, if_pos (by omega)]), rfl⟩
      · have HE : Hid (¬ (Pl.ent es k).key = key) := he
        have hb1 := Pl.beqL_false he
        clear he
        go_wp2
        go_round
        case rel => exact ⟨k + 1, by omega, by go_num, fun t h => by rcases Nat.lt_or_ge t k with q | q; exact HK.out t q; obtain rfl : t = k := (by omega); exact HE.out⟩
        case measure => simp [intOf]; omega
    · obtain rfl : k = len := by omega
      go_wp2
      go_ret
      exact ⟨ret_int (by have := Pl.idx_of es key k (by omega) HK.out (fun h => by omega); unfold Pl.idxI; rw [this, if_neg (by omega)]), rfl⟩
end Go.Proofs.YtmdjbdolegojcaaGreatDoor
/-
  Contract: what StoreFault, the document's answer to Check, answers at every list of entries.
-/
namespace Go.Proofs.YtmdjbdolegojcaaGreatDoor
open Go.RowKit
set_option maxRecDepth 20000

set_option maxHeartbeats 1000000 in
theorem StoreFault_any (a : Option Addr) (len cap : Nat) (es : List Pl.Ent) (w : World) (h : IsEnts w a len cap es) :
    Calls Tryz.prog 29 #[.slice a len cap] w fun e w' => e = .returned (.int .i64 (Pl.fault es)) ∧ Below w.heap.size w w' := by
  obtain ⟨hl, hc, hm, hok, hrow⟩ := h
  unfold maxLen at hm
  by_cases h60 : 60 < len
  · go_enter Tryz.func29, Tryz.ntmps29
    go_wp2
    go_ret
    exact ⟨ret_int (Pl.fault_size (by omega)).symm, Below.refl _ _⟩
  go_enter Tryz.func29, Tryz.ntmps29
  go_wp2
  go_loopw [3] (fun i wr => ∃ k : Nat, k ≤ len ∧ i = .int .i64 k ∧ Hid (Pl.fault es = Pl.faultN es (len - k) k) ∧ Below w.heap.size w wr) (fun i _ => len - (intOf i).toNat)
  case atStart => exact ⟨0, Nat.zero_le _, rfl, by show _ = _; rw [Pl.fault_from (by omega), hl]; rfl, Below.refl _ _⟩
  case round =>
    obtain ⟨k, hk, rfl, HF, hb⟩ := hrel
    by_cases hlt : k < len
    · obtain ⟨b, off, rfl, hbw, hr⟩ : ∃ b off, a = some ⟨b, off, none⟩ ∧ b < w.heap.size ∧ RowAt w b off es := by
        rcases hrow with rfl | h
        · simp at hl; omega
        · exact h
      clear hrow
      have hr' := hr.below hbw hb
      obtain ⟨c0, c1, c2, c3⟩ := hr' k (by omega)
      have hoke := hok _ (Pl.ent_mem es k (by omega))
      obtain ⟨hok0, _, _, hok3⟩ := hoke
      have hz := hb.size
      obtain ⟨n, hn⟩ : ∃ n, len - k = n + 1 := ⟨len - k - 1, by omega⟩
      have HN : Hid (len - k = n + 1) := hn
      clear hn
      obtain ⟨kk, HK⟩ : ∃ kk, Hid (Pl.keyB (Pl.ent es k).key = kk) := ⟨_, rfl⟩
      obtain ⟨vv, HV⟩ : ∃ vv, Hid (decide (1 ≤ (Pl.ent es k).ver ∧ (Pl.ent es k).ver ≤ 1099511627776) = vv) := ⟨_, rfl⟩
      obtain ⟨oo, HO⟩ : ∃ oo, Hid (decide (0 ≤ (Pl.ent es k).org ∧ (Pl.ent es k).org ≤ 11) = oo) := ⟨_, rfl⟩
      obtain ⟨xx, HX⟩ : ∃ xx, Hid (decide ((Pl.ent es k).val.size ≤ 120) = xx) := ⟨_, rfl⟩
      have HM : Hid ((Pl.ent es k).may = (kk && vv && oo && xx)) := by
        show _ = _
        unfold Pl.Ent.may Pl.entB
        rw [HK.out, HV.out, HO.out, HX.out]
      have hx120 : ((120 : Int) < ((Pl.ent es k).val.size : Int)) = (xx = false) := by
        have := HX.out
        cases xx
        · simp at this ⊢; omega
        · simp at this ⊢; omega
      by_cases hall : (kk && vv && oo && xx) = true
      · simp only [Bool.and_eq_true] at hall
        obtain ⟨⟨⟨rfl, rfl⟩, rfl⟩, rfl⟩ := hall
        have HM' : Hid ((Pl.ent es k).may = true) := HM.out
        clear HM
        rcases Nat.eq_zero_or_pos k with hk0 | hk0
        · have hd : decide (0 < k) = false := by simp; omega
          have HK0 : Hid (k = 0) := hk0
          clear hk0
          go_wp2_with (first | (go_at_call 52; refine (KeyMay_any _ _ hok0).mono ?_; rw [HK.out]; rintro e w' ⟨rfl, rfl⟩) | (go_at_call 30; refine (In_any _ _ _ _).mono ?_; (first | rw [HV.out] | rw [HO.out]); rintro e w' ⟨rfl, rfl⟩))
          go_quiet (fail)
          go_wp2
          go_roundw
          case rel => exact ⟨k + 1, by omega, by go_num, by show _ = _; rw [HF.out, HN.out, Pl.faultN_on HM'.out (by simp [Pl.lowB, HK0.out])]; congr 1; have := HN.out; omega, below_drewN (hb.alloc hz _) _⟩
          case measure => simp [intOf]; omega
        · obtain ⟨m, rfl⟩ : ∃ m, k = m + 1 := ⟨k - 1, by omega⟩
          obtain ⟨d0, d1, d2, d3⟩ := hr' m (by omega)
          have hbr : b < wr.heap.size := by omega
          go_wp2_with (first | (go_at_call 52; refine (KeyMay_any _ _ hok0).mono ?_; rw [HK.out]; rintro e w' ⟨rfl, rfl⟩) | (go_at_call 30; refine (In_any _ _ _ _).mono ?_; (first | rw [HV.out] | rw [HO.out]); rintro e w' ⟨rfl, rfl⟩))
          go_quiet (fail)
          go_wp2
          · go_ret
            exact ⟨ret_int (by rw [HF.out, HN.out, Pl.faultN_low HM'.out (Pl.lowB_true ‹_›)]), below_drewN (hb.alloc hz _) _⟩
          · go_roundw
            case rel => exact ⟨m + 1 + 1, by omega, by go_num, by show _ = _; rw [HF.out, HN.out, Pl.faultN_on HM'.out (Pl.lowB_false ‹_›)]; congr 1; have := HN.out; omega, below_drewN (hb.alloc hz _) _⟩
            case measure => simp [intOf]; omega
      · have HM' : Hid ((Pl.ent es k).may = false) := by
          show _ = _
          rw [HM.out]; simpa using hall
        have HR : Hid (Pl.fault es = 4) := by
          show _ = _
          rw [HF.out, HN.out, Pl.faultN_form HM'.out]
        cases kk
        all_goals cases vv
        all_goals cases oo
        all_goals cases xx
        all_goals first | (exact absurd rfl hall) | skip
        all_goals
          go_wp2_with (first | (go_at_call 52; refine (KeyMay_any _ _ hok0).mono ?_; rw [HK.out]; rintro e w' ⟨rfl, rfl⟩) | (go_at_call 30; refine (In_any _ _ _ _).mono ?_; (first | rw [HV.out] | rw [HO.out]); rintro e w' ⟨rfl, rfl⟩))
          go_ret
          exact ⟨ret_int HR.out.symm, hb.alloc hz _⟩
    · obtain rfl : k = len := by omega
      go_wp2
      go_ret
      exact ⟨ret_int (by rw [HF.out]; simp [Pl.faultN]), hb⟩
end Go.Proofs.YtmdjbdolegojcaaGreatDoor
/-
  Contracts: what Get and the document's GotOf answer at every list of entries and every key.
-/
namespace Go.Proofs.YtmdjbdolegojcaaGreatDoor
open Go.RowKit
set_option maxRecDepth 20000

/-- the entry that is told -/
def Pl.gotE (es : List Pl.Ent) (key : ByteArray) : Pl.Ent := if Pl.fault es = 0 then (if Pl.there es key then Pl.ent es (Pl.pos es key) else Pl.Ent.none) else Pl.Ent.none
def Pl.gotC (es : List Pl.Ent) (key : ByteArray) : Int := if Pl.fault es = 0 then (if Pl.there es key then 0 else 6) else Pl.fault es

set_option maxHeartbeats 400000 in
theorem Get_any (a : Option Addr) (len cap : Nat) (es : List Pl.Ent) (key : ByteArray) (w : World) (h : IsEnts w a len cap es) :
    Calls Tryz.prog 22 #[.slice a len cap, .string key] w fun e w' =>
      e = .returned (.tuple #[.agg #[.string (Pl.gotE es key).key, .int .i64 (Pl.gotE es key).ver, .int .i64 (Pl.gotE es key).org, .string (Pl.gotE es key).val], .int .i64 (Pl.gotC es key)]) ∧ Below w.heap.size w w' := by
  have HH : Hid (IsEnts w a len cap es) := h
  clear h
  obtain ⟨c, HC⟩ : ∃ c, Hid (Pl.fault es = c) := ⟨_, rfl⟩
  by_cases hc0 : c = 0
  · subst hc0
    obtain ⟨g1, g2, g3⟩ := Pl.good_of_fault HC.out
    have hlen : es.length = len := HH.out.1
    have HL : Hid (len ≤ 60) := by show _ ≤ _; omega
    have HA : Hid (Pl.Asc es) := g3
    clear g1 g2 g3
    obtain ⟨t, HT⟩ : ∃ t, Hid (Pl.there es key = t) := ⟨_, rfl⟩
    cases t
    · have HE : Hid (Pl.gotE es key = Pl.Ent.none ∧ Pl.gotC es key = 6) := by unfold Pl.gotE Pl.gotC; rw [HC.out, HT.out]; exact ⟨rfl, rfl⟩
      go_enter Tryz.func22, Tryz.ntmps22
      go_wp2_with fail
      refine (Check_any _ _ _ es _ (HH.out.below ((Below.refl _ _).alloc (Nat.le_refl _) _))).mono ?_
      rw [HC.out]
      rintro e w1 ⟨rfl, hb1⟩
      have hz := hb1.size
      simp at hz
      go_wp2_with fail
      refine (find_any _ _ _ es key _ (HH.out.below (((Below.refl _ _).alloc (Nat.le_refl _) _).trans (hb1.mono (by simp)))) HA.out HL.out).mono ?_
      rw [HT.out]
      rintro e w2 ⟨rfl, hb2⟩
      have hb12 := hb1.trans (hb2.mono (by simp; omega))
      obtain ⟨hcc, hff⟩ := bcell hb12
      go_wp2_with fail
      refine bodyPost_ret (v := .tuple #[.agg #[.string (Pl.gotE es key).key, .int .i64 (Pl.gotE es key).ver, .int .i64 (Pl.gotE es key).org, .string (Pl.gotE es key).val], .int .i64 (Pl.gotC es key)]) (by rw [HE.out.1, HE.out.2]; simp [results, Tryz.results22, go_sem, hcc, Pl.Ent.none]) rfl ⟨rfl, ((((((Below.refl _ _).alloc (Nat.le_refl _) _).trans (hb12.mono (by simp))).setCell (Nat.le_refl _) _).setCell (Nat.le_refl _) _).setCell (Nat.le_refl _) _).setCell (Nat.le_refl _) _⟩
    · have hlt : Pl.pos es key < len := by
        have := HT.out
        unfold Pl.there at this
        simp only [Bool.and_eq_true, decide_eq_true_eq] at this
        omega
      have HE : Hid (Pl.gotE es key = Pl.ent es (Pl.pos es key) ∧ Pl.gotC es key = 0) := by unfold Pl.gotE Pl.gotC; rw [HC.out, HT.out]; exact ⟨rfl, rfl⟩
      obtain ⟨p, HP⟩ : ∃ p, Hid (Pl.pos es key = p) := ⟨_, rfl⟩
      rw [HP.out] at hlt HE
      obtain ⟨b, off, rfl, hbw, hr⟩ : ∃ b off, a = some ⟨b, off, none⟩ ∧ b < w.heap.size ∧ RowAt w b off es := by
        rcases HH.out.2.2.2.2 with h | h
        · rw [h] at hlen; simp at hlen; omega
        · exact h
      have hcap := HH.out.2.1
      have hm := HH.out.2.2.1
      unfold maxLen at hm
      obtain ⟨q0, q1, q2, q3⟩ := hr p (by omega)
      have hlt' : (p : Int) < (len : Int) := by omega
      go_enter Tryz.func22, Tryz.ntmps22
      go_wp2_with fail
      refine (Check_any _ _ _ es _ (HH.out.below ((Below.refl _ _).alloc (Nat.le_refl _) _))).mono ?_
      rw [HC.out]
      rintro e w1 ⟨rfl, hb1⟩
      have hz := hb1.size
      simp at hz
      go_wp2_with fail
      refine (find_any _ _ _ es key _ (HH.out.below (((Below.refl _ _).alloc (Nat.le_refl _) _).trans (hb1.mono (by simp)))) HA.out HL.out).mono ?_
      rw [HT.out, HP.out]
      rintro e w2 ⟨rfl, hb2⟩
      have hb12 := hb1.trans (hb2.mono (by simp; omega))
      obtain ⟨hcc, hff⟩ := bcell hb12
      go_wp2_with fail
      refine bodyPost_ret (v := .tuple #[.agg #[.string (Pl.gotE es key).key, .int .i64 (Pl.gotE es key).ver, .int .i64 (Pl.gotE es key).org, .string (Pl.gotE es key).val], .int .i64 (Pl.gotC es key)]) (by rw [HE.out.1, HE.out.2]; simp [results, Tryz.results22, go_sem, hcc]) rfl ⟨rfl, ((((((Below.refl _ _).alloc (Nat.le_refl _) _).trans (hb12.mono (by simp))).setCell (Nat.le_refl _) _).setCell (Nat.le_refl _) _).setCell (Nat.le_refl _) _).setCell (Nat.le_refl _) _⟩
  · have hcn : (c != 0) = true := by simp [hc0]
    have HE : Hid (Pl.gotE es key = Pl.Ent.none ∧ Pl.gotC es key = c) := by unfold Pl.gotE Pl.gotC; rw [HC.out, if_neg hc0, if_neg hc0]; exact ⟨rfl, rfl⟩
    clear hc0
    go_enter Tryz.func22, Tryz.ntmps22
    go_wp2_with fail
    refine (Check_any _ _ _ es _ (HH.out.below ((Below.refl _ _).alloc (Nat.le_refl _) _))).mono ?_
    rw [HC.out]
    rintro e w1 ⟨rfl, hb12⟩
    obtain ⟨hcc, hff⟩ := bcell hb12
    go_wp2_with fail
    refine bodyPost_ret (v := .tuple #[.agg #[.string (Pl.gotE es key).key, .int .i64 (Pl.gotE es key).ver, .int .i64 (Pl.gotE es key).org, .string (Pl.gotE es key).val], .int .i64 (Pl.gotC es key)]) (by rw [HE.out.1, HE.out.2]; simp [results, Tryz.results22, go_sem, hcc, Pl.Ent.none]) rfl ⟨rfl, ((((((Below.refl _ _).alloc (Nat.le_refl _) _).trans (hb12.mono (by simp))).setCell (Nat.le_refl _) _).setCell (Nat.le_refl _) _).setCell (Nat.le_refl _) _).setCell (Nat.le_refl _) _⟩

end Go.Proofs.YtmdjbdolegojcaaGreatDoor
/-
  Contracts: where a node tells of its links (AdjKey), and what it tells (toldAdj).
-/
namespace Go.Proofs.YtmdjbdolegojcaaGreatDoor
open Go.RowKit
set_option maxRecDepth 20000

def Pl.adjKey (n : Int) : ByteArray := ⟨#[97, 58]⟩ ++ Pl.dec n
def Pl.pfxKey (n : Int) : ByteArray := ⟨#[112, 58]⟩ ++ Pl.dec n
theorem Pl.adjKey_size (n : Int) (h0 : 0 ≤ n) (h1 : n ≤ 1000) : (Pl.adjKey n).size ≤ 23 := by
  unfold Pl.adjKey
  rw [ByteArray.size_append]
  have := Pl.dec_le n h0 h1
  show 2 + _ ≤ 23
  omega
/-- what a node's entry says -/
def Pl.toldV (es : List Pl.Ent) (n : Int) : ByteArray := (Pl.gotE es (Pl.adjKey n)).val
theorem Pl.gotE_val (es : List Pl.Ent) (k : ByteArray) : (Pl.gotE es k).val.size ≤ 120 := by
  unfold Pl.gotE
  split
  · rename_i hf
    split
    · rename_i ht
      obtain ⟨h1, h2, h3⟩ := Pl.good_of_fault hf
      have hp : Pl.pos es k < es.length := by unfold Pl.there at ht; simp only [Bool.and_eq_true, decide_eq_true_eq] at ht; exact ht.1
      have := h2 _ hp
      unfold Pl.Ent.may Pl.entB at this
      simp only [Bool.and_eq_true, decide_eq_true_eq] at this
      exact this.2
    · simp [Pl.Ent.none, ByteArray.size]
  · simp [Pl.Ent.none, ByteArray.size]

theorem adjAt_set0 {w : World} {B : Nat} {c0 c1 : Value} {T : TypeId} (h : w.heap[B]? = some (.cells #[c0, c1] T)) (v : Value) : (w.setCell ⟨B, 0, none⟩ v).heap[B]? = some (.cells #[v, c1] T) := by
  have := blockLt h
  simp [World.setCell, Array.getElem?_modify, h]

set_option maxHeartbeats 1000000 in
theorem AdjKey_any (n : Int) (w : World) (h0 : 0 ≤ n) (h1 : n ≤ 1000) (hT : Tab w) :
    Calls Tryz.prog 37 #[.int .i64 n] w fun e w' => e = .returned (.string (Pl.adjKey n)) ∧ Below w.heap.size w w' := by
  have HT := hid hT
  have hz := Pl.dec_le n h0 h1
  clear hT
  have HIT := hid (Itoa_any n w h0 (by omega) HT.out)
  have HK : Hid (Pl.adjKey n = ⟨#[97, 58]⟩ ++ Pl.dec n) := hid rfl
  generalize Pl.dec n = s at *
  go_enter Tryz.func37, Tryz.ntmps37
  go_wp2_with fail
  refine HIT.out.mono ?_
  rintro e w1 ⟨rfl, hb1⟩
  go_wp2_with fail
  go_ret
  exact ⟨by rw [HK.out]; rfl, hb1⟩

set_option maxHeartbeats 1000000 in
theorem toldAdj_any (a : Option Addr) (len cap : Nat) (es : List Pl.Ent) (n : Int) (w : World) (h : IsEnts w a len cap es) (h0 : 0 ≤ n) (h1 : n ≤ 1000) (hT : Tab w) :
    Calls Tryz.prog 18 #[.slice a len cap, .int .i64 n] w fun e w' => ∃ vl : Value, e = .returned (.agg #[.bool (Pl.adjD (Pl.toldV es n).data.toList), vl]) ∧
      OwnP 109 w' w.heap.size vl (Pl.adjS (Pl.toldV es n).data.toList) ∧ Below w.heap.size w w' := by
  have HH := hid h
  have HT := hid hT
  clear h hT
  have hvz : (Pl.toldV es n).size ≤ 120 := Pl.gotE_val _ _
  obtain ⟨g, HG⟩ : ∃ g, Hid (Pl.gotE es (Pl.adjKey n) = g) := ⟨_, hid rfl⟩
  have HV : Hid (Pl.toldV es n = g.val) := hid (by unfold Pl.toldV; rw [HG.out])
  rw [HV.out] at hvz
  rw [HV.out]
  obtain ⟨gk, gv, go, gx⟩ := g
  simp only at hvz ⊢
  obtain ⟨rc, HRC⟩ : ∃ x, Hid (Pl.adjC gx.data.toList = x) := ⟨_, hid rfl⟩
  obtain ⟨rd, HRD⟩ : ∃ x, Hid (Pl.adjD gx.data.toList = x) := ⟨_, hid rfl⟩
  obtain ⟨rs, HRS⟩ : ∃ x, Hid (Pl.adjS gx.data.toList = x) := ⟨_, hid rfl⟩
  rw [HRD.out, HRS.out]
  have b1 : Below w.heap.size w (w.alloc (.cells #[.bool false, .slice none 0 0] 50)) := (Below.refl _ _).alloc (Nat.le_refl _) _
  go_enter Tryz.func18, Tryz.ntmps18
  go_wp2_with fail
  refine (AdjKey_any n _ h0 h1 (HT.out.below b1)).mono ?_
  rintro e w1 ⟨rfl, hb1⟩
  have hbA : Below (w.heap.size + 1) (w.alloc (.cells #[.bool false, .slice none 0 0] 50)) w1 := by simpa using hb1
  have hw1 : Below w.heap.size w w1 := b1.trans (hb1.mono b1.size)
  clear hb1
  go_wp2_with fail
  refine (Get_any _ _ _ es (Pl.adjKey n) _ (HH.out.below hw1)).mono ?_
  rw [HG.out]
  rintro e w2 ⟨rfl, hb2⟩
  have hbA2 := hbA.trans (hb2.mono (by have := hbA.size; simp at this; omega))
  clear hb2
  go_wp2_with fail
  refine (ReadAdj_any gx _ (by omega)).mono ?_
  rw [HRC.out, HRD.out, HRS.out]
  rintro e w3 ⟨v3, rfl, ho3, hb3⟩
  have hz2 := hbA2.size
  simp at hz2
  have hbA3 : Below (w.heap.size + 1) (w.alloc (.cells #[.bool false, .slice none 0 0] 50)) w3 := (hbA2.alloc (by omega) _).trans (hb3.mono (by simp; omega))
  obtain ⟨a3, n3, cap3, rfl⟩ := ho3.slice
  have HO3 := hid ho3
  obtain ⟨x0, x1, xs, hbb⟩ := box2 hbA3
  obtain ⟨f0, f1⟩ := box2f hbA3
  have hz3 := hb3.size
  simp at hz3
  clear ho3 hb3
  go_wp2_with fail
  have hblk : w3.heap[w.heap.size]? = some (.cells #[.bool false, .slice none 0 0] 50) := (hbA3.block _ (Nat.lt_succ_self _)).trans (heapNew w _)
  have hfin := heapOld (adjAt_set (adjAt_set0 hblk (.bool rd)) (.slice a3 n3 cap3)) (.cells #[.bool rd, .slice a3 n3 cap3] 50)
  obtain ⟨z0, z1, _, _⟩ := adjAt_cells hfin
  refine bodyPost_ret (v := .agg #[.bool rd, .slice a3 n3 cap3]) (by simp [results, Tryz.results18, go_sem, z0, z1]) rfl ⟨_, rfl, ?_, ?_⟩
  · exact OwnP.mono (World.ownsRow.alloc (ownsRow_setCell_below (ownsRow_setCell_below HO3.out (by simp; omega) _) (by simp; omega) _) _) (by simp; omega)
  · exact ((hbb.setCell (Nat.le_refl _) _).setCell (Nat.le_refl _) _).alloc (by simp [World.setCell]; omega) _
end Go.Proofs.YtmdjbdolegojcaaGreatDoor
/-
  Contract: what graph.Ways answers at every list of entries and every number.
-/
namespace Go.Proofs.YtmdjbdolegojcaaGreatDoor
open Go.RowKit
set_option maxRecDepth 20000

/-- sides, each with a node and a cost, the nodes rising -/
def Pl.sidesUp (ps : List (Int × Int)) : Prop := ∀ j, j < ps.length → (0 ≤ (Pl.pr ps j).1 ∧ (Pl.pr ps j).1 ≤ 11 ∧ 1 ≤ (Pl.pr ps j).2 ∧ (Pl.pr ps j).2 ≤ 1000) ∧ (0 < j → (Pl.pr ps (j - 1)).1 < (Pl.pr ps j).1)
theorem Pl.adjN_up (ps : List (Int × Int)) : ∀ (n i : Nat), i + n = ps.length → Pl.adjN ps n i = 0 → ∀ j, i ≤ j → j < ps.length → Pl.sideB (Pl.pr ps j).1 (Pl.pr ps j).2 = true ∧ (0 < j → (Pl.pr ps (j - 1)).1 < (Pl.pr ps j).1)
  | 0, i, h, _, j, h1, h2 => by omega
  | n + 1, i, h, h0, j, h1, h2 => by
    rw [Pl.adjN] at h0
    by_cases g1 : Pl.sideB (Pl.pr ps i).1 (Pl.pr ps i).2 = true
    · rw [if_pos g1] at h0
      by_cases g2 : 0 < i ∧ (Pl.pr ps i).1 ≤ (Pl.pr ps (i - 1)).1
      · rw [if_pos g2] at h0; cases h0
      · rw [if_neg g2] at h0
        rcases Nat.eq_or_lt_of_le h1 with e | h1
        · subst e
          exact ⟨g1, fun hp => by omega⟩
        · exact Pl.adjN_up ps n (i + 1) (by omega) h0 j h1 h2
    · rw [if_neg g1] at h0; cases h0
theorem Pl.adjF_up {ps : List (Int × Int)} (h : Pl.adjF ps = 0) : Pl.sidesUp ps := by
  intro j hj
  obtain ⟨h1, h2⟩ := Pl.adjN_up ps ps.length 0 (by omega) h j (by omega) hj
  unfold Pl.sideB at h1
  simp at h1
  exact ⟨by omega, h2⟩
theorem Pl.adjS_up (l : List UInt8) : Pl.sidesUp (Pl.adjS l) := by
  unfold Pl.adjS
  by_cases h : Pl.adjC l = 0
  · rw [if_pos h]
    unfold Pl.adjC at h
    cases hs : Pl.sidesL l with
    | none => rw [hs] at h; cases h
    | some ps => rw [hs] at h; exact Pl.adjF_up h
  · rw [if_neg h]
    intro j hj; simp at hj
theorem Pl.sidesUp.ok {ps : List (Int × Int)} (h : Pl.sidesUp ps) : Pl.sidesOk ps := by
  intro p hp
  obtain ⟨i, hi, rfl⟩ := List.getElem_of_mem hp
  have := (h i hi).1
  rw [Pl.pr_eq ps i hi] at this
  exact this
theorem Pl.sidesOk.pairs {ps : List (Int × Int)} (h : Pl.sidesOk ps) : ∀ p ∈ ps, Pl.pairOk p := fun p hp => by
  have := h p hp
  exact Pl.pairOk_of ⟨by omega, by omega, by omega, by omega⟩

theorem IsPairs.but {w w' : World} {A : Nat} {a : Option Addr} {len cap : Nat} {ps : List (Int × Int)} (h : IsPairs w a len cap ps) (hx : ∀ x, a = some x → x.block ≠ A) (k : But A w w') : IsPairs w' a len cap ps := by
  obtain ⟨h1, h2, h3, h4, h5⟩ := h
  refine ⟨h1, h2, h3, h4, ?_⟩
  rcases h5 with h5 | ⟨b, off, rfl, hb, hr⟩
  · exact .inl h5
  · refine .inr ⟨b, off, rfl, Nat.lt_of_lt_of_le hb k.size, fun i hi => ?_⟩
    obtain ⟨c0, c1⟩ := hr i hi
    have e : w'.heap[b]? = w.heap[b]? := k.block b hb (hx _ rfl)
    exact ⟨(World.cell?_of_block (w := w) e).trans c0, (World.cell?_of_block (w := w) e).trans c1⟩
theorem ToldAt.set {w A D ps} (h : ToldAt w A D ps) (k : Nat) (d : Bool) (a : Option Addr) (len cap : Nat) (q : List (Int × Int)) (hx : ∀ x, a = some x → x.block ≠ A) (hp : IsPairs w a len cap q) :
    ToldAt ((w.setCell ⟨A, k * 2, none⟩ (.bool d)).setCell ⟨A, k * 2 + 1, none⟩ (.slice a len cap)) A (Pl.upd D k d) (Pl.upd ps k q) := by
  obtain ⟨V, h1, h2⟩ := h
  have hb : But A w ((w.setCell ⟨A, k * 2, none⟩ (.bool d)).setCell ⟨A, k * 2 + 1, none⟩ (.slice a len cap)) := ((But.refl A w).setCell _ _).setCell _ _
  refine ⟨Pl.upd V k (.slice a len cap), ?_, fun i hi => ?_⟩
  · refine ((h1.set _ _).set _ _).ext fun o ho => ?_
    unfold Pl.upd toldCell
    by_cases g1 : o = k * 2 + 1
    · subst g1; rw [if_pos rfl, if_neg (by omega)]; simp only; rw [if_pos (by omega)]
    · rw [if_neg g1]
      by_cases g2 : o = k * 2
      · subst g2; rw [if_pos rfl, if_pos (by omega)]; simp only; rw [if_pos (by omega)]
      · rw [if_neg g2]
        by_cases g3 : o % 2 = 0
        · rw [if_pos g3, if_pos g3]; simp only; rw [if_neg (by omega)]
        · rw [if_neg g3, if_neg g3]; simp only; rw [if_neg (by omega)]
  · by_cases hik : i = k
    · subst hik
      refine ⟨a, len, cap, Pl.upd_same _ _ _, hx, ?_⟩
      rw [Pl.upd_same]
      exact hp.but hx hb
    · obtain ⟨a', len', cap', e, hx', hp'⟩ := h2 i hi
      refine ⟨a', len', cap', by rw [Pl.upd_ne _ _ hik]; exact e, hx', ?_⟩
      rw [Pl.upd_ne _ _ hik]
      exact hp'.but hx' hb
theorem ToldAt.ext {w A D ps D' ps'} (h : ToldAt w A D ps) (h1 : ∀ i, i < 12 → D i = D' i) (h2 : ∀ i, i < 12 → ps i = ps' i) : ToldAt w A D' ps' := by
  obtain ⟨V, g1, g2⟩ := h
  refine ⟨V, g1.ext fun o ho => ?_, fun i hi => ?_⟩
  · unfold toldCell; split
    · rw [h1 _ (by omega)]
    · rfl
  · rw [← h2 i hi]; exact g2 i hi
theorem ToldAt.new (w : World) (cs : Array Value) (e : cs = Array.ofFn (n := 24) fun i => toldCell (fun _ => false) (fun _ => .slice none 0 0) i.1) : ToldAt (w.alloc (.cells cs 52)) w.heap.size (fun _ => false) (fun _ => []) := by
  refine ⟨fun _ => .slice none 0 0, CellsAt.new w _ _ _ _ (by rw [e]; simp) fun i hi => ?_, fun i hi => ⟨none, 0, 0, rfl, by simp, rfl, Nat.le_refl _, by simp, by simp, .inl rfl⟩⟩
  simp only [e, Array.getElem_ofFn]

/-- what a store tells of each node's links -/
def Pl.tD (es : List Pl.Ent) (i : Nat) : Bool := Pl.adjD (Pl.toldV es i).data.toList
def Pl.tS (es : List Pl.Ent) (i : Nat) : List (Int × Int) := Pl.adjS (Pl.toldV es i).data.toList
def Pl.wayC (es : List Pl.Ent) (f : Int) : Int := if Pl.fault es ≠ 0 then Pl.fault es else if 0 ≤ f ∧ f ≤ 11 then 0 else 2
def Pl.wayA (es : List Pl.Ent) (f : Int) : List (Int × List Int) := if Pl.wayC es f = 0 then Pl.wayL (Pl.dIter (Pl.lnk (Pl.tS es)) (Pl.tD es) f.toNat 12) 12 else []

theorem ret_two {v u : Value} {a b : Int} (h : v = u) (e : a = b) : Ending.returned (.tuple #[v, .int .i64 a]) = .returned (.tuple #[u, .int .i64 b]) := by rw [h, e]
theorem World.ownsRow_mono {w : World} {base base' : Nat} {e : TypeId} {sz : Nat} {v : Value} {n : Nat} {xs : List Value} (h : w.ownsRow base e sz v n xs) (k : base' ≤ base) : w.ownsRow base' e sz v n xs := by
  obtain ⟨h0, h1⟩ := h
  refine ⟨h0, ?_⟩
  rcases h1 with h1 | ⟨g, cap, cur, rfl, hb, hr⟩
  · exact .inl h1
  · exact .inr ⟨g, cap, cur, rfl, by omega, hr⟩

set_option maxHeartbeats 2000000 in
theorem Ways_any (a : Option Addr) (len cap : Nat) (es : List Pl.Ent) (f : Int) (w : World) (h : IsEnts w a len cap es) (hT : Tab w) :
    Calls Tryz.prog 7 #[.slice a len cap, .int .i64 f] w fun e w' => ∃ v ts, e = .returned (.tuple #[v, .int .i64 (Pl.wayC es f)]) ∧ OwnW w' w.heap.size v ts ∧ Pl.flat ts = Pl.wayA es f ∧ Below w.heap.size w w' := by
  have HE := hid h
  have HTab := hid hT
  clear h hT
  obtain ⟨cd, HCD⟩ : ∃ x, Hid (Pl.fault es = x) := ⟨_, rfl⟩
  go_enter Tryz.func7, Tryz.ntmps7
  go_wp2_with fail
  refine (Check_any a len cap es w HE.out).mono ?_
  rw [HCD.out]
  rintro e w1 ⟨rfl, hb1⟩
  have HB1 := hid hb1
  clear hb1
  by_cases hcd : cd = 0
  · subst hcd
    by_cases hfr : 0 ≤ f ∧ f ≤ 11
    · obtain ⟨n, rfl⟩ : ∃ n : Nat, f = n := ⟨f.toNat, by omega⟩
      have hn : n < 12 := by omega
      have hdec : decide (0 ≤ (n : Int) ∧ (n : Int) ≤ 11) = true := by simp; omega
      have HWC : Hid (Pl.wayC es n = 0) := hid (by unfold Pl.wayC; rw [HCD.out, if_neg (by simp), if_pos (by omega)])
      go_wp2_with (go_at_call 17; refine (isNode_any _ _).mono ?_; rw [hdec]; rintro e w' ⟨rfl, hw'⟩; rw [hw']; clear hw' w')
      go_loopw [18] (fun i wr => ∃ k : Nat, k ≤ 12 ∧ i = .int .i64 k ∧ Hid (ToldAt wr w1.heap.size (fun i => decide (i < k) && Pl.tD es i) (fun i => if i < k then Pl.tS es i else [])) ∧ Hid (Below w1.heap.size w1 wr)) (fun i _ => 12 - (intOf i).toNat)
      case atStart => exact ⟨0, by omega, rfl, (ToldAt.new w1 _ (by kernel_rfl)).ext (fun i _ => by simp) (fun i _ => by simp), (Below.refl _ _).alloc (Nat.le_refl _) _⟩
      case round =>
        obtain ⟨k, hk, rfl, HT, HB⟩ := hrel
        have HBW := hid (HB1.out.trans (HB.out.mono HB1.out.size))
        have hAr := HT.out.lt
        by_cases hlt : k < 12
        · go_wp2_with fail
          refine (toldAdj_any a len cap es k wr (HE.out.below HBW.out) (by omega) (by omega) (HTab.out.below HBW.out)).mono ?_
          rintro e w2 ⟨vl, rfl, ho2, hb2⟩
          obtain ⟨a2, cap2, rfl, hp2, _, hx2⟩ := OwnP.shape ho2 (Pl.adjS_up _).ok.pairs
          have HP2 := hid hp2
          have HX2 := hid hx2
          have HB2 := hid hb2
          have HT2 := hid (HT.out.below hb2)
          clear ho2 hp2 hx2 hb2
          obtain ⟨V2, g1, _⟩ := HT2.out
          have c0 := g1.cell (k * 2) (by omega)
          have c1 := g1.cell (k * 2 + 1) (by omega)
          have f0 := g1.soft (k * 2)
          have f1 := g1.soft (k * 2 + 1)
          have hA2 := g1.lt
          clear g1
          go_wp2_with fail
          go_roundw
          case rel =>
            refine ⟨k + 1, by omega, by go_num, (HT2.out.set k _ a2 _ cap2 _ (fun x hx => ?_) HP2.out).ext (fun i hi => ?_) (fun i hi => ?_), hid (((HB.out.trans (HB2.out.mono (by omega))).setCell (Nat.le_refl _) _).setCell (Nat.le_refl _) _)⟩
            · have := HX2.out x hx; omega
            · by_cases hik : i = k
              · subst hik; rw [Pl.upd_same]; simp [Pl.tD]
              · rw [Pl.upd_ne _ _ hik, show decide (i < k + 1) = decide (i < k) from decide_eq_decide.2 (by omega)]
            · by_cases hik : i = k
              · subst hik; rw [Pl.upd_same, if_pos (by omega)]; rfl
              · rw [Pl.upd_ne _ _ hik]
                by_cases h1 : i < k
                · rw [if_pos h1, if_pos (by omega)]
                · rw [if_neg h1, if_neg (by omega)]
          case measure => simp [intOf]; omega
        · obtain rfl : k = 12 := by omega
          have HTA := hid (HT.out.ext (D' := Pl.tD es) (ps' := Pl.tS es) (fun i hi => by simp [hi]) (fun i hi => by rw [if_pos hi]))
          have HOK : Hid (∀ i, i < 12 → Pl.sidesOk (Pl.tS es i)) := hid fun i _ => (Pl.adjS_up _).ok
          have HL : Hid (∀ a b, Pl.lnk (Pl.tS es) a b ≤ 1000) := hid fun x y => by
            unfold Pl.lnk
            split
            · exact (Pl.say_le (Pl.adjS_up _).ok y).2
            · omega
          go_wp2_with fail
          refine (newSearch_any n hn wr).mono ?_
          rintro e w2 ⟨rfl, hs2, hb2⟩
          have HS2 := hid hs2
          have HB2 := hid hb2
          have HT2 := hid (HTA.out.below hb2)
          clear hs2 hb2
          go_wp2_with fail
          refine (run_any wr.heap.size w1.heap.size n (Pl.tD es) (Pl.tS es) w2 HS2.out HT2.out (by omega) hn HOK.out HL.out).mono ?_
          rintro e w3 ⟨rfl, hs3, hu3⟩
          have HS3 := hid hs3
          have HU3 := hid hu3
          clear hs3 hu3
          go_wp2_with fail
          refine (ways_any wr.heap.size n _ w3 HS3.out).mono ?_
          rintro e w4 ⟨v, ts, rfl, ho4, hf4, hb4⟩
          have HO4 := hid ho4
          have HF4 := hid hf4
          have HB4 := hid hb4
          clear ho4 hf4 hb4
          go_wp2_with fail
          have hz := HBW.out.size
          have HBF : Hid (Below w.heap.size w w3) := hid ((HBW.out.trans (HB2.out.mono hz)).trans (HU3.out.below hz (Nat.le_trans hz HB2.out.size)))
          refine bodyPost_ret (results_tmp2 rfl _ _ _) rfl ⟨v, ts, ret_two rfl HWC.out.symm, ?_, ?_, HBF.out.trans (HB4.out.mono HBF.out.size)⟩
          · exact ⟨World.ownsRow_mono HO4.out.1 HBF.out.size, HO4.out.2⟩
          · rw [HF4.out]; unfold Pl.wayA; rw [HWC.out, if_pos rfl, Int.toNat_natCast]
    · have hdec : decide (0 ≤ f ∧ f ≤ 11) = false := by simp; omega
      have HWC : Hid (Pl.wayC es f = 2) := hid (by unfold Pl.wayC; rw [HCD.out, if_neg (by simp), if_neg hfr])
      go_wp2_with (go_at_call 17; refine (isNode_any _ _).mono ?_; rw [hdec]; rintro e w' ⟨rfl, hw'⟩; rw [hw']; clear hw' w')
      refine bodyPost_ret (results_tmp2 rfl _ _ _) rfl ⟨_, [], ret_two rfl HWC.out.symm, OwnW.nil _ _, ?_, HB1.out⟩
      unfold Pl.wayA; rw [HWC.out, if_neg (by decide)]; rfl
  · have HWC : Hid (Pl.wayC es f = cd) := hid (by unfold Pl.wayC; rw [HCD.out, if_pos hcd])
    go_wp2_with fail
    refine bodyPost_ret (results_tmp2 rfl _ _ _) rfl ⟨_, [], ret_two rfl HWC.out.symm, OwnW.nil _ _, ?_, HB1.out⟩
    unfold Pl.wayA; rw [HWC.out, if_neg hcd]; rfl
end Go.Proofs.YtmdjbdolegojcaaGreatDoor
/-
  Contracts: what Compare, ComparedOf and Above answer at every two entries.
-/
namespace Go.Proofs.YtmdjbdolegojcaaGreatDoor
open Go.RowKit
set_option maxRecDepth 20000

theorem isNaNi_any (n : Int) (w : World) :
    Calls Tryz.prog 80 #[.int .i64 n] w fun e w' => e = .returned (.bool false) ∧ w' = w := by
  go_enter Tryz.func80, Tryz.ntmps80
  go_wp2
  go_ret
  exact ⟨ret_bool (by simp), rfl⟩

set_option maxHeartbeats 400000 in
theorem cmpi_any (a b : Int) (w : World) :
    Calls Tryz.prog 67 #[.int .i64 a, .int .i64 b] w fun e w' => e = .returned (.int .i64 (Pl.cmpI a b)) ∧ w' = w := by
  rcases Int.lt_trichotomy a b with h | rfl | h
  · go_enter Tryz.func67, Tryz.ntmps67
    go_wp2_with (go_at_call 80; refine (isNaNi_any _ _).mono ?_; rintro e w' ⟨rfl, rfl⟩)
    go_ret
    exact ⟨ret_int (Pl.cmpI_lt h).symm, rfl⟩
  · go_enter Tryz.func67, Tryz.ntmps67
    go_wp2_with (go_at_call 80; refine (isNaNi_any _ _).mono ?_; rintro e w' ⟨rfl, rfl⟩)
    go_ret
    exact ⟨ret_int (Pl.cmpI_eq _).symm, rfl⟩
  · have h' : ¬ a < b := by omega
    go_enter Tryz.func67, Tryz.ntmps67
    go_wp2_with (go_at_call 80; refine (isNaNi_any _ _).mono ?_; rintro e w' ⟨rfl, rfl⟩)
    go_ret
    exact ⟨ret_int (Pl.cmpI_gt h).symm, rfl⟩

end Go.Proofs.YtmdjbdolegojcaaGreatDoor
/-
  A region that draws its order, whose operations read old memory and whose callees make new memory alone: one walk, in the order of the text.
-/
namespace Go.Proofs.YtmdjbdolegojcaaGreatDoor
open Go.RowKit
set_option maxRecDepth 20000

/-- a world that has grown out of another: what was there is as it was -/
structure WIn (W : World) where
  w : World
  h : Below W.heap.size W w

theorem wp_region_in {P : Program} {id : Nat} {Q : Exit → Act → World → Prop} {a : Act} {w : World} {l : List Oper} (hm : P.follows .mixedOrders = true) (hB : Region.lexB .any l.toArray = true)
    (h : wpQuiet P l.toArray (fun w' => ∃ x : WIn w, w' = x.w) (fun a' => ∀ w', (∃ x : WIn w, w' = x.w) → Q .normal a' w') l a) : (Code.region id l.toArray true).wp P Q a w :=
  wp_region_quiet (C := fun w' => ∃ x : WIn w, w' = x.w) hm hB ⟨⟨_, (Below.refl _ _).drew⟩, rfl⟩ (by simpa using h)

theorem in_call {P : Program} {f : FuncId} {args : Array Value} {W : World} {x : WIn W} {v : Value}
    (h : Calls P f args x.w fun e w' => e = .returned v ∧ Below x.w.heap.size x.w w') : Calls P f args x.w fun e w'' => e = .returned v ∧ ∃ y : WIn W, w'' = y.w :=
  h.mono fun _ w' ⟨he, hb⟩ => ⟨he, ⟨w', x.h.trans (hb.mono x.h.size)⟩, rfl⟩

theorem in_out {W w' : World} (h : ∃ x : WIn W, w' = x.w) : Below W.heap.size W w' := by
  obtain ⟨x, rfl⟩ := h
  exact x.h
theorem in_some (W : World) : Nonempty (WIn W) := ⟨⟨_, Below.refl _ _⟩⟩
theorem in_cell {W : World} {b o : Nat} {v : Value} (hb : b < W.heap.size) (h : W.cell? ⟨b, o, none⟩ = some v) : ∀ x : WIn W, x.w.cell? ⟨b, o, none⟩ = some v := fun x => (x.h.cell (p := ⟨b, o, none⟩) hb).trans h
end Go.Proofs.YtmdjbdolegojcaaGreatDoor
/-
  Contracts: what CheckPrefixes, and what it calls, answers at every list of prefixes.
-/
namespace Go.Proofs.YtmdjbdolegojcaaGreatDoor
open Go.RowKit
set_option maxRecDepth 20000

set_option maxHeartbeats 1000000 in
theorem Or_any (b off : Nat) (x y : Int) (w : World) (h0 : w.cell? ⟨b, off, none⟩ = some (.int .i64 x)) (h1 : w.cell? ⟨b, off + 1, none⟩ = some (.int .i64 y)) :
    Calls Tryz.prog 66 #[.slice (some ⟨b, off, none⟩) 2 2] w fun e w' => e = .returned (.int .i64 (if x ≠ 0 then x else y)) ∧ w' = w := by
  obtain ⟨r, HR⟩ : ∃ r, Hid ((if x ≠ 0 then x else y) = r) := ⟨_, rfl⟩
  rw [HR.out]
  go_enter Tryz.func66, Tryz.ntmps66
  go_wp2
  go_loop [8] (fun i => ∃ k : Nat, k ≤ 2 ∧ i = .int .i64 k ∧ Hid (0 < k → x = 0) ∧ Hid (1 < k → y = 0)) (fun i => 2 - (intOf i).toNat)
  case atStart => exact ⟨0, by omega, rfl, hid (by omega), hid (by omega)⟩
  case round =>
    obtain ⟨k, hk, rfl, K1, K2⟩ := hrel
    have hks : k = 0 ∨ k = 1 ∨ k = 2 := by omega
    rcases hks with rfl | rfl | rfl
    · by_cases hx : x = 0
      · subst hx
        go_wp2
        go_round
        case rel => exact ⟨1, by omega, by go_num, hid (by first | (intro _; rfl) | simp), hid (by omega)⟩
        case measure => simp [intOf]
      · have hr : r = x := by rw [← HR.out, if_pos hx]
        have HX := hid hr
        have b1 : (x == 0) = false := by simpa using hx
        clear hx hr
        go_wp2
        go_ret
        exact ⟨ret_int HX.out.symm, rfl⟩
    · have hx : x = 0 := K1.out (by omega)
      have hr : r = y := by rw [← HR.out, if_neg (by simp [hx])]
      have HX := hid hr
      have HX0 := hid hx
      clear hr hx K1 K2 HR
      by_cases hy : y = 0
      · subst hy
        go_wp2
        go_round
        case rel => exact ⟨2, by omega, by go_num, hid (fun _ => HX0.out), hid (by first | (intro _; rfl) | simp)⟩
        case measure => simp [intOf]
      · have b1 : (y == 0) = false := by simpa using hy
        clear hy
        go_wp2
        go_ret
        exact ⟨ret_int HX.out.symm, rfl⟩
    · have hr : r = 0 := by rw [← HR.out, if_neg (by simp [K1.out (by omega)]), K2.out (by omega)]
      have HX := hid hr
      clear hr
      go_wp2
      go_ret
      exact ⟨ret_int HX.out.symm, rfl⟩

theorem Or_new (A : World) (n : Nat) (x y : Int) (hn : A.heap.size = n) :
    Calls Tryz.prog 66 #[.slice (some ⟨n, 0, none⟩) 2 2] (A.alloc (.cells #[.int .i64 x, .int .i64 y] 3)).drew fun e w' => e = .returned (.int .i64 (if x ≠ 0 then x else y)) ∧ w' = (A.alloc (.cells #[.int .i64 x, .int .i64 y] 3)).drew := by
  subst hn
  obtain ⟨W, hW⟩ : ∃ W, W = A.alloc (.cells #[.int .i64 x, .int .i64 y] 3) := ⟨_, rfl⟩
  have h0 : W.cell? ⟨A.heap.size, 0, none⟩ = some (.int .i64 x) := by rw [hW]; simp
  have h1 : W.cell? ⟨A.heap.size, 0 + 1, none⟩ = some (.int .i64 y) := by rw [hW]; simp
  rw [← hW]
  clear hW
  exact Or_any A.heap.size 0 x y W.drew (by rw [World.cell?_drew]; exact h0) (by rw [World.cell?_drew]; exact h1)

end Go.Proofs.YtmdjbdolegojcaaGreatDoor
/-
  Contract: which of two prefixes comes first.
-/
namespace Go.Proofs.YtmdjbdolegojcaaGreatDoor
open Go.RowKit
set_option maxRecDepth 20000

def PF (p1 p2 q1 q2 c1 c2 r : Int) (R : Nat) (w : World) : Nat → Value → Prop
  | 0, v => v = .pointer (some ⟨R, 0, none⟩)
  | 1, v => v = .int .i64 p1
  | 2, v => v = .pointer (some ⟨R + 1, 0, none⟩)
  | 3, v => v = .int .i64 q1
  | 4, v => v = .int .i64 c1
  | 5, v => v = .pointer (some ⟨R, 1, none⟩)
  | 6, v => v = .int .i64 p2
  | 7, v => v = .pointer (some ⟨R + 1, 1, none⟩)
  | 8, v => v = .int .i64 q2
  | 9, v => v = .int .i64 c2
  | 10, v => ∃ b, v = .slice (some ⟨b, 0, none⟩) 2 2 ∧ b < w.heap.size ∧ w.cell? ⟨b, 0, none⟩ = some (.int .i64 c1) ∧ w.cell? ⟨b, 1, none⟩ = some (.int .i64 c2)
  | 11, v => v = .int .i64 r
  | _, _ => True
theorem PF.mono {p1 p2 q1 q2 c1 c2 r : Int} {R : Nat} {w w' : World} {k : Nat} {v : Value} (h : PF p1 p2 q1 q2 c1 c2 r R w k v) (hb : Below w.heap.size w w') : PF p1 p2 q1 q2 c1 c2 r R w' k v := by
  have hz := hb.size
  match k, h with
  | 10, ⟨b, h1, h2, h3, h4⟩ => exact ⟨b, h1, by omega, ((bcell hb).1 b 0 h2).trans h3, ((bcell hb).1 b 1 h2).trans h4⟩
  | 0, h => exact h
  | 1, h => exact h
  | 2, h => exact h
  | 3, h => exact h
  | 4, h => exact h
  | 5, h => exact h
  | 6, h => exact h
  | 7, h => exact h
  | 8, h => exact h
  | 9, h => exact h
  | 11, h => exact h
  | n + 12, h => exact h
structure PInv (p1 p2 q1 q2 c1 c2 r : Int) (R : Nat) (W0 : World) (listed : Array Bool) (a : Act) (w : World) : Prop where
  ls : listed.size = 13
  sz : a.tmps.size = 17
  df : a.defers = []
  s2 : a.tmps[2]?.getD undef = .pointer (some ⟨R, 0, none⟩)
  s3 : a.tmps[3]?.getD undef = .pointer (some ⟨R + 1, 0, none⟩)
  f : ∀ k, k < 12 → listed.getD k false = true → PF p1 p2 q1 q2 c1 c2 r R w k (a.tmps[k + 5]?.getD undef)
  nb : Below W0.heap.size W0 w
  dn : listed.getD 12 false = true → a.tmps[4]?.getD undef = .int .i64 r
theorem PInv.put {p1 p2 q1 q2 c1 c2 r : Int} {R : Nat} {W0 : World} {listed : Array Bool} {a : Act} {w w' : World} {i : Nat} {v : Value} (h : PInv p1 p2 q1 q2 c1 c2 r R W0 listed a w) (hi : i < 12) (hb : Below w.heap.size w w') (hv : PF p1 p2 q1 q2 c1 c2 r R w' i v) :
    PInv p1 p2 q1 q2 c1 c2 r R W0 (listed.setIfInBounds i true) (a.put (some (i + 5)) v) w' := by
  refine ⟨by simp [h.ls], by simp [Act.put, h.sz], h.df, by rw [eval_ne (by omega)]; exact h.s2, by rw [eval_ne (by omega)]; exact h.s3, ?_, h.nb.trans (hb.mono h.nb.size), fun h' => ?_⟩
  · intro k hk hl
    by_cases hki : i = k
    · subst hki
      rw [eval_eq (by rw [h.sz]; omega)]
      exact hv
    · rw [getD_set_ne false hki] at hl
      rw [eval_ne (by omega)]
      exact (h.f k hk hl).mono hb
  · rw [getD_set_ne false (by omega)] at h'
    rw [eval_ne (by omega)]
    exact h.dn h'

set_option maxHeartbeats 4000000 in
theorem comparePrefixes_any (p q : Int × Int) (w : World) :
    Calls Tryz.prog 48 #[.agg #[.int .i64 p.1, .int .i64 p.2], .agg #[.int .i64 q.1, .int .i64 q.2]] w fun e w' => e = .returned (.int .i64 (Pl.pfxC p q)) ∧ Below w.heap.size w w' := by
  obtain ⟨p1, p2⟩ := p
  obtain ⟨q1, q2⟩ := q
  obtain ⟨c1, H1⟩ : ∃ c, Hid (Pl.cmpI p1 q1 = c) := ⟨_, rfl⟩
  obtain ⟨c2, H2⟩ : ∃ c, Hid (Pl.cmpI p2 q2 = c) := ⟨_, rfl⟩
  obtain ⟨r, HR⟩ : ∃ c, Hid ((if c1 ≠ 0 then c1 else c2) = c) := ⟨_, rfl⟩
  have HF : Hid (Pl.pfxC (p1, p2) (q1, q2) = r) := hid (by unfold Pl.pfxC; rw [H1.out, H2.out, HR.out])
  go_enter Tryz.func48, Tryz.ntmps48
  go_wp2_with fail
  refine wp_region_any (by kernel_rfl) ?_
  obtain ⟨W0, hW0⟩ : ∃ W0 : World, W0 = ((w.alloc (.cells #[.int .i64 p1, .int .i64 p2] 38)).alloc (.cells #[.int .i64 q1, .int .i64 q2] 38)) := ⟨_, rfl⟩
  have hR : w.heap.size < W0.heap.size := by rw [hW0]; simp; omega
  have hR1 : w.heap.size + 1 < W0.heap.size := by rw [hW0]; simp
  have d0 : W0.cell? ⟨w.heap.size, 0, none⟩ = some (.int .i64 p1) := by rw [hW0]; simp
  have d1 : W0.cell? ⟨w.heap.size, 1, none⟩ = some (.int .i64 p2) := by rw [hW0]; simp
  have d2 : W0.cell? ⟨w.heap.size + 1, 0, none⟩ = some (.int .i64 q1) := by rw [hW0]; simp
  have d3 : W0.cell? ⟨w.heap.size + 1, 1, none⟩ = some (.int .i64 q2) := by rw [hW0]; simp
  have hB0 : Below w.heap.size w W0 := by rw [hW0]; exact ((Below.refl _ _).alloc (Nat.le_refl _) _).alloc (by simp) _
  refine wpAny_inv (PInv p1 p2 q1 q2 c1 c2 r w.heap.size W0) ?_ ?_ _ _ _ _ (by decide +kernel) ?_
  · intro i listed a W hi hI
    rw [mem_ready] at hi
    obtain ⟨hl, o, ho, hall⟩ := hi
    have hlt : i < 13 := (Array.getElem?_eq_some_iff.1 ho).1
    have hcs : i = 0 ∨ i = 1 ∨ i = 2 ∨ i = 3 ∨ i = 4 ∨ i = 5 ∨ i = 6 ∨ i = 7 ∨ i = 8 ∨ i = 9 ∨ i = 10 ∨ i = 11 ∨ i = 12 := by omega
    rcases hcs with rfl | rfl | rfl | rfl | rfl | rfl | rfl | rfl | rfl | rfl | rfl | rfl | rfl
    all_goals
      simp at ho
      subst ho
      refine wpOp_of rfl rfl ?_
    · have e1 := hI.s2
      simp [Oper.wp, go_sem, e1]
      exact hI.put (i := 0) (by omega) (Below.refl _ _) rfl
    · have e1 : a.tmps[5]?.getD undef = .pointer (some ⟨w.heap.size, 0, none⟩) := hI.f 0 (by omega) (hall ⟨0, .data⟩ (by simp) rfl)
      have e2 := ((bcell hI.nb).1 w.heap.size 0 hR).trans d0
      simp [Oper.wp, go_sem, e1, e2]
      exact hI.put (i := 1) (by omega) (Below.refl _ _) rfl
    · have e1 := hI.s3
      simp [Oper.wp, go_sem, e1]
      exact hI.put (i := 2) (by omega) (Below.refl _ _) rfl
    · have e1 : a.tmps[7]?.getD undef = .pointer (some ⟨w.heap.size + 1, 0, none⟩) := hI.f 2 (by omega) (hall ⟨2, .data⟩ (by simp) rfl)
      have e2 := ((bcell hI.nb).1 (w.heap.size + 1) 0 hR1).trans d2
      simp [Oper.wp, go_sem, e1, e2]
      exact hI.put (i := 3) (by omega) (Below.refl _ _) rfl
    · have e1 : a.tmps[6]?.getD undef = .int .i64 p1 := hI.f 1 (by omega) (hall ⟨1, .data⟩ (by simp) rfl)
      have e2 : a.tmps[8]?.getD undef = .int .i64 q1 := hI.f 3 (by omega) (hall ⟨3, .data⟩ (by simp) rfl)
      simp [Oper.wp, go_sem, e1, e2]
      refine (cmpi_any p1 q1 W).mono ?_
      rw [H1.out]
      rintro e w1 ⟨rfl, rfl⟩
      exact hI.put (i := 4) (by omega) (Below.refl _ _) rfl
    · have e1 := hI.s2
      simp [Oper.wp, go_sem, e1]
      exact hI.put (i := 5) (by omega) (Below.refl _ _) rfl
    · have e1 : a.tmps[10]?.getD undef = .pointer (some ⟨w.heap.size, 1, none⟩) := hI.f 5 (by omega) (hall ⟨5, .data⟩ (by simp) rfl)
      have e2 := ((bcell hI.nb).1 w.heap.size 1 hR).trans d1
      simp [Oper.wp, go_sem, e1, e2]
      exact hI.put (i := 6) (by omega) (Below.refl _ _) rfl
    · have e1 := hI.s3
      simp [Oper.wp, go_sem, e1]
      exact hI.put (i := 7) (by omega) (Below.refl _ _) rfl
    · have e1 : a.tmps[12]?.getD undef = .pointer (some ⟨w.heap.size + 1, 1, none⟩) := hI.f 7 (by omega) (hall ⟨7, .data⟩ (by simp) rfl)
      have e2 := ((bcell hI.nb).1 (w.heap.size + 1) 1 hR1).trans d3
      simp [Oper.wp, go_sem, e1, e2]
      exact hI.put (i := 8) (by omega) (Below.refl _ _) rfl
    · have e1 : a.tmps[11]?.getD undef = .int .i64 p2 := hI.f 6 (by omega) (hall ⟨6, .data⟩ (by simp) rfl)
      have e2 : a.tmps[13]?.getD undef = .int .i64 q2 := hI.f 8 (by omega) (hall ⟨8, .data⟩ (by simp) rfl)
      simp [Oper.wp, go_sem, e1, e2]
      refine (cmpi_any p2 q2 W).mono ?_
      rw [H2.out]
      rintro e w1 ⟨rfl, rfl⟩
      exact hI.put (i := 9) (by omega) (Below.refl _ _) rfl
    · have e1 : a.tmps[9]?.getD undef = .int .i64 c1 := hI.f 4 (by omega) (hall ⟨4, .data⟩ (by simp) rfl)
      have e2 : a.tmps[14]?.getD undef = .int .i64 c2 := hI.f 9 (by omega) (hall ⟨9, .data⟩ (by simp) rfl)
      simp [Oper.wp, go_sem, e1, e2]
      exact hI.put (i := 10) (by omega) ((Below.refl _ _).alloc (Nat.le_refl _) _) ⟨W.heap.size, rfl, by simp, by simp, by simp⟩
    · obtain ⟨b, e1, hb, hc0, hc1⟩ := hI.f 10 (by omega) (hall ⟨10, .data⟩ (by simp) rfl)
      simp only [Nat.reduceAdd] at e1
      simp [Oper.wp, go_sem, e1]
      refine (Or_any b 0 c1 c2 W hc0 hc1).mono ?_
      rw [HR.out]
      rintro e w1 ⟨rfl, rfl⟩
      exact hI.put (i := 11) (by omega) (Below.refl _ _) rfl
    · have e1 : a.tmps[16]?.getD undef = .int .i64 r := hI.f 11 (by omega) (hall ⟨11, .data⟩ (by simp) rfl)
      simp [Oper.wp, go_sem, e1]
      refine ⟨by simp [hI.ls], by simp [hI.sz], hI.df, ?_, ?_, ?_, hI.nb, ?_⟩
      · have := eval_ne (a := a) (m := 4) (n := 2) (v := .int .i64 r) (by omega); exact this.trans hI.s2
      · have := eval_ne (a := a) (m := 4) (n := 3) (v := .int .i64 r) (by omega); exact this.trans hI.s3
      · intro k hk hlk
        rw [getD_set_ne false (by omega)] at hlk
        have := eval_ne (a := a) (m := 4) (n := k + 5) (v := .int .i64 r) (by omega)
        exact this ▸ hI.f k hk hlk
      · intro _
        exact eval_eq (a := a) (m := 4) (v := .int .i64 r) (by rw [hI.sz]; omega)
  · intro listed a W hr hI
    rename_i K hK
    have hal := all_listed (by decide +kernel) hI.ls hr 12 (by decide)
    have e4 := hI.dn hal
    refine hK a W ?_
    refine wp_ret ?_
    show bodyPost Tryz.prog Tryz.f48 _ Exit.ret a W
    refine bodyPost_ret (v := .int .i64 r) (by simp [results, Tryz.results48, go_sem, e4]) hI.df ⟨ret_int HF.out.symm, hB0.trans (hI.nb.mono hB0.size)⟩
  · rw [← hW0]
    refine ⟨by rfl, by rfl, rfl, by rfl, by rfl, ?_, Below.drew (Below.refl _ _), ?_⟩
    · intro k hk h
      have : (Array.replicate 13 false).getD k false = true := h
      rw [show (Array.replicate 13 false).getD k false = false from by by_cases hk' : k < 13 <;> simp [hk']] at this
      cases this
    · intro h
      have : (Array.replicate 13 false).getD 12 false = true := h
      simp at this
end Go.Proofs.YtmdjbdolegojcaaGreatDoor
/-
  Contracts: what is wrong with one prefix: checkPrefix; how many addresses have bits in common: the document's spanOf.
-/
namespace Go.Proofs.YtmdjbdolegojcaaGreatDoor
open Go.RowKit
set_option maxRecDepth 20000

theorem Pl.pfx1_out {p : Int × Int} (h : p.2 < 0 ∨ 8 < p.2 ∨ p.1 < 0 ∨ 255 < p.1) : Pl.pfx1 p = 2 := by
  unfold Pl.pfx1
  rw [if_neg]
  unfold Pl.inP
  simp; omega
theorem Pl.pfx1_in {p : Int × Int} (h1 : 0 ≤ p.2 ∧ p.2 ≤ 8) (h2 : 0 ≤ p.1 ∧ p.1 ≤ 255) : Pl.pfx1 p = if p.1 % Pl.span p.2 = 0 then 0 else 4 := by
  unfold Pl.pfx1
  rw [if_pos]
  unfold Pl.inP
  simp; omega

set_option maxHeartbeats 1000000 in
theorem checkPrefix_any (p : Int × Int) (w : World) :
    Calls Tryz.prog 65 #[.agg #[.int .i64 p.1, .int .i64 p.2]] w fun e w' => e = .returned (.int .i64 (Pl.pfx1 p)) ∧ Below w.heap.size w w' := by
  obtain ⟨a, b⟩ := p
  have hB1 : Below w.heap.size w (w.alloc (.cells #[.int .i64 a, .int .i64 b] 38)) := (Below.refl _ _).alloc (Nat.le_refl _) _
  rcases Int.lt_or_le b 0 with h1 | h1
  · have HR := hid (Pl.pfx1_out (p := (a, b)) (.inl h1))
    go_enter Tryz.func65, Tryz.ntmps65
    go_wp2
    go_ret
    exact ⟨ret_int HR.out.symm, hB1⟩
  rcases Int.lt_or_le 8 b with h2 | h2
  · have HR := hid (Pl.pfx1_out (p := (a, b)) (.inr (.inl h2)))
    go_enter Tryz.func65, Tryz.ntmps65
    go_wp2
    go_ret
    exact ⟨ret_int HR.out.symm, hB1⟩
  rcases Int.lt_or_le a 0 with h3 | h3
  · have HR := hid (Pl.pfx1_out (p := (a, b)) (.inr (.inr (.inl h3))))
    go_enter Tryz.func65, Tryz.ntmps65
    go_wp2
    go_ret
    exact ⟨ret_int HR.out.symm, hB1⟩
  rcases Int.lt_or_le 255 a with h4 | h4
  · have HR := hid (Pl.pfx1_out (p := (a, b)) (.inr (.inr (.inr h4))))
    go_enter Tryz.func65, Tryz.ntmps65
    go_wp2
    go_ret
    exact ⟨ret_int HR.out.symm, hB1⟩
  have HR := hid (Pl.pfx1_in (p := (a, b)) ⟨h1, h2⟩ ⟨h3, h4⟩)
  obtain ⟨t0, t1, t2, t3, t4, t5, t6, t7, t8⟩ := Pl.span_table
  have hbs := Pl.bits_cases ⟨h1, h2⟩
  rcases hbs with rfl | rfl | rfl | rfl | rfl | rfl | rfl | rfl | rfl
  all_goals
    clear h1 h2
    have htm : ∀ k, a.tmod k = a % k := fun k => Int.tmod_eq_emod_of_nonneg h3
    simp only [t0, t1, t2, t3, t4, t5, t6, t7, t8] at HR
    go_enter Tryz.func65, Tryz.ntmps65
    go_wp2_with fail
    go_quiet (fail)
    go_wp2_with fail
  all_goals go_ret
  all_goals exact ⟨ret_int (by rw [HR.out]; split <;> simp_all), below_drew hB1 _⟩

theorem Pl.span_half {m : Int} (h : 0 ≤ m ∧ m ≤ 7) : (Pl.span m).tdiv 2 = Pl.span (m + 1) ∧ 0 ≤ Pl.span m ∧ Pl.span m ≤ 256 := by
  have : m = 0 ∨ m = 1 ∨ m = 2 ∨ m = 3 ∨ m = 4 ∨ m = 5 ∨ m = 6 ∨ m = 7 := by omega
  rcases this with rfl | rfl | rfl | rfl | rfl | rfl | rfl | rfl <;> decide

set_option maxHeartbeats 1000000 in
theorem spanOf_any (b : Int) (w : World) (hb : 0 ≤ b ∧ b ≤ 8) :
    Calls Tryz.prog 11 #[.int .i64 b] w fun e w' => e = .returned (.int .i64 (Pl.span b)) ∧ w' = w := by
  obtain ⟨hb0, hb8⟩ := hb
  go_enter Tryz.func11, Tryz.ntmps11
  go_wp2
  go_loop [0, 3] (fun bb n => ∃ (k : Nat) (x : Int), bb = .int .i64 k ∧ (k : Int) ≤ b ∧ n = .int .i64 x ∧ Hid (x = Pl.span (b - k))) (fun bb _ => (intOf bb).toNat)
  case atStart => exact ⟨b.toNat, 256, by go_num, by omega, rfl, hid (by rw [Int.toNat_of_nonneg hb0, Int.sub_self]; rfl)⟩
  case round =>
    obtain ⟨k, x, rfl, hk, rfl, HX⟩ := hrel
    rcases Nat.eq_zero_or_pos k with rfl | hpos
    · have HX' : Hid (x = Pl.span b) := hid (by rw [HX.out]; simp)
      go_wp2
      go_ret
      exact ⟨ret_int HX'.out, rfl⟩
    · obtain ⟨m, rfl⟩ : ∃ m, k = m + 1 := ⟨k - 1, by omega⟩
      obtain ⟨hq, hx0, hx1⟩ := Pl.span_half (m := b - ((m + 1 : Nat) : Int)) (by omega)
      rw [← HX.out] at hq hx0 hx1
      obtain ⟨y, HY⟩ : ∃ y, Hid (Pl.span (b - ((m + 1 : Nat) : Int) + 1) = y) := ⟨_, rfl⟩
      rw [HY.out] at hq
      have hy : 0 ≤ y ∧ y ≤ 256 := by rw [← hq, Int.tdiv_eq_ediv_of_nonneg hx0]; omega
      obtain ⟨hy0, hy1⟩ := hy
      go_wp2
      go_round
      case rel => exact ⟨m, y, by go_num, by omega, by first | rfl | go_num, hid (by rw [← HY.out]; congr 1; omega)⟩
      case measure => simp [intOf]
end Go.Proofs.YtmdjbdolegojcaaGreatDoor
/-
  Contracts: what CheckPrefixes and the document's PrefixesFault answer at every list of prefixes.
-/
namespace Go.Proofs.YtmdjbdolegojcaaGreatDoor
open Go.RowKit
set_option maxRecDepth 20000

set_option maxHeartbeats 1000000 in
theorem CheckPrefixes_any (a : Option Addr) (len cap : Nat) (ps : List (Int × Int)) (w : World) (h : IsPairs w a len cap ps) :
    Calls Tryz.prog 45 #[.slice a len cap] w fun e w' => e = .returned (.int .i64 (Pl.pfxF ps)) ∧ Below w.heap.size w w' := by
  obtain ⟨hl, hc, hm, hok, hrow⟩ := h
  unfold maxLen at hm
  by_cases h6 : 6 < len
  · have HR := hid (Pl.pfxF_size (ps := ps) (by omega))
    go_enter Tryz.func45, Tryz.ntmps45
    go_wp2
    go_ret
    exact ⟨ret_int HR.out.symm, Below.refl _ _⟩
  go_enter Tryz.func45, Tryz.ntmps45
  go_wp2
  go_loopw [11] (fun i wr => ∃ k : Nat, k ≤ len ∧ i = .int .i64 k ∧ Hid (Pl.pfxF ps = Pl.pfxN ps (len - k) k) ∧ Hid (∀ j, j < k → Pl.pfx1 (Pl.pr ps j) = 0) ∧ Below w.heap.size w wr) (fun i _ => len - (intOf i).toNat)
  case atStart => exact ⟨0, Nat.zero_le _, rfl, by show _ = _; rw [Pl.pfxF_from (by omega), hl]; rfl, hid (by intro j hj; omega), Below.refl _ _⟩
  case round =>
    obtain ⟨k, hk, rfl, HF, HV, hb⟩ := hrel
    by_cases hlt : k < len
    · obtain ⟨b, off, rfl, hbw, hr⟩ : ∃ b off, a = some ⟨b, off, none⟩ ∧ b < w.heap.size ∧ PairsAt w b off ps := by
        rcases hrow with rfl | h
        · simp at hl; omega
        · exact h
      clear hrow
      have hr' := hr.below hbw hb
      obtain ⟨c0, c1⟩ := hr' k (by omega)
      have hz := hb.size
      obtain ⟨n, hn⟩ : ∃ n, len - k = n + 1 := ⟨len - k - 1, by omega⟩
      have HN : Hid (len - k = n + 1) := hn
      clear hn
      have hbr : b < wr.heap.size := by omega
      obtain ⟨pp, HP⟩ : ∃ pp, Hid (Pl.pr ps k = pp) := ⟨_, rfl⟩
      rw [HP.out] at c0 c1
      obtain ⟨cc, HCC⟩ : ∃ cc, Hid (Pl.pfx1 pp = cc) := ⟨_, rfl⟩
      by_cases hc0 : cc = 0
      · subst hc0
        have HM : Hid (Pl.pfx1 (Pl.pr ps k) = 0) := hid (by rw [HP.out, HCC.out])
        have HV' : Hid (∀ j, j < k + 1 → Pl.pfx1 (Pl.pr ps j) = 0) := by
          refine hid fun j hj => ?_
          rcases Nat.lt_or_ge j k with h | h
          · exact HV.out j h
          · obtain rfl : j = k := by omega
            exact HM.out
        rcases Nat.eq_zero_or_pos k with hk0 | hk0
        · have hd : decide (0 < k) = false := by simp; omega
          have HK0 : Hid (k = 0) := hk0
          clear hk0
          go_wp2_with fail
          refine (checkPrefix_any pp _).mono ?_
          rw [HCC.out]
          rintro e w1 ⟨rfl, hb1⟩
          go_wp2_with fail
          go_quiet (fail)
          go_wp2_with fail
          go_roundw
          case rel => exact ⟨k + 1, by omega, by go_num, by show _ = _; have h := HN.out; rw [HF.out, h]; have hm := HM.out; rw [HK0.out] at hm ⊢; rw [Pl.pfxN_first hm]; congr 1; have h0 := HK0.out; omega, HV', below_drew ((hb.alloc hz _).trans (hb1.mono (by simp; omega))) _⟩
          case measure => simp [intOf]; omega
        · obtain ⟨m, rfl⟩ : ∃ m, k = m + 1 := ⟨k - 1, by omega⟩
          obtain ⟨d0, d1⟩ := hr' m (by omega)
          obtain ⟨qq, HQ⟩ : ∃ pp, Hid (Pl.pr ps m = pp) := ⟨_, rfl⟩
          rw [HQ.out] at d0 d1
          obtain ⟨cq, HCQ⟩ : ∃ c, Hid (Pl.pfxC qq pp = c) := ⟨_, rfl⟩
          have HLW : Hid (decide (0 ≤ cq) = Pl.pfxLow (Pl.pr ps m) (Pl.pr ps (m + 1))) := by
            refine hid ?_
            rw [← HCQ.out, ← HP.out, ← HQ.out]
            exact Pl.pfxC_low (Pl.pfx1_zero (HV.out m (by omega))) (Pl.pfx1_zero HM.out)
          have HCP : Hid (∀ W, Calls Tryz.prog 48 #[.agg #[.int .i64 qq.1, .int .i64 qq.2], .agg #[.int .i64 pp.1, .int .i64 pp.2]] W fun e w' => e = .returned (.int .i64 cq) ∧ Below W.heap.size W w') := by
            refine hid fun W => ?_
            have := comparePrefixes_any qq pp W
            rwa [HCQ.out] at this
          by_cases hle : 0 ≤ cq
          all_goals
            go_wp2_with fail
            refine (checkPrefix_any pp _).mono ?_
            rw [HCC.out]
            rintro e w1 ⟨rfl, hb1⟩
            have hbA : Below (wr.heap.size + 1) (wr.alloc (.cells #[.int .i64 pp.1, .int .i64 pp.2] 38)) w1 := by simpa using hb1
            obtain ⟨x0, x1, xs, hbb⟩ := box2 hbA
            have d0' := (hbb.cell (p := ⟨b, off + m * 2, none⟩) hbr).trans d0
            have d1' := (hbb.cell (p := ⟨b, off + m * 2 + 1, none⟩) hbr).trans d1
            clear hb1 hbA
            have hbw1 : b < w1.heap.size := by omega
            go_wp2_with fail
            have i0 := in_cell xs x0
            have i1 := in_cell xs x1
            have i2 := in_cell hbw1 d0'
            have i3 := in_cell hbw1 d1'
            have hne := in_some w1
            refine wp_region_in (by kernel_rfl) (by kernel_rfl) ?_
            repeat (go_big_quiet_step ((go_at_call 48; exact in_call (HCP.out _))))
            refine wpQuiet_nil ?_
            intro w5 hw'
            have hb5 := in_out hw'
            clear hw' i0 i1 i2 i3 hne x0 x1 d0' d1'
            go_wp2_with fail
          · go_ret
            exact ⟨ret_int (by rw [HF.out, HN.out, Pl.pfxN_low HM.out (by rw [← HLW.out]; simpa using hle)]), hb.trans ((hbb.mono hz).trans (hb5.mono (Nat.le_trans hz hbb.size)))⟩
          · go_roundw
            case rel => exact ⟨m + 1 + 1, by omega, by go_num, by show _ = _; rw [HF.out, HN.out, Pl.pfxN_on HM.out (by rw [← HLW.out]; simpa using hle)]; congr 1; have := HN.out; omega, HV', hb.trans ((hbb.mono hz).trans (hb5.mono (Nat.le_trans hz hbb.size)))⟩
            case measure => simp [intOf]; omega
      · have HR : Hid (Pl.pfxF ps = cc) := by
          refine hid ?_
          rw [HF.out, HN.out, Pl.pfxN_bad (by rw [HP.out, HCC.out]; exact hc0), HP.out, HCC.out]
        have hd0 : (cc == 0) = false := by simpa using hc0
        clear hc0
        go_wp2_with fail
        refine (checkPrefix_any pp _).mono ?_
        rw [HCC.out]
        rintro e w1 ⟨rfl, hb1⟩
        go_wp2_with fail
        go_ret
        exact ⟨ret_int HR.out.symm, (hb.alloc hz _).trans (hb1.mono (by simp; omega))⟩
    · obtain rfl : k = len := by omega
      go_wp2
      go_ret
      exact ⟨ret_int (by rw [HF.out]; simp [Pl.pfxN]), hb⟩
end Go.Proofs.YtmdjbdolegojcaaGreatDoor
/-
  Contract: what the document's PrefixesFault answers at every list of prefixes.
-/
namespace Go.Proofs.YtmdjbdolegojcaaGreatDoor
open Go.RowKit
set_option maxRecDepth 20000

theorem Pl.span_pos {b : Int} (h : 0 ≤ b ∧ b ≤ 8) : 1 ≤ Pl.span b ∧ Pl.span b ≤ 256 := by
  rcases Pl.bits_cases h with rfl | rfl | rfl | rfl | rfl | rfl | rfl | rfl | rfl <;> decide

set_option maxHeartbeats 1000000 in
theorem PrefixesFault_any (a : Option Addr) (len cap : Nat) (ps : List (Int × Int)) (w : World) (h : IsPairs w a len cap ps) :
    Calls Tryz.prog 57 #[.slice a len cap] w fun e w' => e = .returned (.int .i64 (Pl.pfxF ps)) ∧ Below w.heap.size w w' := by
  obtain ⟨hl, hc, hm, hok, hrow⟩ := h
  unfold maxLen at hm
  by_cases h6 : 6 < len
  · have HR := hid (Pl.pfxF_size (ps := ps) (by omega))
    go_enter Tryz.func57, Tryz.ntmps57
    go_wp2
    go_ret
    exact ⟨ret_int HR.out.symm, Below.refl _ _⟩
  go_enter Tryz.func57, Tryz.ntmps57
  go_wp2
  go_loopw [3] (fun i wr => ∃ k : Nat, k ≤ len ∧ i = .int .i64 k ∧ Hid (Pl.pfxF ps = Pl.pfxN ps (len - k) k) ∧ Hid (∀ j, j < k → Pl.pfx1 (Pl.pr ps j) = 0) ∧ Below w.heap.size w wr) (fun i _ => len - (intOf i).toNat)
  case atStart => exact ⟨0, Nat.zero_le _, rfl, by show _ = _; rw [Pl.pfxF_from (by omega), hl]; rfl, hid (by intro j hj; omega), Below.refl _ _⟩
  case round =>
    obtain ⟨k, hk, rfl, HF, HV, hb⟩ := hrel
    by_cases hlt : k < len
    · obtain ⟨b, off, rfl, hbw, hr⟩ : ∃ b off, a = some ⟨b, off, none⟩ ∧ b < w.heap.size ∧ PairsAt w b off ps := by
        rcases hrow with rfl | h
        · simp at hl; omega
        · exact h
      clear hrow
      have hr' := hr.below hbw hb
      obtain ⟨c0, c1⟩ := hr' k (by omega)
      have hz := hb.size
      obtain ⟨n, hn⟩ : ∃ n, len - k = n + 1 := ⟨len - k - 1, by omega⟩
      have HN : Hid (len - k = n + 1) := hn
      clear hn
      have hbr : b < wr.heap.size := by omega
      obtain ⟨pp, HP⟩ : ∃ pp, Hid (Pl.pr ps k = pp) := ⟨_, rfl⟩
      rw [HP.out] at c0 c1
      obtain ⟨p1, p2⟩ := pp
      simp only at c0 c1
      obtain ⟨ob, HOB⟩ : ∃ c, Hid (decide (0 ≤ p2 ∧ p2 ≤ 8) = c) := ⟨_, rfl⟩
      obtain ⟨oa, HOA⟩ : ∃ c, Hid (decide (0 ≤ p1 ∧ p1 ≤ 255) = c) := ⟨_, rfl⟩
      by_cases hin : (ob && oa) = true
      · simp only [Bool.and_eq_true] at hin
        obtain ⟨rfl, rfl⟩ := hin
        have hbb := of_decide_eq_true HOB.out
        have haa := of_decide_eq_true HOA.out
        obtain ⟨sp, HSP⟩ : ∃ c, Hid (Pl.span p2 = c) := ⟨_, rfl⟩
        have hsp := Pl.span_pos hbb
        rw [HSP.out] at hsp
        have HCS : Hid (∀ W, Calls Tryz.prog 11 #[.int .i64 p2] W fun e w' => e = .returned (.int .i64 sp) ∧ Below W.heap.size W w') := by
          refine hid fun W => ?_
          have := spanOf_any p2 W hbb
          rw [HSP.out] at this
          exact this.mono fun e w' ⟨h1, h2⟩ => ⟨h1, h2 ▸ Below.refl _ _⟩
        have HPF : Hid (Pl.pfx1 (Pl.pr ps k) = if p1 % sp = 0 then 0 else 4) := hid (by rw [HP.out, Pl.pfx1_in hbb haa]; simp only; rw [HSP.out])
        obtain ⟨hb0, hb8⟩ := hbb
        obtain ⟨ha0, ha8⟩ := haa
        obtain ⟨hs1, hs2⟩ := hsp
        have htm : p1.tmod sp = p1 % sp := Int.tmod_eq_emod_of_nonneg ha0
        have hs0 : (sp == 0) = false := by simp; omega
        have hrm := Int.emod_nonneg p1 (show sp ≠ 0 by omega)
        have hrl := Int.emod_lt_of_pos p1 (show 0 < sp by omega)
        obtain ⟨rm, HRM⟩ : ∃ c, Hid (p1 % sp = c) := ⟨_, rfl⟩
        rw [HRM.out] at htm hrm hrl
        by_cases hrz : rm = 0
        · subst hrz
          have HM : Hid (Pl.pfx1 (Pl.pr ps k) = 0) := hid (by rw [HPF.out, HRM.out]; rfl)
          have HV' : Hid (∀ j, j < k + 1 → Pl.pfx1 (Pl.pr ps j) = 0) := by
            refine hid fun j hj => ?_
            rcases Nat.lt_or_ge j k with h | h
            · exact HV.out j h
            · obtain rfl : j = k := by omega
              exact HM.out
          rcases Nat.eq_zero_or_pos k with hk0 | hk0
          · have hd : decide (0 < k) = false := by simp; omega
            have HK0 : Hid (k = 0) := hk0
            clear hk0
            go_wp2_with (go_at_call 30; refine (In_any _ _ _ _).mono ?_; (first | rw [HOB.out] | rw [HOA.out]); rintro e w' ⟨rfl, rfl⟩)
            obtain ⟨W1, hW1⟩ : ∃ W1, W1 = wr.alloc (.cells #[.int .i64 p1, .int .i64 p2] 38) := ⟨_, rfl⟩
            have x0 : W1.cell? ⟨wr.heap.size, 0, none⟩ = some (.int .i64 p1) := by rw [hW1]; simp
            have x1 : W1.cell? ⟨wr.heap.size, 1, none⟩ = some (.int .i64 p2) := by rw [hW1]; simp
            have xs : wr.heap.size < W1.heap.size := by rw [hW1]; simp
            have hbW : Below w.heap.size w W1 := by rw [hW1]; exact hb.alloc hz _
            rw [← hW1]
            clear hW1
            have i0 := in_cell xs x0
            have i1 := in_cell xs x1
            have hne := in_some W1
            refine wp_region_in (by kernel_rfl) (by kernel_rfl) ?_
            repeat (go_big_quiet_step ((go_at_call 11; exact in_call (HCS.out _))))
            refine wpQuiet_nil ?_
            intro w5 hw'
            have hb5 := in_out hw'
            clear hw' i0 i1 hne
            go_wp2_with fail
            go_quiet (fail)
            go_wp2_with fail
            go_roundw
            case rel => exact ⟨k + 1, by omega, by go_num, by show _ = _; have h := HN.out; rw [HF.out, h]; have hm := HM.out; rw [HK0.out] at hm ⊢; rw [Pl.pfxN_first hm]; congr 1; have h0 := HK0.out; omega, HV', below_drew (hbW.trans (hb5.mono hbW.size)) _⟩
            case measure => simp [intOf]; omega
          · obtain ⟨m, rfl⟩ : ∃ m, k = m + 1 := ⟨k - 1, by omega⟩
            obtain ⟨d0, d1⟩ := hr' m (by omega)
            obtain ⟨qq, HQ⟩ : ∃ pp, Hid (Pl.pr ps m = pp) := ⟨_, rfl⟩
            have hqv := Pl.pfx1_zero (HV.out m (by omega))
            rw [HQ.out] at d0 d1 hqv
            obtain ⟨q1, q2⟩ := qq
            simp only at d0 d1 hqv
            obtain ⟨⟨hq0, hq8⟩, hq1, hq2⟩ := hqv
            have HLW : Hid (Pl.pfxLow (Pl.pr ps m) (Pl.pr ps (m + 1)) = decide (10 * p1 + p2 ≤ 10 * q1 + q2)) := hid (by rw [HQ.out, HP.out]; rfl)
            by_cases hle : 10 * p1 + p2 ≤ 10 * q1 + q2
            all_goals
              go_wp2_with (go_at_call 30; refine (In_any _ _ _ _).mono ?_; (first | rw [HOB.out] | rw [HOA.out]); rintro e w' ⟨rfl, rfl⟩)
              obtain ⟨W1, hW1⟩ : ∃ W1, W1 = wr.alloc (.cells #[.int .i64 p1, .int .i64 p2] 38) := ⟨_, rfl⟩
              have x0 : W1.cell? ⟨wr.heap.size, 0, none⟩ = some (.int .i64 p1) := by rw [hW1]; simp
              have x1 : W1.cell? ⟨wr.heap.size, 1, none⟩ = some (.int .i64 p2) := by rw [hW1]; simp
              have xs : wr.heap.size < W1.heap.size := by rw [hW1]; simp
              have hbR : Below wr.heap.size wr W1 := by rw [hW1]; exact (Below.refl _ _).alloc (Nat.le_refl _) _
              have hbW : Below w.heap.size w W1 := by rw [hW1]; exact hb.alloc hz _
              rw [← hW1]
              clear hW1
              have i0 := in_cell xs x0
              have i1 := in_cell xs x1
              have hne := in_some W1
              refine wp_region_in (by kernel_rfl) (by kernel_rfl) ?_
              repeat (go_big_quiet_step ((go_at_call 11; exact in_call (HCS.out _))))
              refine wpQuiet_nil ?_
              intro w5 hw'
              have hb5 := in_out hw'
              clear hw' i0 i1 hne
              have y0 := (hb5.cell (p := ⟨wr.heap.size, 0, none⟩) xs).trans x0
              have y1 := (hb5.cell (p := ⟨wr.heap.size, 1, none⟩) xs).trans x1
              have e0 := (hb5.cell (p := ⟨b, off + m * 2, none⟩) (show b < W1.heap.size by omega)).trans ((hbR.cell (p := ⟨b, off + m * 2, none⟩) hbr).trans d0)
              have e1 := (hb5.cell (p := ⟨b, off + m * 2 + 1, none⟩) (show b < W1.heap.size by omega)).trans ((hbR.cell (p := ⟨b, off + m * 2 + 1, none⟩) hbr).trans d1)
              have hz5 := hb5.size
              clear x0 x1 d0 d1
              go_wp2_with fail
              go_quiet (fail)
              go_wp2_with fail
            · go_ret
              exact ⟨ret_int (by rw [HF.out, HN.out, Pl.pfxN_low HM.out (by rw [HLW.out]; simpa using hle)]), below_drew (hbW.trans (hb5.mono hbW.size)) _⟩
            · go_roundw
              case rel => exact ⟨m + 1 + 1, by omega, by go_num, by show _ = _; rw [HF.out, HN.out, Pl.pfxN_on HM.out (by rw [HLW.out]; simpa using hle)]; congr 1; have := HN.out; omega, HV', below_drew (hbW.trans (hb5.mono hbW.size)) _⟩
              case measure => simp [intOf]; omega
        · have HR : Hid (Pl.pfxF ps = 4) := by
            refine hid ?_
            have h4 : Pl.pfx1 (Pl.pr ps k) = 4 := by rw [HPF.out, HRM.out, if_neg hrz]
            rw [HF.out, HN.out, Pl.pfxN_bad (by rw [h4]; decide), h4]
          have hd0 : (rm == 0) = false := by simpa using hrz
          clear hrz
          go_wp2_with (go_at_call 30; refine (In_any _ _ _ _).mono ?_; (first | rw [HOB.out] | rw [HOA.out]); rintro e w' ⟨rfl, rfl⟩)
          obtain ⟨W1, hW1⟩ : ∃ W1, W1 = wr.alloc (.cells #[.int .i64 p1, .int .i64 p2] 38) := ⟨_, rfl⟩
          have x0 : W1.cell? ⟨wr.heap.size, 0, none⟩ = some (.int .i64 p1) := by rw [hW1]; simp
          have x1 : W1.cell? ⟨wr.heap.size, 1, none⟩ = some (.int .i64 p2) := by rw [hW1]; simp
          have xs : wr.heap.size < W1.heap.size := by rw [hW1]; simp
          have hbW : Below w.heap.size w W1 := by rw [hW1]; exact hb.alloc hz _
          rw [← hW1]
          clear hW1
          have i0 := in_cell xs x0
          have i1 := in_cell xs x1
          have hne := in_some W1
          refine wp_region_in (by kernel_rfl) (by kernel_rfl) ?_
          repeat (go_big_quiet_step ((go_at_call 11; exact in_call (HCS.out _))))
          refine wpQuiet_nil ?_
          intro w5 hw'
          have hb5 := in_out hw'
          clear hw' i0 i1 hne
          go_wp2_with fail
          go_ret
          exact ⟨ret_int HR.out.symm, hbW.trans (hb5.mono hbW.size)⟩
      · have HR : Hid (Pl.pfxF ps = 2) := by
          refine hid ?_
          have h2 : Pl.pfx1 (Pl.pr ps k) = 2 := by
            rw [HP.out]; apply Pl.pfx1_out
            have h1 := HOB.out
            have h2 := HOA.out
            cases ob <;> cases oa <;> simp at hin h1 h2 ⊢ <;> omega
          rw [HF.out, HN.out, Pl.pfxN_bad (by rw [h2]; decide), h2]
        cases ob
        all_goals cases oa
        all_goals first | (exact absurd rfl hin) | skip
        all_goals
          go_wp2_with (go_at_call 30; refine (In_any _ _ _ _).mono ?_; (first | rw [HOB.out] | rw [HOA.out]); rintro e w' ⟨rfl, rfl⟩)
          go_ret
          exact ⟨ret_int HR.out.symm, hb.alloc hz _⟩
    · obtain rfl : k = len := by omega
      go_wp2
      go_ret
      exact ⟨ret_int (by rw [HF.out]; simp [Pl.pfxN]), hb⟩
end Go.Proofs.YtmdjbdolegojcaaGreatDoor
/-
  Contracts: the prefixes that a text tells: ReadPrefixes, the document's PrefixesOf; two lists of prefixes that are the same are told so.
-/
namespace Go.Proofs.YtmdjbdolegojcaaGreatDoor
open Go.RowKit
set_option maxRecDepth 20000

/-- what ReadPrefixes answers: the code, the prefixes -/
def Pl.rpC (l : List UInt8) : Int := match Pl.pairsL 47 l with
  | none => 4
  | some ps => Pl.pfxF ps
def Pl.rpS (l : List UInt8) : List (Int × Int) := if Pl.rpC l = 0 then (Pl.pairsL 47 l).getD [] else []
theorem infoPfx : (Tryz.prog.info? 38).map (fun i => (i.zero, i.size, i.bytes)) = some (some (.agg #[.int .i64 0, .int .i64 0]), 2, 16) := by kernel_rfl
theorem Pl.rpS_ok (l : List UInt8) : ∀ p ∈ Pl.rpS l, Pl.pairOk p := by
  intro p hp
  unfold Pl.rpS at hp
  split at hp
  · cases h : Pl.pairsL 47 l with
    | none => rw [h] at hp; simp at hp
    | some a =>
      rw [h] at hp
      exact (Pl.pairsL_facts (m := 47) (l := l) h).2 p hp
  · simp at hp
theorem Pl.pairsL_cut (m : UInt8) (l : List UInt8) : Pl.pairsL m l = Pl.pairsP m (Pl.cutsL l) := by
  unfold Pl.pairsL Pl.cutsL
  split <;> rfl
theorem Pl.lists_dropP (ks : List ByteArray) (k : Nat) (h : k < ks.length) : Pl.lists (ks.drop k) = ks[k].data.toList :: Pl.lists (ks.drop (k + 1)) := by
  rw [List.drop_eq_getElem_cons h]; rfl

set_option maxHeartbeats 2000000 in
theorem ReadPrefixes_any (s : ByteArray) (w : World) (hs : s.size ≤ 4398046511103) :
    Calls Tryz.prog 24 #[.string s] w fun e w' => ∃ vl : Value, e = .returned (.tuple #[vl, .int .i64 (Pl.rpC s.data.toList)]) ∧
      OwnP 38 w' w.heap.size vl (Pl.rpS s.data.toList) ∧ Below w.heap.size w w' := by
  obtain ⟨np, HP⟩ : ∃ x, Hid (Pl.pairsL 47 s.data.toList = x) := ⟨_, rfl⟩
  cases np with
  | none =>
    have HC : Hid (Pl.rpC s.data.toList = 4 ∧ Pl.rpS s.data.toList = []) := by
      have h : Pl.rpC s.data.toList = 4 := by unfold Pl.rpC; rw [HP.out]
      refine hid ⟨h, ?_⟩
      unfold Pl.rpS; rw [h]; rfl
    rw [HC.out.1, HC.out.2]
    go_enter Tryz.func24, Tryz.ntmps24
    go_wp2_with fail
    refine (readPairs_any s 47 _ (by omega)).mono ?_
    rw [HP.out]
    rintro e w2 ⟨v2, rfl, _, hb2⟩
    go_wp2_with fail
    go_ret2
    exact ⟨_, rfl, OwnP.nil _ _ _, hb2⟩
  | some ps =>
    obtain ⟨cc, HCC⟩ : ∃ x, Hid (Pl.pfxF ps = x) := ⟨_, rfl⟩
    have HC : Hid (Pl.rpC s.data.toList = cc ∧ (cc = 0 → Pl.rpS s.data.toList = ps) ∧ (cc ≠ 0 → Pl.rpS s.data.toList = [])) := by
      have h : Pl.rpC s.data.toList = cc := by unfold Pl.rpC; rw [HP.out]; exact HCC.out
      refine hid ⟨h, fun h0 => ?_, fun h0 => ?_⟩
      · unfold Pl.rpS; rw [h, h0, HP.out]; rfl
      · unfold Pl.rpS; rw [h, if_neg h0]
    have HFA := hid (Pl.pairsL_facts (m := 47) (l := s.data.toList) HP.out)
    rw [HC.out.1]
    go_enter Tryz.func24, Tryz.ntmps24
    go_wp2_with fail
    refine (readPairs_any s 47 _ (by omega)).mono ?_
    rw [HP.out]
    rintro e w2 ⟨v2, rfl, ho2, hb2⟩
    obtain ⟨a2, cap2, rfl, hp2, _, _⟩ := OwnP.shape (ps := ps) ho2 HFA.out.2
    have HP2 := hid hp2
    have hlen : ps.length ≤ s.size + 1 := by
      have h1 := HFA.out.1
      rw [sz_list] at h1
      omega
    have hcap := hp2.2.1
    have hmax := hp2.2.2.1
    unfold maxLen at hmax
    clear ho2 hp2
    go_wp2_with fail
    go_loopw [6, 19] (fun vl i wr => ∃ (k : Nat) (vv : Value), vv = vl ∧ k ≤ ps.length ∧ i = .int .i64 k ∧ Hid (OwnP 38 wr w2.heap.size vv (ps.take k)) ∧ Below w2.heap.size w2 wr) (fun _ i _ => ps.length - (intOf i).toNat)
    case atStart => exact ⟨0, _, rfl, Nat.zero_le _, rfl, hid (OwnP.nil _ _ _), Below.refl _ _⟩
    case round =>
      obtain ⟨k, vl, rfl, hk, rfl, HO, hb⟩ := hrel
      by_cases hlt : k < ps.length
      · obtain ⟨b, off, rfl, hbw, hr⟩ : ∃ b off, a2 = some ⟨b, off, none⟩ ∧ b < w2.heap.size ∧ PairsAt w2 b off ps := by
          rcases HP2.out.2.2.2.2 with rfl | h
          · simp at hlt
          · exact h
        obtain ⟨c0, c1⟩ := (hr.below hbw hb) k hlt
        have hz := hb.size
        have hbr : b < wr.heap.size := by omega
        clear hr
        obtain ⟨pp, hpp⟩ : ∃ pp, Hid (Pl.pr ps k = pp) := ⟨_, rfl⟩
        rw [hpp.out] at c0 c1
        have HO4 := hid (HO.out.below ((Below.refl wr.heap.size wr).alloc (Nat.le_refl _) (.cells #[.int .i64 pp.1, .int .i64 pp.2] 93)))
        have htk : (ps.take k).length = k := by simp; omega
        go_wp2_with (at_builtin; refine append_pairT Tryz.underlying35 infoPfx rfl (.tmp 23) (.tmp 29) rfl w2.heap.size vl (ps.take k) pp rfl HO4.out (by simp; omega) (by show Value.slice (some ⟨wr.heap.size + 1, 0, none⟩) 1 1 = _; simp) (by rw [htk]; omega) ?_; intro v5 w5 ho5 hb5 _; have HO5 := hid ho5; clear ho5)
        go_roundw
        case rel => exact ⟨k + 1, _, rfl, by omega, by go_num, hid (by show OwnP _ _ _ _ _; rw [Pl.take_pr ps k hlt, hpp.out]; exact HO5.out), (hb.alloc hz _).trans hb5⟩
        case measure => simp [intOf]; omega
      · obtain rfl : k = ps.length := by omega
        have HO' : Hid (OwnP 38 wr w2.heap.size vl ps) := by have h := HO.out; rw [List.take_length] at h; exact hid h
        obtain ⟨a3, cap3, rfl, hp3, _, _⟩ := OwnP.shape HO'.out HFA.out.2
        have HP3 := hid hp3
        clear hp3 HO
        have hbx : Below w.heap.size w wr := hb2.trans (hb.mono hb2.size)
        by_cases hc0 : cc = 0
        · subst hc0
          have HC' := hid (HC.out.2.1 rfl)
          clear HC
          go_wp2_with fail
          refine (CheckPrefixes_any _ _ _ ps _ HP3.out).mono ?_
          rw [HCC.out]
          rintro e w4 ⟨rfl, hb4⟩
          go_wp2_with fail
          go_ret2
          exact ⟨_, rfl, by rw [HC'.out]; exact OwnP.mono (HO'.out.below hb4) hb2.size, hbx.trans (hb4.mono hbx.size)⟩
        · have HC' := hid (HC.out.2.2 hc0)
          clear HC
          have hd0 : (cc == 0) = false := by simpa using hc0
          clear hc0
          go_wp2_with fail
          refine (CheckPrefixes_any _ _ _ ps _ HP3.out).mono ?_
          rw [HCC.out]
          rintro e w4 ⟨rfl, hb4⟩
          go_wp2_with fail
          go_ret2
          exact ⟨_, rfl, by rw [HC'.out]; exact OwnP.nil _ _ _, hbx.trans (hb4.mono hbx.size)⟩

set_option maxHeartbeats 2000000 in
theorem PrefixesOf_any (s : ByteArray) (w : World) (hs : s.size ≤ 4398046511103) :
    Calls Tryz.prog 34 #[.string s] w fun e w' => ∃ vl : Value, e = .returned (.tuple #[vl, .int .i64 (Pl.rpC s.data.toList)]) ∧
      OwnP 38 w' w.heap.size vl (Pl.rpS s.data.toList) ∧ Below w.heap.size w w' := by
  obtain ⟨np, HP⟩ : ∃ x, Hid (Pl.pairsL 47 s.data.toList = x) := ⟨_, rfl⟩
  obtain ⟨rc, HRC⟩ : ∃ x, Hid (Pl.rpC s.data.toList = x) := ⟨_, rfl⟩
  obtain ⟨rs, HRS⟩ : ∃ x, Hid (Pl.rpS s.data.toList = x) := ⟨_, rfl⟩
  rw [HRC.out, HRS.out]
  have HR0 : Hid (np = none → rc = 4 ∧ rs = []) := by
    refine hid fun h => ?_
    have hp := HP.out
    rw [h] at hp
    have h4 : Pl.rpC s.data.toList = 4 := by unfold Pl.rpC; rw [hp]
    refine ⟨HRC.out ▸ h4, ?_⟩
    rw [← HRS.out]; unfold Pl.rpS; rw [h4]; rfl
  have HR1 : Hid (∀ ps, np = some ps → rc = Pl.pfxF ps ∧ (rc = 0 → rs = ps) ∧ (rc ≠ 0 → rs = [])) := by
    refine hid fun ps h => ?_
    have hp := HP.out
    rw [h] at hp
    have h4 : Pl.rpC s.data.toList = Pl.pfxF ps := by unfold Pl.rpC; rw [hp]
    refine ⟨HRC.out ▸ h4, fun h0 => ?_, fun h0 => ?_⟩
    · rw [← HRS.out]; unfold Pl.rpS; rw [HRC.out, h0, hp]; rfl
    · rw [← HRS.out]; unfold Pl.rpS; rw [HRC.out, if_neg h0]
  go_enter Tryz.func34, Tryz.ntmps34
  go_wp2_with fail
  refine (cuts_any s _ (by omega)).mono ?_
  rintro e w2 ⟨vk, ks, rfl, hok, hks, hkz, hkl, hb2⟩
  obtain ⟨ak, kcap, rfl, hkc, hkm, hkr⟩ := OwnT.shape hok
  clear hok
  have HKR := hid hkr
  clear hkr
  have HKZ : Hid (∀ x ∈ ks, x.size ≤ maxLen) := hid fun x hx => by have := hkz x hx; unfold maxLen; omega
  clear hkz
  unfold maxLen at hkm
  have HNP : Hid (np = Pl.pairsP 47 (Pl.lists ks)) := hid (by rw [← HP.out, Pl.pairsL_cut, hks])
  clear hks
  go_wp2_with fail
  go_loopw [4, 6] (fun vl i wr => ∃ (k : Nat) (vv : Value) (acc : List (Int × Int)), vv = vl ∧ k ≤ ks.length ∧ i = .int .i64 k ∧ Hid (acc.length = k) ∧ Hid (np = Pl.andThen acc (Pl.pairsP 47 (Pl.lists (ks.drop k)))) ∧ Hid (OwnP 38 wr w2.heap.size vv acc) ∧ Below w2.heap.size w2 wr) (fun _ i _ => ks.length - (intOf i).toNat)
  case atStart => exact ⟨0, _, [], rfl, Nat.zero_le _, rfl, hid rfl, hid (by rw [HNP.out]; cases h : Pl.pairsP 47 (Pl.lists ks) <;> simp [Pl.andThen, h]), hid (OwnP.nil _ _ _), Below.refl _ _⟩
  case round =>
    obtain ⟨k, vl, acc, rfl, hk, rfl, hak, HN, HO, hb⟩ := hrel
    have hz := hb.size
    have hbx : Below w.heap.size w wr := hb2.trans (hb.mono hb2.size)
    by_cases hlt : k < ks.length
    · obtain ⟨b, rfl, hbase, hbw, hcell⟩ : ∃ b, ak = some ⟨b, 0, none⟩ ∧ w.heap.size ≤ b ∧ b < w2.heap.size ∧ ∀ (i : Nat) (hi : i < ks.length), w2.cell? ⟨b, 0 + i, none⟩ = some (.string ks[i]) := by
        rcases HKR.out with rfl | h
        · simp at hlt
        · exact h
      have hbr : b < wr.heap.size := by omega
      have hc0 : wr.cell? ⟨b, 0 + k, none⟩ = some (.string ks[k]) := (hb.cell (p := ⟨b, 0 + k, none⟩) hbw).trans (hcell k hlt)
      clear hcell
      rw [Nat.zero_add] at hc0
      have HKK := hid (HKZ.out ks[k] (List.getElem_mem hlt))
      obtain ⟨q, HQ⟩ : ∃ x, Hid (Pl.pairL 47 ks[k].data.toList = x) := ⟨_, hid rfl⟩
      obtain ⟨kk, HKE⟩ : ∃ x, Hid (ks[k] = x) := ⟨_, hid rfl⟩
      rw [HKE.out] at hc0 HKK HQ
      cases q with
      | none =>
        have HNN := hid (HR0.out (by rw [HN.out, Pl.lists_dropP ks k hlt, HKE.out, Pl.pairsP_none HQ.out]; rfl))
        go_wp2_with fail
        refine (pairOf_any kk 47 _ HKK.out).mono ?_
        rw [HQ.out]
        rintro e w3 ⟨x, y, rfl, _, rfl⟩
        go_wp2_with fail
        go_ret2
        exact ⟨_, by rw [HNN.out.1]; rfl, by rw [HNN.out.2]; exact OwnP.nil _ _ _, hbx⟩
      | some p =>
        have HNN : Hid (np = Pl.andThen (acc ++ [p]) (Pl.pairsP 47 (Pl.lists (ks.drop (k + 1))))) := hid (by rw [HN.out, Pl.lists_dropP ks k hlt, HKE.out, Pl.pairsP_some HQ.out])
        go_wp2_with fail
        refine (pairOf_any kk 47 _ HKK.out).mono ?_
        rw [HQ.out]
        rintro e w3 ⟨x, y, rfl, hxy, rfl⟩
        obtain rfl := hxy p rfl
        clear hxy
        go_wp2_with (at_builtin; refine append_pairT Tryz.underlying35 infoPfx rfl (.tmp 30) (.tmp 34) rfl w2.heap.size vl acc (x, y) rfl HO.out hz rfl (by have := hak.out; omega) ?_; intro v5 w5 ho5 hb5 _; have HO5 := hid ho5; clear ho5)
        go_roundw
        case rel => exact ⟨k + 1, _, acc ++ [(x, y)], rfl, by omega, by go_num, hid (by simp [hak.out]), HNN, HO5, hb.trans hb5⟩
        case measure => simp [intOf]; omega
    · obtain rfl : k = ks.length := by omega
      have HNP' : Hid (np = some acc) := hid (by rw [HN.out]; simp [Pl.lists, Pl.pairsP, Pl.andThen])
      have HR := hid (HR1.out acc HNP'.out)
      have HOK : Hid (∀ p ∈ acc, Pl.pairOk p) := hid fun p hp => Pl.pairOk_of (Pl.pairsP_ok (m := 47) (ps := Pl.lists ks) (a := acc) (by rw [← HNP.out, HNP'.out]) p hp)
      obtain ⟨a3, cap3, rfl, hp3, _, _⟩ := OwnP.shape HO.out HOK.out
      have HP3 := hid hp3
      clear hp3
      obtain ⟨cc, HCC⟩ : ∃ x, Hid (Pl.pfxF acc = x) := ⟨_, rfl⟩
      obtain rfl : rc = cc := by rw [HR.out.1, HCC.out]
      by_cases hc0 : rc = 0
      · subst hc0
        have HR' := hid (HR.out.2.1 rfl)
        clear HR HR0 HR1
        go_wp2_with fail
        refine (PrefixesFault_any _ _ _ acc _ HP3.out).mono ?_
        rw [HCC.out]
        rintro e w4 ⟨rfl, hb4⟩
        go_wp2_with fail
        go_ret2
        exact ⟨_, rfl, by rw [HR'.out]; exact OwnP.mono (HO.out.below hb4) hb2.size, hbx.trans (hb4.mono hbx.size)⟩
      · have HR' := hid (HR.out.2.2 hc0)
        clear HR HR0 HR1
        have hd0 : (rc == 0) = false := by simpa using hc0
        clear hc0
        go_wp2_with fail
        refine (PrefixesFault_any _ _ _ acc _ HP3.out).mono ?_
        rw [HCC.out]
        rintro e w4 ⟨rfl, hb4⟩
        go_wp2_with fail
        go_ret2
        exact ⟨_, rfl, by rw [HR'.out]; exact OwnP.nil _ _ _, hbx.trans (hb4.mono hbx.size)⟩

end Go.Proofs.YtmdjbdolegojcaaGreatDoor
/-
  Contracts: where a node tells of its prefixes (PrefixesKey), and what it tells (ToldPrefixes).
-/
namespace Go.Proofs.YtmdjbdolegojcaaGreatDoor
open Go.RowKit
set_option maxRecDepth 20000

/-- the prefixes that a node tells -/
def Pl.tP (es : List Pl.Ent) (n : Nat) : List (Int × Int) := Pl.rpS (Pl.gotE es (Pl.pfxKey n)).val.data.toList
theorem Pl.tP_none {es : List Pl.Ent} {n : Nat} (h : Pl.gotC es (Pl.pfxKey n) ≠ 0) : Pl.tP es n = [] := by
  have e : Pl.gotE es (Pl.pfxKey n) = Pl.Ent.none := by
    unfold Pl.gotC at h
    unfold Pl.gotE
    by_cases hf : Pl.fault es = 0
    · rw [if_pos hf] at h ⊢
      by_cases ht : Pl.there es (Pl.pfxKey n)
      · rw [if_pos ht] at h; exact absurd rfl h
      · rw [if_neg ht]
    · rw [if_neg hf]
  unfold Pl.tP
  rw [e]
  decide

set_option maxHeartbeats 1000000 in
theorem PrefixesKey_any (n : Int) (w : World) (h0 : 0 ≤ n) (h1 : n ≤ 1000) (hT : Tab w) :
    Calls Tryz.prog 23 #[.int .i64 n] w fun e w' => e = .returned (.string (Pl.pfxKey n)) ∧ Below w.heap.size w w' := by
  have HT := hid hT
  have hz := Pl.dec_le n h0 h1
  clear hT
  have HIT := hid (Itoa_any n w h0 (by omega) HT.out)
  have HK : Hid (Pl.pfxKey n = ⟨#[112, 58]⟩ ++ Pl.dec n) := hid rfl
  generalize Pl.dec n = s at *
  go_enter Tryz.func23, Tryz.ntmps23
  go_wp2_with fail
  refine HIT.out.mono ?_
  rintro e w1 ⟨rfl, hb1⟩
  go_wp2_with fail
  go_ret
  exact ⟨by rw [HK.out]; rfl, hb1⟩

set_option maxHeartbeats 1000000 in
theorem ToldPrefixes_any (a : Option Addr) (len cap : Nat) (es : List Pl.Ent) (n : Nat) (w : World) (h : IsEnts w a len cap es) (h1 : n < 12) (hT : Tab w) :
    Calls Tryz.prog 8 #[.slice a len cap, .int .i64 (n : Int)] w fun e w' => ∃ vl : Value, e = .returned vl ∧
      OwnP 38 w' w.heap.size vl (Pl.tP es n) ∧ Below w.heap.size w w' := by
  have HH := hid h
  have HT := hid hT
  clear h hT
  have hvz : (Pl.gotE es (Pl.pfxKey n)).val.size ≤ 120 := Pl.gotE_val _ _
  obtain ⟨g, HG⟩ : ∃ g, Hid (Pl.gotE es (Pl.pfxKey n) = g) := ⟨_, hid rfl⟩
  have HV : Hid (Pl.tP es n = Pl.rpS g.val.data.toList) := hid (by unfold Pl.tP; rw [HG.out])
  rw [HG.out] at hvz
  rw [HV.out]
  obtain ⟨gk, gv, go, gx⟩ := g
  simp only at hvz ⊢
  have hdec : decide (0 ≤ (n : Int) ∧ (n : Int) ≤ 11) = true := by simp; omega
  obtain ⟨rc, HRC⟩ : ∃ x, Hid (Pl.rpC gx.data.toList = x) := ⟨_, hid rfl⟩
  obtain ⟨rs, HRS⟩ : ∃ x, Hid (Pl.rpS gx.data.toList = x) := ⟨_, hid rfl⟩
  rw [HRS.out]
  go_enter Tryz.func8, Tryz.ntmps8
  go_wp2_with (go_at_call 17; refine (isNode_any _ _).mono ?_; rw [hdec]; rintro e w' ⟨rfl, hw'⟩; rw [hw']; clear hw' w')
  refine (PrefixesKey_any n _ (by omega) (by omega) HT.out).mono ?_
  rintro e w1 ⟨rfl, hb1⟩
  go_wp2_with fail
  refine (Get_any _ _ _ es (Pl.pfxKey n) _ (HH.out.below hb1)).mono ?_
  rw [HG.out]
  rintro e w2 ⟨rfl, hb2⟩
  have HB2 : Hid (Below w.heap.size w w2) := hid (hb1.trans (hb2.mono hb1.size))
  have HBA : Hid (Below w.heap.size w (w2.alloc (.cells #[.string gk, .int .i64 gv, .int .i64 go, .string gx] 60))) := hid (HB2.out.alloc HB2.out.size _)
  clear hb1 hb2
  go_wp2_with fail
  refine (ReadPrefixes_any gx _ (by omega)).mono ?_
  rw [HRC.out, HRS.out]
  rintro e w3 ⟨v3, rfl, ho3, hb3⟩
  go_wp2_with fail
  go_ret
  exact ⟨v3, rfl, ho3.mono HBA.out.size, HBA.out.trans (hb3.mono HBA.out.size)⟩
end Go.Proofs.YtmdjbdolegojcaaGreatDoor
/-
  Plain: the table of a node, of a store: it may be, and what stands at each prefix of it; no program in sight.
-/
namespace Go.Proofs.YtmdjbdolegojcaaGreatDoor
open Go.RowKit
set_option maxRecDepth 20000

theorem Pl.pfxN_good (ps : List (Int × Int)) : ∀ n i, i + n = ps.length → Pl.pfxN ps n i = 0 → ∀ j, i ≤ j → j < ps.length → Pl.pfx1 (Pl.pr ps j) = 0 ∧ (0 < j → Pl.pfxLow (Pl.pr ps (j - 1)) (Pl.pr ps j) = false)
  | 0, i, h, _, j, h1, h2 => by omega
  | n + 1, i, h, h0, j, h1, h2 => by
    by_cases g : Pl.pfx1 (Pl.pr ps i) = 0
    · cases i with
      | zero =>
        rw [Pl.pfxN_first g] at h0
        rcases Nat.eq_or_lt_of_le h1 with e | h1
        · subst e; exact ⟨g, fun h => by omega⟩
        · exact Pl.pfxN_good ps n 1 (by omega) h0 j h1 h2
      | succ m =>
        cases k : Pl.pfxLow (Pl.pr ps m) (Pl.pr ps (m + 1))
        · rw [Pl.pfxN_on g k] at h0
          rcases Nat.eq_or_lt_of_le h1 with e | h1
          · subst e; exact ⟨g, fun _ => k⟩
          · exact Pl.pfxN_good ps n (m + 1 + 1) (by omega) h0 j h1 h2
        · rw [Pl.pfxN_low g k] at h0; cases h0
    · rw [Pl.pfxN_bad g] at h0; exact absurd h0 g
theorem Pl.pfxF_good {ps : List (Int × Int)} (h : Pl.pfxF ps = 0) : ps.length ≤ 6 ∧ (∀ p ∈ ps, Pl.pfx1 p = 0) ∧ ps.Pairwise (fun p q => Pl.pltB p q = true) := by
  by_cases hl : ps.length ≤ 6
  · rw [Pl.pfxF_from hl] at h
    have g := Pl.pfxN_good ps ps.length 0 (by omega) h
    have h1 : ∀ p ∈ ps, Pl.pfx1 p = 0 := fun p hp => by
      obtain ⟨i, hi, rfl⟩ := List.getElem_of_mem hp
      rw [← Pl.pr_eq ps i hi]; exact (g i (by omega) hi).1
    refine ⟨hl, h1, List.pairwise_iff_getElem.2 fun i j hi hj hij => ?_⟩
    rw [← Pl.pr_eq ps i hi, ← Pl.pr_eq ps j hj]
    induction j with
    | zero => omega
    | succ m ih =>
      have hs : Pl.pltB (Pl.pr ps m) (Pl.pr ps (m + 1)) = true := by
        have g1 := (g (m + 1) (by omega) hj).2 (by omega)
        have a1 := Pl.pfx1_zero (g m (by omega) (by omega)).1
        have a2 := Pl.pfx1_zero (g (m + 1) (by omega) hj).1
        unfold Pl.pfxLow at g1
        rw [Pl.pltB_iff]
        simp at g1
        omega
      rcases Nat.lt_or_ge i m with q | q
      · exact Pl.pltB_trans (ih (by omega) q) hs
      · obtain rfl : i = m := by omega
        exact hs
  · rw [Pl.pfxF_size (by omega)] at h; cases h
theorem Pl.rpS_good (l : List UInt8) : (Pl.rpS l).length ≤ 6 ∧ (∀ p ∈ Pl.rpS l, Pl.pfx1 p = 0) ∧ (Pl.rpS l).Pairwise (fun p q => Pl.pltB p q = true) := by
  unfold Pl.rpS
  split
  · rename_i h
    unfold Pl.rpC at h
    cases hq : Pl.pairsL 47 l with
    | none => simp
    | some ps => rw [hq] at h; exact Pl.pfxF_good h
  · simp
theorem Pl.rpS_nodup (l : List UInt8) : (Pl.rpS l).Nodup := (Pl.rpS_good l).2.2.imp fun h => Pl.pltB_ne h
/-- links, none from a node to itself -/
def Pl.lnkX (ps : Nat → List (Int × Int)) (a b : Nat) : Int := if a = b then 0 else Pl.lnk ps a b
theorem Pl.lnk_le (es : List Pl.Ent) (a b : Nat) : 0 ≤ Pl.lnk (Pl.tS es) a b ∧ Pl.lnk (Pl.tS es) a b ≤ 1000 := by
  unfold Pl.lnk
  split
  · exact Pl.say_le (Pl.adjS_up _).ok b
  · omega
/-- what it costs to go to each node, and over which hops -/
def Pl.wC (es : List Pl.Ent) (f n : Nat) : Int := (Pl.dIter (Pl.lnk (Pl.tS es)) (Pl.tD es) f 12).cost n
def Pl.wH (es : List Pl.Ent) (f n : Nat) : List Int := Pl.hopsL ((Pl.dIter (Pl.lnk (Pl.tS es)) (Pl.tD es) f 12).hops n) 12
/-- what ways are -/
theorem Pl.wC_self (es : List Pl.Ent) {f : Nat} (hf : f < 12) : Pl.wC es f f = 0 :=
  Pl.from_cost (L := Pl.lnkX (Pl.tS es)) (fun a b h => by unfold Pl.lnkX; rw [if_neg h]) (fun a => by unfold Pl.lnkX; rw [if_pos rfl]) hf
theorem Pl.wC_min (es : List Pl.Ent) {f n : Nat} (hf : f < 12) (hn : n ≠ f) : Pl.IsMin (fun c => ∃ k, Pl.Way (Pl.lnkX (Pl.tS es)) (Pl.tD es) f k n c) (Pl.wC es f n) :=
  Pl.found_min (fun a b h => by unfold Pl.lnkX; rw [if_neg h]) (fun a => by unfold Pl.lnkX; rw [if_pos rfl]) hf hn
theorem Pl.mem_wH (es : List Pl.Ent) {f : Nat} (n : Nat) (hf : f < 12) (x : Int) : x ∈ Pl.wH es f n ↔ ∃ k : Nat, x = (k : Int) ∧ Pl.Way (Pl.lnkX (Pl.tS es)) (Pl.tD es) f k n (Pl.wC es f n) := by
  unfold Pl.wH
  rw [Pl.mem_hopsL]
  have key := fun k => Pl.found_hops (L := Pl.lnkX (Pl.tS es)) (M := Pl.lnk (Pl.tS es)) (D := Pl.tD es) (f := f) (fun a b h => by unfold Pl.lnkX; rw [if_neg h]) (fun a => by unfold Pl.lnkX; rw [if_pos rfl]) hf n k
  constructor
  · rintro ⟨j, _, h2, h3⟩; exact ⟨j, h2, (key j).1 h3⟩
  · rintro ⟨j, h2, h3⟩; exact ⟨j, h3.klt.1, h2, (key j).2 h3⟩
theorem Pl.wC_bound (es : List Pl.Ent) (f n : Nat) : -1 ≤ Pl.wC es f n ∧ Pl.wC es f n ≤ 12000 := by
  have := Pl.CB.iter (L := Pl.lnk (Pl.tS es)) (D := Pl.tD es) (f := f) (fun a b => (Pl.lnk_le es a b).2) 12 n
  unfold Pl.wC; omega
theorem Pl.wH_self (es : List Pl.Ent) {f : Nat} (hf : f < 12) : Pl.wH es f f = [] := by
  cases h : Pl.wH es f f with
  | nil => rfl
  | cons x xs =>
    have hx : x ∈ Pl.wH es f f := by rw [h]; simp
    obtain ⟨k, _, hw⟩ := (Pl.mem_wH es f hf x).1 hx
    exact absurd rfl hw.ne
theorem Pl.wC_pos (es : List Pl.Ent) {f n : Nat} (hf : f < 12) (hn : n ≠ f) (h : 0 ≤ Pl.wC es f n) : 0 < Pl.wC es f n ∧ Pl.wH es f n ≠ [] := by
  rcases Pl.wC_min es hf hn with ⟨e, _⟩ | ⟨_, ⟨k, hk⟩, _⟩
  · omega
  · refine ⟨hk.pos, fun e => ?_⟩
    have := (Pl.mem_wH es n hf (k : Int)).2 ⟨k, rfl, hk⟩
    rw [e] at this; simp at this
/-- the table of a node, of a store that may be -/
def Pl.tabL (es : List Pl.Ent) (f : Nat) : List Pl.Rt := Pl.tabK (Pl.wC es f) (Pl.wH es f) (Pl.tP es) f 12
theorem Pl.tab_WP (es : List Pl.Ent) {f : Nat} (hf : f < 12) : Pl.WP (Pl.wC es f) (Pl.wH es f) (Pl.tP es) f := by
  intro n hn hc p hp
  have hp1 := (Pl.rpS_good _).2.1 p hp
  have hb := Pl.wC_bound es f n
  by_cases e : n = f
  · subst e
    have h1 := Pl.wC_self es hf
    have h2 := Pl.wH_self es hf
    refine ⟨(Pl.routeB_iff _).2 ⟨hp1, ?_, ?_, ?_⟩, ?_⟩
    · show 0 ≤ Pl.wC es n n ∧ _; simp [Pl.mkR, h1]
    · simp [Pl.mkR, h1, h2]
    · show Pl.hopsB (Pl.wH es n n) = true; rw [h2]; rfl
    · simp [Pl.mkR, h1]
  · obtain ⟨h1, h2⟩ := Pl.wC_pos es hf e hc
    have hne : decide ((n : Int) = (f : Int)) = false := by simp; omega
    refine ⟨(Pl.routeB_iff _).2 ⟨hp1, ?_, ?_, ?_⟩, ?_⟩
    · show 0 ≤ Pl.wC es f n ∧ Pl.wC es f n ≤ 1048576; omega
    · simp only [Pl.mkR, hne]; simpa using h2
    · exact Pl.hopsL_B _ (Nat.le_refl _)
    · simp only [Pl.mkR, hne]
      symm; simp; omega
theorem Pl.tabL_good (es : List Pl.Ent) {f : Nat} (hf : f < 12) : Pl.GoodT (Pl.tabL es f) ∧ ∀ r ∈ Pl.tabL es f, Pl.okR r :=
  Pl.tabK_good (Pl.tab_WP es hf) (fun _ => Pl.rpS_nodup _) (fun _ => (Pl.rpS_good _).1) 12 (Nat.le_refl _)
theorem Pl.tabL_fault (es : List Pl.Ent) {f : Nat} (hf : f < 12) : Pl.tabF (Pl.tabL es f) = 0 := (Pl.goodT_iff _).2 (Pl.tabL_good es hf).1
theorem Pl.tabL_get (es : List Pl.Ent) (f : Nat) (q : Int × Int) : Pl.getR (Pl.tabL es f) q = Pl.getT (Pl.wC es f) (Pl.wH es f) (Pl.tP es) f q 12 :=
  Pl.tabK_get (fun _ => Pl.rpS_nodup _) q 12
end Go.Proofs.YtmdjbdolegojcaaGreatDoor
/-
  Contract: the document's dec: a number's digits.
-/
namespace Go.Proofs.YtmdjbdolegojcaaGreatDoor
open Go.RowKit
set_option maxRecDepth 20000

theorem Pl.dec_small {n : Nat} (h : n < 10) : Pl.dec (n : Int) = ⟨#[UInt8.ofNat (48 + n)]⟩ := by
  unfold Pl.dec
  rw [Lib.itoa_nonneg, Lib.decDigits_one h]
theorem Pl.dec_great {n : Nat} (h : ¬ n < 10) : Pl.dec (n : Int) = Pl.dec ((n / 10 : Nat) : Int) ++ Pl.dec ((n % 10 : Nat) : Int) := by
  have h1 : Pl.dec ((n % 10 : Nat) : Int) = ⟨#[UInt8.ofNat (48 + n % 10)]⟩ := Pl.dec_small (by omega)
  rw [h1]
  unfold Pl.dec
  rw [Lib.itoa_nonneg, Lib.itoa_nonneg, Lib.decDigits, dif_neg h]
  apply ByteArray.ext
  simp [ByteArray.data_append]

set_option maxHeartbeats 1000000 in
theorem dec_any : ∀ (n : Nat) (w : World), n ≤ 100000 →
    Calls Tryz.prog 33 #[.int .i64 (n : Int)] w fun e w' => e = .returned (.string (Pl.dec (n : Int))) ∧ Below w.heap.size w w' := by
  intro n
  induction n using Nat.strongRecOn with
  | _ n ih =>
    intro w hn
    by_cases h10 : n < 10
    · have HD := hid (Pl.dec_small h10)
      obtain ⟨c, hc⟩ : ∃ c, c = UInt8.ofNat (48 + n) := ⟨_, rfl⟩
      rw [← hc] at HD
      have e : (c.toNat : Int) = 48 + (n : Int) := by
        rw [hc, UInt8.toNat_ofNat']; omega
      clear hc
      have hconv : (convert 101 9 (.slice (some ⟨w.heap.size, 0, none⟩) 1 1)).run Tryz.prog (w.alloc (.cells #[.int .u8 (48 + (n : Int))] 5)) = .ok (.string ⟨#[c]⟩) (w.alloc (.cells #[.int .u8 (48 + (n : Int))] 5)) := by
        have := run_convert_bytes_back (P := Tryz.prog) (w.alloc (.cells #[.int .u8 (48 + (n : Int))] 5)) 101 9 5 ⟨w.heap.size, 0, none⟩ 1 [c] Tryz.underlying101 Tryz.underlying5 Tryz.underlying9 ?_
        · simpa using this
        · intro j hj
          obtain rfl : j = 0 := by simpa using hj
          simp [add_none, e]
      clear e
      clear ih
      go_enter Tryz.func33, Tryz.ntmps33
      go_wp2_with fail
      go_ret
      exact ⟨by rw [HD.out]; rfl, (Below.refl _ _).alloc (Nat.le_refl _) _⟩
    · have HD := hid (Pl.dec_great h10)
      have hq : ((n : Int)).tdiv 10 = ((n / 10 : Nat) : Int) := by rw [Int.tdiv_eq_ediv_of_nonneg (by omega)]; omega
      have hr : ((n : Int)).tmod 10 = ((n % 10 : Nat) : Int) := by rw [Int.tmod_eq_emod_of_nonneg (by omega)]; omega
      have HQ := hid (ih (n / 10) (by omega))
      have HR := hid (ih (n % 10) (by omega))
      have hz1 := Pl.dec_size ((n / 10 : Nat) : Int) (by omega) (by omega)
      have hz2 := Pl.dec_size ((n % 10 : Nat) : Int) (by omega) (by omega)
      obtain ⟨s1, HS1⟩ : ∃ s, Hid (Pl.dec ((n / 10 : Nat) : Int) = s) := ⟨_, hid rfl⟩
      obtain ⟨s2, HS2⟩ : ∃ s, Hid (Pl.dec ((n % 10 : Nat) : Int) = s) := ⟨_, hid rfl⟩
      rw [HS1.out] at HQ hz1 HD
      rw [HS2.out] at HR hz2 HD
      have hn10 : ¬ (n : Int) < 10 := by omega
      obtain ⟨nq, hnq⟩ : ∃ c, c = n / 10 := ⟨_, rfl⟩
      obtain ⟨nr, hnr⟩ : ∃ c, c = n % 10 := ⟨_, rfl⟩
      have b1 : nq ≤ 100000 := by omega
      have b2 : nr ≤ 100000 := by omega
      rw [← hnq] at hq HQ
      rw [← hnr] at hr HR
      clear ih hnq hnr
      go_enter Tryz.func33, Tryz.ntmps33
      go_wp2_with fail
      refine (HQ.out _ b1).mono ?_
      rintro e w1 ⟨rfl, hb1⟩
      go_wp2_with fail
      refine (HR.out _ b2).mono ?_
      rintro e w2 ⟨rfl, hb2⟩
      go_wp2_with fail
      go_ret
      exact ⟨by rw [HD.out]; rfl, hb1.trans (hb2.mono hb1.size)⟩
end Go.Proofs.YtmdjbdolegojcaaGreatDoor
/-
  Slices of numbers and of routes in memory.
-/
namespace Go.Proofs.YtmdjbdolegojcaaGreatDoor
open Go.RowKit
set_option maxRecDepth 20000

/-- the cells of numbers, one behind the other -/
def IntsAt (w : World) (b off : Nat) (zs : List Int) : Prop := ∀ i, i < zs.length → w.cell? ⟨b, off + i, none⟩ = some (.int .i64 (Pl.nm zs i))
/-- a slice of numbers -/
def IsInts (w : World) (a : Option Addr) (len cap : Nat) (zs : List Int) : Prop :=
  zs.length = len ∧ len ≤ cap ∧ cap ≤ maxLen ∧ (a = none → cap = 0) ∧ (zs = [] ∨ ∃ b off, a = some ⟨b, off, none⟩ ∧ b < w.heap.size ∧ IntsAt w b off zs)
theorem IntsAt.below {w w' : World} {b off : Nat} {zs : List Int} (h : IntsAt w b off zs) (hb : b < w.heap.size) (k : Below w.heap.size w w') : IntsAt w' b off zs :=
  fun i hi => (k.cell (p := ⟨b, _, none⟩) hb).trans (h i hi)
theorem IsInts.below {w w' : World} {a : Option Addr} {len cap : Nat} {zs : List Int} (h : IsInts w a len cap zs) (k : Below w.heap.size w w') : IsInts w' a len cap zs := by
  obtain ⟨h1, h2, h3, h4, h5⟩ := h
  refine ⟨h1, h2, h3, h4, ?_⟩
  rcases h5 with h5 | ⟨b, off, rfl, hb, hr⟩
  · exact .inl h5
  · exact .inr ⟨b, off, rfl, Nat.lt_of_lt_of_le hb k.size, hr.below hb k⟩
theorem IsInts.nil (w : World) : IsInts w none 0 0 [] := ⟨rfl, Nat.le_refl _, by simp, fun _ => rfl, .inl rfl⟩

/-- a route as it lies in memory: its hops are a slice -/
structure Pl.RH where
  p : Int × Int
  here : Bool
  cost : Int
  ha : Option Addr
  hl : Nat
  hc : Nat
def Pl.RH.none : Pl.RH := ⟨(0, 0), false, 0, Option.none, 0, 0⟩
def Pl.rh (hs : List Pl.RH) (i : Nat) : Pl.RH := hs.getD i Pl.RH.none
theorem Pl.rh_eq (hs : List Pl.RH) (i : Nat) (h : i < hs.length) : Pl.rh hs i = hs[i] := by simp [Pl.rh, List.getD, h]
theorem Pl.rh_mem (hs : List Pl.RH) (i : Nat) (h : i < hs.length) : Pl.rh hs i ∈ hs := by rw [Pl.rh_eq hs i h]; exact List.getElem_mem h
theorem Pl.rh_cons_succ (e : Pl.RH) (es : List Pl.RH) (i : Nat) : Pl.rh (e :: es) (i + 1) = Pl.rh es i := by simp [Pl.rh]
theorem Pl.rh_cons_zero (e : Pl.RH) (es : List Pl.RH) : Pl.rh (e :: es) 0 = e := by simp [Pl.rh]

/-- the cells of routes, one behind the other -/
def RowsAt (w : World) (b off : Nat) (hs : List Pl.RH) : Prop := ∀ i, i < hs.length →
  w.cell? ⟨b, off + i * 5, none⟩ = some (.int .i64 (Pl.rh hs i).p.1) ∧ w.cell? ⟨b, off + i * 5 + 1, none⟩ = some (.int .i64 (Pl.rh hs i).p.2) ∧
  w.cell? ⟨b, off + i * 5 + 2, none⟩ = some (.bool (Pl.rh hs i).here) ∧ w.cell? ⟨b, off + i * 5 + 3, none⟩ = some (.int .i64 (Pl.rh hs i).cost) ∧
  w.cell? ⟨b, off + i * 5 + 4, none⟩ = some (.slice (Pl.rh hs i).ha (Pl.rh hs i).hl (Pl.rh hs i).hc)
/-- a slice of routes -/
def IsRows (w : World) (a : Option Addr) (len cap : Nat) (hs : List Pl.RH) : Prop :=
  hs.length = len ∧ len ≤ cap ∧ cap ≤ maxLen ∧ (a = none → cap = 0) ∧ (hs = [] ∨ ∃ b off, a = some ⟨b, off, none⟩ ∧ b < w.heap.size ∧ RowsAt w b off hs)
theorem RowsAt.below {w w' : World} {b off : Nat} {hs : List Pl.RH} (h : RowsAt w b off hs) (hb : b < w.heap.size) (k : Below w.heap.size w w') : RowsAt w' b off hs := by
  intro i hi
  obtain ⟨c0, c1, c2, c3, c4⟩ := h i hi
  exact ⟨(k.cell (p := ⟨b, _, none⟩) hb).trans c0, (k.cell (p := ⟨b, _, none⟩) hb).trans c1, (k.cell (p := ⟨b, _, none⟩) hb).trans c2, (k.cell (p := ⟨b, _, none⟩) hb).trans c3, (k.cell (p := ⟨b, _, none⟩) hb).trans c4⟩
theorem IsRows.below {w w' : World} {a : Option Addr} {len cap : Nat} {hs : List Pl.RH} (h : IsRows w a len cap hs) (k : Below w.heap.size w w') : IsRows w' a len cap hs := by
  obtain ⟨h1, h2, h3, h4, h5⟩ := h
  refine ⟨h1, h2, h3, h4, ?_⟩
  rcases h5 with h5 | ⟨b, off, rfl, hb, hr⟩
  · exact .inl h5
  · exact .inr ⟨b, off, rfl, Nat.lt_of_lt_of_le hb k.size, hr.below hb k⟩
/-- what a route in memory is -/
def Reads (w : World) (h : Pl.RH) (r : Pl.Rt) : Prop := h.p = r.p ∧ h.here = r.here ∧ h.cost = r.cost ∧ IsInts w h.ha h.hl h.hc r.hops ∧ Pl.pairOk r.p
theorem Reads.below {w w' : World} {h : Pl.RH} {r : Pl.Rt} (hh : Reads w h r) (k : Below w.heap.size w w') : Reads w' h r := ⟨hh.1, hh.2.1, hh.2.2.1, hh.2.2.2.1.below k, hh.2.2.2.2⟩
def ReadsAll (w : World) (hs : List Pl.RH) (rs : List Pl.Rt) : Prop := hs.length = rs.length ∧ ∀ i, i < hs.length → Reads w (Pl.rh hs i) (Pl.rt rs i)
theorem ReadsAll.below {w w' : World} {hs : List Pl.RH} {rs : List Pl.Rt} (h : ReadsAll w hs rs) (k : Below w.heap.size w w') : ReadsAll w' hs rs := ⟨h.1, fun i hi => (h.2 i hi).below k⟩
theorem ReadsAll.map_p {w : World} {hs : List Pl.RH} {rs : List Pl.Rt} (h : ReadsAll w hs rs) : hs.map Pl.RH.p = rs.map Pl.Rt.p := by
  refine List.ext_getElem (by simpa using h.1) fun i h1 h2 => ?_
  simp only [List.length_map] at h1 h2
  have := (h.2 i h1).1
  rw [Pl.rh_eq hs i h1, Pl.rt_eq rs i h2] at this
  simpa using this
theorem ReadsAll.nil (w : World) : ReadsAll w [] [] := ⟨rfl, fun i h => by simp at h⟩
theorem IsRows.at {w : World} {a : Option Addr} {len cap : Nat} {hs : List Pl.RH} (h : IsRows w a len cap hs) {k : Nat} (hk : k < len) : ∃ b off, a = some ⟨b, off, none⟩ ∧ b < w.heap.size ∧ RowsAt w b off hs := by
  rcases h.2.2.2.2 with e | h'
  · have := h.1; rw [e] at this; simp at this; omega
  · exact h'
theorem IsInts.at {w : World} {a : Option Addr} {len cap : Nat} {zs : List Int} (h : IsInts w a len cap zs) {k : Nat} (hk : k < len) : ∃ b off, a = some ⟨b, off, none⟩ ∧ b < w.heap.size ∧ IntsAt w b off zs := by
  rcases h.2.2.2.2 with e | h'
  · have := h.1; rw [e] at this; simp at this; omega
  · exact h'
end Go.Proofs.YtmdjbdolegojcaaGreatDoor
