/-
  Contracts and facts that the proof rests on, put together out of several texts.
-/
import Derived.WalkKit
import Derived.Test.YtjjelkdajdeikaaGreatDoorProg
import Derived.WalkLawsBesides
import Derived.WalkSpells
import Derived.Orders
import Derived.Deep.RegionWith
import Derived.Deep.QuietTactic
import Derived.BigQuiet
import Derived.Laws.AppendOwnNone
import Derived.OwnWalk
namespace Go.Proofs.YtjjelkdajdeikaaGreatDoor.Pl
def kb (n : Int) : Bool := decide (97 ≤ n ∧ n ≤ 122) || decide (48 ≤ n ∧ n ≤ 57) || decide (n = 58)
def kbs (l : List UInt8) : Bool := l.all fun c => kb (c.toNat : Int)
def keyB (s : ByteArray) : Bool := decide (1 ≤ s.size ∧ s.size ≤ 8) && kbs s.data.toList
theorem kbs_snoc (l : List UInt8) (c : UInt8) : kbs (l ++ [c]) = (kbs l && kb (c.toNat : Int)) := by
 simp [kbs, List.all_append]
theorem take_snoc (s : ByteArray) (k : Nat) (h : k < s.size) : s.data.toList.take (k + 1) = s.data.toList.take k ++ [s[k]] := by
 rw [List.take_succ_eq_append_getElem (by simpa using h)]; rfl
theorem kbs_take_succ (s : ByteArray) (k : Nat) (h : k < s.size) : kbs (s.data.toList.take (k + 1)) = (kbs (s.data.toList.take k) && kb (s[k].toNat : Int)) := by
 rw [take_snoc s k h, kbs_snoc]
theorem kbs_false_of (s : ByteArray) (k : Nat) (h : k < s.size) (hb : kb (s[k].toNat : Int) = false) : kbs s.data.toList = false := by
 rw [← List.take_append_drop (k + 1) s.data.toList]
 unfold kbs
 rw [List.all_append]
 have := kbs_take_succ s k h
 unfold kbs at this
 rw [this, hb]; simp
theorem keyB_false_of (s : ByteArray) (k : Nat) (h : k < s.size) (hb : kb (s[k].toNat : Int) = false) : keyB s = false := by
 unfold keyB; rw [kbs_false_of s k h hb]; simp
theorem keyB_false_of_size (s : ByteArray) (h : s.size < 1 ∨ 8 < s.size) : keyB s = false := by
 unfold keyB; rw [decide_eq_false (by omega)]; simp
theorem keyB_of_all (s : ByteArray) (h : kbs (s.data.toList.take s.size) = true) : keyB s = decide (1 ≤ s.size ∧ s.size ≤ 8) := by
 unfold keyB
 rw [List.take_of_length_le (by simp)] at h
 rw [h]; simp
end Go.Proofs.YtjjelkdajdeikaaGreatDoor.Pl
namespace Go.Proofs.YtjjelkdajdeikaaGreatDoor
open Go.RowKit
set_option maxRecDepth 20000
theorem hid {p : Prop} (h : p) : Hid p := h
theorem ret_bool {a b : Bool} (h : a = b) : Ending.returned (.bool a) = .returned (.bool b) := by rw [h]
theorem ret_int {k : IntKind} {a b : Int} (h : a = b) : Ending.returned (.int k a) = .returned (.int k b) := by rw [h]
theorem bcell {W w1 : World} (hb : Below W.heap.size W w1) : (∀ b o, b < W.heap.size → w1.cell? ⟨b, o, none⟩ = W.cell? ⟨b, o, none⟩) ∧ (∀ b o, b < W.heap.size → w1.frozen? ⟨b, o, none⟩ = W.frozen? ⟨b, o, none⟩) :=
 ⟨fun b o h => hb.cell (p := ⟨b, o, none⟩) h, fun b o h => hb.frozen (p := ⟨b, o, none⟩) h⟩
theorem add_none (b off k : Nat) : Addr.add ⟨b, off, none⟩ k = ⟨b, off + k, none⟩ := by
 unfold Addr.add; split <;> simp_all
theorem byte_le (c : UInt8) : (c.toNat : Int) ≤ 255 := by have := c.toNat_lt; omega
set_option maxHeartbeats 400000 in
theorem isKeyByte_any (n : Int) (w : World) (h0 : 0 ≤ n) (h1 : n ≤ 255) :
  Calls Tryz.prog 138 #[.int .u8 n] w fun e w' => e = .returned (.bool (Pl.kb n)) ∧ w' = w := by
 by_cases a1 : 97 ≤ n
 all_goals by_cases a2 : n ≤ 122
 all_goals by_cases a3 : 48 ≤ n
 all_goals by_cases a4 : n ≤ 57
 all_goals by_cases a5 : n = 58
 all_goals first | (exfalso; omega) | skip
 all_goals
  go_enter Tryz.func138, Tryz.ntmps138
  go_wp2
  go_ret
  exact ⟨ret_bool (by unfold Pl.kb; rw [Bool.eq_iff_iff]; simp <;> omega), rfl⟩
set_option maxHeartbeats 400000 in
theorem isNode_any (n : Int) (w : World) :
  Calls Tryz.prog 72 #[.int .i64 n] w fun e w' => e = .returned (.bool (decide (0 ≤ n ∧ n ≤ 11))) ∧ w' = w := by
 by_cases a1 : 0 ≤ n
 all_goals by_cases a2 : n < 12
 all_goals
  go_enter Tryz.func72, Tryz.ntmps72
  go_wp2
  go_ret
  exact ⟨ret_bool (by rw [Bool.eq_iff_iff]; simp; omega), rfl⟩
set_option maxHeartbeats 400000 in
theorem Key_any (s : ByteArray) (w : World) (hs : s.size ≤ maxLen) :
  Calls Tryz.prog 87 #[.string s] w fun e w' => e = .returned (.bool (Pl.keyB s)) ∧ w' = w := by
 unfold maxLen at hs
 by_cases h1 : s.size < 1
 ·go_enter Tryz.func87, Tryz.ntmps87
  go_wp2
  go_ret
  exact ⟨ret_bool (Pl.keyB_false_of_size s (by omega)).symm, rfl⟩
 by_cases h8 : 8 < s.size
 ·go_enter Tryz.func87, Tryz.ntmps87
  go_wp2
  go_ret
  exact ⟨ret_bool (Pl.keyB_false_of_size s (by omega)).symm, rfl⟩
 go_enter Tryz.func87, Tryz.ntmps87
 go_wp2
 go_loop [14] (fun i => ∃ k : Nat, k ≤ s.size ∧ i = .int .i64 k ∧ Hid (Pl.kbs (s.data.toList.take k) = true)) (fun i => s.size - (intOf i).toNat)
 case atStart => exact ⟨0, Nat.zero_le _, rfl, rfl⟩
 case round =>
  obtain ⟨k, hk, rfl, HK⟩ := hrel
  by_cases hlt : k < s.size
  ·cases hb : Pl.kb (s[k].toNat : Int)
   ·have HB : Hid (Pl.kb (s[k].toNat : Int) = false) := hb
    clear hb
    go_wp2_with (go_at_call 138; refine (isKeyByte_any _ _ (by omega) (byte_le _)).mono ?_; rw [HB.out]; rintro e w' ⟨rfl, rfl⟩)
    go_ret
    exact ⟨ret_bool (Pl.keyB_false_of s k hlt HB.out).symm, rfl⟩
   ·have HB : Hid (Pl.kb (s[k].toNat : Int) = true) := hb
    clear hb
    go_wp2_with (go_at_call 138; refine (isKeyByte_any _ _ (by omega) (byte_le _)).mono ?_; rw [HB.out]; rintro e w' ⟨rfl, rfl⟩)
    go_round
    case rel => exact ⟨k + 1, by omega, by go_num, by show _ = _; rw [Pl.kbs_take_succ s k hlt, HK.out, HB.out]; rfl⟩
    case measure => simp [intOf]; omega
  ·obtain rfl : k = s.size := by omega
   go_wp2
   go_ret
   exact ⟨ret_bool (by rw [Pl.keyB_of_all s HK.out]; simp; omega), rfl⟩
def left (n : Nat) (listed : Array Bool) : Nat := (List.range n).countP (fun j => !listed.getD j true)
theorem left_set {n i : Nat} {listed : Array Bool} (hi : i < n) (h : listed.getD i true = false) : left n (listed.setIfInBounds i true) + 1 ≤ left n listed := by
 unfold left
 have hs : ∀ j, j ≠ i → (listed.setIfInBounds i true).getD j true = listed.getD j true := fun j hj => getD_set_ne true (Ne.symm hj)
 have hi1 : (listed.setIfInBounds i true).getD i true = true := by
  have hlt : i < listed.size := by
   rcases Nat.lt_or_ge i listed.size with h' | h'
   ·exact h'
   ·simp [Array.getElem?_eq_none h'] at h
  simp [hlt]
 have key : ∀ m, (List.range m).countP (fun j => !(listed.setIfInBounds i true).getD j true) + (if i < m then 1 else 0) = (List.range m).countP (fun j => !listed.getD j true) := by
  intro m
  induction m with
  | zero => simp
  | succ m ih =>
   rw [List.range_succ, List.countP_append, List.countP_append, List.countP_singleton, List.countP_singleton]
   by_cases hm : m = i
   ·subst hm
    rw [hi1, h]
    rw [if_neg (Nat.lt_irrefl _)] at ih
    simp at ih ⊢
    exact ih
   ·rw [hs m hm]
    have e : (i < m + 1) ↔ (i < m) := by omega
    simp only [e]
    omega
 have := key n
 rw [if_pos hi] at this
 omega
theorem ready_none {md : Region.Mode} {ops : Array Oper} {listed : Array Bool} (h : left ops.size listed = 0) : Region.ready md ops listed = [] := by
 rw [List.eq_nil_iff_forall_not_mem]
 intro j hj
 rw [mem_ready] at hj
 obtain ⟨h0, o, ho, _⟩ := hj
 have hlt : j < ops.size := (Array.getElem?_eq_some_iff.1 ho).1
 unfold left at h
 rw [List.countP_eq_zero] at h
 have := h j (List.mem_range.2 hlt)
 rw [h0] at this
 simp at this
theorem wpAny_inv {P : Program} {md : Region.Mode} {ops : Array Oper} {Q : Exit → Act → World → Prop} (Inv : Array Bool → Act → World → Prop)
  (hstep : ∀ i listed a w, i ∈ Region.ready md ops listed → Inv listed a w → wpOp P ops Q i (Inv (listed.setIfInBounds i true)) a w)
  (hend : ∀ listed a w, Region.ready md ops listed = [] → Inv listed a w → Q .normal a w) :
  ∀ (fuel : Nat) (listed : Array Bool) (a : Act) (w : World), left ops.size listed ≤ fuel → Inv listed a w → wpAny P md ops Q fuel listed a w := by
 intro fuel
 induction fuel with
 | zero =>
  intro listed a w hf hI
  have hr := ready_none (md := md) (Nat.le_zero.1 hf)
  exact ⟨hr, hend _ _ _ hr hI⟩
 | succ fuel ih =>
  intro listed a w hf hI
  refine ⟨fun hr => hend _ _ _ hr hI, fun i hi => ?_⟩
  have hm := mem_ready.1 hi
  obtain ⟨h0, o, ho, _⟩ := hm
  have hlt : i < ops.size := (Array.getElem?_eq_some_iff.1 ho).1
  have hl := left_set hlt h0
  exact wpOp_mono (fun a' w' h => ih _ a' w' (by omega) h) (hstep i listed a w hi hI)
theorem all_listed {md : Region.Mode} {ops : Array Oper} {listed : Array Bool} (hb0 : (List.range ops.size).all (fun i => (ops[i]?.map (fun o => o.after.all (fun e => decide (e.on < i)))).getD true) = true) (hs : listed.size = ops.size) (hr : Region.ready md ops listed = []) :
  ∀ i, i < ops.size → listed.getD i false = true := by
 have hb : ∀ (i : Nat) (o : Oper), ops[i]? = some o → ∀ e ∈ o.after, e.on < i := by
  intro i o ho e he
  have hi : i < ops.size := (Array.getElem?_eq_some_iff.1 ho).1
  have := List.all_eq_true.1 hb0 i (List.mem_range.2 hi)
  rw [ho] at this
  simp only [Option.map_some, Option.getD_some] at this
  have := Array.all_eq_true_iff_forall_mem.1 this e he
  exact of_decide_eq_true this
 intro i
 induction i using Nat.strongRecOn with
 | _ i ih =>
  intro hi
  cases hl : listed.getD i false with
  | true => rfl
  | false =>
   exfalso
   have hm : i ∈ Region.ready md ops listed := by
    rw [mem_ready]
    refine ⟨?_, ops[i], Array.getElem?_eq_getElem hi, fun e he _ => ?_⟩
    ·have : i < listed.size := by omega
     simp [this] at hl ⊢
     exact hl
    ·have he' := hb i ops[i] (Array.getElem?_eq_getElem hi) e he
     exact ih e.on he' (by omega)
   rw [hr] at hm
   cases hm
def Closed (md : Region.Mode) (ops : Array Oper) (listed : Array Bool) : Prop :=
 ∀ (i : Nat) (o : Oper), ops[i]? = some o → listed.getD i false = true → ∀ e ∈ o.after, Region.binds md e = true → listed.getD e.on false = true
theorem set_stays {listed : Array Bool} {i k : Nat} (h : listed.getD k false = true) : (listed.setIfInBounds i true).getD k false = true := by
 by_cases e : i = k
 ·subst e
  have : i < listed.size := by
   rcases Nat.lt_or_ge i listed.size with h' | h'
   ·exact h'
   ·simp [Array.getElem?_eq_none h'] at h
  simp [this]
 ·rw [getD_set_ne false e]; exact h
theorem closed_step {md : Region.Mode} {ops : Array Oper} {listed : Array Bool} {i : Nat} (hi : i ∈ Region.ready md ops listed) (h : Closed md ops listed) : Closed md ops (listed.setIfInBounds i true) := by
 intro j o ho hj e he hb
 by_cases e' : i = j
 ·subst e'
  obtain ⟨_, o', ho', hall⟩ := mem_ready.1 hi
  rw [ho] at ho'
  cases ho'
  exact set_stays (hall e he hb)
 ·rw [getD_set_ne false e'] at hj
  exact set_stays (h j o ho hj e he hb)
theorem closed_start (md : Region.Mode) (ops : Array Oper) (n : Nat) : Closed md ops (Array.replicate n false) := by
 intro i o _ h
 rw [show (Array.replicate n false).getD i false = false from by by_cases hk' : i < n <;> simp [hk']] at h
 cases h
theorem wpAny_inv2 {P : Program} {md : Region.Mode} {ops : Array Oper} {Q : Exit → Act → World → Prop} (Inv : Array Bool → Act → World → Prop)
  (hstep : ∀ i listed a w, i ∈ Region.ready md ops listed → Closed md ops listed → Inv listed a w → wpOp P ops Q i (Inv (listed.setIfInBounds i true)) a w)
  (hend : ∀ listed a w, Region.ready md ops listed = [] → Inv listed a w → Q .normal a w)
  (fuel : Nat) (listed : Array Bool) (a : Act) (w : World) (hf : left ops.size listed ≤ fuel) (hI : Inv listed a w) (hC : Closed md ops listed) : wpAny P md ops Q fuel listed a w :=
 wpAny_inv (fun l a w => Inv l a w ∧ Closed md ops l) (fun i l a w hi h => wpOp_mono (fun _ _ h' => ⟨h', closed_step hi h.2⟩) (hstep i l a w hi h.2 h.1)) (fun l a w hr h => hend l a w hr h.1) fuel listed a w hf ⟨hI, hC⟩
theorem wpOp_of {P : Program} {ops : Array Oper} {Q : Exit → Act → World → Prop} {i : Nat} {o : Oper} {K : Act → World → Prop} {a : Act} {w : World}
  (h : ops[i]? = some o) (hg : o.guard = none) (hw : o.wp P a w K Q) : wpOp P ops Q i K a w := by
 unfold wpOp
 simp only [h]
 rw [if_pos (by simp [Region.wanted, hg])]
 exact .inl hw
theorem eval_ne {a : Act} {n m : Nat} {v : Value} (h : m ≠ n) : (a.put (some m) v).tmps[n]?.getD undef = a.tmps[n]?.getD undef := by
 simp [Act.put, Array.getElem?_setIfInBounds_ne h]
theorem eval_eq {a : Act} {m : Nat} {v : Value} (h : m < a.tmps.size) : (a.put (some m) v).tmps[m]?.getD undef = v := by
 simp [Act.put, h]
namespace Pl
def pk (n m : Int) : Int := (if n < 0 then -(n + 1) else n) % m
theorem pk_range (n m : Int) (h : 0 < m) : 0 ≤ pk n m ∧ pk n m < m := ⟨Int.emod_nonneg _ (by omega), Int.emod_lt_of_pos _ h⟩
end Pl
set_option maxHeartbeats 400000 in
theorem picked_any (n m : Int) (w : World) (h0 : -9223372036854775808 ≤ n) (h1 : n ≤ 9223372036854775807) (hm : 0 < m) (hm2 : m ≤ 9223372036854775807) :
  Calls Tryz.prog 19 #[.int .i64 n, .int .i64 m] w fun e w' => e = .returned (.int .i64 (Pl.pk n m)) ∧ w' = w := by
 have hmz : ¬ m = 0 := by omega
 have hmb : (m == 0) = false := by simp [hmz]
 by_cases hn : n < 0
 ·have HP : Hid (Pl.pk n m = -(n + 1) % m) := by show _ = _; unfold Pl.pk; rw [if_pos hn]
  have HR := hid (Pl.pk_range n m hm)
  go_enter Tryz.func19, Tryz.ntmps19
  go_wp2
  go_ret
  refine ⟨ret_int ?_, rfl⟩
  rw [HP.out, ← Int.neg_tmod, Int.tmod_eq_emod_of_nonneg (by omega)]
 ·have HP : Hid (Pl.pk n m = n % m) := by show _ = _; unfold Pl.pk; rw [if_neg hn]
  go_enter Tryz.func19, Tryz.ntmps19
  go_wp2
  go_ret
  refine ⟨ret_int ?_, rfl⟩
  rw [HP.out]
set_option maxHeartbeats 1000000 in
theorem Picked_any (n m : Int) (w : World) (h0 : -9223372036854775808 ≤ n) (h1 : n ≤ 9223372036854775807) (hm : 0 < m) (hm2 : m ≤ 9223372036854775807) :
  Calls Tryz.prog 28 #[.int .i64 n, .int .i64 m] w fun e w' => e = .returned (.int .i64 (Pl.pk n m)) ∧ w' = w := by
 go_enter Tryz.func28, Tryz.ntmps28
 go_wp2_with (go_at_call 19; refine (picked_any n m _ h0 h1 hm hm2).mono ?_; rintro e w' ⟨rfl, hw'⟩; rw [hw']; clear hw' w')
 go_ret
 exact ⟨rfl, rfl⟩
def setFrom (t : Array Value) (s : Nat) : List Value → Array Value
 | [] => t
 | x :: r => setFrom (t.setIfInBounds s x) (s + 1) r
theorem setFrom_out : ∀ (xs : List Value) (t : Array Value) (s k : Nat), (k < s ∨ s + xs.length ≤ k) → (setFrom t s xs)[k]? = t[k]?
 | [], _, _, _, _ => rfl
 | x :: r, t, s, k, h => by
  rw [setFrom, setFrom_out r _ (s + 1) k (by simp at h; omega), Array.getElem?_setIfInBounds_ne (by simp at h; omega)]
theorem setFrom_at : ∀ (xs : List Value) (t : Array Value) (s k : Nat), k < xs.length → s + k < t.size → (setFrom t s xs)[s + k]? = xs[k]?
 | [], _, _, _, h, _ => by simp at h
 | x :: r, t, s, 0, _, hb => by
  rw [setFrom, setFrom_out r _ (s + 1) (s + 0) (by omega)]
  simp at hb
  simp [hb]
 | x :: r, t, s, k + 1, h, hb => by
  have := setFrom_at r (t.setIfInBounds s x) (s + 1) k (by simpa using h) (by simp; omega)
  rw [setFrom, show s + (k + 1) = s + 1 + k by omega, this]
  simp
theorem setFrom_comm : ∀ (xs : List Value) (t : Array Value) (s j : Nat) (v : Value), j < s → setFrom (t.setIfInBounds j v) s xs = (setFrom t s xs).setIfInBounds j v
 | [], _, _, _, _, _ => rfl
 | x :: r, t, s, j, v, h => by
  rw [setFrom, setFrom, Array.setIfInBounds_comm _ _ (by omega), setFrom_comm r _ (s + 1) j v (by omega)]
theorem setFrom_set : ∀ (xs : List Value) (t : Array Value) (s k : Nat) (v : Value), k < xs.length → (setFrom t s xs).setIfInBounds (s + k) v = setFrom t s (xs.set k v)
 | [], _, _, _, _, h => by simp at h
 | x :: r, t, s, 0, v, _ => by
  rw [List.set_cons_zero, setFrom, setFrom, ← setFrom_comm r _ (s + 1) (s + 0) v (by omega)]
  congr 1
  simp
 | x :: r, t, s, k + 1, v, h => by
  rw [List.set_cons_succ, setFrom, setFrom, show s + (k + 1) = s + 1 + k by omega, setFrom_set r _ (s + 1) k v (by simpa using h)]
theorem setFrom_self : ∀ (n : Nat) (t : Array Value) (s : Nat), s + n ≤ t.size → ∃ xs : List Value, xs.length = n ∧ setFrom t s xs = t
 | 0, t, _, _ => ⟨[], rfl, rfl⟩
 | n + 1, t, s, h => by
  obtain ⟨xs, h1, h2⟩ := setFrom_self n t (s + 1) (by omega)
  refine ⟨t[s] :: xs, by simp [h1], ?_⟩
  rw [setFrom]
  have : t.setIfInBounds s t[s] = t := by
   apply Array.ext
   ·simp
   ·intro i h1 h2
    rw [Array.getElem_setIfInBounds]
    split
    ·rename_i e; subst e; rfl
    ·rfl
  rw [this, h2]
structure DInv (a0 : Act) (s n m : Nat) (off : Nat → Option Nat) (V : Nat → Value) (C : World → Prop) (listed : Array Bool) (a : Act) (w : World) : Prop where
 ls : listed.size = m
 fr : ∃ xs : List Value, xs.length = n ∧ a = { a0 with tmps := setFrom a0.tmps s xs } ∧ ∀ k j, off k = some j → listed.getD k false = true → xs.getD j undef = V j
 cw : C w
theorem DInv.put {a0 : Act} {s n m : Nat} {off : Nat → Option Nat} {V : Nat → Value} {C : World → Prop} {listed : Array Bool} {a : Act} {w w' : World} {i j : Nat} {v : Value}
  (h : DInv a0 s n m off V C listed a w) (ho : off i = some j) (hj : j < n) (hv : v = V j) (hc : C w') : DInv a0 s n m off V C (listed.setIfInBounds i true) (a.put (some (s + j)) v) w' := by
 subst hv
 obtain ⟨xs, hl, rfl, hf⟩ := h.fr
 refine ⟨by simp [h.ls], ⟨xs.set j (V j), by simp [hl], ?_, ?_⟩, hc⟩
 ·show ({ a0 with tmps := (setFrom a0.tmps s xs).setIfInBounds (s + j) (V j) } : Act) = _
  rw [setFrom_set xs a0.tmps s j (V j) (by omega)]
 ·intro k q hk hlk
  by_cases e : q = j
  ·subst e
   simp [List.getD, hl, hj]
  ·have e' : i ≠ k := by rintro rfl; rw [ho] at hk; cases hk; exact e rfl
   rw [getD_set_ne false e'] at hlk
   have : (xs.set j (V j)).getD q undef = xs.getD q undef := by simp [List.getD, List.getElem?_set_ne (Ne.symm e)]
   rw [this]; exact hf k q hk hlk
theorem DInv.skip {a0 : Act} {s n m : Nat} {off : Nat → Option Nat} {V : Nat → Value} {C : World → Prop} {listed : Array Bool} {a : Act} {w w' : World} {i : Nat}
  (h : DInv a0 s n m off V C listed a w) (ho : off i = none) (hc : C w') : DInv a0 s n m off V C (listed.setIfInBounds i true) a w' := by
 obtain ⟨xs, hl, rfl, hf⟩ := h.fr
 refine ⟨by simp [h.ls], ⟨xs, hl, rfl, ?_⟩, hc⟩
 intro k q hk hlk
 have e' : i ≠ k := by rintro rfl; rw [ho] at hk; cases hk
 rw [getD_set_ne false e'] at hlk
 exact hf k q hk hlk
theorem DInv.at {a0 : Act} {s n m : Nat} {off : Nat → Option Nat} {V : Nat → Value} {C : World → Prop} {listed : Array Bool} {a : Act} {w : World} {k j : Nat}
  (h : DInv a0 s n m off V C listed a w) (hs : s + n ≤ a0.tmps.size) (ho : off k = some j) (hj : j < n) (hl : listed.getD k false = true) : a.tmps[s + j]?.getD undef = V j := by
 obtain ⟨xs, hxl, rfl, hf⟩ := h.fr
 show (setFrom a0.tmps s xs)[s + j]?.getD undef = _
 rw [setFrom_at xs a0.tmps s j (by omega) (by omega), ← hf k j ho hl]
 simp [List.getD]
theorem DInv.out {a0 : Act} {s n m : Nat} {off : Nat → Option Nat} {V : Nat → Value} {C : World → Prop} {listed : Array Bool} {a : Act} {w : World} {k : Nat}
  (h : DInv a0 s n m off V C listed a w) (hk : k < s ∨ s + n ≤ k) : a.tmps[k]?.getD undef = a0.tmps[k]?.getD undef := by
 obtain ⟨xs, hxl, rfl, hf⟩ := h.fr
 show (setFrom a0.tmps s xs)[k]?.getD undef = _
 rw [setFrom_out xs a0.tmps s k (by omega)]
theorem DInv.start {a0 : Act} {s n m : Nat} {off : Nat → Option Nat} {V : Nat → Value} {C : World → Prop} {w : World} (hs : s + n ≤ a0.tmps.size) (hc : C w) : DInv a0 s n m off V C (Array.replicate m false) a0 w := by
 obtain ⟨xs, hxl, hxs⟩ := setFrom_self n a0.tmps s hs
 refine ⟨by simp, ⟨xs, hxl, by rw [hxs], ?_⟩, hc⟩
 intro k j _ h
 rw [show (Array.replicate m false).getD k false = false from by by_cases hk' : k < m <;> simp [hk']] at h
 cases h
end Go.Proofs.YtjjelkdajdeikaaGreatDoor
namespace Go.Proofs.YtjjelkdajdeikaaGreatDoor.Pl
def pr (ps : List (Int × Int)) (i : Nat) : Int × Int := ps.getD i (0, 0)
theorem pr_eq (ps : List (Int × Int)) (i : Nat) (h : i < ps.length) : pr ps i = ps[i] := by simp [pr, List.getD, h]
theorem pr_mem (ps : List (Int × Int)) (i : Nat) (h : i < ps.length) : pr ps i ∈ ps := by rw [pr_eq ps i h]; exact List.getElem_mem h
theorem pr_app_lt (ps qs : List (Int × Int)) (i : Nat) (h : i < ps.length) : pr (ps ++ qs) i = pr ps i := by
 rw [pr_eq ps i h, pr_eq _ i (by simp; omega), List.getElem_append_left h]
theorem pr_app_at (ps : List (Int × Int)) (p : Int × Int) : pr (ps ++ [p]) ps.length = p := by
 rw [pr_eq _ _ (by simp)]; simp
def pairOk (p : Int × Int) : Prop := (Lit.int .i64 p.1).wf = true ∧ (Lit.int .i64 p.2).wf = true
def sideB (n c : Int) : Bool := decide (0 ≤ n ∧ n ≤ 11) && decide (1 ≤ c ∧ c ≤ 1000)
def adjN (ps : List (Int × Int)) : Nat → Nat → Int
 | 0, _ => 0
 | n + 1, i => if sideB (pr ps i).1 (pr ps i).2 then (if 0 < i ∧ (pr ps i).1 ≤ (pr ps (i - 1)).1 then 7 else adjN ps n (i + 1)) else 2
def adjF (ps : List (Int × Int)) : Int := adjN ps ps.length 0
theorem adjN_range {ps : List (Int × Int)} {n i : Nat} (h : sideB (pr ps i).1 (pr ps i).2 = false) : adjN ps (n + 1) i = 2 := by simp [adjN, h]
theorem adjN_low {ps : List (Int × Int)} {n m : Nat} (h : sideB (pr ps (m + 1)).1 (pr ps (m + 1)).2 = true) (k : (pr ps (m + 1)).1 ≤ (pr ps m).1) : adjN ps (n + 1) (m + 1) = 7 := by simp [adjN, h, k]
theorem adjN_first {ps : List (Int × Int)} {n : Nat} (h : sideB (pr ps 0).1 (pr ps 0).2 = true) : adjN ps (n + 1) 0 = adjN ps n 1 := by simp [adjN, h]
theorem adjN_on {ps : List (Int × Int)} {n m : Nat} (h : sideB (pr ps (m + 1)).1 (pr ps (m + 1)).2 = true) (k : ¬ (pr ps (m + 1)).1 ≤ (pr ps m).1) : adjN ps (n + 1) (m + 1) = adjN ps n (m + 1 + 1) := by
 simp [adjN, h]; omega
end Go.Proofs.YtjjelkdajdeikaaGreatDoor.Pl
namespace Go.Proofs.YtjjelkdajdeikaaGreatDoor
open Go.RowKit
set_option maxRecDepth 20000
def PairsAt (w : World) (b off : Nat) (ps : List (Int × Int)) : Prop := ∀ i, i < ps.length →
 w.cell? ⟨b, off + i * 2, none⟩ = some (.int .i64 (Pl.pr ps i).1) ∧ w.cell? ⟨b, off + i * 2 + 1, none⟩ = some (.int .i64 (Pl.pr ps i).2)
def IsPairs (w : World) (a : Option Addr) (len cap : Nat) (ps : List (Int × Int)) : Prop :=
 ps.length = len ∧ len ≤ cap ∧ cap ≤ maxLen ∧ (∀ p ∈ ps, Pl.pairOk p) ∧ (ps = [] ∨ ∃ b off, a = some ⟨b, off, none⟩ ∧ b < w.heap.size ∧ PairsAt w b off ps)
theorem PairsAt.below {w w' : World} {b off : Nat} {ps : List (Int × Int)} (h : PairsAt w b off ps) (hb : b < w.heap.size) (k : Below w.heap.size w w') : PairsAt w' b off ps := by
 intro i hi
 obtain ⟨c0, c1⟩ := h i hi
 exact ⟨(k.cell (p := ⟨b, _, none⟩) hb).trans c0, (k.cell (p := ⟨b, _, none⟩) hb).trans c1⟩
theorem IsPairs.below {w w' : World} {a : Option Addr} {len cap : Nat} {ps : List (Int × Int)} (h : IsPairs w a len cap ps) (k : Below w.heap.size w w') : IsPairs w' a len cap ps := by
 obtain ⟨h1, h2, h3, h4, h5⟩ := h
 refine ⟨h1, h2, h3, h4, ?_⟩
 rcases h5 with h5 | ⟨b, off, rfl, hb, hr⟩
 ·exact .inl h5
 ·exact .inr ⟨b, off, rfl, Nat.lt_of_lt_of_le hb k.size, hr.below hb k⟩
theorem below_drew {B : Nat} {a w : World} (h : Below B a w) (n : Nat) : Below B a (w.drewN n) := h.trans ⟨rfl, rfl, rfl, Nat.le_refl _, fun _ _ => rfl⟩
theorem box2 {w w3 : World} {c0 c1 : Value} {T : TypeId} (hb : Below (w.heap.size + 1) (w.alloc (.cells #[c0, c1] T)) w3) :
  w3.cell? ⟨w.heap.size, 0, none⟩ = some c0 ∧ w3.cell? ⟨w.heap.size, 1, none⟩ = some c1 ∧ w.heap.size < w3.heap.size ∧ Below w.heap.size w w3 := by
 have hz := hb.size
 simp only [World.alloc, Array.size_push] at hz
 have h0 := hb.cell (p := ⟨w.heap.size, 0, none⟩) (by simp)
 have h1 := hb.cell (p := ⟨w.heap.size, 1, none⟩) (by simp)
 refine ⟨h0.trans ?_, h1.trans ?_, by omega, ((Below.refl _ _).alloc (Nat.le_refl _) _).trans (hb.mono (by omega))⟩
 all_goals simp
def cellsP : List (Int × Int) → List Value
 | [] => []
 | p :: r => .int .i64 p.1 :: .int .i64 p.2 :: cellsP r
theorem cellsP_len : ∀ ps : List (Int × Int), (cellsP ps).length = ps.length * 2
 | [] => rfl
 | p :: r => by simp [cellsP, cellsP_len r]; omega
theorem cellsP_append : ∀ (a b : List (Int × Int)), cellsP (a ++ b) = cellsP a ++ cellsP b
 | [], _ => rfl
 | p :: r, b => by simp [cellsP, cellsP_append r b]
theorem cellsP_one : ∀ ps : List (Int × Int), ∀ u ∈ cellsP ps, u.oneCell' = true
 | [], u, h => by simp [cellsP] at h
 | p :: r, u, h => by
  simp only [cellsP, List.mem_cons] at h
  rcases h with rfl | rfl | h
  ·rfl
  ·rfl
  ·exact cellsP_one r u h
theorem cellsP_get : ∀ (ps : List (Int × Int)) (i : Nat), i < ps.length → (cellsP ps)[i * 2]? = some (.int .i64 (Pl.pr ps i).1) ∧ (cellsP ps)[i * 2 + 1]? = some (.int .i64 (Pl.pr ps i).2)
 | [], i, h => by simp at h
 | p :: r, 0, _ => by simp [cellsP, Pl.pr]
 | p :: r, i + 1, h => by
  have := cellsP_get r i (by simpa using h)
  rw [show (i + 1) * 2 = i * 2 + 2 by omega]
  simpa [cellsP, Pl.pr] using this
theorem blockLt {w : World} {g : Nat} {o : Obj} (h : w.heap[g]? = some o) : g < w.heap.size := by
 rcases Nat.lt_or_ge g w.heap.size with h' | h'
 ·exact h'
 ·rw [Array.getElem?_eq_none h'] at h; cases h
def OwnP (T : TypeId) (w : World) (base : Nat) (v : Value) (ps : List (Int × Int)) : Prop := w.ownsRow base T 2 v ps.length (cellsP ps)
theorem ownsRow_under {w w' : World} {base : Nat} {e : TypeId} {sz : Nat} {v : Value} {n : Nat} {xs : List Value} (h : w.ownsRow base e sz v n xs) (k : Below w.heap.size w w') : w'.ownsRow base e sz v n xs := by
 obtain ⟨h0, h1⟩ := h
 refine ⟨h0, ?_⟩
 rcases h1 with h1 | ⟨g, cap, cur, rfl, hb, hh, hr⟩
 ·exact .inl h1
 ·exact .inr ⟨g, cap, cur, rfl, hb, (k.block g (blockLt hh)).trans hh, hr⟩
theorem OwnP.below {T : TypeId} {w w' : World} {base : Nat} {v : Value} {ps : List (Int × Int)} (h : OwnP T w base v ps) (k : Below w.heap.size w w') : OwnP T w' base v ps := ownsRow_under h k
theorem OwnP.nil (T : TypeId) (w : World) (base : Nat) : OwnP T w base (.slice none 0 0) [] := World.ownsRow_nil _ _ _ _
theorem OwnP.mono {T : TypeId} {w : World} {base base' : Nat} {v : Value} {ps : List (Int × Int)} (h : OwnP T w base v ps) (k : base' ≤ base) : OwnP T w base' v ps := by
 obtain ⟨h0, h1⟩ := h
 refine ⟨h0, ?_⟩
 rcases h1 with h1 | ⟨g, cap, cur, rfl, hb, hr⟩
 ·exact .inl h1
 ·exact .inr ⟨g, cap, cur, rfl, by omega, hr⟩
theorem OwnP.shape {T : TypeId} {w : World} {base : Nat} {v : Value} {ps : List (Int × Int)} (h : OwnP T w base v ps) (hok : ∀ p ∈ ps, Pl.pairOk p) :
  ∃ a cap, v = .slice a ps.length cap ∧ IsPairs w a ps.length cap ps ∧ (a = none → cap = 0) ∧ (∀ x, a = some x → base ≤ x.block) := by
 obtain ⟨_, h | ⟨g, cap, cur, rfl, hb, hh, hn, hm, hs, hx⟩⟩ := h
 ·obtain ⟨rfl, hn⟩ := h
  have hes : ps = [] := List.length_eq_zero_iff.1 hn
  subst hes
  exact ⟨none, 0, rfl, ⟨rfl, Nat.le_refl _, by simp, hok, .inl rfl⟩, fun _ => rfl, by simp⟩
 ·refine ⟨some ⟨g, 0, none⟩, cap, rfl, ⟨rfl, hn, hm, hok, ?_⟩, by simp, by rintro x ⟨⟩; exact hb⟩
  rcases ps with _ | ⟨e, r⟩
  ·exact .inl rfl
  ·right
   refine ⟨g, 0, rfl, blockLt hh, ?_⟩
   have hcell : ∀ j u, (cellsP (e :: r))[j]? = some u → w.cell? ⟨g, 0 + j, none⟩ = some u := by
    intro j u hj
    rw [← hx] at hj
    have hj' : cur[j]? = some u := by
     rw [List.getElem?_take] at hj
     split at hj
     ·rw [← Array.getElem?_toList]; exact hj
     ·cases hj
    simp [World.cell?, hh, hj']
   intro i hi
   obtain ⟨h0, h1⟩ := cellsP_get _ i hi
   have c0 := hcell _ _ h0
   have c1 := hcell _ _ h1
   exact ⟨c0, by rw [Nat.add_assoc]; exact c1⟩
theorem OwnP.slice {T : TypeId} {w : World} {base : Nat} {v : Value} {ps : List (Int × Int)} (h : OwnP T w base v ps) : ∃ a n cap, v = .slice a n cap := by
 obtain ⟨_, h | ⟨g, cap, cur, rfl, _⟩⟩ := h
 ·exact ⟨_, _, _, h.1⟩
 ·exact ⟨_, _, _, rfl⟩
theorem partsOf {t : TypeId} {z : Value} {n m : Nat} (h : (Tryz.prog.info? t).map (fun i => (i.zero, i.size, i.bytes)) = some (some z, n, m)) : ∃ i, Tryz.prog.info? t = some i ∧ i.zero = some z ∧ i.size = n ∧ i.bytes = m := by
 cases hi : Tryz.prog.info? t with
 | none => rw [hi] at h; cases h
 | some i => rw [hi] at h; simp at h; exact ⟨i, rfl, h.1, h.2.1, h.2.2⟩
theorem append_pairT {tS tE : TypeId} (hS : Tryz.prog.underlying tS = some (.slice tE)) (hI : (Tryz.prog.info? tE).map (fun i => (i.zero, i.size, i.bytes)) = some (some (.agg #[.int .i64 0, .int .i64 0]), 2, 16))
  {w : World} {ops : Array Oper} {rest : List Oper} {o : Oper} {a : Act} {Q : Exit → Act → World → Prop} (hgd : o.guard = none) (s x : Operand)
  (ho : o.op = .call { callee := .builtin .append, args := #[s, x], argTypes := #[tS, tS] })
  (base : Nat) (v : Value) (ps : List (Int × Int)) (p : Int × Int) (hs : a.eval s = v) (hown : OwnP tE w base v ps) (hbase : base ≤ w.heap.size) (hx : a.eval x = .slice (some ⟨w.heap.size, 0, none⟩) 1 1) (hb : (ps.length + 1) * 16 ≤ 140737488355328)
  (h : ∀ v' w', OwnP tE w' base v' (ps ++ [p]) → Below base w w' → (w.alloc (.cells #[.int .i64 p.1, .int .i64 p.2] tE)).grownBy w' v.ownBlock → wpList Tryz.prog ops Q rest (a.put o.dst v') w') :
  wpList Tryz.prog ops Q (o :: rest) a (w.alloc (.cells #[.int .i64 p.1, .int .i64 p.2] tE)) := by
 obtain ⟨i0, hi0, hz0, hz1, hz2⟩ := partsOf hI
 refine wpList_append_own (w := _) hgd s x tS ho base tE i0 _ 2 16 hS hi0 hz0 hz1 hz2 rfl (by decide) _ ps.length (cellsP ps) hs (World.ownsRow.alloc hown _) ⟨w.heap.size, 0, none⟩ 1 1 [.int .i64 p.1, .int .i64 p.2] hx rfl ?_ ?_ (by unfold maxLen; omega) hb (by simp; omega) ?_
 ·intro j u hj
  rw [add_none]
  match j, hj with
  | 0, hj => simp at hj; subst hj; simp
  | 1, hj => simp at hj; subst hj; simp
 ·intro u hu; simp at hu; rcases hu with rfl | rfl <;> rfl
 ·intro v' w' hown' hg _
  have hlt := World.ownsRow.lt hown
  refine h v' w' ?_ (((Below.refl _ _).alloc hbase _).grown hg (by simp; omega) (fun k hk => (hlt k hk).1)) hg
  unfold OwnP
  rw [cellsP_append]
  simpa [cellsP] using hown'
structure RInv (a0 : Act) (s n m : Nat) (off : Nat → Option Nat) (V : Nat → Value → World → Prop) (C : World → Prop) (listed : Array Bool) (a : Act) (w : World) : Prop where
 ls : listed.size = m
 fr : ∃ xs : List Value, xs.length = n ∧ a = { a0 with tmps := setFrom a0.tmps s xs } ∧ ∀ k j, off k = some j → listed.getD k false = true → V j (xs.getD j undef) w
 cw : C w
theorem RInv.put {a0 : Act} {s n m : Nat} {off : Nat → Option Nat} {V : Nat → Value → World → Prop} {C : World → Prop} {listed : Array Bool} {a : Act} {w w' : World} {i j : Nat} {v : Value}
  (h : RInv a0 s n m off V C listed a w) (ho : off i = some j) (hj : j < n) (hst : ∀ q u, V q u w → V q u w') (hv : V j v w') (hc : C w') : RInv a0 s n m off V C (listed.setIfInBounds i true) (a.put (some (s + j)) v) w' := by
 obtain ⟨xs, hl, rfl, hf⟩ := h.fr
 refine ⟨by simp [h.ls], ⟨xs.set j v, by simp [hl], ?_, ?_⟩, hc⟩
 ·show ({ a0 with tmps := (setFrom a0.tmps s xs).setIfInBounds (s + j) v } : Act) = _
  rw [setFrom_set xs a0.tmps s j v (by omega)]
 ·intro k q hk hlk
  by_cases e : q = j
  ·subst e
   have : (xs.set q v).getD q undef = v := by simp [List.getD, hl, hj]
   rw [this]; exact hv
  ·have e' : i ≠ k := by rintro rfl; rw [ho] at hk; cases hk; exact e rfl
   rw [getD_set_ne false e'] at hlk
   have : (xs.set j v).getD q undef = xs.getD q undef := by simp [List.getD, List.getElem?_set_ne (Ne.symm e)]
   rw [this]; exact hst _ _ (hf k q hk hlk)
theorem RInv.skip {a0 : Act} {s n m : Nat} {off : Nat → Option Nat} {V : Nat → Value → World → Prop} {C : World → Prop} {listed : Array Bool} {a : Act} {w w' : World} {i : Nat}
  (h : RInv a0 s n m off V C listed a w) (ho : off i = none) (hst : ∀ q u, V q u w → V q u w') (hc : C w') : RInv a0 s n m off V C (listed.setIfInBounds i true) a w' := by
 obtain ⟨xs, hl, rfl, hf⟩ := h.fr
 refine ⟨by simp [h.ls], ⟨xs, hl, rfl, ?_⟩, hc⟩
 intro k q hk hlk
 have e' : i ≠ k := by rintro rfl; rw [ho] at hk; cases hk
 rw [getD_set_ne false e'] at hlk
 exact hst _ _ (hf k q hk hlk)
theorem RInv.at {a0 : Act} {s n m : Nat} {off : Nat → Option Nat} {V : Nat → Value → World → Prop} {C : World → Prop} {listed : Array Bool} {a : Act} {w : World} {k j : Nat}
  (h : RInv a0 s n m off V C listed a w) (hs : s + n ≤ a0.tmps.size) (ho : off k = some j) (hj : j < n) (hl : listed.getD k false = true) : V j (a.tmps[s + j]?.getD undef) w := by
 obtain ⟨xs, hxl, rfl, hf⟩ := h.fr
 show V j ((setFrom a0.tmps s xs)[s + j]?.getD undef) w
 rw [setFrom_at xs a0.tmps s j (by omega) (by omega)]
 have := hf k j ho hl
 simpa [List.getD] using this
theorem RInv.out {a0 : Act} {s n m : Nat} {off : Nat → Option Nat} {V : Nat → Value → World → Prop} {C : World → Prop} {listed : Array Bool} {a : Act} {w : World} {k : Nat}
  (h : RInv a0 s n m off V C listed a w) (hk : k < s ∨ s + n ≤ k) : a.tmps[k]?.getD undef = a0.tmps[k]?.getD undef := by
 obtain ⟨xs, hxl, rfl, hf⟩ := h.fr
 show (setFrom a0.tmps s xs)[k]?.getD undef = _
 rw [setFrom_out xs a0.tmps s k (by omega)]
theorem RInv.start {a0 : Act} {s n m : Nat} {off : Nat → Option Nat} {V : Nat → Value → World → Prop} {C : World → Prop} {w : World} (hs : s + n ≤ a0.tmps.size) (hc : C w) : RInv a0 s n m off V C (Array.replicate m false) a0 w := by
 obtain ⟨xs, hxl, hxs⟩ := setFrom_self n a0.tmps s hs
 refine ⟨by simp, ⟨xs, hxl, by rw [hxs], ?_⟩, hc⟩
 intro k j _ h
 rw [show (Array.replicate m false).getD k false = false from by by_cases hk' : k < m <;> simp [hk']] at h
 cases h
def regOps : Code → Nat → Option (Array Oper)
 | .region i ops _, n => if i = n then some ops else none
 | .seq a b, n => match regOps a n with
  | some x => some x
  | none => regOps b n
 | .cond _ a b, n => match regOps a n with
  | some x => some x
  | none => regOps b n
 | .block _ a, n => regOps a n
 | .loop a, n => regOps a n
 | .rangeFunc _ _ a b, n => match regOps a n with
  | some x => some x
  | none => regOps b n
 | .scope a, n => regOps a n
 | _, _ => none
def regIn (f : Func) (n : Nat) : Option (Array Oper) := match f.body with
 | some c => regOps c n
 | none => none
def spl : Nat → List Value → List Value → List Value
 | 0, l, [] => l
 | 0, [], _ :: _ => []
 | 0, _ :: l, x :: xs => x :: spl 0 l xs
 | _ + 1, [], _ => []
 | n + 1, v :: l, xs => v :: spl n l xs
theorem spl_nil : ∀ (s : Nat) (xs : List Value), spl s [] xs = []
 | 0, [] => rfl
 | 0, _ :: _ => rfl
 | _ + 1, _ => rfl
theorem spl_set : ∀ (l : List Value) (s : Nat) (x : Value) (xs : List Value), spl (s + 1) (l.set s x) xs = spl s l (x :: xs)
 | [], s, x, xs => by rw [List.set_nil, spl_nil, spl_nil]
 | v :: l, 0, x, xs => by
  show spl 1 (x :: l) xs = x :: spl 0 l xs
  rfl
 | v :: l, s + 1, x, xs => by
  show v :: spl (s + 1) (l.set s x) xs = v :: spl s l (x :: xs)
  rw [spl_set l s x xs]
theorem spl_done : ∀ (s : Nat) (l : List Value), spl s l [] = l
 | 0, [] => rfl
 | 0, _ :: _ => rfl
 | s + 1, [] => rfl
 | s + 1, v :: l => by show v :: spl s l [] = _; rw [spl_done s l]
theorem setFrom_spl : ∀ (xs : List Value) (l : List Value) (s : Nat), setFrom l.toArray s xs = (spl s l xs).toArray
 | [], l, s => by rw [setFrom, spl_done]
 | x :: r, l, s => by
  rw [setFrom, List.setIfInBounds_toArray, setFrom_spl r (l.set s x) (s + 1), spl_set]
end Go.Proofs.YtjjelkdajdeikaaGreatDoor
namespace Go.Proofs.YtjjelkdajdeikaaGreatDoor.Pl
theorem less_iff : ∀ (x y : List UInt8), Op.bytesLess x y = true ↔ x < y
 | [], [] => by simp [Op.bytesLess]
 | [], _ :: _ => by simp [Op.bytesLess]
 | _ :: _, [] => by simp [Op.bytesLess]
 | a :: x, b :: y => by
  simp only [Op.bytesLess]
  rw [List.cons_lt_cons_iff]
  by_cases h : a < b
  ·simp [h]
  ·by_cases e : a = b
   ·subst e; simp [less_iff x y]
   ·simp [h, e]
def ltB (a b : ByteArray) : Bool := Op.bytesLess a.toList b.toList
theorem ltB_iff (a b : ByteArray) : ltB a b = true ↔ a.toList < b.toList := by
 unfold ltB; exact less_iff _ _
theorem ltB_irrefl (a : ByteArray) : ltB a a = false := by
 rw [Bool.eq_false_iff, Ne, ltB_iff]; exact List.lt_irrefl _
theorem ltB_asymm {a b : ByteArray} (h : ltB a b = true) : ltB b a = false := by
 rw [ltB_iff] at h
 rw [Bool.eq_false_iff, Ne, ltB_iff]; exact List.lt_asymm h
theorem ltB_trans {a b c : ByteArray} (h : ltB a b = true) (k : ltB b c = true) : ltB a c = true := by
 rw [ltB_iff] at h k ⊢
 exact List.lt_trans h k
theorem toList_inj {a b : ByteArray} (h : a.toList = b.toList) : a = b := by
 rw [ByteArray.toList_eq, ByteArray.toList_eq] at h
 cases a; cases b; simp at h; simp [h]
theorem ltB_total {a b : ByteArray} (h : ltB a b = false) (k : ltB b a = false) : a = b := by
 rw [Bool.eq_false_iff, Ne, ltB_iff] at h k
 exact toList_inj (List.le_antisymm (List.not_lt.1 k) (List.not_lt.1 h))
theorem beqL (a b : ByteArray) : (a.toList == b.toList) = decide (a = b) := by
 rw [Bool.eq_iff_iff]; simp; exact ⟨toList_inj, fun h => h ▸ rfl⟩
theorem beqL_false {a b : ByteArray} (h : ¬ a = b) : (a.toList == b.toList) = false := by rw [beqL]; simp [h]
theorem ne_of_lt {a b : ByteArray} (h : ltB a b = true) : ¬ a = b := fun e => by rw [e, ltB_irrefl] at h; cases h
theorem tri (x y : ByteArray) : (Op.bytesLess x.toList y.toList = true ∧ Op.bytesLess y.toList x.toList = false ∧ ¬ x = y) ∨ x = y ∨ (Op.bytesLess x.toList y.toList = false ∧ Op.bytesLess y.toList x.toList = true ∧ ¬ x = y) := by
 show (ltB x y = true ∧ ltB y x = false ∧ ¬ x = y) ∨ x = y ∨ (ltB x y = false ∧ ltB y x = true ∧ ¬ x = y)
 cases h : ltB x y
 ·cases k : ltB y x
  ·exact .inr (.inl (ltB_total h k))
  ·exact .inr (.inr ⟨rfl, rfl, fun e => ne_of_lt k e.symm⟩)
 ·exact .inl ⟨rfl, ltB_asymm h, ne_of_lt h⟩
def cmpI (a b : Int) : Int := if a < b then -1 else if b < a then 1 else 0
def cmpS (x y : ByteArray) : Int := if ltB x y then -1 else if ltB y x then 1 else 0
def cmpE (v1 o1 : Int) (x1 : ByteArray) (v2 o2 : Int) (x2 : ByteArray) : Int :=
 if cmpI v1 v2 ≠ 0 then cmpI v1 v2 else if cmpI o1 o2 ≠ 0 then cmpI o1 o2 else cmpS x1 x2
theorem cmpI_lt {a b : Int} (h : a < b) : cmpI a b = -1 := by simp [cmpI, h]
theorem cmpI_gt {a b : Int} (h : b < a) : cmpI a b = 1 := by unfold cmpI; rw [if_neg (by omega), if_pos h]
theorem cmpI_eq (a : Int) : cmpI a a = 0 := by simp [cmpI]
theorem cmpS_lt {a b : ByteArray} (h : Op.bytesLess a.toList b.toList = true) : cmpS a b = -1 := by unfold cmpS; rw [if_pos (show ltB a b = true from h)]
theorem cmpS_gt {a b : ByteArray} (h : Op.bytesLess b.toList a.toList = true) : cmpS a b = 1 := by unfold cmpS; rw [if_neg (by rw [ltB_asymm h]; simp), if_pos (show ltB b a = true from h)]
theorem cmpS_eq (a : ByteArray) : cmpS a a = 0 := by simp [cmpS, ltB_irrefl]
end Go.Proofs.YtjjelkdajdeikaaGreatDoor.Pl
namespace Go.Proofs.YtjjelkdajdeikaaGreatDoor.Pl
structure Ent where
 key : ByteArray
 ver : Int
 org : Int
 val : ByteArray
def Ent.none : Ent := ⟨⟨#[]⟩, 0, 0, ⟨#[]⟩⟩
def ent (es : List Ent) (i : Nat) : Ent := es.getD i Ent.none
theorem ent_cons_succ (e : Ent) (es : List Ent) (i : Nat) : ent (e :: es) (i + 1) = ent es i := by simp [ent]
theorem ent_cons_zero (e : Ent) (es : List Ent) : ent (e :: es) 0 = e := by simp [ent]
theorem ent_eq (es : List Ent) (i : Nat) (h : i < es.length) : ent es i = es[i] := by simp [ent, List.getD, h]
theorem ent_mem (es : List Ent) (i : Nat) (h : i < es.length) : ent es i ∈ es := by rw [ent_eq es i h]; exact List.getElem_mem h
theorem drop_ent (es : List Ent) (i : Nat) (h : i < es.length) : es.drop i = ent es i :: es.drop (i + 1) := by
 rw [ent_eq es i h]; exact List.drop_eq_getElem_cons h
def Ent.ok (e : Ent) : Prop := e.key.size ≤ maxLen ∧ (Lit.int .i64 e.ver).wf = true ∧ (Lit.int .i64 e.org).wf = true ∧ e.val.size ≤ maxLen
def entB (k : ByteArray) (v o : Int) (x : ByteArray) : Bool := keyB k && decide (1 ≤ v ∧ v ≤ 1099511627776) && decide (0 ≤ o ∧ o ≤ 11) && decide (x.size ≤ 120)
def Ent.may (e : Ent) : Bool := entB e.key e.ver e.org e.val
theorem entB_eq {k : ByteArray} {v o : Int} {x : ByteArray} (hk : keyB k = true) : entB k v o x = (decide (1 ≤ v) && decide (v ≤ 1099511627776) && decide (0 ≤ o ∧ o ≤ 11) && decide ((x.size : Int) ≤ 120)) := by
 unfold entB; rw [hk, Bool.eq_iff_iff]; simp; omega
theorem entB_of {k : ByteArray} {v o : Int} {x : ByteArray} (hk : keyB k = true) (h1 : 1 ≤ v) (h2 : v ≤ 1099511627776) (h3 : 0 ≤ o ∧ o ≤ 11) (h4 : x.size ≤ 120) : entB k v o x = true := by
 simp [entB, hk, h1, h2, h3, h4]
theorem entB_k {k : ByteArray} {v o : Int} {x : ByteArray} (hk : keyB k = false) : entB k v o x = false := by simp [entB, hk]
def lowB (es : List Ent) (i : Nat) : Bool := decide (0 < i) && !ltB (ent es (i - 1)).key (ent es i).key
theorem lowB_true {es : List Ent} {m : Nat} (h : Op.bytesLess (ent es (m + 1)).key.toList (ent es m).key.toList = true ∨ ((ent es (m + 1)).key.toList == (ent es m).key.toList) = true) : lowB es (m + 1) = true := by
 unfold lowB
 simp only [Nat.zero_lt_succ, decide_true, Nat.add_sub_cancel, Bool.true_and, Bool.not_eq_true']
 rcases h with h | h
 ·exact ltB_asymm h
 ·rw [beqL] at h
  rw [of_decide_eq_true h]; exact ltB_irrefl _
theorem lowB_false {es : List Ent} {m : Nat} (h : Op.bytesLess (ent es (m + 1)).key.toList (ent es m).key.toList = false ∧ ((ent es (m + 1)).key.toList == (ent es m).key.toList) = false) : lowB es (m + 1) = false := by
 unfold lowB
 simp only [Nat.zero_lt_succ, decide_true, Nat.add_sub_cancel, Bool.true_and, Bool.not_eq_false']
 obtain ⟨h1, h2⟩ := h
 rw [beqL] at h2
 cases k : ltB (ent es m).key (ent es (m + 1)).key
 ·exact absurd (ltB_total h1 k) (of_decide_eq_false h2)
 ·rfl
def faultN (es : List Ent) : Nat → Nat → Int
 | 0, _ => 0
 | n + 1, i => if (ent es i).may then (if lowB es i then 7 else faultN es n (i + 1)) else 4
def fault (es : List Ent) : Int := if es.length ≤ 60 then faultN es es.length 0 else 1
theorem fault_size {es : List Ent} (h : 60 < es.length) : fault es = 1 := by unfold fault; rw [if_neg (by omega)]
theorem fault_from {es : List Ent} (h : es.length ≤ 60) : fault es = faultN es es.length 0 := by unfold fault; rw [if_pos h]
theorem faultN_form {es : List Ent} {n i : Nat} (h : (ent es i).may = false) : faultN es (n + 1) i = 4 := by simp [faultN, h]
theorem faultN_low {es : List Ent} {n i : Nat} (h : (ent es i).may = true) (k : lowB es i = true) : faultN es (n + 1) i = 7 := by simp [faultN, h, k]
theorem faultN_on {es : List Ent} {n i : Nat} (h : (ent es i).may = true) (k : lowB es i = false) : faultN es (n + 1) i = faultN es n (i + 1) := by simp [faultN, h, k]
end Go.Proofs.YtjjelkdajdeikaaGreatDoor.Pl
namespace Go.Proofs.YtjjelkdajdeikaaGreatDoor
open Go.RowKit
set_option maxRecDepth 20000
def RowAt (w : World) (b off : Nat) (es : List Pl.Ent) : Prop := ∀ i, i < es.length →
 w.cell? ⟨b, off + i * 4, none⟩ = some (.string (Pl.ent es i).key) ∧ w.cell? ⟨b, off + i * 4 + 1, none⟩ = some (.int .i64 (Pl.ent es i).ver) ∧
 w.cell? ⟨b, off + i * 4 + 2, none⟩ = some (.int .i64 (Pl.ent es i).org) ∧ w.cell? ⟨b, off + i * 4 + 3, none⟩ = some (.string (Pl.ent es i).val)
def IsEnts (w : World) (a : Option Addr) (len cap : Nat) (es : List Pl.Ent) : Prop :=
 es.length = len ∧ len ≤ cap ∧ cap ≤ maxLen ∧ (∀ e ∈ es, e.ok) ∧ (es = [] ∨ ∃ b off, a = some ⟨b, off, none⟩ ∧ b < w.heap.size ∧ RowAt w b off es)
set_option maxHeartbeats 400000 in
theorem isEntry_any (k : ByteArray) (v o : Int) (x : ByteArray) (w : World) (hk : k.size ≤ maxLen) (_hx : x.size ≤ maxLen) :
  Calls Tryz.prog 50 #[.agg #[.string k, .int .i64 v, .int .i64 o, .string x]] w
   fun e w' => e = .returned (.bool (Pl.entB k v o x)) ∧ Below w.heap.size w w' := by
 unfold maxLen at _hx
 obtain ⟨kk, HB⟩ : ∃ kk, Hid (Pl.keyB k = kk) := ⟨_, rfl⟩
 cases kk
 ·have HR : Hid (Pl.entB k v o x = false) := Pl.entB_k HB.out
  go_enter Tryz.func50, Tryz.ntmps50
  go_wp2_with (go_at_call 87; refine (Key_any _ _ hk).mono ?_; rw [HB.out]; rintro e w' ⟨rfl, rfl⟩)
  go_ret
  exact ⟨ret_bool HR.out.symm, (Below.refl _ _).alloc (Nat.le_refl _) _⟩
 ·obtain ⟨oo, HO⟩ : ∃ oo, Hid (decide (0 ≤ o ∧ o ≤ 11) = oo) := ⟨_, rfl⟩
  have HR : Hid (Pl.entB k v o x = (decide (1 ≤ v) && decide (v ≤ 1099511627776) && oo && decide ((x.size : Int) ≤ 120))) := by
   show _ = _
   rw [Pl.entB_eq HB.out, HO.out]
  by_cases h1 : 1 ≤ v
  all_goals by_cases h2 : v ≤ 1099511627776
  all_goals first | (exfalso; omega) | skip
  all_goals cases oo
  all_goals
   go_enter Tryz.func50, Tryz.ntmps50
   go_wp2_with (first | (go_at_call 87; refine (Key_any _ _ hk).mono ?_; rw [HB.out]; rintro e w' ⟨rfl, rfl⟩) | (go_at_call 72; refine (isNode_any _ _).mono ?_; rw [HO.out]; rintro e w' ⟨rfl, rfl⟩))
   go_ret
   exact ⟨ret_bool (by rw [HR.out, Bool.eq_iff_iff]; simp <;> omega), (Below.refl _ _).alloc (Nat.le_refl _) _⟩
theorem RowAt.below {w w' : World} {b off : Nat} {es : List Pl.Ent} (h : RowAt w b off es) (hb : b < w.heap.size) (k : Below w.heap.size w w') : RowAt w' b off es := by
 intro i hi
 obtain ⟨c0, c1, c2, c3⟩ := h i hi
 exact ⟨(k.cell (p := ⟨b, _, none⟩) hb).trans c0, (k.cell (p := ⟨b, _, none⟩) hb).trans c1, (k.cell (p := ⟨b, _, none⟩) hb).trans c2, (k.cell (p := ⟨b, _, none⟩) hb).trans c3⟩
theorem IsEnts.below {w w' : World} {a : Option Addr} {len cap : Nat} {es : List Pl.Ent} (h : IsEnts w a len cap es) (k : Below w.heap.size w w') : IsEnts w' a len cap es := by
 obtain ⟨h1, h2, h3, h4, h5⟩ := h
 refine ⟨h1, h2, h3, h4, ?_⟩
 rcases h5 with h5 | ⟨b, off, rfl, hb, hr⟩
 ·exact .inl h5
 ·exact .inr ⟨b, off, rfl, Nat.lt_of_lt_of_le hb k.size, hr.below hb k⟩
theorem below_drewN {B : Nat} {a w : World} (h : Below B a w) (n : Nat) : Below B a (w.drewN n) := h.trans ⟨rfl, rfl, rfl, Nat.le_refl _, fun _ _ => rfl⟩
set_option maxHeartbeats 400000 in
theorem Check_any (a : Option Addr) (len cap : Nat) (es : List Pl.Ent) (w : World) (h : IsEnts w a len cap es) :
  Calls Tryz.prog 20 #[.slice a len cap] w fun e w' => e = .returned (.int .i64 (Pl.fault es)) ∧ Below w.heap.size w w' := by
 obtain ⟨hl, hc, hm, hok, hrow⟩ := h
 unfold maxLen at hm
 by_cases h60 : 60 < len
 ·go_enter Tryz.func20, Tryz.ntmps20
  go_wp2
  go_ret
  exact ⟨ret_int (Pl.fault_size (by omega)).symm, Below.refl _ _⟩
 go_enter Tryz.func20, Tryz.ntmps20
 go_wp2
 go_loopw [10] (fun i wr => ∃ k : Nat, k ≤ len ∧ i = .int .i64 k ∧ Hid (Pl.fault es = Pl.faultN es (len - k) k) ∧ Below w.heap.size w wr) (fun i _ => len - (intOf i).toNat)
 case atStart => exact ⟨0, Nat.zero_le _, rfl, by show _ = _; rw [Pl.fault_from (by omega), hl]; rfl, Below.refl _ _⟩
 case round =>
  obtain ⟨k, hk, rfl, HF, hb⟩ := hrel
  by_cases hlt : k < len
  ·obtain ⟨b, off, rfl, hbw, hr⟩ : ∃ b off, a = some ⟨b, off, none⟩ ∧ b < w.heap.size ∧ RowAt w b off es := by
    rcases hrow with rfl | h
    ·simp at hl; omega
    ·exact h
   clear hrow
   have hr' := hr.below hbw hb
   obtain ⟨c0, c1, c2, c3⟩ := hr' k (by omega)
   have hoke := hok _ (Pl.ent_mem es k (by omega))
   obtain ⟨hok0, _, _, hok3⟩ := hoke
   have hz := hb.size
   obtain ⟨mm, HM⟩ : ∃ mm, Hid (Pl.entB (Pl.ent es k).key (Pl.ent es k).ver (Pl.ent es k).org (Pl.ent es k).val = mm) := ⟨_, rfl⟩
   have HM' : Hid ((Pl.ent es k).may = mm) := HM
   obtain ⟨n, hn⟩ : ∃ n, len - k = n + 1 := ⟨len - k - 1, by omega⟩
   have HN : Hid (len - k = n + 1) := hn
   clear hn
   cases mm
   ·go_wp2_with fail
    refine (isEntry_any _ _ _ _ _ hok0 hok3).mono ?_
    rw [HM.out]
    rintro e w1 ⟨rfl, hb1⟩
    go_wp2_with fail
    go_ret
    exact ⟨ret_int (by rw [HF.out, HN.out, Pl.faultN_form HM'.out]), (hb.alloc hz _).trans (hb1.mono (by simp; omega))⟩
   ·rcases Nat.eq_zero_or_pos k with hk0 | hk0
    ·have hd : decide (0 < k) = false := by simp; omega
     have HK0 : Hid (k = 0) := hk0
     clear hk0
     go_wp2_with fail
     refine (isEntry_any _ _ _ _ _ hok0 hok3).mono ?_
     rw [HM.out]
     rintro e w1 ⟨rfl, hb1⟩
     go_wp2_with fail
     go_quiet (fail)
     go_wp2
     go_roundw
     case rel => exact ⟨k + 1, by omega, by go_num, by show _ = _; rw [HF.out, HN.out, Pl.faultN_on HM'.out (by simp [Pl.lowB, HK0.out])]; congr 1; have := HN.out; omega, below_drewN ((hb.alloc hz _).trans (hb1.mono (by simp; omega))) _⟩
     case measure => simp [intOf]; omega
    ·obtain ⟨m, rfl⟩ : ∃ m, k = m + 1 := ⟨k - 1, by omega⟩
     obtain ⟨d0, d1, d2, d3⟩ := hr' m (by omega)
     have hbr : b < wr.heap.size := by omega
     go_wp2_with fail
     refine (isEntry_any _ _ _ _ _ hok0 hok3).mono ?_
     rw [HM.out]
     rintro e w1 ⟨rfl, hb1⟩
     obtain ⟨hcc, hff⟩ := bcell hb1
     clear hff
     go_wp2_with fail
     go_quiet (fail)
     go_wp2
     ·go_ret
      exact ⟨ret_int (by rw [HF.out, HN.out, Pl.faultN_low HM'.out (Pl.lowB_true ‹_›)]), below_drewN ((hb.alloc hz _).trans (hb1.mono (by simp; omega))) _⟩
     ·go_roundw
      case rel => exact ⟨m + 1 + 1, by omega, by go_num, by show _ = _; rw [HF.out, HN.out, Pl.faultN_on HM'.out (Pl.lowB_false ‹_›)]; congr 1; have := HN.out; omega, below_drewN ((hb.alloc hz _).trans (hb1.mono (by simp; omega))) _⟩
      case measure => simp [intOf]; omega
  ·obtain rfl : k = len := by omega
   go_wp2
   go_ret
   exact ⟨ret_int (by rw [HF.out]; simp [Pl.faultN]), hb⟩
end Go.Proofs.YtjjelkdajdeikaaGreatDoor
namespace Go.Proofs.YtjjelkdajdeikaaGreatDoor.Pl
def Asc (es : List Ent) : Prop := ∀ i j, i < j → j < es.length → ltB (ent es i).key (ent es j).key = true
def May (es : List Ent) : Prop := ∀ i, i < es.length → (ent es i).may = true
theorem faultN_zero (es : List Ent) : ∀ n i, faultN es n i = 0 → ∀ j, i ≤ j → j < i + n → (ent es j).may = true ∧ lowB es j = false
 | 0, _, _, j, h1, h2 => by omega
 | n + 1, i, h, j, h1, h2 => by
  simp only [faultN] at h
  cases hm : (ent es i).may
  ·simp [hm] at h
  ·cases hl : lowB es i
   ·simp only [hm, hl] at h
    rcases Nat.lt_or_ge i j with k | k
    ·exact faultN_zero es n (i + 1) (by simpa using h) j (by omega) (by omega)
    ·obtain rfl : j = i := by omega
     exact ⟨hm, hl⟩
   ·simp [hm, hl] at h
theorem good_of_fault {es : List Ent} (h : fault es = 0) : es.length ≤ 60 ∧ May es ∧ Asc es := by
 unfold fault at h
 split at h
 ·rename_i hl
  have hz := faultN_zero es es.length 0 h
  refine ⟨hl, fun i hi => (hz i (by omega) (by omega)).1, ?_⟩
  intro i j hij hj
  induction j with
  | zero => omega
  | succ m ih =>
   have hlow := (hz (m + 1) (by omega) (by omega)).2
   have hstep : ltB (ent es m).key (ent es (m + 1)).key = true := by
    unfold lowB at hlow
    simpa using hlow
   rcases Nat.lt_or_ge i m with k | k
   ·exact ltB_trans (ih k (by omega)) hstep
   ·obtain rfl : i = m := by omega
    exact hstep
 ·cases h
theorem faultN_of_good (es : List Ent) (h : ∀ j, j < es.length → (ent es j).may = true ∧ lowB es j = false) : ∀ n i, i + n ≤ es.length → faultN es n i = 0
 | 0, _, _ => rfl
 | n + 1, i, hi => by
  obtain ⟨h1, h2⟩ := h i (by omega)
  rw [faultN_on h1 h2]
  exact faultN_of_good es h n (i + 1) (by omega)
theorem fault_of_good {es : List Ent} (hl : es.length ≤ 60) (hm : May es) (ha : Asc es) : fault es = 0 := by
 rw [fault_from hl]
 refine faultN_of_good es (fun j hj => ⟨hm j hj, ?_⟩) _ _ (by omega)
 unfold lowB
 rcases Nat.eq_zero_or_pos j with rfl | k
 ·rfl
 ·rw [ha (j - 1) j (by omega) hj]; simp
def pos : List Ent → ByteArray → Nat
 | [], _ => 0
 | e :: r, key => if ltB e.key key then pos r key + 1 else 0
theorem pos_le : ∀ (es : List Ent) (key : ByteArray), pos es key ≤ es.length
 | [], _ => Nat.le_refl _
 | e :: r, key => by
  simp only [pos, List.length_cons]
  have := pos_le r key
  split <;> omega
theorem pos_lt : ∀ (es : List Ent) (key : ByteArray) (i : Nat), i < pos es key → ltB (ent es i).key key = true
 | [], _, i, h => by simp [pos] at h
 | e :: r, key, i, h => by
  simp only [pos] at h
  split at h
  ·rename_i he
   cases i with
   | zero => simpa [ent] using he
   | succ i => rw [ent_cons_succ]; exact pos_lt r key i (by omega)
  ·omega
theorem pos_at : ∀ (es : List Ent) (key : ByteArray), pos es key < es.length → ltB (ent es (pos es key)).key key = false
 | [], _, h => by simp at h
 | e :: r, key, h => by
  cases he : ltB e.key key
  ·simp [pos, he, ent]
  ·simp only [pos, he, if_true] at h ⊢
   rw [ent_cons_succ]
   exact pos_at r key (by simpa using h)
theorem pos_of {es : List Ent} {key : ByteArray} {i : Nat} (hi : i ≤ es.length) (h1 : ∀ t, t < i → ltB (ent es t).key key = true) (h2 : i < es.length → ltB (ent es i).key key = false) : pos es key = i := by
 rcases Nat.lt_trichotomy (pos es key) i with k | k | k
 ·have a := h1 _ k
  rw [pos_at es key (by omega)] at a; cases a
 ·exact k
 ·have a := pos_lt es key i k
  have b := pos_le es key
  rw [h2 (by omega)] at a; cases a
def there (es : List Ent) (key : ByteArray) : Bool := decide (pos es key < es.length) && decide ((ent es (pos es key)).key = key)
theorem asc_lt {es : List Ent} (h : Asc es) {key : ByteArray} {t m : Nat} (hm : m < es.length) (ht : t ≤ m) (k : ltB (ent es m).key key = true) : ltB (ent es t).key key = true := by
 rcases Nat.lt_or_ge t m with q | q
 ·exact ltB_trans (h t m q hm) k
 ·obtain rfl : t = m := by omega
  exact k
theorem asc_ge {es : List Ent} (h : Asc es) {key : ByteArray} {t m : Nat} (ht : t < es.length) (hm : m ≤ t) (k : ltB (ent es m).key key = false) : ltB (ent es t).key key = false := by
 cases q : ltB (ent es t).key key
 ·rfl
 ·rw [asc_lt h ht hm q] at k; cases k
end Go.Proofs.YtjjelkdajdeikaaGreatDoor.Pl
namespace Go.Proofs.YtjjelkdajdeikaaGreatDoor.Pl
open Go.RowKit
set_option maxRecDepth 20000
def Srt (es : List Ent) : Prop := es.Pairwise fun a b => ltB a.key b.key = true
theorem asc_iff (es : List Ent) : Asc es ↔ Srt es := by
 unfold Asc Srt
 rw [List.pairwise_iff_getElem]
 constructor
 ·intro h i j hi hj hij
  have := h i j hij hj
  rwa [ent_eq es i hi, ent_eq es j hj] at this
 ·intro h i j hij hj
  have := h i j (by omega) hj hij
  rwa [ent_eq es i (by omega), ent_eq es j hj]
theorem may_iff (es : List Ent) : May es ↔ ∀ e ∈ es, e.may = true := by
 unfold May
 constructor
 ·intro h e he
  obtain ⟨i, hi, rfl⟩ := List.getElem_of_mem he
  rw [← ent_eq es i hi]; exact h i hi
 ·intro h i hi
  exact h _ (ent_mem es i hi)
def Good (es : List Ent) : Prop := es.length ≤ 60 ∧ (∀ e ∈ es, e.may = true) ∧ Srt es
theorem good_iff (es : List Ent) : fault es = 0 ↔ Good es := by
 constructor
 ·intro h
  obtain ⟨h1, h2, h3⟩ := good_of_fault h
  exact ⟨h1, (may_iff es).1 h2, (asc_iff es).1 h3⟩
 ·rintro ⟨h1, h2, h3⟩
  exact fault_of_good h1 ((may_iff es).2 h2) ((asc_iff es).2 h3)
theorem may_ok {e : Ent} (h : e.may = true) : e.ok := by
 unfold Ent.may entB keyB at h
 simp only [Bool.and_eq_true, decide_eq_true_eq] at h
 obtain ⟨⟨⟨⟨h1, _⟩, h2⟩, h3⟩, h4⟩ := h
 unfold Ent.ok maxLen
 refine ⟨by omega, ?_, ?_, by omega⟩
 ·exact Go.WalkArith.wf_i64 (by omega)
 ·exact Go.WalkArith.wf_i64 (by omega)
def ins : List Ent → Ent → List Ent
 | [], x => [x]
 | e :: r, x => if ltB e.key x.key then e :: ins r x else if e.key = x.key then x :: r else x :: e :: r
def layL (es : List Ent) (i : Nat) (instead : Bool) (x : Ent) : List Ent := es.take i ++ x :: es.drop (if instead then i + 1 else i)
theorem there_cons_lt {e : Ent} {r : List Ent} {key : ByteArray} (h : ltB e.key key = true) : there (e :: r) key = there r key := by
 unfold there
 simp only [pos, h, if_true, ent_cons_succ, List.length_cons]
 simp
theorem there_cons_ge {e : Ent} {r : List Ent} {key : ByteArray} (h : ltB e.key key = false) : there (e :: r) key = decide (e.key = key) := by
 unfold there
 simp [pos, h, ent]
theorem lay_ins : ∀ (es : List Ent) (x : Ent), layL es (pos es x.key) (there es x.key) x = ins es x
 | [], x => by simp [layL, ins, pos, there]
 | e :: r, x => by
  cases h : ltB e.key x.key
  ·rw [there_cons_ge h]
   simp only [pos, h, ins, layL]
   by_cases k : e.key = x.key
   ·simp [k]
   ·simp [k]
  ·rw [there_cons_lt h]
   have ih := lay_ins r x
   unfold layL at ih ⊢
   simp only [pos, h, if_true, ins, List.take_succ_cons, List.cons_append]
   rw [← ih]
   cases there r x.key <;> simp
theorem mem_ins {es : List Ent} {x e : Ent} (h : e ∈ ins es x) : e = x ∨ e ∈ es := by
 induction es with
 | nil => simp [ins] at h; exact .inl h
 | cons a r ih =>
  unfold ins at h
  split at h
  ·rcases List.mem_cons.1 h with rfl | h
   ·exact .inr (by simp)
   ·rcases ih h with h | h
    ·exact .inl h
    ·exact .inr (by simp [h])
  ·split at h
   ·rcases List.mem_cons.1 h with rfl | h
    ·exact .inl rfl
    ·exact .inr (by simp [h])
   ·rcases List.mem_cons.1 h with rfl | h
    ·exact .inl rfl
    ·exact .inr h
theorem ins_srt {es : List Ent} {x : Ent} (h : Srt es) : Srt (ins es x) := by
 induction es with
 | nil => simp [Srt, ins]
 | cons a r ih =>
  unfold Srt at h ih ⊢
  rw [List.pairwise_cons] at h
  obtain ⟨h1, h2⟩ := h
  unfold ins
  split
  ·rename_i hl
   refine List.pairwise_cons.2 ⟨fun e he => ?_, ih h2⟩
   rcases mem_ins he with rfl | he
   ·exact hl
   ·exact h1 e he
  ·rename_i hl
   split
   ·rename_i he
    refine List.pairwise_cons.2 ⟨fun e hm => ?_, h2⟩
    rw [← he]; exact h1 e hm
   ·rename_i he
    have hlt : ltB x.key a.key = true := by
     cases k : ltB x.key a.key
     ·exact absurd (ltB_total (by simpa using hl) k) he
     ·rfl
    refine List.pairwise_cons.2 ⟨fun e hm => ?_, List.pairwise_cons.2 ⟨h1, h2⟩⟩
    rcases List.mem_cons.1 hm with rfl | hm
    ·exact hlt
    ·exact ltB_trans hlt (h1 e hm)
theorem ins_len : ∀ (es : List Ent) (x : Ent), (ins es x).length = if there es x.key then es.length else es.length + 1
 | [], x => by simp [ins, there]
 | e :: r, x => by
  have ih := ins_len r x
  cases h : ltB e.key x.key
  ·rw [there_cons_ge h]
   simp only [ins, h]
   by_cases k : e.key = x.key <;> simp [k]
  ·rw [there_cons_lt h]
   simp only [ins, h, if_true, List.length_cons, ih]
   cases there r x.key <;> simp
def comesB (es : List Ent) (x : Ent) : Bool := if there es x.key then decide (0 < cmpE x.ver x.org x.val (ent es (pos es x.key)).ver (ent es (pos es x.key)).org (ent es (pos es x.key)).val) else decide (es.length < 60)
theorem ins_good {es : List Ent} {x : Ent} (h : Good es) (hx : x.may = true) (hc : comesB es x = true) : Good (ins es x) := by
 obtain ⟨h1, h2, h3⟩ := h
 refine ⟨?_, ?_, ins_srt h3⟩
 ·rw [ins_len]
  unfold comesB at hc
  cases ht : there es x.key
  ·rw [ht] at hc; simp at hc; simp; omega
  ·simpa using h1
 ·intro e he
  rcases mem_ins he with rfl | he
  ·exact hx
  ·exact h2 e he
def mrg : List Ent → List ByteArray → List Ent → List Ent × List ByteArray
 | out, ks, [] => (out, ks)
 | out, ks, x :: r => if comesB out x then mrg (ins out x) (ks ++ [x.key]) r else mrg out ks r
theorem mrg_good : ∀ (b out : List Ent) (ks : List ByteArray), Good out → (∀ e ∈ b, e.may = true) → Good (mrg out ks b).1
 | [], _, _, h, _ => h
 | x :: r, out, ks, h, hb => by
  unfold mrg
  split
  ·rename_i hc
   exact mrg_good r _ _ (ins_good h (hb x (by simp)) hc) (fun e he => hb e (by simp [he]))
  ·exact mrg_good r _ _ h (fun e he => hb e (by simp [he]))
end Go.Proofs.YtjjelkdajdeikaaGreatDoor.Pl
namespace Go.Proofs.YtjjelkdajdeikaaGreatDoor
open Go.RowKit
set_option maxRecDepth 20000
def cellsE (e : Pl.Ent) : List Value := [.string e.key, .int .i64 e.ver, .int .i64 e.org, .string e.val]
def cellsL : List Pl.Ent → List Value
 | [] => []
 | e :: r => cellsE e ++ cellsL r
theorem cellsL_len : ∀ es : List Pl.Ent, (cellsL es).length = es.length * 4
 | [] => rfl
 | e :: r => by simp [cellsL, cellsE, cellsL_len r]; omega
theorem cellsL_append : ∀ (a b : List Pl.Ent), cellsL (a ++ b) = cellsL a ++ cellsL b
 | [], _ => rfl
 | e :: r, b => by simp [cellsL, cellsL_append r b]
theorem cellsL_one : ∀ es : List Pl.Ent, ∀ u ∈ cellsL es, u.oneCell' = true
 | [], u, h => by simp [cellsL] at h
 | e :: r, u, h => by
  simp only [cellsL, List.mem_append] at h
  rcases h with h | h
  ·simp [cellsE] at h
   rcases h with rfl | rfl | rfl | rfl <;> rfl
  ·exact cellsL_one r u h
theorem rowAt_cons {w : World} {b off : Nat} {e : Pl.Ent} {r : List Pl.Ent} :
  RowAt w b off (e :: r) ↔ (w.cell? ⟨b, off, none⟩ = some (.string e.key) ∧ w.cell? ⟨b, off + 1, none⟩ = some (.int .i64 e.ver) ∧ w.cell? ⟨b, off + 2, none⟩ = some (.int .i64 e.org) ∧ w.cell? ⟨b, off + 3, none⟩ = some (.string e.val)) ∧ RowAt w b (off + 4) r := by
 constructor
 ·intro h
  refine ⟨?_, fun i hi => ?_⟩
  ·have := h 0 (by simp)
   simpa [Pl.ent_cons_zero] using this
  ·have := h (i + 1) (by simpa using hi)
   rw [Pl.ent_cons_succ, show off + (i + 1) * 4 = off + 4 + i * 4 by omega] at this
   exact this
 ·rintro ⟨h0, h1⟩ i hi
  cases i with
  | zero => simpa [Pl.ent_cons_zero] using h0
  | succ i =>
   rw [Pl.ent_cons_succ, show off + (i + 1) * 4 = off + 4 + i * 4 by omega]
   exact h1 i (by simpa using hi)
theorem rowAt_cells {w : World} {b : Nat} : ∀ (es : List Pl.Ent) (off : Nat), RowAt w b off es ↔ ∀ j u, (cellsL es)[j]? = some u → w.cell? ⟨b, off + j, none⟩ = some u
 | [], off => by
  constructor
  ·intro _ j u h; simp [cellsL] at h
  ·intro _ i hi; simp at hi
 | e :: r, off => by
  rw [rowAt_cons, rowAt_cells r (off + 4)]
  constructor
  ·rintro ⟨⟨h0, h1, h2, h3⟩, h4⟩ j u hj
   match j, hj with
   | 0, hj => simp [cellsL, cellsE] at hj; subst hj; exact h0
   | 1, hj => simp [cellsL, cellsE] at hj; subst hj; exact h1
   | 2, hj => simp [cellsL, cellsE] at hj; subst hj; exact h2
   | 3, hj => simp [cellsL, cellsE] at hj; subst hj; exact h3
   | j + 4, hj =>
    have := h4 j u (by simpa [cellsL, cellsE] using hj)
    rwa [show off + (j + 4) = off + 4 + j by omega]
  ·intro h
   refine ⟨⟨?_, ?_, ?_, ?_⟩, fun j u hj => ?_⟩
   ·exact h 0 _ (by simp [cellsL, cellsE])
   ·exact h 1 _ (by simp [cellsL, cellsE])
   ·exact h 2 _ (by simp [cellsL, cellsE])
   ·exact h 3 _ (by simp [cellsL, cellsE])
   ·have := h (j + 4) u (by simpa [cellsL, cellsE] using hj)
    rwa [show off + 4 + j = off + (j + 4) by omega]
theorem RowAt.take {w : World} {b off : Nat} {es : List Pl.Ent} (h : RowAt w b off es) (n : Nat) : RowAt w b off (es.take n) := by
 intro i hi
 simp only [List.length_take] at hi
 have := h i (by omega)
 have e : Pl.ent (es.take n) i = Pl.ent es i := by
  rw [Pl.ent_eq _ _ (by simp; omega), Pl.ent_eq _ _ (by omega)]; simp
 rwa [e]
theorem RowAt.drop {w : World} {b off : Nat} {es : List Pl.Ent} (h : RowAt w b off es) (n : Nat) : RowAt w b (off + n * 4) (es.drop n) := by
 intro i hi
 simp only [List.length_drop] at hi
 have := h (n + i) (by omega)
 have e : Pl.ent (es.drop n) i = Pl.ent es (n + i) := by
  rw [Pl.ent_eq _ _ (by simp; omega), Pl.ent_eq _ _ (by omega)]; simp
 rw [e, show off + n * 4 + i * 4 = off + (n + i) * 4 by omega]
 exact this
def Own (w : World) (base : Nat) (v : Value) (es : List Pl.Ent) : Prop := w.ownsRow base 55 4 v es.length (cellsL es)
theorem infoEntry : (Tryz.prog.info? 55).map (fun i => (i.zero, i.size, i.bytes)) = some (some (.agg #[.string ⟨#[]⟩, .int .i64 0, .int .i64 0, .string ⟨#[]⟩]), 4, 48) := by kernel_rfl
theorem Own.shape {w : World} {base : Nat} {v : Value} {es : List Pl.Ent} (h : Own w base v es) (hok : ∀ e ∈ es, e.ok) :
  ∃ a cap, v = .slice a es.length cap ∧ IsEnts w a es.length cap es ∧ (a = none → cap = 0) ∧ (∀ x, a = some x → base ≤ x.block) := by
 obtain ⟨_, h | ⟨g, cap, cur, rfl, hb, hh, hn, hm, hs, hx⟩⟩ := h
 ·obtain ⟨rfl, hn⟩ := h
  have hes : es = [] := List.length_eq_zero_iff.1 hn
  subst hes
  exact ⟨none, 0, rfl, ⟨rfl, Nat.le_refl _, by simp, hok, .inl rfl⟩, fun _ => rfl, by simp⟩
 ·refine ⟨some ⟨g, 0, none⟩, cap, rfl, ⟨rfl, hn, hm, hok, ?_⟩, by simp, by rintro x ⟨⟩; exact hb⟩
  rcases es with _ | ⟨e, r⟩
  ·exact .inl rfl
  ·right
   refine ⟨g, 0, rfl, ?_, ?_⟩
   ·exact lt_of_block hh
   ·rw [rowAt_cells]
    intro j u hj
    rw [← hx] at hj
    have hj' : cur[j]? = some u := by
     rw [List.getElem?_take] at hj
     split at hj
     ·rw [← Array.getElem?_toList]; exact hj
     ·cases hj
    simp [World.cell?, hh, hj']
theorem Own.below {w w' : World} {base : Nat} {v : Value} {es : List Pl.Ent} (h : Own w base v es) (k : Below w.heap.size w w') : Own w' base v es := by
 obtain ⟨h0, h1⟩ := h
 refine ⟨h0, ?_⟩
 rcases h1 with h1 | ⟨g, cap, cur, rfl, hb, hh, hr⟩
 ·exact .inl h1
 ·exact .inr ⟨g, cap, cur, rfl, hb, (k.block g (lt_of_block hh)).trans hh, hr⟩
theorem Own.mono {w : World} {base base' : Nat} {v : Value} {es : List Pl.Ent} (h : Own w base v es) (k : base' ≤ base) : Own w base' v es := by
 obtain ⟨h0, h1⟩ := h
 refine ⟨h0, ?_⟩
 rcases h1 with h1 | ⟨g, cap, cur, rfl, hb, hr⟩
 ·exact .inl h1
 ·exact .inr ⟨g, cap, cur, rfl, by omega, hr⟩
theorem Own.nil (w : World) (base : Nat) : Own w base (.slice none 0 0) [] := World.ownsRow_nil _ _ _ _
theorem box4 {w w3 : World} {c0 c1 c2 c3 : Value} {T : TypeId} (hb : Below (w.heap.size + 1) (w.alloc (.cells #[c0, c1, c2, c3] T)) w3) :
  w3.cell? ⟨w.heap.size, 0, none⟩ = some c0 ∧ w3.cell? ⟨w.heap.size, 1, none⟩ = some c1 ∧ w3.cell? ⟨w.heap.size, 2, none⟩ = some c2 ∧ w3.cell? ⟨w.heap.size, 3, none⟩ = some c3 := by
 refine ⟨?_, ?_, ?_, ?_⟩
 all_goals
  rw [hb.cell (by simp)]
  simp
theorem new4 (w : World) {T : TypeId} {e : Pl.Ent} {j : Nat} {u : Value} (h : (cellsE e)[j]? = some u) :
  (w.alloc (.cells #[.string e.key, .int .i64 e.ver, .int .i64 e.org, .string e.val] T)).cell? ⟨w.heap.size, 0 + j, none⟩ = some u := by
 match j, h with
 | 0, h => simp [cellsE] at h; subst h; simp
 | 1, h => simp [cellsE] at h; subst h; simp
 | 2, h => simp [cellsE] at h; subst h; simp
 | 3, h => simp [cellsE] at h; subst h; simp
 | j + 4, h => simp [cellsE] at h
theorem own_of {w : World} {base n : Nat} {v : Value} {xs : List Value} {ll : List Pl.Ent} (h : w.ownsRow base 55 4 v n xs) (e : xs = cellsL ll) : Own w base v ll := by
 subst e
 have hn : n = ll.length := by
  have := h.1
  rw [cellsL_len] at this
  omega
 subst hn
 exact h
theorem heap_new (w : World) (o : Obj) : (w.alloc o).heap[w.heap.size]? = some o := by
 show (w.heap.push o)[w.heap.size]? = _
 simp
theorem all_listed2 {md : Region.Mode} {ops : Array Oper} {listed : Array Bool} (hb0 : (List.range ops.size).all (fun i => (ops[i]?.map (fun o => o.after.all (fun e => !Region.binds md e || decide (e.on < i)))).getD true) = true) (hs : listed.size = ops.size) (hr : Region.ready md ops listed = []) :
  ∀ i, i < ops.size → listed.getD i false = true := by
 have hb : ∀ (i : Nat) (o : Oper), ops[i]? = some o → ∀ e ∈ o.after, Region.binds md e = true → e.on < i := by
  intro i o ho e he hbd
  have hi : i < ops.size := (Array.getElem?_eq_some_iff.1 ho).1
  have := List.all_eq_true.1 hb0 i (List.mem_range.2 hi)
  rw [ho] at this
  simp only [Option.map_some, Option.getD_some] at this
  have := Array.all_eq_true_iff_forall_mem.1 this e he
  rw [hbd] at this
  exact of_decide_eq_true (by simpa using this)
 intro i
 induction i using Nat.strongRecOn with
 | _ i ih =>
  intro hi
  cases hl : listed.getD i false with
  | true => rfl
  | false =>
   exfalso
   have hm : i ∈ Region.ready md ops listed := by
    rw [mem_ready]
    refine ⟨?_, ops[i], Array.getElem?_eq_getElem hi, fun e he hbd => ?_⟩
    ·have : i < listed.size := by omega
     simp [this] at hl ⊢
     exact hl
    ·have he' := hb i ops[i] (Array.getElem?_eq_getElem hi) e he hbd
     exact ih e.on he' (by omega)
   rw [hr] at hm
   cases hm
structure SV where
 p : Value → World → Prop
 st : ∀ u w w', Below w.heap.size w w' → p u w → p u w'
def SV.any : SV := ⟨fun _ _ => True, fun _ _ _ _ h => h⟩
def SV.eq (v : Value) : SV := ⟨fun u _ => u = v, fun _ _ _ _ h => h⟩
def SV.two (s : SV) (c : Int) : SV := ⟨fun u W => ∃ l, u = .tuple #[l, .int .i64 c] ∧ s.p l W, fun _ _ _ hb ⟨l, e, h⟩ => ⟨l, e, s.st _ _ _ hb h⟩⟩
def SV.V (L : List SV) (j : Nat) (u : Value) (W : World) : Prop := (L.getD j SV.any).p u W
theorem SV.grow {L : List SV} {w w' : World} (hb : Below w.heap.size w w') : ∀ q u, SV.V L q u w → SV.V L q u w' := fun _ _ h => (L.getD _ SV.any).st _ _ _ hb h
def SV.ents (base : Nat) (es : List Pl.Ent) : SV := ⟨fun u W => Own W base u es, fun _ _ _ hb h => h.below hb⟩
def doerV (B : Nat) (kind : Int) : Value :=
 if kind = 1 then .func (.func 110) #[.pointer (some ⟨B, 0, none⟩)] #[]
 else if kind = 2 then .func (.func 111) #[.pointer (some ⟨B, 0, none⟩)] #[]
 else if kind = 3 then .func (.func 112) #[.pointer (some ⟨B, 0, none⟩)] #[]
 else if kind = 4 then .func (.func 113) #[.pointer (some ⟨B, 0, none⟩)] #[]
 else if kind = 5 then .func (.func 114) #[.pointer (some ⟨B, 0, none⟩)] #[]
 else if kind = 6 then .func (.func 115) #[.pointer (some ⟨B, 0, none⟩)] #[]
 else if kind = 7 then .func (.func 116) #[.pointer (some ⟨B, 0, none⟩)] #[]
 else if kind = 8 then .func (.func 117) #[.pointer (some ⟨B, 0, none⟩)] #[]
 else if kind = 9 then .func (.func 118) #[.pointer (some ⟨B, 0, none⟩)] #[]
 else if kind = 10 then .func (.func 119) #[.pointer (some ⟨B, 0, none⟩)] #[]
 else Value.nilFunc
set_option maxHeartbeats 4000000 in
theorem doer_any (B : Nat) (kind : Int) (w : World) :
  Calls Tryz.prog 70 #[.pointer (some ⟨B, 0, none⟩), .int .i64 kind] w fun e w' => e = .returned (doerV B kind) ∧ w' = w := by
 have hmf : ∀ (fn : Fn) (first cap : Array Value) (w : World), (Instr.makeFunc fn first cap).run Tryz.prog w = .ok (.func fn first cap) w := fun _ _ _ _ => rfl
 by_cases h : 1 ≤ kind ∧ kind ≤ 10
 ·have hk : kind = 1 ∨ kind = 2 ∨ kind = 3 ∨ kind = 4 ∨ kind = 5 ∨ kind = 6 ∨ kind = 7 ∨ kind = 8 ∨ kind = 9 ∨ kind = 10 := by omega
  rcases hk with rfl | rfl | rfl | rfl | rfl | rfl | rfl | rfl | rfl | rfl
  all_goals
   go_enter Tryz.func70, Tryz.ntmps70
   go_wp2_with fail
   go_ret
   exact ⟨rfl, rfl⟩
 ·have HV : Hid (doerV B kind = Value.nilFunc) := hid (by
   unfold doerV
   rw [if_neg (by omega), if_neg (by omega), if_neg (by omega), if_neg (by omega), if_neg (by omega), if_neg (by omega), if_neg (by omega), if_neg (by omega), if_neg (by omega), if_neg (by omega)])
  rw [HV.out]
  have k1 : (kind == 1) = false := by simp; omega
  have k2 : (kind == 2) = false := by simp; omega
  have k3 : (kind == 3) = false := by simp; omega
  have k4 : (kind == 4) = false := by simp; omega
  have k5 : (kind == 5) = false := by simp; omega
  have k6 : (kind == 6) = false := by simp; omega
  have k7 : (kind == 7) = false := by simp; omega
  have k8 : (kind == 8) = false := by simp; omega
  have k9 : (kind == 9) = false := by simp; omega
  have k10 : (kind == 10) = false := by simp; omega
  clear h
  go_enter Tryz.func70, Tryz.ntmps70
  go_wp2_with fail
  go_ret
  exact ⟨rfl, rfl⟩
end Go.Proofs.YtjjelkdajdeikaaGreatDoor
namespace Go.Proofs.YtjjelkdajdeikaaGreatDoor.Pl
inductive Way (L : Nat → Nat → Int) (D : Nat → Bool) (f k : Nat) : Nat → Int → Prop
 | base : k < 12 → k ≠ f → 0 < L f k → Way L D f k k (L f k)
 | step {a b : Nat} {c : Int} : Way L D f k a c → D a = false → b < 12 → b ≠ f → 0 < L a b → Way L D f k b (c + L a b)
theorem Way.pos {L D f k v c} (h : Way L D f k v c) : 0 < c := by
 induction h with
 | base _ _ h => exact h
 | step _ _ _ _ h ih => omega
theorem Way.lt {L D f k v c} (h : Way L D f k v c) : v < 12 := by cases h <;> assumption
theorem Way.ne {L D f k v c} (h : Way L D f k v c) : v ≠ f := by cases h <;> assumption
theorem Way.klt {L D f k v c} (h : Way L D f k v c) : k < 12 ∧ k ≠ f := by
 induction h with
 | base h1 h2 _ => exact ⟨h1, h2⟩
 | step _ _ _ _ _ ih => exact ih
def IsMin (P : Int → Prop) (m : Int) : Prop := (m = -1 ∧ ∀ c, ¬ P c) ∨ (0 ≤ m ∧ P m ∧ ∀ c, P c → m ≤ c)
def upd {α : Type} (f : Nat → α) (i : Nat) (v : α) : Nat → α := fun j => if j = i then v else f j
theorem upd_same {α : Type} (f : Nat → α) (i : Nat) (v : α) : upd f i v i = v := by simp [upd]
theorem upd_ne {α : Type} (f : Nat → α) {i j : Nat} (v : α) (h : j ≠ i) : upd f i v j = f j := by simp [upd, h]
structure DS where
 cost : Nat → Int
 hops : Nat → Nat → Bool
 done : Nat → Bool
def dInit (f : Nat) : DS := ⟨fun j => if j = f then 0 else -1, fun _ _ => false, fun _ => false⟩
def dS1 (j : Nat) (c : Int) (s : DS) : DS :=
 if s.cost j = -1 ∨ c < s.cost j then ⟨upd s.cost j c, upd s.hops j (fun _ => false), s.done⟩ else s
def dS2 (f n j : Nat) (h : Nat → Nat → Bool) : Nat → Nat → Bool := if n = f then upd h j (upd (h j) j true) else h
def dS3 (n j i : Nat) (h : Nat → Nat → Bool) : Nat → Nat → Bool := upd h j (fun k => h j k || (decide (k < i) && h n k))
def dStep (f n j : Nat) (c : Int) (s : DS) : DS :=
 if (dS1 j c s).cost j < c then dS1 j c s
 else ⟨(dS1 j c s).cost, dS3 n j 12 (dS2 f n j (dS1 j c s).hops), (dS1 j c s).done⟩
def dRow (L : Nat → Nat → Int) (f n : Nat) (s : DS) : Nat → DS
 | 0 => s
 | i + 1 => if 0 < L n i then dStep f n i ((dRow L f n s i).cost n + L n i) (dRow L f n s i) else dRow L f n s i
def near (s : DS) : Nat → Int
 | 0 => -1
 | i + 1 => if s.cost i = -1 ∨ s.done i = true then near s i else if near s i = -1 ∨ s.cost i < s.cost (near s i).toNat then i else near s i
def dDone (s : DS) (n : Nat) : DS := ⟨s.cost, s.hops, upd s.done n true⟩
def dProc (L : Nat → Nat → Int) (D : Nat → Bool) (f : Nat) (s : DS) (n : Nat) : DS :=
 if D n = true ∧ n ≠ f then dDone s n else dRow L f n (dDone s n) 12
def dIter (L : Nat → Nat → Int) (D : Nat → Bool) (f : Nat) : Nat → DS
 | 0 => dInit f
 | k + 1 => if near (dIter L D f k) 12 = -1 then dIter L D f k else dProc L D f (dIter L D f k) (near (dIter L D f k) 12).toNat
theorem near_spec (s : DS) (i : Nat) :
  (near s i = -1 ∧ ∀ v, v < i → s.cost v = -1 ∨ s.done v = true) ∨
  (∃ n : Nat, near s i = n ∧ n < i ∧ s.cost n ≠ -1 ∧ s.done n = false ∧ ∀ v, v < i → s.cost v ≠ -1 → s.done v = false → s.cost n ≤ s.cost v) := by
 induction i with
 | zero => left; exact ⟨rfl, by omega⟩
 | succ i ih =>
  unfold near
  by_cases h : s.cost i = -1 ∨ s.done i = true
  ·rw [if_pos h]
   rcases ih with ⟨h1, h2⟩ | ⟨n, h1, h2, h3, h4, h5⟩
   ·left
    refine ⟨h1, fun v hv => ?_⟩
    by_cases hvi : v = i
    ·subst hvi; exact h
    ·exact h2 v (by omega)
   ·right
    refine ⟨n, h1, by omega, h3, h4, fun v hv g1 g2 => ?_⟩
    by_cases hvi : v = i
    ·subst hvi; rcases h with h | h
     ·exact absurd h g1
     ·rw [h] at g2; cases g2
    ·exact h5 v (by omega) g1 g2
  ·rw [if_neg h]
   have hc : s.cost i ≠ -1 := fun x => h (.inl x)
   have hd : s.done i = false := by
    cases hh : s.done i with
    | false => rfl
    | true => exact absurd (.inr hh) h
   right
   rcases ih with ⟨h1, h2⟩ | ⟨n, h1, h2, h3, h4, h5⟩
   ·rw [if_pos (.inl h1)]
    refine ⟨i, rfl, by omega, hc, hd, fun v hv g1 g2 => ?_⟩
    by_cases hvi : v = i
    ·subst hvi; exact Int.le_refl _
    ·rcases h2 v (by omega) with x | x
     ·exact absurd x g1
     ·rw [x] at g2; cases g2
   ·rw [h1, Int.toNat_natCast]
    by_cases hl : s.cost i < s.cost n
    ·rw [if_pos (.inr hl)]
     refine ⟨i, rfl, by omega, hc, hd, fun v hv g1 g2 => ?_⟩
     by_cases hvi : v = i
     ·subst hvi; exact Int.le_refl _
     ·have := h5 v (by omega) g1 g2; omega
    ·rw [if_neg (by omega)]
     refine ⟨n, rfl, by omega, h3, h4, fun v hv g1 g2 => ?_⟩
     by_cases hvi : v = i
     ·subst hvi; omega
     ·exact h5 v (by omega) g1 g2
structure DInv (L : Nat → Nat → Int) (D : Nat → Bool) (f n i : Nat) (s : DS) : Prop where
 c0 : s.cost f = 0
 h0 : ∀ k, s.hops f k = false
 cw : ∀ v, v ≠ f → s.cost v ≠ -1 → ∃ k, Way L D f k v (s.cost v)
 hw : ∀ v k, s.hops v k = true → Way L D f k v (s.cost v)
 rl : ∀ u v, s.done u = true → (u = n → v < i) → (u = f ∨ D u = false) → v < 12 → v ≠ f → 0 < L u v →
  s.cost v ≠ -1 ∧ s.cost v ≤ s.cost u + L u v ∧ (s.cost v = s.cost u + L u v → (u = f → s.hops v v = true) ∧ ∀ k, s.hops u k = true → s.hops v k = true)
 dc : ∀ u, s.done u = true → s.cost u ≠ -1
 od : ∀ u v, s.done u = true → s.done v = false → s.cost v ≠ -1 → s.cost u ≤ s.cost v
 mx : n < 12 → ∀ u, s.done u = true → s.cost u ≤ s.cost n
theorem DInv.pos {L D f n i s} (h : DInv L D f n i s) (v : Nat) (hc : s.cost v ≠ -1) : 0 ≤ s.cost v := by
 by_cases hv : v = f
 ·subst hv; rw [h.c0]; omega
 ·obtain ⟨k, hk⟩ := h.cw v hv hc; have := hk.pos; omega
theorem DInv.init (L D f) : DInv L D f 12 0 (dInit f) where
 c0 := by simp [dInit]
 h0 := by simp [dInit]
 cw := by intro v hv hc; simp [dInit, hv] at hc
 hw := by simp [dInit]
 rl := by simp [dInit]
 dc := by simp [dInit]
 od := by simp [dInit]
 mx := by simp [dInit]
theorem dS1_done (j c s) : (dS1 j c s).done = s.done := by unfold dS1; split <;> rfl
theorem dStep_done (f n j c s) : (dStep f n j c s).done = s.done := by unfold dStep; split <;> simp [dS1_done]
theorem dRow_done (L f n s i) : (dRow L f n s i).done = s.done := by
 induction i with
 | zero => rfl
 | succ i ih => unfold dRow; split <;> simp [dStep_done, ih]
theorem dStep_idle {f n j : Nat} {c : Int} {s : DS} (h1 : s.cost j ≠ -1) (h2 : s.cost j < c) : dStep f n j c s = s := by
 have : dS1 j c s = s := by unfold dS1; rw [if_neg (by omega)]
 unfold dStep; rw [this, if_pos h2]
theorem dStep_cost_ne {f n j v : Nat} {c : Int} {s : DS} (h : v ≠ j) : (dStep f n j c s).cost v = s.cost v := by
 unfold dStep dS1; split <;> split <;> simp_all [upd]
theorem dStep_hops_ne {f n j v : Nat} {c : Int} {s : DS} (h : v ≠ j) : (dStep f n j c s).hops v = s.hops v := by
 unfold dStep dS1 dS2 dS3; split <;> split <;> (try split) <;> simp_all [upd]
theorem dStep_at {f n j : Nat} {c : Int} {s : DS} (hn : n ≠ j) :
  (dStep f n j c s).cost j = (if s.cost j = -1 ∨ c < s.cost j then c else s.cost j) ∧
  ∀ k, (dStep f n j c s).hops j k = (if s.cost j = -1 ∨ c < s.cost j then (decide (n = f ∧ k = j) || (decide (k < 12) && s.hops n k))
   else if s.cost j = c then (s.hops j k || decide (n = f ∧ k = j) || (decide (k < 12) && s.hops n k)) else s.hops j k) := by
 by_cases h : s.cost j = -1 ∨ c < s.cost j
 ·have e1 : dS1 j c s = ⟨upd s.cost j c, upd s.hops j (fun _ => false), s.done⟩ := by unfold dS1; rw [if_pos h]
  have e2 : ¬ ((dS1 j c s).cost j < c) := by rw [e1]; simp [upd]
  unfold dStep
  rw [if_neg e2, e1]
  simp only [if_pos h]
  refine ⟨by simp [upd], fun k => ?_⟩
  simp only [dS3, upd_same]
  by_cases hf : n = f
  ·simp only [dS2, if_pos hf, upd_same, upd_ne _ _ hn]
   by_cases hk : k = j
   ·subst hk; simp [upd, hf]
   ·simp [upd, hk]
  ·simp only [dS2, if_neg hf, upd_same, upd_ne _ _ hn]
   simp [hf]
 ·have e1 : dS1 j c s = s := by unfold dS1; rw [if_neg h]
  simp only [if_neg h]
  by_cases hlt : s.cost j < c
  ·rw [dStep_idle (by omega) hlt]
   refine ⟨rfl, fun k => ?_⟩
   rw [if_neg (by omega)]
  ·have heq : s.cost j = c := by omega
   unfold dStep
   rw [e1, if_neg hlt]
   refine ⟨rfl, fun k => ?_⟩
   rw [if_pos heq]
   simp only [dS3, upd_same]
   by_cases hf : n = f
   ·simp only [dS2, if_pos hf, upd_same, upd_ne _ _ hn]
    by_cases hk : k = j
    ·subst hk; simp [upd, hf]
    ·simp [upd, hk]
   ·simp only [dS2, if_neg hf]
    simp [hf]
theorem bfalse {b : Bool} (h : b ≠ true) : b = false := by cases b <;> simp_all
theorem DInv.step {L M : Nat → Nat → Int} {D : Nat → Bool} {f n i : Nat} {s : DS} (hM : ∀ a b, a ≠ b → M a b = L a b) (hL : ∀ a, L a a = 0)
  (h : DInv L D f n i s) (hn : n < 12) (hi : i < 12) (hd : s.done n = true) (ho : n = f ∨ D n = false) :
  DInv L D f n (i + 1) (if 0 < M n i then dStep f n i (s.cost n + M n i) s else s) := by
 have idle : (0 < L n i → i ≠ f → s.cost i ≠ -1 ∧ s.cost i < s.cost n + L n i) → DInv L D f n (i + 1) s := by
  intro g
  refine { h with rl := ?_ }
  ··intro u v h1 h2 h3 h4 h5 h6
    by_cases hu : u = n ∧ v = i
    ·obtain ⟨rfl, rfl⟩ := hu
     obtain ⟨g1, g2⟩ := g h6 h5
     exact ⟨g1, by omega, fun x => by omega⟩
    ·exact h.rl u v h1 (fun x => by have := h2 x; omega) h3 h4 h5 h6
 by_cases hm : 0 < M n i
 case neg =>
  rw [if_neg hm]
  refine idle fun g => ?_
  by_cases hni : n = i
  ·subst hni; rw [hL] at g; omega
  ·rw [hM n i hni] at hm; omega
 rw [if_pos hm]
 have hpn := h.pos n (h.dc n hd)
 by_cases hni : n = i
 ·subst hni
  rw [dStep_idle (h.dc n hd) (by omega)]
  exact idle fun g => by rw [hL] at g; omega
 rw [hM n i hni] at hm ⊢
 by_cases hid : s.done i = true
 ·have h1 := h.mx hn i hid
  have h2 := h.dc i hid
  rw [dStep_idle h2 (by omega)]
  exact idle fun _ _ => ⟨h2, by omega⟩
 have hid := bfalse hid
 by_cases hif : i = f
 ·subst hif
  have := h.c0
  rw [dStep_idle (by omega) (by omega)]
  exact idle fun _ x => absurd rfl x
 obtain ⟨e1, e2⟩ := dStep_at (f := f) (c := s.cost n + L n i) (s := s) hni
 have n1 : ∀ v, v ≠ i → (dStep f n i (s.cost n + L n i) s).cost v = s.cost v := fun v hv => dStep_cost_ne hv
 have n2 : ∀ v, v ≠ i → (dStep f n i (s.cost n + L n i) s).hops v = s.hops v := fun v hv => dStep_hops_ne hv
 have n3 : (dStep f n i (s.cost n + L n i) s).done = s.done := dStep_done ..
 have wn : ∀ k, s.hops n k = true → Way L D f k i (s.cost n + L n i) := fun k hk => by
  have hw := h.hw n k hk
  rcases ho with rfl | ho
  ·exact absurd rfl hw.ne
  ·exact hw.step ho hi hif hm
 have wf : n = f → Way L D f i i (s.cost n + L n i) := fun hf => by
  subst hf; rw [h.c0, Int.zero_add]; exact .base hi hif hm
 have we : ∃ k, Way L D f k i (s.cost n + L n i) := by
  by_cases hf : n = f
  ·exact ⟨i, wf hf⟩
  ·obtain ⟨k, hk⟩ := h.cw n hf (h.dc n hd)
   exact ⟨k, hk.step (ho.resolve_left hf) hi hif hm⟩
 have hpi := h.pos i
 have e3 : s.cost i = -1 ∨ s.cost n + L n i < s.cost i ∨ (0 ≤ s.cost i ∧ s.cost i ≤ s.cost n + L n i) := by
  by_cases hc : s.cost i = -1
  ·exact .inl hc
  ·have := hpi hc; omega
 generalize dStep f n i (s.cost n + L n i) s = t at *
 refine ⟨?_, ?_, ?_, ?_, ?_, ?_, ?_, ?_⟩
 ·rw [n1 f (Ne.symm hif)]; exact h.c0
 ·intro k; rw [n2 f (Ne.symm hif)]; exact h.h0 k
 ·intro v hv hc
  by_cases hvi : v = i
  ·subst hvi
   rw [e1] at hc ⊢
   split
   ·exact we
   ·rename_i hx; rw [if_neg hx] at hc; exact h.cw v hv hc
  ·rw [n1 v hvi] at hc ⊢; exact h.cw v hv hc
 ·intro v k hk
  by_cases hvi : v = i
  ·subst hvi
   rw [e2] at hk
   rw [e1]
   by_cases hx : s.cost v = -1 ∨ s.cost n + L n v < s.cost v
   ·rw [if_pos hx] at hk ⊢
    simp only [Bool.or_eq_true, Bool.and_eq_true, decide_eq_true_eq] at hk
    rcases hk with ⟨g1, rfl⟩ | ⟨_, g⟩
    ·exact wf g1
    ·exact wn k g
   ·rw [if_neg hx] at hk ⊢
    by_cases hy : s.cost v = s.cost n + L n v
    ·rw [if_pos hy] at hk
     simp only [Bool.or_eq_true, Bool.and_eq_true, decide_eq_true_eq] at hk
     rcases hk with (g | ⟨g1, rfl⟩) | ⟨_, g⟩
     ·exact h.hw v k g
     ·rw [hy]; exact wf g1
     ·rw [hy]; exact wn k g
    ·rw [if_neg hy] at hk; exact h.hw v k hk
  ·rw [n2 v hvi] at hk; rw [n1 v hvi]; exact h.hw v k hk
 ·intro u v h1 h2 h3 h4 h5 h6
  rw [n3] at h1
  have hui : u ≠ i := fun x => by rw [x, hid] at h1; cases h1
  rw [n1 u hui, n2 u hui]
  by_cases hvi : v = i
  ·subst hvi
   rw [e1]
   by_cases hun : u = n
   ·subst hun
    by_cases hx : s.cost v = -1 ∨ s.cost u + L u v < s.cost v
    ·rw [if_pos hx]
     refine ⟨by omega, by omega, fun _ => ⟨fun g => ?_, fun k g => ?_⟩⟩
     ·rw [e2, if_pos hx]; simp [g]
     ·rw [e2, if_pos hx]; have := (h.hw u k g).klt.1; simp [g, this]
    ·rw [if_neg hx]
     refine ⟨by omega, by omega, fun x => ⟨fun g => ?_, fun k g => ?_⟩⟩
     ·rw [e2, if_neg hx, if_pos x]; simp [g]
     ·rw [e2, if_neg hx, if_pos x]; have := (h.hw u k g).klt.1; simp [g, this]
   ·obtain ⟨r1, r2, r3⟩ := h.rl u v h1 (fun x => absurd x hun) h3 h4 h5 h6
    by_cases hx : s.cost v = -1 ∨ s.cost n + L n v < s.cost v
    ·rw [if_pos hx]
     exact ⟨by omega, by omega, fun x => by omega⟩
    ·rw [if_neg hx]
     refine ⟨r1, r2, fun x => ?_⟩
     obtain ⟨q1, q2⟩ := r3 x
     refine ⟨fun g => ?_, fun k g => ?_⟩
     ·rw [e2, if_neg hx]; split
      ·simp [q1 g]
      ·exact q1 g
     ·rw [e2, if_neg hx]; split
      ·simp [q2 k g]
      ·exact q2 k g
  ·rw [n1 v hvi, n2 v hvi]
   exact h.rl u v h1 (fun x => by have := h2 x; omega) h3 h4 h5 h6
 ·intro u hu
  rw [n3] at hu
  have hui : u ≠ i := fun x => by rw [x, hid] at hu; cases hu
  rw [n1 u hui]; exact h.dc u hu
 ·intro u v hu hv hc
  rw [n3] at hu hv
  have hui : u ≠ i := fun x => by rw [x, hid] at hu; cases hu
  rw [n1 u hui]
  by_cases hvi : v = i
  ·subst hvi
   rw [e1] at hc ⊢
   have := h.mx hn u hu
   split
   ·omega
   ·rename_i hx; rw [if_neg hx] at hc; exact h.od u v hu hv hc
  ·rw [n1 v hvi] at hc ⊢; exact h.od u v hu hv hc
 ·intro _ u hu
  rw [n3] at hu
  have hui : u ≠ i := fun x => by rw [x, hid] at hu; cases hu
  rw [n1 u hui, n1 n hni]; exact h.mx hn u hu
theorem DInv.row {L M : Nat → Nat → Int} {D : Nat → Bool} {f n : Nat} {s : DS} (hM : ∀ a b, a ≠ b → M a b = L a b) (hL : ∀ a, L a a = 0)
  (h : DInv L D f n 0 s) (hn : n < 12) (hd : s.done n = true) (ho : n = f ∨ D n = false) (i : Nat) (hi : i ≤ 12) : DInv L D f n i (dRow M f n s i) := by
 induction i with
 | zero => exact h
 | succ i ih => exact DInv.step hM hL (ih (by omega)) hn (by omega) (by rw [dRow_done]; exact hd) ho
theorem DInv.at {L : Nat → Nat → Int} {D : Nat → Bool} {f n : Nat} {s : DS} (h : DInv L D f 12 0 s) (hf : f < 12) (hn : n < 12) (hc : s.cost n ≠ -1) (hd : s.done n = false)
  (hm : ∀ v, v < 12 → s.cost v ≠ -1 → s.done v = false → s.cost n ≤ s.cost v) : DInv L D f n 0 (dDone s n) where
 c0 := h.c0
 h0 := h.h0
 cw := h.cw
 hw := h.hw
 rl := by
  intro u v h1 h2 h3 h4 h5 h6
  by_cases hu : u = n
  ·have := h2 hu; omega
  ·simp only [dDone, upd_ne _ _ hu] at h1
   exact h.rl u v h1 (fun x => by subst x; exact absurd (h.dc 12 h1) (fun g => by
    have := h.cw 12 (by omega) g; obtain ⟨k, hk⟩ := this; have := hk.lt; omega)) h3 h4 h5 h6
 dc := by
  intro u h1
  by_cases hu : u = n
  ·subst hu; exact hc
  ·simp only [dDone, upd_ne _ _ hu] at h1; exact h.dc u h1
 od := by
  intro u v h1 h2 h3
  have hv : v ≠ n := fun x => by simp [dDone, x, upd] at h2
  simp only [dDone, upd_ne _ _ hv] at h2
  have hv12 : v < 12 := by
   by_cases x : v = f
   ·omega
   ·obtain ⟨k, hk⟩ := h.cw v x h3; exact hk.lt
  by_cases hu : u = n
  ·subst hu; exact hm v hv12 h3 h2
  ·simp only [dDone, upd_ne _ _ hu] at h1; exact h.od u v h1 h2 h3
 mx := by
  intro _ u h1
  by_cases hu : u = n
  ·subst hu; exact Int.le_refl _
  ·simp only [dDone, upd_ne _ _ hu] at h1; exact h.od u n h1 hd hc
theorem DInv.proc {L M : Nat → Nat → Int} {D : Nat → Bool} {f n : Nat} {s : DS} (hM : ∀ a b, a ≠ b → M a b = L a b) (hL : ∀ a, L a a = 0)
  (h : DInv L D f 12 0 s) (hf : f < 12) (hn : n < 12) (hc : s.cost n ≠ -1) (hd : s.done n = false)
  (hm : ∀ v, v < 12 → s.cost v ≠ -1 → s.done v = false → s.cost n ≤ s.cost v) : DInv L D f 12 0 (dProc M D f s n) := by
 have h1 := h.at hf hn hc hd hm
 unfold dProc
 by_cases hx : D n = true ∧ n ≠ f
 ·rw [if_pos hx]
  exact { h1 with
   rl := fun u v g1 _ g3 g4 g5 g6 => h1.rl u v g1 (fun y => by
    subst y; rcases g3 with g | g
    ·exact absurd g hx.2
    ·rw [hx.1] at g; cases g) g3 g4 g5 g6
   mx := fun x => absurd x (by omega) }
 ·rw [if_neg hx]
  have ho : n = f ∨ D n = false := by
   by_cases g : n = f
   ·exact .inl g
   ·exact .inr (bfalse fun y => hx ⟨y, g⟩)
  have h2 := h1.row hM hL hn (by simp [dDone, upd]) ho 12 (by omega)
  exact { h2 with
   rl := fun u v g1 _ g3 g4 g5 g6 => h2.rl u v g1 (fun _ => g4) g3 g4 g5 g6
   mx := fun x => absurd x (by omega) }
theorem DInv.iter {L M : Nat → Nat → Int} {D : Nat → Bool} {f : Nat} (hM : ∀ a b, a ≠ b → M a b = L a b) (hL : ∀ a, L a a = 0) (hf : f < 12) (k : Nat) :
  DInv L D f 12 0 (dIter M D f k) := by
 induction k with
 | zero => exact DInv.init L D f
 | succ k ih =>
  unfold dIter
  rcases near_spec (dIter M D f k) 12 with ⟨h1, _⟩ | ⟨n, h1, h2, h3, h4, h5⟩
  ·rw [if_pos h1]; exact ih
  ·rw [h1, if_neg (by omega), Int.toNat_natCast]
   exact ih.proc hM hL hf h2 h3 h4 h5
def cnt (d : Nat → Bool) : Nat → Nat
 | 0 => 0
 | i + 1 => cnt d i + if d i = true then 1 else 0
theorem cnt_le (d : Nat → Bool) (i : Nat) : cnt d i ≤ i := by
 induction i with
 | zero => exact Nat.le_refl _
 | succ i ih => unfold cnt; split <;> omega
theorem cnt_mono {d e : Nat → Bool} (h : ∀ v, d v = true → e v = true) (i : Nat) : cnt d i ≤ cnt e i := by
 induction i with
 | zero => exact Nat.le_refl _
 | succ i ih =>
  unfold cnt
  by_cases hd : d i = true
  ·rw [if_pos hd, if_pos (h i hd)]; omega
  ·rw [if_neg hd]; omega
theorem cnt_lt {d e : Nat → Bool} (h : ∀ v, d v = true → e v = true) {u i : Nat} (hu : u < i) (h1 : d u = false) (h2 : e u = true) : cnt d i < cnt e i := by
 induction i with
 | zero => omega
 | succ i ih =>
  unfold cnt
  by_cases hi : u = i
  ·subst hi
   rw [h1, h2, if_neg (by decide), if_pos rfl]
   have := cnt_mono h u; omega
  ·have := ih (by omega)
   by_cases hd : d i = true
   ·rw [if_pos hd, if_pos (h i hd)]; omega
   ·rw [if_neg hd]; omega
theorem cnt_all (i : Nat) : cnt (fun _ => true) i = i := by
 induction i with
 | zero => rfl
 | succ i ih => simp [cnt, ih]
theorem cnt_lt_all {d : Nat → Bool} {u i : Nat} (hu : u < i) (h1 : d u = false) : cnt d i < i := by
 have := cnt_lt (d := d) (e := fun _ => true) (fun _ _ => rfl) hu h1 rfl
 rw [cnt_all] at this; exact this
theorem cnt_upd {d : Nat → Bool} {u i : Nat} (hu : u < i) (h1 : d u = false) : cnt d i < cnt (upd d u true) i :=
 cnt_lt (fun v hv => by by_cases h : v = u <;> simp [upd, h, hv]) hu h1 (by simp [upd])
theorem dProc_done (L D f s n) : (dProc L D f s n).done = upd s.done n true := by
 unfold dProc; split <;> simp [dDone, dRow_done]
theorem dIter_cnt (L D f) (k : Nat) : near (dIter L D f k) 12 = -1 ∨ k ≤ cnt (dIter L D f k).done 12 := by
 induction k with
 | zero => right; omega
 | succ k ih =>
  rcases near_spec (dIter L D f k) 12 with ⟨h1, _⟩ | ⟨n, h1, h2, h3, h4, h5⟩
  ·left; unfold dIter; rw [if_pos h1]; exact h1
  ·right
   have h6 := ih.resolve_left (by omega)
   unfold dIter
   rw [h1, if_neg (by omega), Int.toNat_natCast, dProc_done]
   have := cnt_upd (d := (dIter L D f k).done) h2 h4
   omega
theorem dIter_lt {L D f k} (h : near (dIter L D f k) 12 ≠ -1) : k < 12 := by
 have h6 := (dIter_cnt L D f k).resolve_left h
 rcases near_spec (dIter L D f k) 12 with ⟨h1, _⟩ | ⟨n, h1, h2, h3, h4, h5⟩
 ·exact absurd h1 h
 ·have := cnt_lt_all h2 h4; omega
theorem dIter_end (L D f) : near (dIter L D f 12) 12 = -1 := by
 by_cases h : near (dIter L D f 12) 12 = -1
 ·exact h
 ·have := dIter_lt h; omega
theorem dIter_stay {L D f k} (h : near (dIter L D f k) 12 = -1) (j : Nat) : dIter L D f (k + j) = dIter L D f k := by
 induction j with
 | zero => rfl
 | succ j ih => show (if near (dIter L D f (k + j)) 12 = -1 then dIter L D f (k + j) else _) = _; rw [ih, if_pos h]
theorem dIter_stop {L D f k} (h : near (dIter L D f k) 12 = -1) (hk : k ≤ 12) : dIter L D f k = dIter L D f 12 := by
 have := dIter_stay h (12 - k)
 rw [← this]; congr 1; omega
theorem found {L M : Nat → Nat → Int} {D : Nat → Bool} {f : Nat} (hM : ∀ a b, a ≠ b → M a b = L a b) (hL : ∀ a, L a a = 0) (hf : f < 12) {k v : Nat} {c : Int}
  (h : Way L D f k v c) : (dIter M D f 12).cost v ≠ -1 ∧ (dIter M D f 12).cost v ≤ c ∧ ((dIter M D f 12).cost v = c → (dIter M D f 12).hops v k = true) := by
 have I := DInv.iter (D := D) hM hL hf 12
 have E := dIter_end M D f
 rcases near_spec (dIter M D f 12) 12 with ⟨_, N⟩ | ⟨n, h1, _⟩
 case inr => omega
 generalize dIter M D f 12 = s at *
 have fd : s.done f = true := (N f hf).resolve_left (by rw [I.c0]; omega)
 induction h with
 | base h1 h2 h3 =>
  obtain ⟨r1, r2, r3⟩ := I.rl f k fd (by omega) (.inl rfl) h1 h2 h3
  rw [I.c0, Int.zero_add] at r2 r3
  exact ⟨r1, r2, fun x => (r3 x).1 rfl⟩
 | @step a b c h1 h2 h3 h4 h5 ih =>
  obtain ⟨i1, i2, i3⟩ := ih
  have ad : s.done a = true := (N a h1.lt).resolve_left i1
  have al := h1.lt
  obtain ⟨r1, r2, r3⟩ := I.rl a b ad (by omega) (.inr h2) h3 h4 h5
  refine ⟨r1, by omega, fun x => ?_⟩
  have e : s.cost a = c := by omega
  exact (r3 (by omega)).2 k (i3 e)
theorem found_min {L M : Nat → Nat → Int} {D : Nat → Bool} {f : Nat} (hM : ∀ a b, a ≠ b → M a b = L a b) (hL : ∀ a, L a a = 0) (hf : f < 12) {v : Nat} (hv : v ≠ f) :
  IsMin (fun c => ∃ k, Way L D f k v c) ((dIter M D f 12).cost v) := by
 have I := DInv.iter (D := D) hM hL hf 12
 by_cases h : (dIter M D f 12).cost v = -1
 ·exact .inl ⟨h, fun c ⟨k, hk⟩ => (found hM hL hf hk).1 h⟩
 ·exact .inr ⟨I.pos v h, I.cw v hv h, fun c ⟨k, hk⟩ => (found hM hL hf hk).2.1⟩
theorem found_hops {L M : Nat → Nat → Int} {D : Nat → Bool} {f : Nat} (hM : ∀ a b, a ≠ b → M a b = L a b) (hL : ∀ a, L a a = 0) (hf : f < 12) (v k : Nat) :
  (dIter M D f 12).hops v k = true ↔ Way L D f k v ((dIter M D f 12).cost v) := by
 have I := DInv.iter (D := D) hM hL hf 12
 exact ⟨I.hw v k, fun h => (found hM hL hf h).2.2 rfl⟩
theorem from_cost {L M : Nat → Nat → Int} {D : Nat → Bool} {f : Nat} (hM : ∀ a b, a ≠ b → M a b = L a b) (hL : ∀ a, L a a = 0) (hf : f < 12) : (dIter M D f 12).cost f = 0 :=
 (DInv.iter (D := D) hM hL hf 12).c0
end Go.Proofs.YtjjelkdajdeikaaGreatDoor.Pl
namespace Go.Proofs.YtjjelkdajdeikaaGreatDoor.Pl
def cutL (c : UInt8) : List UInt8 → List UInt8 × Option (List UInt8)
 | [] => ([], none)
 | b :: r => if b = c then ([], some r) else (b :: (cutL c r).1, (cutL c r).2)
def behind (x : Option (List UInt8)) : List UInt8 := x.getD []
theorem cutL_none {c : UInt8} : ∀ {l : List UInt8}, c ∉ l → cutL c l = (l, none)
 | [], _ => rfl
 | b :: r, h => by
  simp only [List.mem_cons, not_or] at h
  rw [cutL, if_neg (fun e => h.1 e.symm), cutL_none h.2]
theorem cutL_some {c : UInt8} : ∀ {l : List UInt8} {i : Nat} (_ : i < l.length), l[i]? = some c → c ∉ l.take i → cutL c l = (l.take i, some (l.drop (i + 1)))
 | [], i, h, _, _ => by simp at h
 | b :: r, 0, _, h, _ => by simp at h; simp [cutL, h]
 | b :: r, i + 1, hi, h, k => by
  simp only [List.take_succ_cons, List.mem_cons, not_or] at k
  have := cutL_some (c := c) (l := r) (i := i) (by simpa using hi) (by simpa using h) k.2
  rw [cutL, if_neg (fun e => k.1 e.symm), this]; simp
theorem cutL_len (c : UInt8) : ∀ l : List UInt8, (cutL c l).1.length ≤ l.length ∧ (∀ r, (cutL c l).2 = some r → (cutL c l).1.length + r.length + 1 = l.length)
 | [] => ⟨by simp [cutL], by simp [cutL]⟩
 | b :: r => by
  obtain ⟨h1, h2⟩ := cutL_len c r
  by_cases e : b = c
  ·simp [cutL, e]
  ·rw [cutL, if_neg e]
   refine ⟨by simpa using h1, fun x hx => ?_⟩
   have := h2 x hx
   simp; omega
def dg (c : UInt8) : Bool := decide (48 ≤ (c.toNat : Int) ∧ (c.toNat : Int) ≤ 57)
def dgs (l : List UInt8) : Bool := l.all dg
def val (l : List UInt8) : Int := l.foldl (fun n c => 10 * n + ((c.toNat : Int) - 48)) 0
theorem val_snoc (l : List UInt8) (c : UInt8) : val (l ++ [c]) = 10 * val l + ((c.toNat : Int) - 48) := by simp [val]
theorem dgs_snoc (l : List UInt8) (c : UInt8) : dgs (l ++ [c]) = (dgs l && dg c) := by simp [dgs]
theorem val_nonneg : ∀ (n : Nat) (l : List UInt8), l.length = n → dgs l = true → 0 ≤ val l ∧ val l < 10 ^ n
 | 0, l, h, _ => by rw [List.length_eq_zero_iff.1 h]; simp [val]
 | n + 1, l, h, k => by
  obtain ⟨a, c, rfl⟩ : ∃ a c, l = a ++ [c] := ⟨l.dropLast, l.getLast (by intro e; simp [e] at h), (List.dropLast_concat_getLast _).symm⟩
  rw [dgs_snoc, Bool.and_eq_true] at k
  obtain ⟨h1, h2⟩ := val_nonneg n a (by simpa using h) k.1
  have hc := of_decide_eq_true k.2
  rw [val_snoc]
  have e : (10 : Int) ^ (n + 1) = 10 * 10 ^ n := by rw [Int.pow_succ]; omega
  rw [e]; omega
def numL (l : List UInt8) : Option Int :=
 if 1 ≤ l.length ∧ l.length ≤ 6 ∧ ¬ (l.head? = some 48 ∧ 1 < l.length) ∧ dgs l = true ∧ val l ≤ 100000 then some (val l) else none
theorem numL_size {l : List UInt8} (h : l.length < 1 ∨ 6 < l.length) : numL l = none := by unfold numL; rw [if_neg (by omega)]
theorem numL_zero {l : List UInt8} (h : l.head? = some 48) (k : 1 < l.length) : numL l = none := by unfold numL; rw [if_neg (by simp [h, k])]
theorem numL_bad {l : List UInt8} (h : dgs l = false) : numL l = none := by unfold numL; rw [if_neg (by simp [h])]
theorem numL_great {l : List UInt8} (h : ¬ val l ≤ 100000) : numL l = none := by unfold numL; rw [if_neg (by simp [h])]
theorem numL_some {l : List UInt8} (h1 : 1 ≤ l.length) (h2 : l.length ≤ 6) (h3 : ¬ (l.head? = some 48 ∧ 1 < l.length)) (h4 : dgs l = true) (h5 : val l ≤ 100000) : numL l = some (val l) := by
 unfold numL; rw [if_pos ⟨h1, h2, h3, h4, h5⟩]
theorem numL_range {l : List UInt8} {n : Int} (h : numL l = some n) : 0 ≤ n ∧ n ≤ 100000 := by
 unfold numL at h
 split at h
 ·rename_i hh
  obtain ⟨_, _, _, h4, h5⟩ := hh
  cases h
  exact ⟨(val_nonneg _ l rfl h4).1, h5⟩
 ·cases h
theorem dgs_false {l : List UInt8} {k : Nat} (h : k < l.length) (hb : dg l[k] = false) : dgs l = false := by
 unfold dgs; rw [Bool.eq_false_iff]; intro hh
 rw [List.all_eq_true] at hh
 rw [hh _ (List.getElem_mem h)] at hb; cases hb
def pairL (m : UInt8) (l : List UInt8) : Option (Int × Int) :=
 match numL (cutL m l).1, numL (behind (cutL m l).2) with
 | some a, some b => some (a, b)
 | _, _ => none
theorem pairL_some {m : UInt8} {l : List UInt8} {a b : Int} (ha : numL (cutL m l).1 = some a) (hb : numL (behind (cutL m l).2) = some b) : pairL m l = some (a, b) := by unfold pairL; rw [ha, hb]
theorem pairL_ok {m : UInt8} {l : List UInt8} {p : Int × Int} (h : pairL m l = some p) : 0 ≤ p.1 ∧ p.1 ≤ 100000 ∧ 0 ≤ p.2 ∧ p.2 ≤ 100000 := by
 unfold pairL at h
 split at h
 ·rename_i a b ha hb
  cases h
  exact ⟨(numL_range ha).1, (numL_range ha).2, (numL_range hb).1, (numL_range hb).2⟩
 ·cases h
def partsN : Nat → List UInt8 → List (List UInt8)
 | 0, _ => []
 | n + 1, l => match (cutL 44 l).2 with
  | none => [(cutL 44 l).1]
  | some r => (cutL 44 l).1 :: partsN n r
def parts (l : List UInt8) : List (List UInt8) := partsN (l.length + 1) l
theorem partsN_eq : ∀ (n m : Nat) (l : List UInt8), l.length < n → l.length < m → partsN n l = partsN m l
 | 0, _, _, h, _ => by omega
 | _, 0, _, _, h => by omega
 | n + 1, m + 1, l, h, k => by
  rw [partsN, partsN]
  split
  ·rfl
  ·rename_i r hr
   have := (cutL_len 44 l).2 r hr
   rw [partsN_eq n m r (by omega) (by omega)]
theorem parts_none {l : List UInt8} (h : (cutL 44 l).2 = none) : parts l = [(cutL 44 l).1] := by
 unfold parts; rw [partsN, h]
theorem parts_some {l r : List UInt8} (h : (cutL 44 l).2 = some r) : parts l = (cutL 44 l).1 :: parts r := by
 unfold parts; rw [partsN, h]
 have := (cutL_len 44 l).2 r h
 simp only
 rw [partsN_eq l.length (r.length + 1) r (by omega) (by omega)]
def pairsP (m : UInt8) : List (List UInt8) → Option (List (Int × Int))
 | [] => some []
 | p :: r => match pairL m p, pairsP m r with
  | some x, some y => some (x :: y)
  | _, _ => none
def pairsL (m : UInt8) (l : List UInt8) : Option (List (Int × Int)) := if l = [] then some [] else pairsP m (parts l)
def andThen (a : List (Int × Int)) (x : Option (List (Int × Int))) : Option (List (Int × Int)) := x.map (a ++ ·)
theorem pairsP_none {m : UInt8} {p : List UInt8} {r : List (List UInt8)} (h : pairL m p = none) : pairsP m (p :: r) = none := by rw [pairsP, h]
theorem pairsP_some {m : UInt8} {p : List UInt8} {r : List (List UInt8)} {x : Int × Int} {a : List (Int × Int)} (h : pairL m p = some x) : andThen a (pairsP m (p :: r)) = andThen (a ++ [x]) (pairsP m r) := by
 rw [pairsP, h]
 cases pairsP m r <;> simp [andThen]
theorem pairsP_ok {m : UInt8} : ∀ {ps : List (List UInt8)} {a : List (Int × Int)}, pairsP m ps = some a → ∀ p ∈ a, 0 ≤ p.1 ∧ p.1 ≤ 100000 ∧ 0 ≤ p.2 ∧ p.2 ≤ 100000
 | [], a, h => by cases h; simp
 | p :: r, a, h => by
  rw [pairsP] at h
  split at h
  ·rename_i x y hx hy
   cases h
   intro q hq
   rcases List.mem_cons.1 hq with rfl | hq
   ·exact pairL_ok hx
   ·exact pairsP_ok hy q hq
  ·cases h
theorem pairOk_of {p : Int × Int} (h : 0 ≤ p.1 ∧ p.1 ≤ 100000 ∧ 0 ≤ p.2 ∧ p.2 ≤ 100000) : pairOk p := by
 obtain ⟨h1, h2, h3, h4⟩ := h
 constructor
 all_goals
  simp [Lit.wf, IntKind.min, IntKind.max, IntKind.signed, IntKind.bits]
  omega
end Go.Proofs.YtjjelkdajdeikaaGreatDoor.Pl
