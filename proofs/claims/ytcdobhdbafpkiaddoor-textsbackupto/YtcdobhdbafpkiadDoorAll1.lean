/-
  Contracts and facts that the proof rests on, put together out of several texts.
-/
import Derived.WalkKit
import Derived.Test.YtcdobhdbafpkiadDoorProg
import Derived.WalkLawsBesides
import Derived.WalkSpells
import Derived.Orders
import Derived.Deep.RegionWith
import Derived.Deep.QuietTactic
import Derived.BigQuiet
import Derived.Lib.Strings
import Derived.Lib.Slices
import Derived.Lib.Walk
import Derived.Lib.Bytealg
import Derived.Laws.AppendOwnNone
import Derived.OwnWalk
/-
  Plain definitions and facts on bytes, texts and entries, with no program in sight.
-/
namespace Go.Proofs.YtcdobhdbafpkiadDoor.Pl

/-- may a number be a byte of a key? -/
def kb (n : Int) : Bool := decide (97 ≤ n ∧ n ≤ 122) || decide (48 ≤ n ∧ n ≤ 57) || decide (n = 58)
theorem kb_true {n : Int} (h : (97 ≤ n ∧ n ≤ 122) ∨ (48 ≤ n ∧ n ≤ 57) ∨ n = 58) : kb n = true := by
  unfold kb; rcases h with h | h | h <;> simp [h]
theorem kb_false {n : Int} (h : ¬ ((97 ≤ n ∧ n ≤ 122) ∨ (48 ≤ n ∧ n ≤ 57) ∨ n = 58)) : kb n = false := by
  unfold kb; rw [decide_eq_false (by omega), decide_eq_false (by omega), decide_eq_false (by omega)]; rfl
theorem kb_eq (n : Int) : kb n = decide ((97 ≤ n ∧ n ≤ 122) ∨ (48 ≤ n ∧ n ≤ 57) ∨ n = 58) := by
  by_cases h : (97 ≤ n ∧ n ≤ 122) ∨ (48 ≤ n ∧ n ≤ 57) ∨ n = 58
  · rw [kb_true h, decide_eq_true h]
  · rw [kb_false h, decide_eq_false h]
def kbs (l : List UInt8) : Bool := l.all fun c => kb (c.toNat : Int)
/-- may a text be a key? -/
def keyB (s : ByteArray) : Bool := decide (1 ≤ s.size ∧ s.size ≤ 8) && kbs s.data.toList

theorem kbs_nil : kbs [] = true := rfl
theorem kbs_snoc (l : List UInt8) (c : UInt8) : kbs (l ++ [c]) = (kbs l && kb (c.toNat : Int)) := by
  simp [kbs, List.all_append]
theorem take_snoc (s : ByteArray) (k : Nat) (h : k < s.size) : s.data.toList.take (k + 1) = s.data.toList.take k ++ [s[k]] := by
  rw [List.take_succ_eq_append_getElem (by simpa using h)]; rfl
theorem kbs_take_succ (s : ByteArray) (k : Nat) (h : k < s.size) : kbs (s.data.toList.take (k + 1)) = (kbs (s.data.toList.take k) && kb (s[k].toNat : Int)) := by
  rw [take_snoc s k h, kbs_snoc]
theorem kbs_false_of (s : ByteArray) (k : Nat) (h : k < s.size) (hb : kb (s[k].toNat : Int) = false) : kbs s.data.toList = false := by
  rw [← List.take_append_drop (k + 1) s.data.toList]
  unfold kbs
  rw [List.all_append]
  have := kbs_take_succ s k h
  unfold kbs at this
  rw [this, hb]; simp
theorem keyB_false_of (s : ByteArray) (k : Nat) (h : k < s.size) (hb : kb (s[k].toNat : Int) = false) : keyB s = false := by
  unfold keyB; rw [kbs_false_of s k h hb]; simp
theorem keyB_false_of_size (s : ByteArray) (h : s.size < 1 ∨ 8 < s.size) : keyB s = false := by
  unfold keyB; rw [decide_eq_false (by omega)]; simp
theorem keyB_of_all (s : ByteArray) (h : kbs (s.data.toList.take s.size) = true) : keyB s = decide (1 ≤ s.size ∧ s.size ≤ 8) := by
  unfold keyB
  rw [List.take_of_length_le (by simp)] at h
  rw [h]; simp
end Go.Proofs.YtcdobhdbafpkiadDoor.Pl
/-
  Contracts: what Key and KeyMay, and the small functions that they call, answer: at every text and number.
-/
namespace Go.Proofs.YtcdobhdbafpkiadDoor
open Go.RowKit
set_option maxRecDepth 20000

theorem hid {p : Prop} (h : p) : Hid p := h
theorem ret_bool {a b : Bool} (h : a = b) : Ending.returned (.bool a) = .returned (.bool b) := by rw [h]
theorem ret_int {k : IntKind} {a b : Int} (h : a = b) : Ending.returned (.int k a) = .returned (.int k b) := by rw [h]
theorem bcell {W w1 : World} (hb : Below W.heap.size W w1) : (∀ b o, b < W.heap.size → w1.cell? ⟨b, o, none⟩ = W.cell? ⟨b, o, none⟩) ∧ (∀ b o, b < W.heap.size → w1.frozen? ⟨b, o, none⟩ = W.frozen? ⟨b, o, none⟩) :=
  ⟨fun b o h => hb.cell (p := ⟨b, o, none⟩) h, fun b o h => hb.frozen (p := ⟨b, o, none⟩) h⟩
theorem add_none (b off k : Nat) : Addr.add ⟨b, off, none⟩ k = ⟨b, off + k, none⟩ := by
  unfold Addr.add; split <;> simp_all
theorem byte_le (c : UInt8) : (c.toNat : Int) ≤ 255 := by have := c.toNat_lt; omega

set_option maxHeartbeats 400000 in
theorem isKeyByte_any (n : Int) (w : World) (h0 : 0 ≤ n) (h1 : n ≤ 255) :
    Calls Tryd.prog 76 #[.int .u8 n] w fun e w' => e = .returned (.bool (Pl.kb n)) ∧ w' = w := by
  by_cases a1 : 97 ≤ n
  all_goals by_cases a2 : n ≤ 122
  all_goals by_cases a3 : 48 ≤ n
  all_goals by_cases a4 : n ≤ 57
  all_goals by_cases a5 : n = 58
  all_goals first | (exfalso; omega) | skip
  all_goals
    go_enter Tryd.func76, Tryd.ntmps76
    go_wp2
    go_ret
    exact ⟨ret_bool (by unfold Pl.kb; rw [Bool.eq_iff_iff]; simp <;> omega), rfl⟩

set_option maxHeartbeats 400000 in
theorem isNode_any (n : Int) (w : World) :
    Calls Tryd.prog 27 #[.int .i64 n] w fun e w' => e = .returned (.bool (decide (0 ≤ n ∧ n ≤ 11))) ∧ w' = w := by
  by_cases a1 : 0 ≤ n
  all_goals by_cases a2 : n < 12
  all_goals
    go_enter Tryd.func27, Tryd.ntmps27
    go_wp2
    go_ret
    exact ⟨ret_bool (by rw [Bool.eq_iff_iff]; simp; omega), rfl⟩

set_option maxHeartbeats 400000 in
theorem Key_any (s : ByteArray) (w : World) (hs : s.size ≤ maxLen) :
    Calls Tryd.prog 66 #[.string s] w fun e w' => e = .returned (.bool (Pl.keyB s)) ∧ w' = w := by
  unfold maxLen at hs
  by_cases h1 : s.size < 1
  · go_enter Tryd.func66, Tryd.ntmps66
    go_wp2
    go_ret
    exact ⟨ret_bool (Pl.keyB_false_of_size s (by omega)).symm, rfl⟩
  by_cases h8 : 8 < s.size
  · go_enter Tryd.func66, Tryd.ntmps66
    go_wp2
    go_ret
    exact ⟨ret_bool (Pl.keyB_false_of_size s (by omega)).symm, rfl⟩
  go_enter Tryd.func66, Tryd.ntmps66
  go_wp2
  go_loop [14] (fun i => ∃ k : Nat, k ≤ s.size ∧ i = .int .i64 k ∧ Hid (Pl.kbs (s.data.toList.take k) = true)) (fun i => s.size - (intOf i).toNat)
  case atStart => exact ⟨0, Nat.zero_le _, rfl, rfl⟩
  case round =>
    obtain ⟨k, hk, rfl, HK⟩ := hrel
    by_cases hlt : k < s.size
    · cases hb : Pl.kb (s[k].toNat : Int)
      · have HB : Hid (Pl.kb (s[k].toNat : Int) = false) := hb
        clear hb
        go_wp2_with (go_at_call 76; refine (isKeyByte_any _ _ (by omega) (byte_le _)).mono ?_; rw [HB.out]; rintro e w' ⟨rfl, rfl⟩)
        go_ret
        exact ⟨ret_bool (Pl.keyB_false_of s k hlt HB.out).symm, rfl⟩
      · have HB : Hid (Pl.kb (s[k].toNat : Int) = true) := hb
        clear hb
        go_wp2_with (go_at_call 76; refine (isKeyByte_any _ _ (by omega) (byte_le _)).mono ?_; rw [HB.out]; rintro e w' ⟨rfl, rfl⟩)
        go_round
        case rel => exact ⟨k + 1, by omega, by go_num, by show _ = _; rw [Pl.kbs_take_succ s k hlt, HK.out, HB.out]; rfl⟩
        case measure => simp [intOf]; omega
    · obtain rfl : k = s.size := by omega
      go_wp2
      go_ret
      exact ⟨ret_bool (by rw [Pl.keyB_of_all s HK.out]; simp; omega), rfl⟩

end Go.Proofs.YtcdobhdbafpkiadDoor
/-
  A rule of our own: a region that draws its order, by an invariant over what has been carried out, the frame and the world.
-/
namespace Go.Proofs.YtcdobhdbafpkiadDoor
open Go.RowKit
set_option maxRecDepth 20000

/-- how many operations are still to be carried out -/
def left (n : Nat) (listed : Array Bool) : Nat := (List.range n).countP (fun j => !listed.getD j true)

theorem left_set {n i : Nat} {listed : Array Bool} (hi : i < n) (h : listed.getD i true = false) : left n (listed.setIfInBounds i true) + 1 ≤ left n listed := by
  unfold left
  have hs : ∀ j, j ≠ i → (listed.setIfInBounds i true).getD j true = listed.getD j true := fun j hj => getD_set_ne true (Ne.symm hj)
  have hi1 : (listed.setIfInBounds i true).getD i true = true := by
    have hlt : i < listed.size := by
      rcases Nat.lt_or_ge i listed.size with h' | h'
      · exact h'
      · simp [Array.getElem?_eq_none h'] at h
    simp [hlt]
  have key : ∀ m, (List.range m).countP (fun j => !(listed.setIfInBounds i true).getD j true) + (if i < m then 1 else 0) = (List.range m).countP (fun j => !listed.getD j true) := by
    intro m
    induction m with
    | zero => simp
    | succ m ih =>
      rw [List.range_succ, List.countP_append, List.countP_append, List.countP_singleton, List.countP_singleton]
      by_cases hm : m = i
      · subst hm
        rw [hi1, h]
        rw [if_neg (Nat.lt_irrefl _)] at ih
        simp at ih ⊢
        exact ih
      · rw [hs m hm]
        have e : (i < m + 1) ↔ (i < m) := by omega
        simp only [e]
        omega
  have := key n
  rw [if_pos hi] at this
  omega

theorem ready_none {md : Region.Mode} {ops : Array Oper} {listed : Array Bool} (h : left ops.size listed = 0) : Region.ready md ops listed = [] := by
  rw [List.eq_nil_iff_forall_not_mem]
  intro j hj
  rw [mem_ready] at hj
  obtain ⟨h0, o, ho, _⟩ := hj
  have hlt : j < ops.size := (Array.getElem?_eq_some_iff.1 ho).1
  unfold left at h
  rw [List.countP_eq_zero] at h
  have := h j (List.mem_range.2 hlt)
  rw [h0] at this
  simp at this

theorem wpAny_inv {P : Program} {md : Region.Mode} {ops : Array Oper} {Q : Exit → Act → World → Prop} (Inv : Array Bool → Act → World → Prop)
    (hstep : ∀ i listed a w, i ∈ Region.ready md ops listed → Inv listed a w → wpOp P ops Q i (Inv (listed.setIfInBounds i true)) a w)
    (hend : ∀ listed a w, Region.ready md ops listed = [] → Inv listed a w → Q .normal a w) :
    ∀ (fuel : Nat) (listed : Array Bool) (a : Act) (w : World), left ops.size listed ≤ fuel → Inv listed a w → wpAny P md ops Q fuel listed a w := by
  intro fuel
  induction fuel with
  | zero =>
    intro listed a w hf hI
    have hr := ready_none (md := md) (Nat.le_zero.1 hf)
    exact ⟨hr, hend _ _ _ hr hI⟩
  | succ fuel ih =>
    intro listed a w hf hI
    refine ⟨fun hr => hend _ _ _ hr hI, fun i hi => ?_⟩
    have hm := mem_ready.1 hi
    obtain ⟨h0, o, ho, _⟩ := hm
    have hlt : i < ops.size := (Array.getElem?_eq_some_iff.1 ho).1
    have hl := left_set hlt h0
    exact wpOp_mono (fun a' w' h => ih _ a' w' (by omega) h) (hstep i listed a w hi hI)

/-- where each operation waits only for earlier ones: if none may come up, all have come up -/
theorem all_listed {md : Region.Mode} {ops : Array Oper} {listed : Array Bool} (hb0 : (List.range ops.size).all (fun i => (ops[i]?.map (fun o => o.after.all (fun e => decide (e.on < i)))).getD true) = true) (hs : listed.size = ops.size) (hr : Region.ready md ops listed = []) :
    ∀ i, i < ops.size → listed.getD i false = true := by
  have hb : ∀ (i : Nat) (o : Oper), ops[i]? = some o → ∀ e ∈ o.after, e.on < i := by
    intro i o ho e he
    have hi : i < ops.size := (Array.getElem?_eq_some_iff.1 ho).1
    have := List.all_eq_true.1 hb0 i (List.mem_range.2 hi)
    rw [ho] at this
    simp only [Option.map_some, Option.getD_some] at this
    have := Array.all_eq_true_iff_forall_mem.1 this e he
    exact of_decide_eq_true this
  intro i
  induction i using Nat.strongRecOn with
  | _ i ih =>
    intro hi
    cases hl : listed.getD i false with
    | true => rfl
    | false =>
      exfalso
      have hm : i ∈ Region.ready md ops listed := by
        rw [mem_ready]
        refine ⟨?_, ops[i], Array.getElem?_eq_getElem hi, fun e he _ => ?_⟩
        · have : i < listed.size := by omega
          simp [this] at hl ⊢
          exact hl
        · have he' := hb i ops[i] (Array.getElem?_eq_getElem hi) e he
          exact ih e.on he' (by omega)
      rw [hr] at hm
      cases hm

/-- what has been carried out stands behind all that it waits for -/
def Closed (md : Region.Mode) (ops : Array Oper) (listed : Array Bool) : Prop :=
  ∀ (i : Nat) (o : Oper), ops[i]? = some o → listed.getD i false = true → ∀ e ∈ o.after, Region.binds md e = true → listed.getD e.on false = true
theorem set_stays {listed : Array Bool} {i k : Nat} (h : listed.getD k false = true) : (listed.setIfInBounds i true).getD k false = true := by
  by_cases e : i = k
  · subst e
    have : i < listed.size := by
      rcases Nat.lt_or_ge i listed.size with h' | h'
      · exact h'
      · simp [Array.getElem?_eq_none h'] at h
    simp [this]
  · rw [getD_set_ne false e]; exact h
theorem closed_step {md : Region.Mode} {ops : Array Oper} {listed : Array Bool} {i : Nat} (hi : i ∈ Region.ready md ops listed) (h : Closed md ops listed) : Closed md ops (listed.setIfInBounds i true) := by
  intro j o ho hj e he hb
  by_cases e' : i = j
  · subst e'
    obtain ⟨_, o', ho', hall⟩ := mem_ready.1 hi
    rw [ho] at ho'
    cases ho'
    exact set_stays (hall e he hb)
  · rw [getD_set_ne false e'] at hj
    exact set_stays (h j o ho hj e he hb)
theorem closed_start (md : Region.Mode) (ops : Array Oper) (n : Nat) : Closed md ops (Array.replicate n false) := by
  intro i o _ h
  rw [show (Array.replicate n false).getD i false = false from by by_cases hk' : i < n <;> simp [hk']] at h
  cases h
theorem wpAny_inv2 {P : Program} {md : Region.Mode} {ops : Array Oper} {Q : Exit → Act → World → Prop} (Inv : Array Bool → Act → World → Prop)
    (hstep : ∀ i listed a w, i ∈ Region.ready md ops listed → Closed md ops listed → Inv listed a w → wpOp P ops Q i (Inv (listed.setIfInBounds i true)) a w)
    (hend : ∀ listed a w, Region.ready md ops listed = [] → Inv listed a w → Q .normal a w)
    (fuel : Nat) (listed : Array Bool) (a : Act) (w : World) (hf : left ops.size listed ≤ fuel) (hI : Inv listed a w) (hC : Closed md ops listed) : wpAny P md ops Q fuel listed a w :=
  wpAny_inv (fun l a w => Inv l a w ∧ Closed md ops l) (fun i l a w hi h => wpOp_mono (fun _ _ h' => ⟨h', closed_step hi h.2⟩) (hstep i l a w hi h.2 h.1)) (fun l a w hr h => hend l a w hr h.1) fuel listed a w hf ⟨hI, hC⟩

theorem wpOp_of {P : Program} {ops : Array Oper} {Q : Exit → Act → World → Prop} {i : Nat} {o : Oper} {K : Act → World → Prop} {a : Act} {w : World}
    (h : ops[i]? = some o) (hg : o.guard = none) (hw : o.wp P a w K Q) : wpOp P ops Q i K a w := by
  unfold wpOp
  simp only [h]
  rw [if_pos (by simp [Region.wanted, hg])]
  exact .inl hw
theorem eval_ne {a : Act} {n m : Nat} {v : Value} (h : m ≠ n) : (a.put (some m) v).tmps[n]?.getD undef = a.tmps[n]?.getD undef := by
  simp [Act.put, Array.getElem?_setIfInBounds_ne h]
theorem eval_eq {a : Act} {m : Nat} {v : Value} (h : m < a.tmps.size) : (a.put (some m) v).tmps[m]?.getD undef = v := by
  simp [Act.put, h]
end Go.Proofs.YtcdobhdbafpkiadDoor
/-
  Frames: a run of slots that a region writes, as a list of values.
-/
namespace Go.Proofs.YtcdobhdbafpkiadDoor
open Go.RowKit
set_option maxRecDepth 20000

/-- slots from s on hold the values of a list -/
def setFrom (t : Array Value) (s : Nat) : List Value → Array Value
  | [] => t
  | x :: r => setFrom (t.setIfInBounds s x) (s + 1) r
theorem setFrom_size : ∀ (xs : List Value) (t : Array Value) (s : Nat), (setFrom t s xs).size = t.size
  | [], _, _ => rfl
  | x :: r, t, s => by rw [setFrom, setFrom_size r]; simp
theorem setFrom_out : ∀ (xs : List Value) (t : Array Value) (s k : Nat), (k < s ∨ s + xs.length ≤ k) → (setFrom t s xs)[k]? = t[k]?
  | [], _, _, _, _ => rfl
  | x :: r, t, s, k, h => by
    rw [setFrom, setFrom_out r _ (s + 1) k (by simp at h; omega), Array.getElem?_setIfInBounds_ne (by simp at h; omega)]
theorem setFrom_at : ∀ (xs : List Value) (t : Array Value) (s k : Nat), k < xs.length → s + k < t.size → (setFrom t s xs)[s + k]? = xs[k]?
  | [], _, _, _, h, _ => by simp at h
  | x :: r, t, s, 0, _, hb => by
    rw [setFrom, setFrom_out r _ (s + 1) (s + 0) (by omega)]
    simp at hb
    simp [hb]
  | x :: r, t, s, k + 1, h, hb => by
    have := setFrom_at r (t.setIfInBounds s x) (s + 1) k (by simpa using h) (by simp; omega)
    rw [setFrom, show s + (k + 1) = s + 1 + k by omega, this]
    simp
theorem setFrom_comm : ∀ (xs : List Value) (t : Array Value) (s j : Nat) (v : Value), j < s → setFrom (t.setIfInBounds j v) s xs = (setFrom t s xs).setIfInBounds j v
  | [], _, _, _, _, _ => rfl
  | x :: r, t, s, j, v, h => by
    rw [setFrom, setFrom, Array.setIfInBounds_comm _ _ (by omega), setFrom_comm r _ (s + 1) j v (by omega)]
theorem setFrom_set : ∀ (xs : List Value) (t : Array Value) (s k : Nat) (v : Value), k < xs.length → (setFrom t s xs).setIfInBounds (s + k) v = setFrom t s (xs.set k v)
  | [], _, _, _, _, h => by simp at h
  | x :: r, t, s, 0, v, _ => by
    rw [List.set_cons_zero, setFrom, setFrom, ← setFrom_comm r _ (s + 1) (s + 0) v (by omega)]
    congr 1
    simp
  | x :: r, t, s, k + 1, v, h => by
    rw [List.set_cons_succ, setFrom, setFrom, show s + (k + 1) = s + 1 + k by omega, setFrom_set r _ (s + 1) k v (by simpa using h)]
theorem setFrom_self : ∀ (n : Nat) (t : Array Value) (s : Nat), s + n ≤ t.size → ∃ xs : List Value, xs.length = n ∧ setFrom t s xs = t
  | 0, t, _, _ => ⟨[], rfl, rfl⟩
  | n + 1, t, s, h => by
    obtain ⟨xs, h1, h2⟩ := setFrom_self n t (s + 1) (by omega)
    refine ⟨t[s] :: xs, by simp [h1], ?_⟩
    rw [setFrom]
    have : t.setIfInBounds s t[s] = t := by
      apply Array.ext
      · simp
      · intro i h1 h2
        rw [Array.getElem_setIfInBounds]
        split
        · rename_i e; subst e; rfl
        · rfl
    rw [this, h2]
theorem list14 (xs : List Value) (h : xs.length = 14) : ∃ x0 x1 x2 x3 x4 x5 x6 x7 x8 x9 x10 x11 x12 x13, xs = [x0, x1, x2, x3, x4, x5, x6, x7, x8, x9, x10, x11, x12, x13] := by
  match xs, h with
  | [x0, x1, x2, x3, x4, x5, x6, x7, x8, x9, x10, x11, x12, x13], _ => exact ⟨x0, x1, x2, x3, x4, x5, x6, x7, x8, x9, x10, x11, x12, x13, rfl⟩
end Go.Proofs.YtcdobhdbafpkiadDoor
/-
  Plain definitions: lists of pairs of numbers (sides of links, prefixes), what is wrong with one; no program in sight.
-/
namespace Go.Proofs.YtcdobhdbafpkiadDoor.Pl

/-- the pair at a place -/
def pr (ps : List (Int × Int)) (i : Nat) : Int × Int := ps.getD i (0, 0)
theorem pr_eq (ps : List (Int × Int)) (i : Nat) (h : i < ps.length) : pr ps i = ps[i] := by simp [pr, List.getD, h]
theorem pr_mem (ps : List (Int × Int)) (i : Nat) (h : i < ps.length) : pr ps i ∈ ps := by rw [pr_eq ps i h]; exact List.getElem_mem h
theorem drop_pr (ps : List (Int × Int)) (i : Nat) (h : i < ps.length) : ps.drop i = pr ps i :: ps.drop (i + 1) := by
  rw [pr_eq ps i h]; exact List.drop_eq_getElem_cons h
theorem pr_app_lt (ps qs : List (Int × Int)) (i : Nat) (h : i < ps.length) : pr (ps ++ qs) i = pr ps i := by
  rw [pr_eq ps i h, pr_eq _ i (by simp; omega), List.getElem_append_left h]
theorem pr_app_at (ps : List (Int × Int)) (p : Int × Int) : pr (ps ++ [p]) ps.length = p := by
  rw [pr_eq _ _ (by simp)]; simp

def pairOk (p : Int × Int) : Prop := (Lit.int .i64 p.1).wf = true ∧ (Lit.int .i64 p.2).wf = true

/-- may a side be told? -/
def sideB (n c : Int) : Bool := decide (0 ≤ n ∧ n ≤ 11) && decide (1 ≤ c ∧ c ≤ 1000)
/-- what is wrong with sides from a place on: so many are still to be looked at -/
def adjN (ps : List (Int × Int)) : Nat → Nat → Int
  | 0, _ => 0
  | n + 1, i => if sideB (pr ps i).1 (pr ps i).2 then (if 0 < i ∧ (pr ps i).1 ≤ (pr ps (i - 1)).1 then 7 else adjN ps n (i + 1)) else 2
def adjF (ps : List (Int × Int)) : Int := adjN ps ps.length 0
theorem adjN_range {ps : List (Int × Int)} {n i : Nat} (h : sideB (pr ps i).1 (pr ps i).2 = false) : adjN ps (n + 1) i = 2 := by simp [adjN, h]
theorem adjN_low {ps : List (Int × Int)} {n m : Nat} (h : sideB (pr ps (m + 1)).1 (pr ps (m + 1)).2 = true) (k : (pr ps (m + 1)).1 ≤ (pr ps m).1) : adjN ps (n + 1) (m + 1) = 7 := by simp [adjN, h, k]
theorem adjN_first {ps : List (Int × Int)} {n : Nat} (h : sideB (pr ps 0).1 (pr ps 0).2 = true) : adjN ps (n + 1) 0 = adjN ps n 1 := by simp [adjN, h]
theorem adjN_on {ps : List (Int × Int)} {n m : Nat} (h : sideB (pr ps (m + 1)).1 (pr ps (m + 1)).2 = true) (k : ¬ (pr ps (m + 1)).1 ≤ (pr ps m).1) : adjN ps (n + 1) (m + 1) = adjN ps n (m + 1 + 1) := by
  simp [adjN, h]; omega
end Go.Proofs.YtcdobhdbafpkiadDoor.Pl
/-
  Plain definitions: texts of pairs of numbers and how they are read; no program in sight.
-/
namespace Go.Proofs.YtcdobhdbafpkiadDoor.Pl

/-- a text cut at the first of a sign: what is ahead of it, and what behind -/
def cutL (c : UInt8) : List UInt8 → List UInt8 × Option (List UInt8)
  | [] => ([], none)
  | b :: r => if b = c then ([], some r) else (b :: (cutL c r).1, (cutL c r).2)
def behind (x : Option (List UInt8)) : List UInt8 := x.getD []
theorem cutL_none {c : UInt8} : ∀ {l : List UInt8}, c ∉ l → cutL c l = (l, none)
  | [], _ => rfl
  | b :: r, h => by
    simp only [List.mem_cons, not_or] at h
    rw [cutL, if_neg (fun e => h.1 e.symm), cutL_none h.2]
theorem cutL_some {c : UInt8} : ∀ {l : List UInt8} {i : Nat} (_ : i < l.length), l[i]? = some c → c ∉ l.take i → cutL c l = (l.take i, some (l.drop (i + 1)))
  | [], i, h, _, _ => by simp at h
  | b :: r, 0, _, h, _ => by simp at h; simp [cutL, h]
  | b :: r, i + 1, hi, h, k => by
    simp only [List.take_succ_cons, List.mem_cons, not_or] at k
    have := cutL_some (c := c) (l := r) (i := i) (by simpa using hi) (by simpa using h) k.2
    rw [cutL, if_neg (fun e => k.1 e.symm), this]; simp
theorem cutL_len (c : UInt8) : ∀ l : List UInt8, (cutL c l).1.length ≤ l.length ∧ (∀ r, (cutL c l).2 = some r → (cutL c l).1.length + r.length + 1 = l.length)
  | [] => ⟨by simp [cutL], by simp [cutL]⟩
  | b :: r => by
    obtain ⟨h1, h2⟩ := cutL_len c r
    by_cases e : b = c
    · simp [cutL, e]
    · rw [cutL, if_neg e]
      refine ⟨by simpa using h1, fun x hx => ?_⟩
      have := h2 x hx
      simp; omega

def dg (c : UInt8) : Bool := decide (48 ≤ (c.toNat : Int) ∧ (c.toNat : Int) ≤ 57)
def dgs (l : List UInt8) : Bool := l.all dg
def val (l : List UInt8) : Int := l.foldl (fun n c => 10 * n + ((c.toNat : Int) - 48)) 0
theorem val_snoc (l : List UInt8) (c : UInt8) : val (l ++ [c]) = 10 * val l + ((c.toNat : Int) - 48) := by simp [val]
theorem dgs_snoc (l : List UInt8) (c : UInt8) : dgs (l ++ [c]) = (dgs l && dg c) := by simp [dgs]
theorem val_nonneg : ∀ (n : Nat) (l : List UInt8), l.length = n → dgs l = true → 0 ≤ val l ∧ val l < 10 ^ n
  | 0, l, h, _ => by rw [List.length_eq_zero_iff.1 h]; simp [val]
  | n + 1, l, h, k => by
    obtain ⟨a, c, rfl⟩ : ∃ a c, l = a ++ [c] := ⟨l.dropLast, l.getLast (by intro e; simp [e] at h), (List.dropLast_concat_getLast _).symm⟩
    rw [dgs_snoc, Bool.and_eq_true] at k
    obtain ⟨h1, h2⟩ := val_nonneg n a (by simpa using h) k.1
    have hc := of_decide_eq_true k.2
    rw [val_snoc]
    have e : (10 : Int) ^ (n + 1) = 10 * 10 ^ n := by rw [Int.pow_succ]; omega
    rw [e]; omega
/-- the number that a text tells -/
def numL (l : List UInt8) : Option Int :=
  if 1 ≤ l.length ∧ l.length ≤ 6 ∧ ¬ (l.head? = some 48 ∧ 1 < l.length) ∧ dgs l = true ∧ val l ≤ 100000 then some (val l) else none
theorem numL_size {l : List UInt8} (h : l.length < 1 ∨ 6 < l.length) : numL l = none := by unfold numL; rw [if_neg (by omega)]
theorem numL_zero {l : List UInt8} (h : l.head? = some 48) (k : 1 < l.length) : numL l = none := by unfold numL; rw [if_neg (by simp [h, k])]
theorem numL_bad {l : List UInt8} (h : dgs l = false) : numL l = none := by unfold numL; rw [if_neg (by simp [h])]
theorem numL_great {l : List UInt8} (h : ¬ val l ≤ 100000) : numL l = none := by unfold numL; rw [if_neg (by simp [h])]
theorem numL_some {l : List UInt8} (h1 : 1 ≤ l.length) (h2 : l.length ≤ 6) (h3 : ¬ (l.head? = some 48 ∧ 1 < l.length)) (h4 : dgs l = true) (h5 : val l ≤ 100000) : numL l = some (val l) := by
  unfold numL; rw [if_pos ⟨h1, h2, h3, h4, h5⟩]
theorem numL_range {l : List UInt8} {n : Int} (h : numL l = some n) : 0 ≤ n ∧ n ≤ 100000 := by
  unfold numL at h
  split at h
  · rename_i hh
    obtain ⟨_, _, _, h4, h5⟩ := hh
    cases h
    exact ⟨(val_nonneg _ l rfl h4).1, h5⟩
  · cases h
theorem dgs_false {l : List UInt8} {k : Nat} (h : k < l.length) (hb : dg l[k] = false) : dgs l = false := by
  unfold dgs; rw [Bool.eq_false_iff]; intro hh
  rw [List.all_eq_true] at hh
  rw [hh _ (List.getElem_mem h)] at hb; cases hb

def pairL (m : UInt8) (l : List UInt8) : Option (Int × Int) :=
  match numL (cutL m l).1, numL (behind (cutL m l).2) with
  | some a, some b => some (a, b)
  | _, _ => none
theorem numL_nil : numL [] = none := rfl
theorem pairL_some {m : UInt8} {l : List UInt8} {a b : Int} (ha : numL (cutL m l).1 = some a) (hb : numL (behind (cutL m l).2) = some b) : pairL m l = some (a, b) := by unfold pairL; rw [ha, hb]
theorem pairL_left {m : UInt8} {l : List UInt8} (ha : numL (cutL m l).1 = none) : pairL m l = none := by unfold pairL; rw [ha]
theorem pairL_right {m : UInt8} {l : List UInt8} (hb : numL (behind (cutL m l).2) = none) : pairL m l = none := by unfold pairL; rw [hb]; split <;> simp_all
theorem pairL_ok {m : UInt8} {l : List UInt8} {p : Int × Int} (h : pairL m l = some p) : 0 ≤ p.1 ∧ p.1 ≤ 100000 ∧ 0 ≤ p.2 ∧ p.2 ≤ 100000 := by
  unfold pairL at h
  split at h
  · rename_i a b ha hb
    cases h
    exact ⟨(numL_range ha).1, (numL_range ha).2, (numL_range hb).1, (numL_range hb).2⟩
  · cases h

/-- a text in parts, cut at each comma -/
def partsN : Nat → List UInt8 → List (List UInt8)
  | 0, _ => []
  | n + 1, l => match (cutL 44 l).2 with
    | none => [(cutL 44 l).1]
    | some r => (cutL 44 l).1 :: partsN n r
def parts (l : List UInt8) : List (List UInt8) := partsN (l.length + 1) l
theorem partsN_eq : ∀ (n m : Nat) (l : List UInt8), l.length < n → l.length < m → partsN n l = partsN m l
  | 0, _, _, h, _ => by omega
  | _, 0, _, _, h => by omega
  | n + 1, m + 1, l, h, k => by
    rw [partsN, partsN]
    split
    · rfl
    · rename_i r hr
      have := (cutL_len 44 l).2 r hr
      rw [partsN_eq n m r (by omega) (by omega)]
theorem parts_none {l : List UInt8} (h : (cutL 44 l).2 = none) : parts l = [(cutL 44 l).1] := by
  unfold parts; rw [partsN, h]
theorem parts_some {l r : List UInt8} (h : (cutL 44 l).2 = some r) : parts l = (cutL 44 l).1 :: parts r := by
  unfold parts; rw [partsN, h]
  have := (cutL_len 44 l).2 r h
  simp only
  rw [partsN_eq l.length (r.length + 1) r (by omega) (by omega)]
/-- what the parts tell -/
def pairsP (m : UInt8) : List (List UInt8) → Option (List (Int × Int))
  | [] => some []
  | p :: r => match pairL m p, pairsP m r with
    | some x, some y => some (x :: y)
    | _, _ => none
/-- what a text tells -/
def pairsL (m : UInt8) (l : List UInt8) : Option (List (Int × Int)) := if l = [] then some [] else pairsP m (parts l)
/-- what is there already, and what is to come -/
def andThen (a : List (Int × Int)) (x : Option (List (Int × Int))) : Option (List (Int × Int)) := x.map (a ++ ·)
theorem pairsP_none {m : UInt8} {p : List UInt8} {r : List (List UInt8)} (h : pairL m p = none) : pairsP m (p :: r) = none := by rw [pairsP, h]
theorem pairsP_some {m : UInt8} {p : List UInt8} {r : List (List UInt8)} {x : Int × Int} {a : List (Int × Int)} (h : pairL m p = some x) : andThen a (pairsP m (p :: r)) = andThen (a ++ [x]) (pairsP m r) := by
  rw [pairsP, h]
  cases pairsP m r <;> simp [andThen]
theorem pairsP_ok {m : UInt8} : ∀ {ps : List (List UInt8)} {a : List (Int × Int)}, pairsP m ps = some a → ∀ p ∈ a, 0 ≤ p.1 ∧ p.1 ≤ 100000 ∧ 0 ≤ p.2 ∧ p.2 ≤ 100000
  | [], a, h => by cases h; simp
  | p :: r, a, h => by
    rw [pairsP] at h
    split at h
    · rename_i x y hx hy
      cases h
      intro q hq
      rcases List.mem_cons.1 hq with rfl | hq
      · exact pairL_ok hx
      · exact pairsP_ok hy q hq
    · cases h
theorem pairOk_of {p : Int × Int} (h : 0 ≤ p.1 ∧ p.1 ≤ 100000 ∧ 0 ≤ p.2 ∧ p.2 ≤ 100000) : pairOk p := by
  obtain ⟨h1, h2, h3, h4⟩ := h
  constructor
  all_goals
    simp [Lit.wf, IntKind.min, IntKind.max, IntKind.signed, IntKind.bits]
    omega
end Go.Proofs.YtcdobhdbafpkiadDoor.Pl
/-
  Contracts: cutting a text at the first of a sign (strings.Cut at a sign of one byte), and cutting a sign off its head.
-/
namespace Go.Proofs.YtcdobhdbafpkiadDoor
open Go.RowKit
set_option maxRecDepth 20000

theorem Pl.index_cut (c : UInt8) : ∀ l : List UInt8, (Lib.indexByte l c = -1 ∧ Pl.cutL c l = (l, none)) ∨ ∃ i : Nat, i < l.length ∧ Lib.indexByte l c = i ∧ Pl.cutL c l = (l.take i, some (l.drop (i + 1)))
  | [] => .inl ⟨rfl, rfl⟩
  | b :: r => by
    by_cases e : b = c
    · right
      exact ⟨0, by simp, by simp [Lib.indexByte, e], by simp [Pl.cutL, e]⟩
    · rcases Pl.index_cut c r with ⟨h1, h2⟩ | ⟨i, hi, h1, h2⟩
      · left
        exact ⟨by simp [Lib.indexByte, e, h1], by simp [Pl.cutL, e, h2]⟩
      · right
        refine ⟨i + 1, by simpa using hi, ?_, by simp [Pl.cutL, e, h2]⟩
        rw [Lib.indexByte]
        simp only [beq_iff_eq, e, if_false, h1]
        rw [if_neg (by omega)]
        rfl
theorem ext_list (s : ByteArray) (i j : Nat) : (s.extract i j).data.toList = (s.data.toList.drop i).take (j - i) := by
  rw [ByteArray.data_extract, Array.toList_extract]
theorem sz_list (s : ByteArray) : s.data.toList.length = s.size := by simp
theorem u8_back (c : UInt8) : ((c.toNat : Int)).toNat.toUInt8 = c := by simp

set_option maxHeartbeats 1000000 in
set_option maxRecDepth 100000 in
theorem lIndexByte_any (s : ByteArray) (c : Int) (w : World) :
    Calls Tryd.prog 79 #[.string s, .int .u8 c] w fun e w' => e = .returned (.int .i64 (Lib.indexByte s.data.toList c.toNat.toUInt8)) ∧ w' = w := by
  go_enter Tryd.func79, Tryd.ntmps79
  go_wp2
  rw [run_callFunc_extern Tryd.func89 (by kernel_rfl) (by kernel_rfl) (by kernel_rfl) (e := Extern.BytealgIndexByte.indexByte) (by kernel_rfl), Lib.run_indexByteString]
  simp only [Result.andThen]
  rw [Oper.upon_value]
  go_wp2
  go_ret
  exact ⟨rfl, rfl⟩

set_option maxHeartbeats 1000000 in
theorem lIndex_any (s : ByteArray) (c : UInt8) (w : World) :
    Calls Tryd.prog 69 #[.string s, .string ⟨#[c]⟩] w fun e w' => e = .returned (.int .i64 (Lib.indexByte s.data.toList c)) ∧ w' = w := by
  go_enter Tryd.func69, Tryd.ntmps69
  go_wp2_with (go_at_call 79; refine (lIndexByte_any _ _ _).mono ?_; rintro e w' ⟨rfl, rfl⟩)
  · have h : ([c] == s.toList) = true := by assumption
    go_ret
    refine ⟨?_, rfl⟩
    have e : s.data.toList = [c] := by rw [← Lib.toList_data]; exact (beq_iff_eq.1 h).symm
    rw [e]
    simp [Lib.indexByte]
  · go_ret
    exact ⟨rfl, rfl⟩

set_option maxHeartbeats 1000000 in
theorem lCut_any (s : ByteArray) (c : UInt8) (w : World) (hs : s.size ≤ maxLen) :
    Calls Tryd.prog 58 #[.string s, .string ⟨#[c]⟩] w fun e w' => ∃ a b : ByteArray, e = .returned (.tuple #[.string a, .string b, .bool (Pl.cutL c s.data.toList).2.isSome]) ∧
      a.data.toList = (Pl.cutL c s.data.toList).1 ∧ b.data.toList = Pl.behind (Pl.cutL c s.data.toList).2 ∧ ∃ n, w' = w.drewN n := by
  unfold maxLen at hs
  rcases Pl.index_cut c s.data.toList with ⟨h1, h2⟩ | ⟨i, hi, h1, h2⟩
  · have H1 := hid h1
    have H2 := hid h2
    clear h1 h2
    go_enter Tryd.func58, Tryd.ntmps58
    go_wp2_with (go_at_call 69; refine (lIndex_any _ _ _).mono ?_; rw [H1.out]; rintro e w' ⟨rfl, rfl⟩)
    go_ret3
    exact ⟨s, ⟨#[]⟩, by rw [H2.out]; rfl, by rw [H2.out], by rw [H2.out]; rfl, 0, rfl⟩
  · have H1 := hid h1
    have H2 := hid h2
    clear h1 h2
    rw [sz_list] at hi
    go_enter Tryd.func58, Tryd.ntmps58
    go_wp2_with (go_at_call 69; refine (lIndex_any _ _ _).mono ?_; rw [H1.out]; rintro e w' ⟨rfl, rfl⟩)
    go_quiet (fail)
    go_wp2
    go_ret3
    refine ⟨_, _, by rw [H2.out]; rfl, ?_, ?_, _, rfl⟩
    · rw [H2.out, ext_list]; simp
    · rw [H2.out, ext_list, List.take_of_length_le (by simp)]; rfl

set_option maxHeartbeats 1000000 in
theorem Cut_any (s : ByteArray) (c : UInt8) (w : World) (hs : s.size ≤ maxLen) :
    Calls Tryd.prog 37 #[.string s, .string ⟨#[c]⟩] w fun e w' => ∃ a b : ByteArray, e = .returned (.tuple #[.string a, .string b, .bool (Pl.cutL c s.data.toList).2.isSome]) ∧
      a.data.toList = (Pl.cutL c s.data.toList).1 ∧ b.data.toList = Pl.behind (Pl.cutL c s.data.toList).2 ∧ ∃ n, w' = w.drewN n := by
  obtain ⟨x, HX⟩ : ∃ x, Hid (Pl.cutL c s.data.toList = x) := ⟨_, rfl⟩
  rw [HX.out]
  go_enter Tryd.func37, Tryd.ntmps37
  go_wp2_with (go_at_call 58; refine (lCut_any _ _ _ hs).mono ?_; rw [HX.out]; rintro e w' ⟨a, b, rfl, ha, hb, n, rfl⟩)
  go_ret3
  exact ⟨a, b, rfl, ha, hb, n, rfl⟩

/-- is a sign the first of a text? -/
def Pl.headB (c : UInt8) (l : List UInt8) : Bool := l.head? == some c
/-- a text without the sign at its head -/
def Pl.tailB (c : UInt8) (l : List UInt8) : List UInt8 := if Pl.headB c l then l.tail else l

set_option maxHeartbeats 1000000 in
theorem CutPrefix_any (s : ByteArray) (c : UInt8) (w : World) (hs : s.size ≤ maxLen) :
    Calls Tryd.prog 20 #[.string s, .string ⟨#[c]⟩] w fun e w' => ∃ a : ByteArray, e = .returned (.tuple #[.string a, .bool (Pl.headB c s.data.toList)]) ∧
      a.data.toList = Pl.tailB c s.data.toList ∧ w' = w := by
  unfold maxLen at hs
  by_cases h : Pl.headB c s.data.toList = true
  · have h1 : 1 ≤ s.size := by
      rw [← sz_list]
      unfold Pl.headB at h
      cases hl : s.data.toList <;> simp [hl] at h ⊢
    have h2 : ((s.extract 0 1).toList == [c]) = true := by
      rw [Lib.toList_data, ext_list]
      unfold Pl.headB at h
      cases hl : s.data.toList <;> simp [hl] at h ⊢
      exact h
    have H := hid h
    clear h
    go_enter Tryd.func20, Tryd.ntmps20
    go_wp2
    go_ret2
    refine ⟨_, by rw [H.out]; rfl, ?_, rfl⟩
    rw [ext_list]
    unfold Pl.tailB
    rw [H.out, List.take_of_length_le (by simp)]
    simp
  · have H : Hid (Pl.headB c s.data.toList = false) := hid (by simpa using h)
    clear h
    rcases Nat.lt_or_ge s.size 1 with h1 | h1
    · go_enter Tryd.func20, Tryd.ntmps20
      go_wp2
      go_ret2
      exact ⟨s, by rw [H.out]; rfl, by unfold Pl.tailB; rw [H.out]; rfl, rfl⟩
    · have h2 : ((s.extract 0 1).toList == [c]) = false := by
        rw [Lib.toList_data, ext_list]
        have h := H.out
        unfold Pl.headB at h
        rw [← sz_list] at h1
        cases hl : s.data.toList <;> simp [hl] at h h1 ⊢
        exact h
      go_enter Tryd.func20, Tryd.ntmps20
      go_wp2
      go_ret2
      exact ⟨s, by rw [H.out]; rfl, by unfold Pl.tailB; rw [H.out]; rfl, rfl⟩
end Go.Proofs.YtcdobhdbafpkiadDoor
/-
  Contracts: the number that a text tells: readNumber and the document's numOf.
-/
namespace Go.Proofs.YtcdobhdbafpkiadDoor
open Go.RowKit
set_option maxRecDepth 20000

theorem Pl.val_take (s : ByteArray) (k : Nat) (h : k < s.size) : Pl.val (s.data.toList.take (k + 1)) = 10 * Pl.val (s.data.toList.take k) + ((s[k].toNat : Int) - 48) := by
  rw [Pl.take_snoc s k h, Pl.val_snoc]
theorem Pl.dgs_take (s : ByteArray) (k : Nat) (h : k < s.size) : Pl.dgs (s.data.toList.take (k + 1)) = (Pl.dgs (s.data.toList.take k) && Pl.dg s[k]) := by
  rw [Pl.take_snoc s k h, Pl.dgs_snoc]
theorem Pl.dgs_bad (s : ByteArray) (k : Nat) (h : k < s.size) (hb : Pl.dg s[k] = false) : Pl.dgs s.data.toList = false :=
  Pl.dgs_false (l := s.data.toList) (k := k) (by simpa using h) hb
theorem Pl.val_bound {l : List UInt8} (h : l.length ≤ 6) (k : Pl.dgs l = true) : 0 ≤ Pl.val l ∧ Pl.val l < 1000000 := by
  obtain ⟨h1, h2⟩ := Pl.val_nonneg _ l rfl k
  refine ⟨h1, ?_⟩
  have h3 : (10 : Int) ^ l.length ≤ 10 ^ 6 := by
    have : l.length = 0 ∨ l.length = 1 ∨ l.length = 2 ∨ l.length = 3 ∨ l.length = 4 ∨ l.length = 5 ∨ l.length = 6 := by omega
    rcases this with h | h | h | h | h | h | h <;> rw [h] <;> decide
  omega
theorem Pl.head_get (s : ByteArray) (h : 0 < s.size) : s.data.toList.head? = some s[0] := by
  rw [List.head?_eq_getElem?, List.getElem?_eq_getElem (by simpa using h)]; rfl
theorem take_all (s : ByteArray) : s.data.toList.take s.size = s.data.toList := List.take_of_length_le (by simp)

set_option maxHeartbeats 1000000 in
theorem readNumber_any (s : ByteArray) (w : World) (hs : s.size ≤ maxLen) :
    Calls Tryd.prog 59 #[.string s] w fun e w' => ∃ x : Int, e = .returned (.tuple #[.int .i64 x, .bool (Pl.numL s.data.toList).isSome]) ∧
      (∀ n, Pl.numL s.data.toList = some n → x = n) ∧ w' = w := by
  unfold maxLen at hs
  rcases Nat.lt_or_ge s.size 1 with h0 | h0
  · have hN := hid (Pl.numL_size (l := s.data.toList) (by rw [sz_list]; omega))
    have he : s.toList = [] := by rw [Lib.toList_data]; exact List.length_eq_zero_iff.1 (by rw [sz_list]; omega)
    go_enter Tryd.func59, Tryd.ntmps59
    go_wp2
    go_ret2
    exact ⟨0, by rw [hN.out]; rfl, by rw [hN.out]; simp, rfl⟩
  have he : (s.toList == []) = false := by
    rw [Lib.toList_data]
    cases hl : s.data.toList
    · have := sz_list s; rw [hl] at this; simp at this; omega
    · rfl
  rcases Nat.lt_or_ge 6 s.size with h6 | h6
  · have hN := hid (Pl.numL_size (l := s.data.toList) (by rw [sz_list]; omega))
    go_enter Tryd.func59, Tryd.ntmps59
    go_wp2
    go_ret2
    exact ⟨0, by rw [hN.out]; rfl, by rw [hN.out]; simp, rfl⟩
  have hH := hid (Pl.head_get s h0)
  by_cases hz : (s[0].toNat : Int) = 48 ∧ 1 < s.size
  · obtain ⟨hz1, hz2⟩ := hz
    have hN : Hid (Pl.numL s.data.toList = none) := hid (Pl.numL_zero (by rw [hH.out]; congr 1; apply UInt8.toNat_inj.1; show _ = 48; omega) (by rw [sz_list]; omega))
    have hq : (s.toList == [48]) = false := by
      rw [Lib.toList_data]
      rw [beq_eq_false_iff_ne]; intro e
      have := sz_list s; rw [e] at this; simp at this; omega
    go_enter Tryd.func59, Tryd.ntmps59
    go_wp2
    go_ret2
    exact ⟨0, by rw [hN.out]; rfl, by rw [hN.out]; simp, rfl⟩
  · have HZ : Hid (¬ (s.data.toList.head? = some 48 ∧ 1 < s.data.toList.length)) := by
      refine hid ?_
      rw [hH.out, sz_list]
      rintro ⟨e, k⟩
      simp at e
      exact hz ⟨by rw [e]; rfl, k⟩
    have hgo : ((s[0].toNat : Int) = 48 ∧ (s.toList == [48]) = true) ∨ ((s[0].toNat : Int) == 48) = false := by
      by_cases e : (s[0].toNat : Int) = 48
      · left
        refine ⟨e, ?_⟩
        have hs1 : s.size = 1 := by
          rcases Nat.lt_or_ge 1 s.size with h | h
          · exact absurd ⟨e, h⟩ hz
          · omega
        rw [Lib.toList_data, beq_iff_eq]
        have h1 := hH.out
        have h2 := sz_list s
        rw [hs1] at h2
        match hl : s.data.toList, h2 with
        | [x], _ =>
          rw [hl] at h1
          simp at h1
          rw [h1]
          congr 1
          apply UInt8.toNat_inj.1
          show _ = 48
          omega
      · right
        simpa using e
    clear hz
    rcases hgo with ⟨hg1, hg2⟩ | hg1
    all_goals
      go_enter Tryd.func59, Tryd.ntmps59
      go_wp2
      go_loop [4, 24] (fun n i => ∃ (k : Nat) (v : Int), k ≤ s.size ∧ i = .int .i64 k ∧ n = .int .i64 v ∧ Hid (v = Pl.val (s.data.toList.take k)) ∧ Hid (Pl.dgs (s.data.toList.take k) = true) ∧ 0 ≤ v ∧ v < 1000000) (fun _ i => s.size - (intOf i).toNat)
      case atStart => exact ⟨0, 0, Nat.zero_le _, rfl, rfl, rfl, rfl, by omega, by omega⟩
      case round =>
        obtain ⟨k, v, hk, rfl, rfl, HV, HD, hv0, hv1⟩ := hrel
        by_cases hlt : k < s.size
        · have hbl := byte_le s[k]
          by_cases a1 : (s[k].toNat : Int) < 48
          · have HB : Hid (Pl.numL s.data.toList = none) := hid (Pl.numL_bad (Pl.dgs_bad s k hlt (by unfold Pl.dg; rw [decide_eq_false (by omega)])))
            go_wp2
            go_ret2
            exact ⟨0, by rw [HB.out]; rfl, by rw [HB.out]; simp, rfl⟩
          · by_cases a2 : 57 < (s[k].toNat : Int)
            · have HB : Hid (Pl.numL s.data.toList = none) := hid (Pl.numL_bad (Pl.dgs_bad s k hlt (by unfold Pl.dg; rw [decide_eq_false (by omega)])))
              go_wp2
              go_ret2
              exact ⟨0, by rw [HB.out]; rfl, by rw [HB.out]; simp, rfl⟩
            · have HX : Hid (Pl.val (s.data.toList.take (k + 1)) = 10 * v + ((s[k].toNat : Int) - 48) ∧ Pl.dgs (s.data.toList.take (k + 1)) = true) := by
                refine hid ⟨?_, ?_⟩
                · rw [Pl.val_take s k hlt, HV.out]
                · rw [Pl.dgs_take s k hlt, HD.out]; unfold Pl.dg; rw [decide_eq_true (by omega)]; rfl
              have hB := Pl.val_bound (l := s.data.toList.take (k + 1)) (by simp; omega) HX.out.2
              rw [HX.out.1] at hB
              have hwr : IntKind.u8.wrap ((s[k].toNat : Int) - 48) = (s[k].toNat : Int) - 48 := by
                simp [IntKind.wrap, IntKind.signed, IntKind.bits]; omega
              go_wp2
              go_round
              case rel => exact ⟨k + 1, 10 * v + ((s[k].toNat : Int) - 48), by omega, by go_num, by go_num, hid HX.out.1.symm, HX.out.2, by omega, by omega⟩
              case measure => simp [intOf]; omega
        · obtain rfl : k = s.size := by omega
          have HT := hid (take_all s)
          have HV' : Hid (v = Pl.val s.data.toList) := by rw [HT.out] at HV; exact HV
          have HD' : Hid (Pl.dgs s.data.toList = true) := by rw [HT.out] at HD; exact HD
          by_cases hgr : v ≤ 100000
          · have HN := hid (Pl.numL_some (l := s.data.toList) (by rw [sz_list]; omega) (by rw [sz_list]; omega) HZ.out HD'.out (by rw [← HV'.out]; exact hgr))
            go_wp2
            go_ret2
            exact ⟨v, by rw [HN.out]; simp, by rw [HN.out, ← HV'.out]; simp, rfl⟩
          · have HN := hid (Pl.numL_great (l := s.data.toList) (by rw [← HV'.out]; exact hgr))
            go_wp2
            go_ret2
            exact ⟨v, by rw [HN.out]; simp, by rw [HN.out]; simp, rfl⟩

/-- a number, or -1 -/
def Pl.numI (l : List UInt8) : Int := (Pl.numL l).getD (-1)

end Go.Proofs.YtcdobhdbafpkiadDoor
/-
  Slices of pairs of numbers in memory.
-/
namespace Go.Proofs.YtcdobhdbafpkiadDoor
open Go.RowKit
set_option maxRecDepth 20000

/-- the cells of pairs, one behind the other -/
def PairsAt (w : World) (b off : Nat) (ps : List (Int × Int)) : Prop := ∀ i, i < ps.length →
  w.cell? ⟨b, off + i * 2, none⟩ = some (.int .i64 (Pl.pr ps i).1) ∧ w.cell? ⟨b, off + i * 2 + 1, none⟩ = some (.int .i64 (Pl.pr ps i).2)

/-- a slice of pairs -/
def IsPairs (w : World) (a : Option Addr) (len cap : Nat) (ps : List (Int × Int)) : Prop :=
  ps.length = len ∧ len ≤ cap ∧ cap ≤ maxLen ∧ (∀ p ∈ ps, Pl.pairOk p) ∧ (ps = [] ∨ ∃ b off, a = some ⟨b, off, none⟩ ∧ b < w.heap.size ∧ PairsAt w b off ps)

theorem PairsAt.below {w w' : World} {b off : Nat} {ps : List (Int × Int)} (h : PairsAt w b off ps) (hb : b < w.heap.size) (k : Below w.heap.size w w') : PairsAt w' b off ps := by
  intro i hi
  obtain ⟨c0, c1⟩ := h i hi
  exact ⟨(k.cell (p := ⟨b, _, none⟩) hb).trans c0, (k.cell (p := ⟨b, _, none⟩) hb).trans c1⟩

theorem IsPairs.below {w w' : World} {a : Option Addr} {len cap : Nat} {ps : List (Int × Int)} (h : IsPairs w a len cap ps) (k : Below w.heap.size w w') : IsPairs w' a len cap ps := by
  obtain ⟨h1, h2, h3, h4, h5⟩ := h
  refine ⟨h1, h2, h3, h4, ?_⟩
  rcases h5 with h5 | ⟨b, off, rfl, hb, hr⟩
  · exact .inl h5
  · exact .inr ⟨b, off, rfl, Nat.lt_of_lt_of_le hb k.size, hr.below hb k⟩

theorem below_drew {B : Nat} {a w : World} (h : Below B a w) (n : Nat) : Below B a (w.drewN n) := h.trans ⟨rfl, rfl, rfl, Nat.le_refl _, fun _ _ => rfl⟩

theorem box2 {w w3 : World} {c0 c1 : Value} {T : TypeId} (hb : Below (w.heap.size + 1) (w.alloc (.cells #[c0, c1] T)) w3) :
    w3.cell? ⟨w.heap.size, 0, none⟩ = some c0 ∧ w3.cell? ⟨w.heap.size, 1, none⟩ = some c1 ∧ w.heap.size < w3.heap.size ∧ Below w.heap.size w w3 := by
  have hz := hb.size
  simp only [World.alloc, Array.size_push] at hz
  have h0 := hb.cell (p := ⟨w.heap.size, 0, none⟩) (by simp)
  have h1 := hb.cell (p := ⟨w.heap.size, 1, none⟩) (by simp)
  refine ⟨h0.trans ?_, h1.trans ?_, by omega, ((Below.refl _ _).alloc (Nat.le_refl _) _).trans (hb.mono (by omega))⟩
  all_goals simp
end Go.Proofs.YtcdobhdbafpkiadDoor
/-
  Contracts: a pair of numbers that a text tells: readPair and the document's pairOf.
-/
namespace Go.Proofs.YtcdobhdbafpkiadDoor
open Go.RowKit
set_option maxRecDepth 20000

theorem Pl.cut_size {m : UInt8} {s a b : ByteArray} (ha : a.data.toList = (Pl.cutL m s.data.toList).1) (hb : b.data.toList = Pl.behind (Pl.cutL m s.data.toList).2) : a.size ≤ s.size ∧ b.size ≤ s.size := by
  rw [← sz_list a, ← sz_list b, ← sz_list s, ha, hb]
  obtain ⟨h1, h2⟩ := Pl.cutL_len m s.data.toList
  refine ⟨h1, ?_⟩
  cases h : (Pl.cutL m s.data.toList).2
  · simp [Pl.behind]
  · have := h2 _ h; simp only [Pl.behind, Option.getD_some]; omega

set_option maxHeartbeats 1000000 in
theorem readPair_any (s : ByteArray) (m : UInt8) (w : World) (hs : s.size ≤ maxLen) :
    Calls Tryd.prog 38 #[.string s, .string ⟨#[m]⟩] w fun e w' => ∃ x y : Int, e = .returned (.tuple #[.agg #[.int .i64 x, .int .i64 y], .bool (Pl.pairL m s.data.toList).isSome]) ∧
      (∀ p, Pl.pairL m s.data.toList = some p → (x, y) = p) ∧ Below w.heap.size w w' := by
  have HS := hid hs
  clear hs
  obtain ⟨na, HA⟩ : ∃ x, Hid (Pl.numL (Pl.cutL m s.data.toList).1 = x) := ⟨_, rfl⟩
  obtain ⟨nb, HB⟩ : ∃ x, Hid (Pl.numL (Pl.behind (Pl.cutL m s.data.toList).2) = x) := ⟨_, rfl⟩
  obtain ⟨np, HP⟩ : ∃ x, Hid (Pl.pairL m s.data.toList = x) := ⟨_, rfl⟩
  have HC : Hid (∀ x y : Int, (∀ n, na = some n → x = n) → (∀ n, nb = some n → y = n) → (na.isSome && nb.isSome) = np.isSome ∧ (∀ p, np = some p → (x, y) = p)) := by
    refine hid fun x y hx hy => ?_
    have hp := HP.out
    unfold Pl.pairL at hp
    rw [HA.out, HB.out] at hp
    cases na <;> cases nb <;> simp at hp hx hy <;> subst hp <;> simp [hx, hy]
  rw [HP.out]
  go_enter Tryd.func38, Tryd.ntmps38
  go_wp2_with (go_at_call 37; refine (Cut_any _ _ _ HS.out).mono ?_; rintro e w1 ⟨a, b, rfl, ha, hb, n, rfl⟩)
  have HSZ := hid (Pl.cut_size ha hb)
  have HA1 := hid ha
  have HB1 := hid hb
  clear ha hb
  refine (readNumber_any a _ (Nat.le_trans HSZ.out.1 HS.out)).mono ?_
  rw [HA1.out, HA.out]
  rintro e w2 ⟨x, rfl, hx, rfl⟩
  have HX := hid hx
  clear hx
  go_wp2_with (go_at_call 59; refine (readNumber_any b _ (Nat.le_trans HSZ.out.2 HS.out)).mono ?_; rw [HB1.out, HB.out]; rintro e w3 ⟨y, rfl, hy, rfl⟩; have HY := hid hy; clear hy)
  all_goals
    refine bodyPost_ret (v := .tuple #[.agg #[.int .i64 x, .int .i64 y], .bool np.isSome]) (by rw [← (HC.out x y HX.out HY.out).1]; simp_all [results, Tryd.results38, go_sem]) rfl ⟨x, y, rfl, (HC.out x y HX.out HY.out).2, ((below_drew ((Below.refl _ _).alloc (Nat.le_refl _) _) n).setCell (Nat.le_refl _) _).setCell (Nat.le_refl _) _⟩

end Go.Proofs.YtcdobhdbafpkiadDoor
/-
  Rows of pairs, and of texts, that a call itself has made: what they hold, and how one more is appended.
-/
namespace Go.Proofs.YtcdobhdbafpkiadDoor
open Go.RowKit
set_option maxRecDepth 20000

def cellsP : List (Int × Int) → List Value
  | [] => []
  | p :: r => .int .i64 p.1 :: .int .i64 p.2 :: cellsP r
theorem cellsP_len : ∀ ps : List (Int × Int), (cellsP ps).length = ps.length * 2
  | [] => rfl
  | p :: r => by simp [cellsP, cellsP_len r]; omega
theorem cellsP_append : ∀ (a b : List (Int × Int)), cellsP (a ++ b) = cellsP a ++ cellsP b
  | [], _ => rfl
  | p :: r, b => by simp [cellsP, cellsP_append r b]
theorem cellsP_one : ∀ ps : List (Int × Int), ∀ u ∈ cellsP ps, u.oneCell' = true
  | [], u, h => by simp [cellsP] at h
  | p :: r, u, h => by
    simp only [cellsP, List.mem_cons] at h
    rcases h with rfl | rfl | h
    · rfl
    · rfl
    · exact cellsP_one r u h
theorem cellsP_get : ∀ (ps : List (Int × Int)) (i : Nat), i < ps.length → (cellsP ps)[i * 2]? = some (.int .i64 (Pl.pr ps i).1) ∧ (cellsP ps)[i * 2 + 1]? = some (.int .i64 (Pl.pr ps i).2)
  | [], i, h => by simp at h
  | p :: r, 0, _ => by simp [cellsP, Pl.pr]
  | p :: r, i + 1, h => by
    have := cellsP_get r i (by simpa using h)
    rw [show (i + 1) * 2 = i * 2 + 2 by omega]
    simpa [cellsP, Pl.pr] using this

theorem blockLt {w : World} {g : Nat} {o : Obj} (h : w.heap[g]? = some o) : g < w.heap.size := by
  rcases Nat.lt_or_ge g w.heap.size with h' | h'
  · exact h'
  · rw [Array.getElem?_eq_none h'] at h; cases h

/-- a slice value over a row of pairs of the call's own; T: the pairs' type -/
def OwnP (T : TypeId) (w : World) (base : Nat) (v : Value) (ps : List (Int × Int)) : Prop := w.ownsRow base T 2 v ps.length (cellsP ps)
theorem ownsRow_under {w w' : World} {base : Nat} {e : TypeId} {sz : Nat} {v : Value} {n : Nat} {xs : List Value} (h : w.ownsRow base e sz v n xs) (k : Below w.heap.size w w') : w'.ownsRow base e sz v n xs := by
  obtain ⟨h0, h1⟩ := h
  refine ⟨h0, ?_⟩
  rcases h1 with h1 | ⟨g, cap, cur, rfl, hb, hh, hr⟩
  · exact .inl h1
  · exact .inr ⟨g, cap, cur, rfl, hb, (k.block g (blockLt hh)).trans hh, hr⟩
theorem OwnP.below {T : TypeId} {w w' : World} {base : Nat} {v : Value} {ps : List (Int × Int)} (h : OwnP T w base v ps) (k : Below w.heap.size w w') : OwnP T w' base v ps := ownsRow_under h k
theorem OwnP.nil (T : TypeId) (w : World) (base : Nat) : OwnP T w base (.slice none 0 0) [] := World.ownsRow_nil _ _ _ _
theorem OwnP.mono {T : TypeId} {w : World} {base base' : Nat} {v : Value} {ps : List (Int × Int)} (h : OwnP T w base v ps) (k : base' ≤ base) : OwnP T w base' v ps := by
  obtain ⟨h0, h1⟩ := h
  refine ⟨h0, ?_⟩
  rcases h1 with h1 | ⟨g, cap, cur, rfl, hb, hr⟩
  · exact .inl h1
  · exact .inr ⟨g, cap, cur, rfl, by omega, hr⟩
theorem OwnP.shape {T : TypeId} {w : World} {base : Nat} {v : Value} {ps : List (Int × Int)} (h : OwnP T w base v ps) (hok : ∀ p ∈ ps, Pl.pairOk p) :
    ∃ a cap, v = .slice a ps.length cap ∧ IsPairs w a ps.length cap ps ∧ (a = none → cap = 0) ∧ (∀ x, a = some x → base ≤ x.block) := by
  obtain ⟨_, h | ⟨g, cap, cur, rfl, hb, hh, hn, hm, hs, hx⟩⟩ := h
  · obtain ⟨rfl, hn⟩ := h
    have hes : ps = [] := List.length_eq_zero_iff.1 hn
    subst hes
    exact ⟨none, 0, rfl, ⟨rfl, Nat.le_refl _, by simp, hok, .inl rfl⟩, fun _ => rfl, by simp⟩
  · refine ⟨some ⟨g, 0, none⟩, cap, rfl, ⟨rfl, hn, hm, hok, ?_⟩, by simp, by rintro x ⟨⟩; exact hb⟩
    rcases ps with _ | ⟨e, r⟩
    · exact .inl rfl
    · right
      refine ⟨g, 0, rfl, blockLt hh, ?_⟩
      have hcell : ∀ j u, (cellsP (e :: r))[j]? = some u → w.cell? ⟨g, 0 + j, none⟩ = some u := by
        intro j u hj
        rw [← hx] at hj
        have hj' : cur[j]? = some u := by
          rw [List.getElem?_take] at hj
          split at hj
          · rw [← Array.getElem?_toList]; exact hj
          · cases hj
        simp [World.cell?, hh, hj']
      intro i hi
      obtain ⟨h0, h1⟩ := cellsP_get _ i hi
      have c0 := hcell _ _ h0
      have c1 := hcell _ _ h1
      exact ⟨c0, by rw [Nat.add_assoc]; exact c1⟩
theorem OwnP.slice {T : TypeId} {w : World} {base : Nat} {v : Value} {ps : List (Int × Int)} (h : OwnP T w base v ps) : ∃ a n cap, v = .slice a n cap := by
  obtain ⟨_, h | ⟨g, cap, cur, rfl, _⟩⟩ := h
  · exact ⟨_, _, _, h.1⟩
  · exact ⟨_, _, _, rfl⟩
theorem partsOf {t : TypeId} {z : Value} {n m : Nat} (h : (Tryd.prog.info? t).map (fun i => (i.zero, i.size, i.bytes)) = some (some z, n, m)) : ∃ i, Tryd.prog.info? t = some i ∧ i.zero = some z ∧ i.size = n ∧ i.bytes = m := by
  cases hi : Tryd.prog.info? t with
  | none => rw [hi] at h; cases h
  | some i => rw [hi] at h; simp at h; exact ⟨i, rfl, h.1, h.2.1, h.2.2⟩

theorem append_pairT {tS tE : TypeId} (hS : Tryd.prog.underlying tS = some (.slice tE)) (hI : (Tryd.prog.info? tE).map (fun i => (i.zero, i.size, i.bytes)) = some (some (.agg #[.int .i64 0, .int .i64 0]), 2, 16))
    {w : World} {ops : Array Oper} {rest : List Oper} {o : Oper} {a : Act} {Q : Exit → Act → World → Prop} (hgd : o.guard = none) (s x : Operand)
    (ho : o.op = .call { callee := .builtin .append, args := #[s, x], argTypes := #[tS, tS] })
    (base : Nat) (v : Value) (ps : List (Int × Int)) (p : Int × Int) (hs : a.eval s = v) (hown : OwnP tE w base v ps) (hbase : base ≤ w.heap.size) (hx : a.eval x = .slice (some ⟨w.heap.size, 0, none⟩) 1 1) (hb : (ps.length + 1) * 16 ≤ 140737488355328)
    (h : ∀ v' w', OwnP tE w' base v' (ps ++ [p]) → Below base w w' → (w.alloc (.cells #[.int .i64 p.1, .int .i64 p.2] tE)).grownBy w' v.ownBlock → wpList Tryd.prog ops Q rest (a.put o.dst v') w') :
    wpList Tryd.prog ops Q (o :: rest) a (w.alloc (.cells #[.int .i64 p.1, .int .i64 p.2] tE)) := by
  obtain ⟨i0, hi0, hz0, hz1, hz2⟩ := partsOf hI
  refine wpList_append_own (w := _) hgd s x tS ho base tE i0 _ 2 16 hS hi0 hz0 hz1 hz2 rfl (by decide) _ ps.length (cellsP ps) hs (World.ownsRow.alloc hown _) ⟨w.heap.size, 0, none⟩ 1 1 [.int .i64 p.1, .int .i64 p.2] hx rfl ?_ ?_ (by unfold maxLen; omega) hb (by simp; omega) ?_
  · intro j u hj
    rw [add_none]
    match j, hj with
    | 0, hj => simp at hj; subst hj; simp
    | 1, hj => simp at hj; subst hj; simp
  · intro u hu; simp at hu; rcases hu with rfl | rfl <;> rfl
  · intro v' w' hown' hg _
    have hlt := World.ownsRow.lt hown
    refine h v' w' ?_ (((Below.refl _ _).alloc hbase _).grown hg (by simp; omega) (fun k hk => (hlt k hk).1)) hg
    unfold OwnP
    rw [cellsP_append]
    simpa [cellsP] using hown'
end Go.Proofs.YtcdobhdbafpkiadDoor
/-
  Contracts: the pairs that a text tells: readPairs and, cut at each comma, the document's cuts.
-/
namespace Go.Proofs.YtcdobhdbafpkiadDoor
open Go.RowKit
set_option maxRecDepth 20000

def mz : Value → Value → Nat
  | .string t, .bool true => t.size + 1
  | _, _ => 0
theorem infoPair : (Tryd.prog.info? 69).map (fun i => (i.zero, i.size, i.bytes)) = some (some (.agg #[.int .i64 0, .int .i64 0]), 2, 16) := by kernel_rfl
theorem toList_ne (s : ByteArray) (h : 0 < s.size) : (s.toList == []) = false := by
  rw [Lib.toList_data]
  cases hl : s.data.toList
  · have := sz_list s; rw [hl] at this; simp at this; omega
  · rfl

set_option maxHeartbeats 2000000 in
theorem readPairs_any (s : ByteArray) (m : UInt8) (w : World) (hs : s.size ≤ 4398046511104) :
    Calls Tryd.prog 21 #[.string s, .string ⟨#[m]⟩] w fun e w' => ∃ vl : Value, e = .returned (.tuple #[vl, .bool (Pl.pairsL m s.data.toList).isSome]) ∧
      OwnP 69 w' w.heap.size vl ((Pl.pairsL m s.data.toList).getD []) ∧ Below w.heap.size w w' := by
  obtain ⟨np, HP⟩ : ∃ x, Hid (Pl.pairsL m s.data.toList = x) := ⟨_, rfl⟩
  rw [HP.out]
  rcases Nat.eq_zero_or_pos s.size with h0 | h0
  · have he : s.toList = [] := by rw [Lib.toList_data]; exact List.length_eq_zero_iff.1 (by rw [sz_list]; omega)
    have HN : Hid (np = some []) := hid (by rw [← HP.out]; unfold Pl.pairsL; rw [if_pos (List.length_eq_zero_iff.1 (by rw [sz_list]; omega))])
    go_enter Tryd.func21, Tryd.ntmps21
    go_wp2
    go_ret2
    exact ⟨_, by rw [HN.out]; rfl, by rw [HN.out]; exact OwnP.nil _ _ _, Below.refl _ _⟩
  · have he := toList_ne s h0
    have HN : Hid (np = Pl.andThen [] (Pl.pairsP m (Pl.parts s.data.toList))) := by
      refine hid ?_
      rw [← HP.out]; unfold Pl.pairsL
      rw [if_neg (by intro h; have := sz_list s; rw [h] at this; simp at this; omega)]
      cases Pl.pairsP m (Pl.parts s.data.toList) <;> simp [Pl.andThen]
    go_enter Tryd.func21, Tryd.ntmps21
    go_wp2
    go_loopw [0, 6, 7] (fun s' vl mo wr => ∃ (t : ByteArray) (acc : List (Int × Int)) (b : Bool) (vv : Value), vv = vl ∧ s' = .string t ∧ mo = .bool b ∧ Hid (OwnP 69 wr w.heap.size vv acc) ∧ acc.length + t.size ≤ s.size + 1 ∧ t.size ≤ s.size ∧ (b = true → acc.length + t.size ≤ s.size) ∧ Hid (b = true → np = Pl.andThen acc (Pl.pairsP m (Pl.parts t.data.toList))) ∧ Hid (b = false → np = some acc) ∧ Below w.heap.size w wr) (fun s' _ mo _ => mz s' mo)
    case atStart => exact ⟨s, [], true, _, rfl, rfl, rfl, hid (OwnP.nil _ _ _), by simp, Nat.le_refl _, by simp, hid (fun _ => HN.out), hid (by simp), Below.refl _ _⟩
    case round =>
      obtain ⟨t, acc, b, vl, rfl, rfl, rfl, HO, hsz, htz, hsb, HT, HF, hb⟩ := hrel
      cases b
      · have HF' := hid (HF.out rfl)
        clear HF HT hsb
        go_wp2
        go_ret2
        exact ⟨vl, by rw [HF'.out]; rfl, by rw [HF'.out]; exact HO.out, hb⟩
      · have hsb' := hsb rfl
        clear hsb
        obtain ⟨cu, HCU⟩ : ∃ x, Hid (Pl.cutL 44 t.data.toList = x) := ⟨_, rfl⟩
        obtain ⟨c1, c2⟩ := cu
        obtain ⟨q, HQ⟩ : ∃ x, Hid (Pl.pairL m c1 = x) := ⟨_, rfl⟩
        have HTS : Hid (t.size ≤ maxLen) := hid (by unfold maxLen; omega)
        have HT' := hid (HT.out rfl)
        clear HT HF
        cases q with
        | none =>
          have HNN : Hid (np = none) := by
            refine hid ?_
            rw [HT'.out]
            cases c2 with
            | none => rw [Pl.parts_none (by rw [HCU.out]), HCU.out, Pl.pairsP_none HQ.out]; rfl
            | some r => rw [Pl.parts_some (r := r) (by rw [HCU.out]), HCU.out, Pl.pairsP_none HQ.out]; rfl
          go_wp2_with fail
          refine (Cut_any t 44 _ HTS.out).mono ?_
          rw [HCU.out]
          rintro e w1 ⟨a, d, rfl, ha, hd, n, rfl⟩
          have HA := hid ha
          have HSZ := hid (Pl.cut_size (m := 44) (s := t) (a := a) (b := d) (by rw [HCU.out]; exact ha) (by rw [HCU.out]; exact hd))
          clear ha hd
          go_wp2_with fail
          refine (readPair_any a m _ (Nat.le_trans HSZ.out.1 HTS.out)).mono ?_
          rw [HA.out, HQ.out]
          rintro e w2 ⟨x, y, rfl, _, hb2⟩
          go_wp2_with fail
          go_ret2
          exact ⟨_, by rw [HNN.out]; rfl, by rw [HNN.out]; exact OwnP.nil _ _ _, by have hb3 := (below_drew hb n).trans (hb2.mono hb.size); exact hb3.alloc (hb3.size) _⟩
        | some p =>
          go_wp2_with fail
          refine (Cut_any t 44 _ HTS.out).mono ?_
          rw [HCU.out]
          rintro e w1 ⟨a, d, rfl, ha, hd, n, rfl⟩
          have HA := hid ha
          have HD := hid hd
          have HSZ := hid (Pl.cut_size (m := 44) (s := t) (a := a) (b := d) (by rw [HCU.out]; exact ha) (by rw [HCU.out]; exact hd))
          clear ha hd
          go_wp2_with fail
          refine (readPair_any a m _ (Nat.le_trans HSZ.out.1 HTS.out)).mono ?_
          rw [HA.out, HQ.out]
          rintro e w2 ⟨x, y, rfl, hxy, hb2⟩
          obtain rfl := hxy p rfl
          clear hxy
          have hb3 : Below w.heap.size w w2 := (below_drew hb n).trans (hb2.mono hb.size)
          have hb4 : Below w.heap.size w (w2.alloc (.cells #[.int .i64 x, .int .i64 y] 69)) := hb3.alloc hb3.size _
          have hb5 : Below wr.heap.size wr (w2.alloc (.cells #[.int .i64 x, .int .i64 y] 69)) := ((below_drew (Below.refl _ _) n).trans hb2).alloc hb2.size _
          have HO4 := hid (HO.out.below hb5)
          have hz4 := hb4.size
          have HW4 := hid hb4
          clear hb5 hb2 hb4
          go_wp2_with (at_builtin; refine append_pairT Tryd.underlying67 infoPair rfl (.tmp 28) (.tmp 30) rfl w.heap.size vl acc (x, y) rfl HO4.out hz4 (by show Value.slice (some ⟨w2.heap.size + 1, 0, none⟩) 1 1 = _; simp) (by omega) ?_; intro v5 w5 ho5 hb5 _; have HO5 := hid ho5; clear ho5)
          have hb6 : Below w.heap.size w w5 := HW4.out.trans (hb5.mono (Nat.le_refl _))
          cases c2 with
          | none =>
            have HN' : Hid (np = some (acc ++ [(x, y)])) := by
              refine hid ?_
              rw [HT'.out, Pl.parts_none (by rw [HCU.out]), HCU.out, Pl.pairsP_some HQ.out]; simp [Pl.pairsP, Pl.andThen]
            have hdz : d.size = 0 := by rw [← sz_list, HD.out]; rfl
            go_roundw
            case rel => exact ⟨d, acc ++ [(x, y)], false, _, rfl, rfl, rfl, HO5, by simp; omega, by omega, by simp, hid (by simp), hid (fun _ => HN'.out), hb6⟩
            case measure => simp [mz]
          | some r =>
            have HN' : Hid (np = Pl.andThen (acc ++ [(x, y)]) (Pl.pairsP m (Pl.parts d.data.toList))) := by
              refine hid ?_
              rw [HT'.out, Pl.parts_some (r := r) (by rw [HCU.out]), HCU.out, Pl.pairsP_some HQ.out, HD.out]; rfl
            have hdz : d.size + 1 ≤ t.size := by
              have h := (Pl.cutL_len 44 t.data.toList).2 r (by rw [HCU.out])
              rw [← sz_list d, HD.out, ← sz_list t]
              show r.length + 1 ≤ _
              omega
            go_roundw
            case rel => exact ⟨d, acc ++ [(x, y)], true, _, rfl, rfl, rfl, HO5, by simp; omega, by omega, by simp; omega, hid (fun _ => HN'.out), hid (by simp), hb6⟩
            case measure => simp [mz]; omega
end Go.Proofs.YtcdobhdbafpkiadDoor
/-
  Contract: a text, cut at each comma: the document's cuts.
-/
namespace Go.Proofs.YtcdobhdbafpkiadDoor
open Go.RowKit
set_option maxRecDepth 20000

/-- a slice value over a row of texts of the call's own -/
def OwnT (w : World) (base : Nat) (v : Value) (ks : List ByteArray) : Prop := w.ownsRow base 9 1 v ks.length (ks.map Value.string)
theorem infoText : (Tryd.prog.info? 9).map (fun i => (i.zero, i.size, i.bytes)) = some (some (.string ⟨#[]⟩), 1, 16) := by kernel_rfl
theorem OwnT.below {w w' : World} {base : Nat} {v : Value} {ks : List ByteArray} (h : OwnT w base v ks) (k : Below w.heap.size w w') : OwnT w' base v ks := ownsRow_under h k
theorem OwnT.nil (w : World) (base : Nat) : OwnT w base (.slice none 0 0) [] := World.ownsRow_nil _ _ _ _
theorem OwnT.shape {w : World} {base : Nat} {v : Value} {ks : List ByteArray} (h : OwnT w base v ks) :
    ∃ a cap, v = .slice a ks.length cap ∧ ks.length ≤ cap ∧ cap ≤ maxLen ∧ (ks = [] ∨ ∃ b, a = some ⟨b, 0, none⟩ ∧ base ≤ b ∧ b < w.heap.size ∧ ∀ (i : Nat) (hi : i < ks.length), w.cell? ⟨b, 0 + i, none⟩ = some (.string ks[i])) := by
  obtain ⟨_, h | ⟨g, cap, cur, rfl, hb, hh, hn, hm, hs, hx⟩⟩ := h
  · obtain ⟨rfl, hn⟩ := h
    have hes : ks = [] := List.length_eq_zero_iff.1 hn
    subst hes
    exact ⟨none, 0, rfl, Nat.le_refl _, by simp, .inl rfl⟩
  · refine ⟨some ⟨g, 0, none⟩, cap, rfl, hn, hm, .inr ⟨g, rfl, hb, blockLt hh, ?_⟩⟩
    intro i hi
    have hj : (List.take (ks.length * 1) cur.toList)[i]? = some (.string ks[i]) := by
      rw [hx]; simp [hi]
    have hj' : cur[i]? = some (.string ks[i]) := by
      rw [List.getElem?_take] at hj
      split at hj
      · rw [← Array.getElem?_toList]; exact hj
      · cases hj
    simp [World.cell?, hh, hj']
theorem append_text {w : World} {ops : Array Oper} {rest : List Oper} {o : Oper} {a : Act} {Q : Exit → Act → World → Prop} (hgd : o.guard = none) (s x : Operand)
    (ho : o.op = .call { callee := .builtin .append, args := #[s, x], argTypes := #[79, 79] })
    (base : Nat) (v : Value) (ks : List ByteArray) (key : ByteArray) (hs : a.eval s = v) (hown : OwnT w base v ks) (hbase : base ≤ w.heap.size) (hx : a.eval x = .slice (some ⟨w.heap.size, 0, none⟩) 1 1) (hb : (ks.length + 1) * 16 ≤ 140737488355328)
    (h : ∀ v' w', OwnT w' base v' (ks ++ [key]) → Below base w w' → wpList Tryd.prog ops Q rest (a.put o.dst v') w') :
    wpList Tryd.prog ops Q (o :: rest) a (w.alloc (.cells #[.string key] 9)) := by
  obtain ⟨i0, hi0, hz0, hz1, hz2⟩ := partsOf infoText
  refine wpList_append_own (w := _) hgd s x 79 ho base 9 i0 _ 1 16 Tryd.underlying79 hi0 hz0 hz1 hz2 rfl (by decide) _ ks.length (ks.map Value.string) hs (World.ownsRow.alloc hown _) ⟨w.heap.size, 0, none⟩ 1 1 [.string key] hx rfl ?_ ?_ (by unfold maxLen; omega) hb (by simp; omega) ?_
  · intro j u hj
    match j, hj with
    | 0, hj => simp at hj; subst hj; rw [add_none]; simp
  · intro u hu; simp at hu; subst hu; rfl
  · intro v' w' hown' hg _
    have hlt := World.ownsRow.lt hown
    refine h v' w' ?_ (((Below.refl _ _).alloc hbase _).grown hg (by simp; omega) (fun k hk => (hlt k hk).1))
    unfold OwnT
    simpa using hown'

def Pl.lists (ks : List ByteArray) : List (List UInt8) := ks.map fun b => b.data.toList
def Pl.cutsL (l : List UInt8) : List (List UInt8) := if l = [] then [] else Pl.parts l

theorem Pl.parts_last {l : List UInt8} (h : (44 : UInt8) ∉ l) : Pl.parts l = [l] := by
  rw [Pl.parts_none (by rw [Pl.cutL_none h]), Pl.cutL_none h]
theorem Pl.parts_at {l : List UInt8} {i : Nat} (hi : i < l.length) (h : l[i]? = some 44) (k : (44 : UInt8) ∉ l.take i) : Pl.parts l = l.take i :: Pl.parts (l.drop (i + 1)) := by
  have e := Pl.cutL_some hi h k
  rw [Pl.parts_some (r := l.drop (i + 1)) (by rw [e]), e]

end Go.Proofs.YtcdobhdbafpkiadDoor
/-
  Contracts: what CheckAdj and AdjFault answer at every list of sides.
-/
namespace Go.Proofs.YtcdobhdbafpkiadDoor
open Go.RowKit
set_option maxRecDepth 20000

set_option maxHeartbeats 1000000 in
theorem CheckAdj_any (d : Bool) (a : Option Addr) (len cap : Nat) (ps : List (Int × Int)) (w : World) (h : IsPairs w a len cap ps) :
    Calls Tryd.prog 18 #[.agg #[.bool d, .slice a len cap]] w fun e w' => e = .returned (.int .i64 (Pl.adjF ps)) ∧ Below w.heap.size w w' := by
  obtain ⟨hl, hc, hm, hok, hrow⟩ := h
  unfold maxLen at hm
  go_enter Tryd.func18, Tryd.ntmps18
  go_wp2
  go_loopw [8] (fun i wr => ∃ k : Nat, k ≤ len ∧ i = .int .i64 k ∧ Hid (Pl.adjF ps = Pl.adjN ps (len - k) k) ∧ Below (w.heap.size + 1) (w.alloc (.cells #[.bool d, .slice a len cap] 25)) wr) (fun i _ => len - (intOf i).toNat)
  case atStart => exact ⟨0, Nat.zero_le _, rfl, by show _ = _; rw [← hl]; rfl, Below.refl _ _⟩
  case round =>
    obtain ⟨k, hk, rfl, HF, hb⟩ := hrel
    obtain ⟨x0, x1, xs, hbb⟩ := box2 hb
    by_cases hlt : k < len
    · obtain ⟨b, off, rfl, hbw, hr⟩ : ∃ b off, a = some ⟨b, off, none⟩ ∧ b < w.heap.size ∧ PairsAt w b off ps := by
        rcases hrow with rfl | h
        · simp at hl; omega
        · exact h
      clear hrow
      have hr' := hr.below hbw hbb
      obtain ⟨c0, c1⟩ := hr' k (by omega)
      obtain ⟨n, hn⟩ : ∃ n, len - k = n + 1 := ⟨len - k - 1, by omega⟩
      have HN : Hid (len - k = n + 1) := hn
      clear hn
      have hbr : b < wr.heap.size := by omega
      obtain ⟨q0, HQ0⟩ : ∃ q0, Hid ((Pl.pr ps k).1 = q0) := ⟨_, rfl⟩
      obtain ⟨q1, HQ1⟩ : ∃ q1, Hid ((Pl.pr ps k).2 = q1) := ⟨_, rfl⟩
      rw [HQ0.out] at c0
      rw [HQ1.out] at c1
      obtain ⟨oo, HO⟩ : ∃ oo, Hid (decide (0 ≤ q0 ∧ q0 ≤ 11) = oo) := ⟨_, rfl⟩
      have HS : Hid (Pl.sideB (Pl.pr ps k).1 (Pl.pr ps k).2 = (oo && decide (1 ≤ q1 ∧ q1 ≤ 1000))) := by
        show _ = _
        unfold Pl.sideB
        rw [HQ0.out, HQ1.out, HO.out]
      by_cases hg : oo = true ∧ 1 ≤ q1 ∧ q1 ≤ 1000
      · obtain ⟨rfl, h1, h2⟩ := hg
        have HM : Hid (Pl.sideB (Pl.pr ps k).1 (Pl.pr ps k).2 = true) := by show _ = _; rw [HS.out]; simp [h1, h2]
        rcases Nat.eq_zero_or_pos k with hk0 | hk0
        · have hd : decide (0 < k) = false := by simp; omega
          have HK0 : Hid (k = 0) := hk0
          clear hk0
          go_wp2_with (go_at_call 27; refine (isNode_any _ _).mono ?_; rw [HO.out]; rintro e w' ⟨rfl, rfl⟩)
          go_quiet (fail)
          go_wp2
          go_roundw
          case rel => exact ⟨k + 1, by omega, by go_num, by show _ = _; have h := HN.out; rw [HF.out, h]; have hm := HM.out; rw [HK0.out] at hm ⊢; rw [Pl.adjN_first hm]; congr 1; have h0 := HK0.out; omega, below_drew (hb.alloc (by omega) _) _⟩
          case measure => simp [intOf]; omega
        · obtain ⟨m, rfl⟩ : ∃ m, k = m + 1 := ⟨k - 1, by omega⟩
          obtain ⟨d0, d1⟩ := hr' m (by omega)
          obtain ⟨r0, HR0⟩ : ∃ r0, Hid ((Pl.pr ps m).1 = r0) := ⟨_, rfl⟩
          rw [HR0.out] at d0
          by_cases hle : q0 ≤ r0
          · go_wp2_with (go_at_call 27; refine (isNode_any _ _).mono ?_; rw [HO.out]; rintro e w' ⟨rfl, rfl⟩)
            go_quiet (fail)
            go_wp2
            go_ret
            exact ⟨ret_int (by rw [HF.out, HN.out, Pl.adjN_low HM.out (by rw [HQ0.out, HR0.out]; omega)]), below_drew (hbb.alloc (by omega) _) _⟩
          · go_wp2_with (go_at_call 27; refine (isNode_any _ _).mono ?_; rw [HO.out]; rintro e w' ⟨rfl, rfl⟩)
            go_quiet (fail)
            go_wp2
            go_roundw
            case rel => exact ⟨m + 1 + 1, by omega, by go_num, by show _ = _; rw [HF.out, HN.out, Pl.adjN_on HM.out (by rw [HQ0.out, HR0.out]; omega)]; congr 1; have := HN.out; omega, below_drew (hb.alloc (by omega) _) _⟩
            case measure => simp [intOf]; omega
      · have HR : Hid (Pl.adjF ps = 2) := by
          show _ = _
          rw [HF.out, HN.out, Pl.adjN_range]
          rw [HS.out]
          cases oo
          · rfl
          · simp at hg ⊢; omega
        cases oo
        all_goals rcases Int.lt_or_le q1 1 with h1 | h1
        all_goals rcases Int.lt_or_le 1000 q1 with h2 | h2
        all_goals first | (exfalso; omega) | skip
        all_goals first | (exfalso; apply hg; refine ⟨rfl, ?_, ?_⟩ <;> assumption) | skip
        all_goals
          go_wp2_with (go_at_call 27; refine (isNode_any _ _).mono ?_; rw [HO.out]; rintro e w' ⟨rfl, rfl⟩)
          go_ret
          exact ⟨ret_int HR.out.symm, hbb.alloc (by omega) _⟩
    · obtain rfl : k = len := by omega
      go_wp2
      go_ret
      exact ⟨ret_int (by rw [HF.out]; simp [Pl.adjN]), hbb⟩

end Go.Proofs.YtcdobhdbafpkiadDoor
/-
  Contracts: what a text tells of links: ReadAdj and the document's AdjOf.
-/
namespace Go.Proofs.YtcdobhdbafpkiadDoor
open Go.RowKit
set_option maxRecDepth 20000

/-- the sides that a text tells, if it tells any that may be -/
def Pl.sidesL (l : List UInt8) : Option (List (Int × Int)) := Pl.pairsL 61 (Pl.tailB 33 l)
/-- what ReadAdj answers: drained, the sides, the code -/
def Pl.adjC (l : List UInt8) : Int := match Pl.sidesL l with
  | none => 4
  | some ps => Pl.adjF ps
def Pl.adjD (l : List UInt8) : Bool := Pl.adjC l == 0 && Pl.headB 33 l
def Pl.adjS (l : List UInt8) : List (Int × Int) := if Pl.adjC l = 0 then (Pl.sidesL l).getD [] else []
theorem infoSide : (Tryd.prog.info? 31).map (fun i => (i.zero, i.size, i.bytes)) = some (some (.agg #[.int .i64 0, .int .i64 0]), 2, 16) := by kernel_rfl
theorem Pl.tail_size {c : UInt8} {s a : ByteArray} (h : a.data.toList = Pl.tailB c s.data.toList) : a.size ≤ s.size := by
  rw [← sz_list a, ← sz_list s, h]
  unfold Pl.tailB
  split <;> simp
theorem Pl.parts_len : ∀ (n : Nat) (l : List UInt8), (Pl.partsN n l).length ≤ l.length + 1
  | 0, _ => by simp [Pl.partsN]
  | n + 1, l => by
    rw [Pl.partsN]
    split
    · simp
    · rename_i r hr
      have h1 := (Pl.cutL_len 44 l).2 r hr
      have h2 := Pl.parts_len n r
      simp only [List.length_cons]; omega
theorem Pl.pairsP_len {m : UInt8} : ∀ {ps : List (List UInt8)} {a : List (Int × Int)}, Pl.pairsP m ps = some a → a.length = ps.length
  | [], a, h => by cases h; rfl
  | p :: r, a, h => by
    rw [Pl.pairsP] at h
    split at h
    · rename_i x y hx hy
      cases h
      simp [Pl.pairsP_len hy]
    · cases h
theorem Pl.pairsL_facts {m : UInt8} {l : List UInt8} {a : List (Int × Int)} (h : Pl.pairsL m l = some a) : a.length ≤ l.length + 1 ∧ (∀ p ∈ a, Pl.pairOk p) := by
  unfold Pl.pairsL at h
  split at h
  · cases h; simp
  · refine ⟨?_, fun p hp => Pl.pairOk_of (Pl.pairsP_ok h p hp)⟩
    rw [Pl.pairsP_len h]; exact Pl.parts_len _ _

theorem box2f {w w3 : World} {c0 c1 : Value} {T : TypeId} (hb : Below (w.heap.size + 1) (w.alloc (.cells #[c0, c1] T)) w3) :
    w3.frozen? ⟨w.heap.size, 0, none⟩ = false ∧ w3.frozen? ⟨w.heap.size, 1, none⟩ = false := by
  constructor
  all_goals
    rw [hb.frozen (by simp)]
    simp
theorem adjAt_cells {w : World} {B : Nat} {c0 c1 : Value} {T : TypeId} (h : w.heap[B]? = some (.cells #[c0, c1] T)) :
    w.cell? ⟨B, 0, none⟩ = some c0 ∧ w.cell? ⟨B, 1, none⟩ = some c1 ∧ w.frozen? ⟨B, 0, none⟩ = false ∧ w.frozen? ⟨B, 1, none⟩ = false ∧ B < w.heap.size := by
  refine ⟨?_, ?_, ?_, ?_, blockLt h⟩
  all_goals simp [World.cell?, World.frozen?, h]
theorem adjAt_set {w : World} {B : Nat} {c0 c1 : Value} {T : TypeId} (h : w.heap[B]? = some (.cells #[c0, c1] T)) (v : Value) : (w.setCell ⟨B, 1, none⟩ v).heap[B]? = some (.cells #[c0, v] T) := by
  have := blockLt h
  simp [World.setCell, Array.getElem?_modify, h]
theorem heapNew (w : World) (o : Obj) : (w.alloc o).heap[w.heap.size]? = some o := by
  show (w.heap.push o)[w.heap.size]? = _
  simp
theorem heapOld {w : World} {B : Nat} {x : Obj} (h : w.heap[B]? = some x) (o : Obj) : (w.alloc o).heap[B]? = some x := by
  have := blockLt h
  show (w.heap.push o)[B]? = _
  rw [Array.getElem?_push]; split
  · omega
  · exact h
theorem Pl.take_pr (ps : List (Int × Int)) (k : Nat) (h : k < ps.length) : ps.take (k + 1) = ps.take k ++ [Pl.pr ps k] := by
  rw [List.take_succ_eq_append_getElem h, Pl.pr_eq ps k h]
set_option maxHeartbeats 2000000 in
theorem ReadAdj_any (s : ByteArray) (w : World) (hs : s.size ≤ 4398046511103) :
    Calls Tryd.prog 8 #[.string s] w fun e w' => ∃ vl : Value, e = .returned (.tuple #[.agg #[.bool (Pl.adjD s.data.toList), vl], .int .i64 (Pl.adjC s.data.toList)]) ∧
      OwnP 31 w' w.heap.size vl (Pl.adjS s.data.toList) ∧ Below w.heap.size w w' := by
  obtain ⟨np, HP⟩ : ∃ x, Hid (Pl.sidesL s.data.toList = x) := ⟨_, rfl⟩
  obtain ⟨hd, HH⟩ : ∃ x, Hid (Pl.headB 33 s.data.toList = x) := ⟨_, rfl⟩
  have HSM : Hid (s.size ≤ maxLen) := hid (by unfold maxLen; omega)
  cases np with
  | none =>
    have HC : Hid (Pl.adjC s.data.toList = 4 ∧ Pl.adjD s.data.toList = false ∧ Pl.adjS s.data.toList = []) := by
      have h : Pl.adjC s.data.toList = 4 := by unfold Pl.adjC; rw [HP.out]
      refine hid ⟨h, ?_, ?_⟩
      · unfold Pl.adjD; rw [h]; rfl
      · unfold Pl.adjS; rw [h]; rfl
    rw [HC.out.1, HC.out.2.1, HC.out.2.2]
    go_enter Tryd.func8, Tryd.ntmps8
    go_wp2_with fail
    refine (CutPrefix_any s 33 _ HSM.out).mono ?_
    rw [HH.out]
    rintro e w1 ⟨a, rfl, ha, rfl⟩
    have HA := hid ha
    clear ha
    have haz := Pl.tail_size HA.out
    go_wp2_with fail
    refine (readPairs_any a 61 _ (by omega)).mono ?_
    rw [HA.out, show Pl.pairsL 61 (Pl.tailB 33 s.data.toList) = none from HP.out]
    rintro e w2 ⟨v2, rfl, _, hb2⟩
    have hb2' : Below (w.heap.size + 1) (w.alloc (.cells #[.bool false, .slice none 0 0] 25)) w2 := by simpa using hb2
    clear hb2
    obtain ⟨x0, x1, xs, hbb⟩ := box2 hb2'
    obtain ⟨f0, f1⟩ := box2f hb2'
    go_wp2_with fail
    refine bodyPost_ret (v := .tuple #[.agg #[.bool false, .slice none 0 0], .int .i64 4]) (by simp [results, Tryd.results8, go_sem, x0, x1]) rfl ⟨_, rfl, OwnP.nil _ _ _, ((hbb.setCell (Nat.le_refl _) _).setCell (Nat.le_refl _) _)⟩
  | some ps =>
    obtain ⟨cc, HCC⟩ : ∃ x, Hid (Pl.adjF ps = x) := ⟨_, rfl⟩
    have HC : Hid (Pl.adjC s.data.toList = cc ∧ (cc = 0 → Pl.adjD s.data.toList = hd ∧ Pl.adjS s.data.toList = ps) ∧ (cc ≠ 0 → Pl.adjD s.data.toList = false ∧ Pl.adjS s.data.toList = [])) := by
      have h : Pl.adjC s.data.toList = cc := by unfold Pl.adjC; rw [HP.out]; exact HCC.out
      refine hid ⟨h, fun h0 => ⟨?_, ?_⟩, fun h0 => ⟨?_, ?_⟩⟩
      · unfold Pl.adjD; rw [h, h0, HH.out]; rfl
      · unfold Pl.adjS; rw [h, h0, HP.out]; rfl
      · unfold Pl.adjD; rw [h]; simp [h0]
      · unfold Pl.adjS; rw [h, if_neg h0]
    have HFA := hid (Pl.pairsL_facts (m := 61) (l := Pl.tailB 33 s.data.toList) HP.out)
    rw [HC.out.1]
    go_enter Tryd.func8, Tryd.ntmps8
    go_wp2_with fail
    refine (CutPrefix_any s 33 _ HSM.out).mono ?_
    rw [HH.out]
    rintro e w1 ⟨a, rfl, ha, rfl⟩
    have HA := hid ha
    clear ha
    have haz := Pl.tail_size HA.out
    go_wp2_with fail
    refine (readPairs_any a 61 _ (by omega)).mono ?_
    rw [HA.out, show Pl.pairsL 61 (Pl.tailB 33 s.data.toList) = some ps from HP.out]
    rintro e w2 ⟨v2, rfl, ho2, hb2⟩
    have hb2' : Below (w.heap.size + 1) (w.alloc (.cells #[.bool false, .slice none 0 0] 25)) w2 := by simpa using hb2
    obtain ⟨a2, cap2, rfl, hp2, _, _⟩ := OwnP.shape (ps := ps) ho2 HFA.out.2
    have HP2 := hid hp2
    have hlen : ps.length ≤ s.size + 1 := by
      have h1 := HFA.out.1
      rw [← HA.out, sz_list] at h1
      omega
    have hcap := hp2.2.1
    have hmax := hp2.2.2.1
    unfold maxLen at hmax
    clear hb2 ho2 hp2
    go_wp2_with fail
    have hwz := hb2'.size
    simp at hwz
    go_loopw [29] (fun i wr => ∃ (k : Nat) (v : Value), k ≤ ps.length ∧ i = .int .i64 k ∧ Hid (wr.heap[w2.heap.size]? = some (.cells #[.bool hd, v] 25)) ∧ Hid (OwnP 31 wr (w2.heap.size + 1) v (ps.take k)) ∧ Below w2.heap.size w2 wr) (fun i _ => ps.length - (intOf i).toNat)
    case atStart => exact ⟨0, _, Nat.zero_le _, rfl, hid (heapNew _ _), hid (OwnP.nil _ _ _), (Below.refl _ _).alloc (Nat.le_refl _) _⟩
    case round =>
      obtain ⟨k, v, hk, rfl, HB, HO, hb⟩ := hrel
      obtain ⟨y0, y1, g0, g1, hzr⟩ := adjAt_cells HB.out
      by_cases hlt : k < ps.length
      · obtain ⟨b, off, rfl, hbw, hr⟩ : ∃ b off, a2 = some ⟨b, off, none⟩ ∧ b < w2.heap.size ∧ PairsAt w2 b off ps := by
          rcases HP2.out.2.2.2.2 with rfl | h
          · simp at hlt
          · exact h
        obtain ⟨c0, c1⟩ := (hr.below hbw hb) k hlt
        have hbr : b < wr.heap.size := by omega
        clear hr
        obtain ⟨pp, hpp⟩ : ∃ pp, Hid (Pl.pr ps k = pp) := ⟨_, rfl⟩
        rw [hpp.out] at c0 c1
        have HO4 := hid (HO.out.below ((Below.refl wr.heap.size wr).alloc (Nat.le_refl _) (.cells #[.int .i64 pp.1, .int .i64 pp.2] 69)))
        have HB4 := hid (heapOld HB.out (.cells #[.int .i64 pp.1, .int .i64 pp.2] 69))
        have htk : (ps.take k).length = k := by simp; omega
        go_wp2_with (at_builtin; refine append_pairT Tryd.underlying23 infoSide rfl (.tmp 34) (.tmp 40) rfl (w2.heap.size + 1) v (ps.take k) pp rfl HO4.out (by simp; omega) (by show Value.slice (some ⟨wr.heap.size + 1, 0, none⟩) 1 1 = _; simp) (by rw [htk]; omega) ?_; intro v5 w5 ho5 hb5 _; obtain ⟨a5, n5, cap5, rfl⟩ := ho5.slice; have HO5 := hid ho5; clear ho5; have HB5 := hid ((hb5.block _ (Nat.lt_succ_self _)).trans HB4.out); obtain ⟨z0, z1, q0, q1, hz5⟩ := adjAt_cells HB5.out)
        go_roundw
        case rel => exact ⟨k + 1, .slice a5 n5 cap5, by omega, by go_num, hid (adjAt_set HB5.out _), hid (by show OwnP _ _ _ _ _; rw [Pl.take_pr ps k hlt, hpp.out]; exact ownsRow_setCell_below HO5.out (by simp) _), ((hb.alloc hb.size _).trans (hb5.mono (Nat.le_succ _))).setCell (Nat.le_refl _) _⟩
        case measure => simp [intOf]; omega
      · obtain rfl : k = ps.length := by omega
        have HO' : Hid (OwnP 31 wr (w2.heap.size + 1) v ps) := by have h := HO.out; rw [List.take_length] at h; exact hid h
        obtain ⟨a3, cap3, rfl, hp3, _, _⟩ := OwnP.shape HO'.out HFA.out.2
        have HP3 := hid hp3
        clear hp3 HO
        have hbx : Below (w.heap.size + 1) (w.alloc (.cells #[.bool false, .slice none 0 0] 25)) wr := hb2'.trans (hb.mono (by omega))
        by_cases hc0 : cc = 0
        · subst hc0
          have HC' := hid (HC.out.2.1 rfl)
          clear HC
          go_wp2_with fail
          refine (CheckAdj_any _ _ _ _ ps _ HP3.out).mono ?_
          rw [HCC.out]
          rintro e w4 ⟨rfl, hb4⟩
          have hbx4 := hbx.trans (hb4.mono (by omega))
          obtain ⟨x0, x1, xs, hbb⟩ := box2 hbx4
          obtain ⟨f0, f1⟩ := box2f hbx4
          have z0 := (hb4.cell (p := ⟨w2.heap.size, 0, none⟩) hzr).trans y0
          have z1 := (hb4.cell (p := ⟨w2.heap.size, 1, none⟩) hzr).trans y1
          go_wp2_with fail
          refine bodyPost_ret (v := .tuple #[.agg #[.bool hd, .slice a3 ps.length cap3], .int .i64 0]) (by simp [results, Tryd.results8, go_sem, x0, x1]) rfl ⟨_, by rw [HC'.out.1], ?_, ((hbb.setCell (Nat.le_refl _) _).setCell (Nat.le_refl _) _)⟩
          rw [HC'.out.2]
          have h5 := HO'.out.below hb4
          exact OwnP.mono (base := w2.heap.size + 1) (ownsRow_setCell_below (ownsRow_setCell_below h5 (by simp; omega) _) (by simp; omega) _) (by omega)
        · have HC' := hid (HC.out.2.2 hc0)
          clear HC
          have hd0 : (cc == 0) = false := by simpa using hc0
          go_wp2_with fail
          refine (CheckAdj_any _ _ _ _ ps _ HP3.out).mono ?_
          rw [HCC.out]
          rintro e w4 ⟨rfl, hb4⟩
          have hbx4 := hbx.trans (hb4.mono (by omega))
          obtain ⟨x0, x1, xs, hbb⟩ := box2 hbx4
          obtain ⟨f0, f1⟩ := box2f hbx4
          go_wp2_with fail
          exact bodyPost_ret (v := .tuple #[.agg #[.bool false, .slice none 0 0], .int .i64 cc]) (by simp [results, Tryd.results8, go_sem, x0, x1]) rfl ⟨_, by rw [HC'.out.1], by rw [HC'.out.2]; exact OwnP.nil _ _ _, ((hbb.setCell (Nat.le_refl _) _).setCell (Nat.le_refl _) _)⟩
end Go.Proofs.YtcdobhdbafpkiadDoor
/-
  What holds while the region of TextsBack that appends one side is carried out.
-/
namespace Go.Proofs.YtcdobhdbafpkiadDoor
open Go.RowKit
set_option maxRecDepth 20000

def TF (B : Nat) (v : Value) (i c k2 : Int) (l : Value) (b off : Nat) (n : Nat) (w : World) : Nat → Value → Prop
  | 0, x => x = .pointer (some ⟨B, 1, none⟩)
  | 1, x => x = v
  | 2, x => x = .int .i64 i
  | 3, x => x = l
  | 4, x => x = .int .i64 i
  | 5, x => x = .pointer (some ⟨b, off + n * 4, none⟩)
  | 6, x => x = .pointer (some ⟨b, off + n * 4 + 2, none⟩)
  | 7, x => x = .int .i64 k2
  | 8, x => x = .int .i64 c
  | 9, x => x = .int .i64 (1 + c)
  | 10, x => x = .agg #[.int .i64 i, .int .i64 (1 + c)]
  | 11, x => ∃ g, x = .slice (some ⟨g, 0, none⟩) 1 1 ∧ g < w.heap.size ∧ w.cell? ⟨g, 0, none⟩ = some (.int .i64 i) ∧ w.cell? ⟨g, 1, none⟩ = some (.int .i64 (1 + c))
  | _, _ => True
theorem TF.mono {B : Nat} {v : Value} {i c k2 : Int} {l : Value} {b off n : Nat} {w w' : World} {k : Nat} {x : Value} (h : TF B v i c k2 l b off n w k x) (hb : Below w.heap.size w w') : TF B v i c k2 l b off n w' k x := by
  have hz := hb.size
  match k, h with
  | 11, ⟨g, h1, h2, h3, h4⟩ => exact ⟨g, h1, by omega, ((bcell hb).1 g 0 h2).trans h3, ((bcell hb).1 g 1 h2).trans h4⟩
  | 0, h => exact h
  | 1, h => exact h
  | 2, h => exact h
  | 3, h => exact h
  | 4, h => exact h
  | 5, h => exact h
  | 6, h => exact h
  | 7, h => exact h
  | 8, h => exact h
  | 9, h => exact h
  | 10, h => exact h
  | m + 12, h => exact h

structure TInv (B : Nat) (d : Bool) (v : Value) (acc : List (Int × Int)) (i c k2 : Int) (l : Value) (b off n : Nat) (W0 : World) (a0 : Act) (listed : Array Bool) (a : Act) (w : World) : Prop where
  ls : listed.size = 15
  fr : ∃ xs : List Value, xs.length = 14 ∧ a = { a0 with tmps := setFrom a0.tmps 43 xs } ∧
    (listed.getD 12 false = false → ∀ k, k < 12 → listed.getD k false = true → TF B v i c k2 l b off n w k (xs.getD k undef)) ∧
    (listed.getD 13 false = true → xs.getD 13 undef = .pointer (some ⟨B, 1, none⟩)) ∧
    (listed.getD 12 false = true → listed.getD 14 false = false → ∃ aa m cap, xs.getD 12 undef = .slice aa m cap ∧ OwnP 31 w (B + 1) (.slice aa m cap) (acc ++ [(i, 1 + c)]))
  nb : listed.getD 12 false = false → Below W0.heap.size W0 w
  na : listed.getD 12 false = true → listed.getD 14 false = false → Below (B + 1) W0 w
  al : listed.getD 14 false = true → listed.getD 12 false = true ∧ listed.getD 13 false = true
  dn : listed.getD 14 false = true → ∃ aa m cap, OwnP 31 w (B + 1) (.slice aa m cap) (acc ++ [(i, 1 + c)]) ∧ Below B W0 w ∧ w.heap[B]? = some (.cells #[.bool d, .slice aa m cap] 25)

theorem frame_put {a0 : Act} {xs : List Value} {k : Nat} {x : Value} (h : k < xs.length) : Act.put { a0 with tmps := setFrom a0.tmps 43 xs } (some (43 + k)) x = { a0 with tmps := setFrom a0.tmps 43 (xs.set k x) } := by
  show ({ a0 with tmps := (setFrom a0.tmps 43 xs).setIfInBounds (43 + k) x } : Act) = _
  rw [setFrom_set xs a0.tmps 43 k x h]
theorem frame_in {a0 : Act} {xs : List Value} {k : Nat} (hs : a0.tmps.size = 152) (hl : xs.length = 14) (h : k < 14) : ({ a0 with tmps := setFrom a0.tmps 43 xs } : Act).tmps[43 + k]?.getD undef = xs.getD k undef := by
  show (setFrom a0.tmps 43 xs)[43 + k]?.getD undef = _
  rw [setFrom_at xs a0.tmps 43 k (by omega) (by omega)]
  simp [List.getD]
theorem frame_out {a0 : Act} {xs : List Value} {k : Nat} (hl : xs.length = 14) (h : k < 43 ∨ 57 ≤ k) : ({ a0 with tmps := setFrom a0.tmps 43 xs } : Act).tmps[k]?.getD undef = a0.tmps[k]?.getD undef := by
  show (setFrom a0.tmps 43 xs)[k]?.getD undef = _
  rw [setFrom_out xs a0.tmps 43 k (by omega)]

theorem TInv.put {B : Nat} {d : Bool} {v : Value} {acc : List (Int × Int)} {i c k2 : Int} {l : Value} {b off n : Nat} {W0 : World} {a0 : Act} {listed : Array Bool} {a : Act} {w w' : World} {j : Nat} {x : Value}
    (h : TInv B d v acc i c k2 l b off n W0 a0 listed a w) (hj : j < 12) (hn : listed.getD 12 false = false) (hn4 : listed.getD 14 false = false) (hb : Below w.heap.size w w') (hv : TF B v i c k2 l b off n w' j x) :
    TInv B d v acc i c k2 l b off n W0 a0 (listed.setIfInBounds j true) (a.put (some (43 + j)) x) w' := by
  have h12 : (listed.setIfInBounds j true).getD 12 false = false := by rw [getD_set_ne false (by omega)]; exact hn
  have h14 : (listed.setIfInBounds j true).getD 14 false = false := by rw [getD_set_ne false (by omega)]; exact hn4
  obtain ⟨xs, hl, rfl, hf, h13, _⟩ := h.fr
  refine ⟨by simp [h.ls], ⟨xs.set j x, by simp [hl], frame_put (by omega), ?_, ?_, fun h' => by rw [h12] at h'; cases h'⟩, fun _ => ?_, (fun h' => by rw [h12] at h'; cases h'), (fun h' => by rw [h14] at h'; cases h'), (fun h' => by rw [h14] at h'; cases h')⟩
  · intro _ k hk hlk
    by_cases e : j = k
    · subst e
      have : (xs.set j x).getD j undef = x := by simp [List.getD, hl, show j < 14 by omega]
      rw [this]; exact hv
    · rw [getD_set_ne false e] at hlk
      have : (xs.set j x).getD k undef = xs.getD k undef := by simp [List.getD, List.getElem?_set_ne e]
      rw [this]; exact (hf hn k hk hlk).mono hb
  · intro hlk
    rw [getD_set_ne false (by omega)] at hlk
    have : (xs.set j x).getD 13 undef = xs.getD 13 undef := by simp [List.getD, List.getElem?_set_ne (show j ≠ 13 by omega)]
    rw [this]; exact h13 hlk
  · have := h.nb hn
    exact this.trans (hb.mono this.size)
theorem TInv.put13 {B : Nat} {d : Bool} {v : Value} {acc : List (Int × Int)} {i c k2 : Int} {l : Value} {b off n : Nat} {W0 : World} {a0 : Act} {listed : Array Bool} {a : Act} {w : World}
    (h : TInv B d v acc i c k2 l b off n W0 a0 listed a w) (hn4 : listed.getD 14 false = false) :
    TInv B d v acc i c k2 l b off n W0 a0 (listed.setIfInBounds 13 true) (a.put (some (43 + 13)) (.pointer (some ⟨B, 1, none⟩))) w := by
  have e12 : (listed.setIfInBounds 13 true).getD 12 false = listed.getD 12 false := getD_set_ne false (by omega)
  have h14 : (listed.setIfInBounds 13 true).getD 14 false = false := by rw [getD_set_ne false (by omega)]; exact hn4
  obtain ⟨xs, hl, rfl, hf, h13, ha⟩ := h.fr
  have ne : ∀ k, k ≠ 13 → (xs.set 13 (.pointer (some ⟨B, 1, none⟩))).getD k undef = xs.getD k undef := fun k hk => by simp [List.getD, List.getElem?_set_ne (Ne.symm hk)]
  refine ⟨by simp [h.ls], ⟨xs.set 13 _, by simp [hl], frame_put (by omega), ?_, ?_, ?_⟩, (fun h' => h.nb (e12 ▸ h')), (fun h' _ => h.na (e12 ▸ h') hn4), (fun h' => by rw [h14] at h'; cases h'), (fun h' => by rw [h14] at h'; cases h')⟩
  · intro h' k hk hlk
    rw [getD_set_ne false (by omega)] at hlk
    rw [ne k (by omega)]; exact hf (e12 ▸ h') k hk hlk
  · intro _
    simp [List.getD, hl]
  · intro h' _
    rw [ne 12 (by omega)]; exact ha (e12 ▸ h') hn4
theorem TInv.at {B : Nat} {d : Bool} {v : Value} {acc : List (Int × Int)} {i c k2 : Int} {l : Value} {b off n : Nat} {W0 : World} {a0 : Act} {listed : Array Bool} {a : Act} {w : World} {k : Nat}
    (h : TInv B d v acc i c k2 l b off n W0 a0 listed a w) (hs : a0.tmps.size = 152) (hn : listed.getD 12 false = false) (hk : k < 12) (hl : listed.getD k false = true) : TF B v i c k2 l b off n w k (a.tmps[43 + k]?.getD undef) := by
  obtain ⟨xs, hxl, rfl, hf, _⟩ := h.fr
  rw [frame_in hs hxl (by omega)]
  exact hf hn k hk hl
theorem TInv.out {B : Nat} {d : Bool} {v : Value} {acc : List (Int × Int)} {i c k2 : Int} {l : Value} {b off n : Nat} {W0 : World} {a0 : Act} {listed : Array Bool} {a : Act} {w : World} {k : Nat}
    (h : TInv B d v acc i c k2 l b off n W0 a0 listed a w) (hk : k < 43 ∨ 57 ≤ k) : a.tmps[k]?.getD undef = a0.tmps[k]?.getD undef := by
  obtain ⟨xs, hxl, rfl, _⟩ := h.fr
  exact frame_out hxl hk
theorem TInv.at12 {B : Nat} {d : Bool} {v : Value} {acc : List (Int × Int)} {i c k2 : Int} {l : Value} {b off n : Nat} {W0 : World} {a0 : Act} {listed : Array Bool} {a : Act} {w : World}
    (h : TInv B d v acc i c k2 l b off n W0 a0 listed a w) (hs : a0.tmps.size = 152) (h12 : listed.getD 12 false = true) (hn : listed.getD 14 false = false) :
    ∃ aa m cap, a.tmps[55]?.getD undef = .slice aa m cap ∧ OwnP 31 w (B + 1) (.slice aa m cap) (acc ++ [(i, 1 + c)]) := by
  obtain ⟨xs, hxl, rfl, _, _, ha⟩ := h.fr
  have := ha h12 hn
  rw [← frame_in (k := 12) hs hxl (by omega)] at this
  exact this
theorem TInv.at13 {B : Nat} {d : Bool} {v : Value} {acc : List (Int × Int)} {i c k2 : Int} {l : Value} {b off n : Nat} {W0 : World} {a0 : Act} {listed : Array Bool} {a : Act} {w : World}
    (h : TInv B d v acc i c k2 l b off n W0 a0 listed a w) (hs : a0.tmps.size = 152) (h13 : listed.getD 13 false = true) : a.tmps[56]?.getD undef = .pointer (some ⟨B, 1, none⟩) := by
  obtain ⟨xs, hxl, rfl, _, h', _⟩ := h.fr
  have := h' h13
  rw [← frame_in (k := 13) hs hxl (by omega)] at this
  exact this
end Go.Proofs.YtcdobhdbafpkiadDoor
