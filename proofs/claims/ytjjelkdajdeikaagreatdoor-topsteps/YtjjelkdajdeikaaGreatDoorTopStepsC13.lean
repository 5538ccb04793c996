/-
  Contracts and facts that the proof rests on, put together out of several texts.
-/
import Derived.Test.YtjjelkdajdeikaaGreatDoorTopStepsC10
import Derived.OpenShut
import Derived.Test.YtjjelkdajdeikaaGreatDoorTopStepsC2
import Derived.Test.YtjjelkdajdeikaaGreatDoorTopStepsC6
import Derived.Test.YtjjelkdajdeikaaGreatDoorTopStepsC12
import Derived.Test.YtjjelkdajdeikaaGreatDoorTopStepsC1
import Derived.Test.YtjjelkdajdeikaaGreatDoorTopStepsC4
import Derived.Test.YtjjelkdajdeikaaGreatDoorTopStepsC3
/-
  Acts of the call's own; contract of keep: the acts by which all nodes tell, send and decide (Settle).
-/
namespace Go.Proofs.YtjjelkdajdeikaaGreatDoor
open Go.RowKit
set_option maxRecDepth 20000

def cellsAc : List Pl.Ac → List Value
  | [] => []
  | x :: r => acCells x ++ cellsAc r
theorem cellsAc_append : ∀ a b : List Pl.Ac, cellsAc (a ++ b) = cellsAc a ++ cellsAc b
  | [], _ => rfl
  | x :: r, b => by simp [cellsAc, cellsAc_append r b]
theorem acCells_len (x : Pl.Ac) : (acCells x).length = 9 := rfl
theorem cellsAc_len : ∀ xs : List Pl.Ac, (cellsAc xs).length = xs.length * 9
  | [] => rfl
  | x :: r => by simp [cellsAc, acCells_len, cellsAc_len r]; omega
theorem acCells_one (x : Pl.Ac) : ∀ u ∈ acCells x, u.oneCell' = true := by
  intro u hu
  unfold acCells at hu
  simp at hu
  rcases hu with rfl | rfl | rfl | rfl | rfl | rfl | rfl | rfl | rfl <;> rfl
theorem cellsAc_get : ∀ (xs : List Pl.Ac) (i k : Nat), i < xs.length → k < 9 → (cellsAc xs)[i * 9 + k]? = (acCells (Pl.ac xs i))[k]?
  | [], i, k, h, _ => by simp at h
  | x :: r, 0, k, _, hk => by
    show (acCells x ++ cellsAc r)[0 * 9 + k]? = _
    rw [Nat.zero_mul, Nat.zero_add, List.getElem?_append_left (by rw [acCells_len]; exact hk)]
    rfl
  | x :: r, i + 1, k, h, hk => by
    show (acCells x ++ cellsAc r)[(i + 1) * 9 + k]? = _
    rw [List.getElem?_append_right (by rw [acCells_len]; omega), acCells_len, show (i + 1) * 9 + k - 9 = i * 9 + k by omega, cellsAc_get r i k (by simpa using h) hk]
    rfl
def OwnAc (w : World) (base : Nat) (v : Value) (xs : List Pl.Ac) : Prop := w.ownsRow base 51 9 v xs.length (cellsAc xs)
theorem infoAct : (Tryz.prog.info? 51).map (fun i => (i.zero, i.size, i.bytes)) = some (some (.agg #[.int .i64 0, .int .i64 0, .int .i64 0, .int .i64 0, .int .i64 0, .int .i64 0, .int .i64 0, .string ⟨#[]⟩, .string ⟨#[]⟩]), 9, 88) := by kernel_rfl
theorem OwnAc.nil (w : World) (base : Nat) : OwnAc w base (.slice none 0 0) [] := World.ownsRow_nil _ _ _ _
theorem OwnAc.below {w w' : World} {base : Nat} {v : Value} {xs : List Pl.Ac} (h : OwnAc w base v xs) (k : Below w.heap.size w w') : OwnAc w' base v xs := ownsRow_under h k
theorem OwnAc.acts {w : World} {base : Nat} {v : Value} {xs : List Pl.Ac} (h : OwnAc w base v xs) (hok : ∀ x ∈ xs, Pl.AcOk x) : ∃ a cap, v = .slice a xs.length cap ∧ IsActs w a xs.length cap xs ∧ (a = none → xs.length = 0) ∧ ∀ x, a = some x → base ≤ x.block := by
  obtain ⟨_, ⟨h, h1⟩ | ⟨g, cap, cur, rfl, hb, hh, hn, hm, hs, hx⟩⟩ := h
  · have e : xs = [] := List.length_eq_zero_iff.1 h1
    subst e
    exact ⟨none, 0, h, ⟨rfl, Nat.le_refl _, by unfold maxLen; omega, hok, .inl rfl⟩, fun _ => rfl, by simp⟩
  · refine ⟨_, cap, rfl, ⟨rfl, hn, hm, hok, .inr ⟨g, 0, rfl, blockLt hh, fun i hi k v hv => ?_⟩⟩, fun e => (by cases e), by rintro x ⟨⟩; exact hb⟩
    have hk : k < 9 := by have := (List.getElem?_eq_some_iff.1 hv).1; rwa [acCells_len] at this
    rw [← cellsAc_get xs i k hi hk, ← hx, List.getElem?_take] at hv
    split at hv
    · rw [Array.getElem?_toList] at hv
      simp [World.cell?, hh, hv]
    · cases hv
theorem ownAc_of {w : World} {base n : Nat} {v : Value} {ys : List Value} {xs : List Pl.Ac} (h : w.ownsRow base 51 9 v n ys) (e : ys = cellsAc xs) : OwnAc w base v xs := by
  subst e
  have hn : n = xs.length := by
    have := h.1
    rw [cellsAc_len] at this
    omega
  subst hn
  exact h
theorem append_ac {w : World} {ops : Array Oper} {rest : List Oper} {o : Oper} {a : Act} {Q : Exit → Act → World → Prop} (hgd : o.guard = none) (s x : Operand)
    (ho : o.op = .call { callee := .builtin .append, args := #[s, x], argTypes := #[22, 22] })
    (base : Nat) (v : Value) (xs : List Pl.Ac) (e : Pl.Ac) (hs : a.eval s = v) (hown : OwnAc w base v xs) (hbase : base ≤ w.heap.size) (hx : a.eval x = .slice (some ⟨w.heap.size, 0, none⟩) 1 1) (hb : xs.length ≤ 1000000)
    (h : ∀ v' w', OwnAc w' base v' (xs ++ [e]) → Below base w w' → wpList Tryz.prog ops Q rest (a.put o.dst v') w') :
    wpList Tryz.prog ops Q (o :: rest) a (w.alloc (.cells #[.int .i64 e.kind, .int .i64 e.a, .int .i64 e.b, .int .i64 e.n, .int .i64 e.m, .int .i64 e.p.1, .int .i64 e.p.2, .string e.key, .string e.val] 51)) := by
  obtain ⟨i0, hi0, hz0, hz1, hz2⟩ := partsOf infoAct
  refine wpList_append_own (w := _) hgd s x 22 ho base 51 i0 _ 9 88 Tryz.underlying22 hi0 hz0 hz1 hz2 rfl (by decide) _ xs.length (cellsAc xs) hs (World.ownsRow.alloc hown _) ⟨w.heap.size, 0, none⟩ 1 1 (acCells e) hx rfl ?_ (acCells_one e) (by unfold maxLen; omega) (by omega) (by simp; omega) ?_
  · have hn := heapNew w (.cells #[.int .i64 e.kind, .int .i64 e.a, .int .i64 e.b, .int .i64 e.n, .int .i64 e.m, .int .i64 e.p.1, .int .i64 e.p.2, .string e.key, .string e.val] 51)
    obtain ⟨c0, c1, c2, c3, c4, c5, c6, c7, c8⟩ := box9 hn
    intro j u hj
    rw [add_none]
    unfold acCells at hj
    match j, hj with
    | 0, hj => simp at hj; subst hj; exact c0
    | 1, hj => simp at hj; subst hj; exact c1
    | 2, hj => simp at hj; subst hj; exact c2
    | 3, hj => simp at hj; subst hj; exact c3
    | 4, hj => simp at hj; subst hj; exact c4
    | 5, hj => simp at hj; subst hj; exact c5
    | 6, hj => simp at hj; subst hj; exact c6
    | 7, hj => simp at hj; subst hj; exact c7
    | 8, hj => simp at hj; subst hj; exact c8
    | j + 9, hj => simp at hj
  · intro v' w' hown' hg _
    have hlt := World.ownsRow.lt hown
    exact h v' w' (ownAc_of hown' (by rw [cellsAc_append]; simp [cellsAc])) (((Below.refl _ _).alloc hbase _).grown hg (by simp; omega) (fun k hk => (hlt k hk).1))
end Go.Proofs.YtjjelkdajdeikaaGreatDoor
/-
  Contract: the prefix of a raw number: a pair.
-/
namespace Go.Proofs.YtjjelkdajdeikaaGreatDoor
open Go.RowKit
set_option maxRecDepth 20000

theorem tdiv8 {n : Int} (h0 : -9223372036854775808 ≤ n) (h1 : n ≤ 9223372036854775807) : -9223372036854775808 ≤ n.tdiv 8 ∧ n.tdiv 8 ≤ 9223372036854775807 := by
  have e := Int.mul_tdiv_add_tmod n 8
  have a1 := Int.tmod_lt_of_pos n (show (0 : Int) < 8 by omega)
  have a2 := Int.lt_tmod_of_pos n (show (0 : Int) < 8 by omega)
  omega
set_option maxHeartbeats 8000000 in
theorem prefix_any (n : Int) (w : World) (h : (Lit.int .i64 n).wf = true) :
    Calls Tryz.prog 48 #[.int .i64 n] w fun e w' => ∃ p : Int × Int, e = .returned (.agg #[.int .i64 p.1, .int .i64 p.2]) ∧ Pl.pairOk p ∧ Below w.heap.size w w' := by
  have b0 := wf_bounds h
  clear h
  obtain ⟨b, HP⟩ : ∃ b, Hid (Pl.pk n 8 = b) := ⟨_, hid rfl⟩
  have hb : 0 ≤ b ∧ b < 8 := by rw [← HP.out]; exact Pl.pk_range _ _ (by omega)
  have HC1 := hid (fun W => picked_any n 8 W b0.1 b0.2 (by omega) (by omega))
  have hq : -9223372036854775808 ≤ n.tdiv 8 ∧ n.tdiv 8 ≤ 9223372036854775807 := tdiv8 b0.1 b0.2
  have hqw : IntKind.i64.wrap (n.tdiv 8) = n.tdiv 8 := by rw [IntKind.wrap_i64]; omega
  have HC2 := hid (fun W => picked_any (n.tdiv 8) 256 W hq.1 hq.2 (by omega) (by omega))
  obtain ⟨c, HQ⟩ : ∃ c, Hid (Pl.pk (n.tdiv 8) 256 = c) := ⟨_, hid rfl⟩
  rw [HP.out] at HC1
  rw [HQ.out] at HC2
  obtain ⟨f, hf, HW⟩ : ∃ f : Int → Int, (∀ y, bits BinOp.andNot IntKind.i64 c y = f y) ∧ Hid (∀ y, (Lit.int .i64 (f y)).wf = true) := ⟨fun y => bits BinOp.andNot IntKind.i64 c y, fun _ => rfl, hid (fun _ => wf_bits _ _ _ _)⟩
  have hbs : b = 0 ∨ b = 1 ∨ b = 2 ∨ b = 3 ∨ b = 4 ∨ b = 5 ∨ b = 6 ∨ b = 7 := by omega
  rcases hbs with rfl | rfl | rfl | rfl | rfl | rfl | rfl | rfl
  all_goals
    go_enter Tryz.func48, Tryz.ntmps48
    go_wp2_with fail
    refine (HC1.out _).mono ?_
    rintro e w1 ⟨rfl, rfl⟩
    go_wp2_with fail
    refine (HC2.out _).mono ?_
    rintro e w2 ⟨rfl, rfl⟩
    go_wp2_with fail
    refine bodyPost_ret (v := .agg #[.int .i64 (f _), .int .i64 _]) (by simp [results, Tryz.results48, go_sem]; exact ⟨rfl, rfl⟩) rfl ?_
    exact ⟨(f _, _), rfl, ⟨HW.out _, by dsimp only; decide⟩, ((Below.refl _ _).alloc (Nat.le_refl _) _).alloc (by simp) _⟩
end Go.Proofs.YtjjelkdajdeikaaGreatDoor
/-
  Acts of raw things: an act in its box, and three regions that draw their order (written by tools/gen_acts.py).
-/
namespace Go.Proofs.YtjjelkdajdeikaaGreatDoor
open Go.RowKit
set_option maxRecDepth 20000

structure Pl.AcG (nodes : Nat) (x : Pl.Ac) : Prop where
  ok : Pl.AcOk x
  a0 : 0 ≤ x.a
  a1 : x.a < nodes
  b0 : 0 ≤ x.b
  b1 : x.b < nodes
theorem Pl.pairOk_zero : Pl.pairOk (0, 0) := by unfold Pl.pairOk; decide
theorem Pl.AcG.new {nodes : Nat} {a b n : Int} (ha : 0 ≤ a ∧ a < nodes) (hb : 0 ≤ b ∧ b < nodes) (hn : n ≤ 9223372036854775807) : Pl.AcG nodes ⟨0, a, b, n, 0, (0, 0), ⟨#[]⟩, ⟨#[]⟩⟩ :=
  ⟨⟨(by decide : (⟨#[]⟩ : ByteArray).size ≤ maxLen), (by decide : (⟨#[]⟩ : ByteArray).size ≤ maxLen), Pl.pairOk_zero, hn, (by decide : (0 : Int) ≤ 9223372036854775807)⟩, ha.1, ha.2, hb.1, hb.2⟩
theorem Pl.AcG.zero {nodes : Nat} (h : 1 ≤ nodes) : Pl.AcG nodes ⟨0, 0, 0, 0, 0, (0, 0), ⟨#[]⟩, ⟨#[]⟩⟩ :=
  ⟨⟨by decide, by decide, Pl.pairOk_zero, by decide, by decide⟩, by decide, by show (0 : Int) < nodes; omega, by decide, by show (0 : Int) < nodes; omega⟩
theorem Pl.AcG.kind {nodes : Nat} {x : Pl.Ac} (h : Pl.AcG nodes x) (k : Int) : Pl.AcG nodes { x with kind := k } := ⟨⟨h.ok.key, h.ok.val, h.ok.p, h.ok.n, h.ok.m⟩, h.a0, h.a1, h.b0, h.b1⟩
theorem Pl.AcG.setN {nodes : Nat} {x : Pl.Ac} (h : Pl.AcG nodes x) (k : Int) (hk : k ≤ 9223372036854775807) : Pl.AcG nodes { x with n := k } := ⟨⟨h.ok.key, h.ok.val, h.ok.p, hk, h.ok.m⟩, h.a0, h.a1, h.b0, h.b1⟩
theorem Pl.AcG.setM {nodes : Nat} {x : Pl.Ac} (h : Pl.AcG nodes x) (k : Int) (hk : k ≤ 9223372036854775807) : Pl.AcG nodes { x with m := k } := ⟨⟨h.ok.key, h.ok.val, h.ok.p, h.ok.n, hk⟩, h.a0, h.a1, h.b0, h.b1⟩
theorem Pl.AcG.setP {nodes : Nat} {x : Pl.Ac} (h : Pl.AcG nodes x) (p : Int × Int) (hk : Pl.pairOk p) : Pl.AcG nodes { x with p := p } := ⟨⟨h.ok.key, h.ok.val, hk, h.ok.n, h.ok.m⟩, h.a0, h.a1, h.b0, h.b1⟩
theorem Pl.AcG.setKey {nodes : Nat} {x : Pl.Ac} (h : Pl.AcG nodes x) (s : ByteArray) (hk : s.size ≤ maxLen) : Pl.AcG nodes { x with key := s } := ⟨⟨hk, h.ok.val, h.ok.p, h.ok.n, h.ok.m⟩, h.a0, h.a1, h.b0, h.b1⟩
theorem Pl.AcG.setVal {nodes : Nat} {x : Pl.Ac} (h : Pl.AcG nodes x) (s : ByteArray) (hk : s.size ≤ maxLen) : Pl.AcG nodes { x with val := s } := ⟨⟨h.ok.key, hk, h.ok.p, h.ok.n, h.ok.m⟩, h.a0, h.a1, h.b0, h.b1⟩
def AcB (w : World) (X : Nat) (x : Pl.Ac) : Prop := w.heap[X]? = some (.cells #[.int .i64 x.kind, .int .i64 x.a, .int .i64 x.b, .int .i64 x.n, .int .i64 x.m, .int .i64 x.p.1, .int .i64 x.p.2, .string x.key, .string x.val] 51)
theorem AcB.box {w : World} {X : Nat} {x : Pl.Ac} (h : AcB w X x) : (w.cell? ⟨X, 0, none⟩ = some (.int .i64 x.kind) ∧ w.cell? ⟨X, 1, none⟩ = some (.int .i64 x.a) ∧ w.cell? ⟨X, 2, none⟩ = some (.int .i64 x.b) ∧ w.cell? ⟨X, 3, none⟩ = some (.int .i64 x.n) ∧ w.cell? ⟨X, 4, none⟩ = some (.int .i64 x.m) ∧ w.cell? ⟨X, 5, none⟩ = some (.int .i64 x.p.1) ∧ w.cell? ⟨X, 6, none⟩ = some (.int .i64 x.p.2) ∧ w.cell? ⟨X, 7, none⟩ = some (.string x.key) ∧ w.cell? ⟨X, 8, none⟩ = some (.string x.val)) ∧ (∀ o, w.frozen? ⟨X, o, none⟩ = false) ∧ X < w.heap.size := by
  unfold AcB at h
  refine ⟨⟨?_, ?_, ?_, ?_, ?_, ?_, ?_, ?_, ?_⟩, fun o => ?_, blockLt h⟩
  iterate 9 simp [World.cell?, h]
  simp [World.frozen?, h]
theorem AcB.kind {w : World} {X : Nat} {x : Pl.Ac} (h : AcB w X x) (k : Int) : AcB (w.setCell ⟨X, 0, none⟩ (.int .i64 k)) X { x with kind := k } := by
  unfold AcB at h ⊢
  simp [World.setCell, Array.getElem?_modify, h]
theorem AcB.setN {w : World} {X : Nat} {x : Pl.Ac} (h : AcB w X x) (k : Int) : AcB (w.setCell ⟨X, 3, none⟩ (.int .i64 k)) X { x with n := k } := by
  unfold AcB at h ⊢
  simp [World.setCell, Array.getElem?_modify, h]
theorem AcB.setM {w : World} {X : Nat} {x : Pl.Ac} (h : AcB w X x) (k : Int) : AcB (w.setCell ⟨X, 4, none⟩ (.int .i64 k)) X { x with m := k } := by
  unfold AcB at h ⊢
  simp [World.setCell, Array.getElem?_modify, h]
theorem AcB.setKey {w : World} {X : Nat} {x : Pl.Ac} (h : AcB w X x) (s : ByteArray) : AcB (w.setCell ⟨X, 7, none⟩ (.string s)) X { x with key := s } := by
  unfold AcB at h ⊢
  simp [World.setCell, Array.getElem?_modify, h]
theorem AcB.setVal {w : World} {X : Nat} {x : Pl.Ac} (h : AcB w X x) (s : ByteArray) : AcB (w.setCell ⟨X, 8, none⟩ (.string s)) X { x with val := s } := by
  unfold AcB at h ⊢
  simp [World.setCell, Array.getElem?_modify, h]
theorem AcB.below {w w' : World} {X : Nat} {x : Pl.Ac} (h : AcB w X x) (k : Below w.heap.size w w') : AcB w' X x := (k.block _ (blockLt h)).trans h
def set9 (w : World) (X : Nat) (x : Pl.Ac) : World := ((((((((w.setCell ⟨X, 0, none⟩ (.int .i64 x.kind)).setCell ⟨X, 1, none⟩ (.int .i64 x.a)).setCell ⟨X, 2, none⟩ (.int .i64 x.b)).setCell ⟨X, 3, none⟩ (.int .i64 x.n)).setCell ⟨X, 4, none⟩ (.int .i64 x.m)).setCell ⟨X, 5, none⟩ (.int .i64 x.p.1)).setCell ⟨X, 6, none⟩ (.int .i64 x.p.2)).setCell ⟨X, 7, none⟩ (.string x.key)).setCell ⟨X, 8, none⟩ (.string x.val)
theorem set9_at {w : World} {X : Nat} {y : Pl.Ac} (h : AcB w X y) (x : Pl.Ac) : AcB (set9 w X x) X x := by
  unfold AcB at h ⊢
  simp [set9, World.setCell, Array.getElem?_modify, h]
theorem set9_but (w : World) (X : Nat) (x : Pl.Ac) : But X w (set9 w X x) := (((((((((But.refl X w).setCell _ _).setCell _ _).setCell _ _).setCell _ _).setCell _ _).setCell _ _).setCell _ _).setCell _ _).setCell _ _
theorem set9_below {a w : World} {X B : Nat} (h : Below B a w) (hX : B ≤ X) (x : Pl.Ac) : Below B a (set9 w X x) := ((((((((h.setCell hX _).setCell hX _).setCell hX _).setCell hX _).setCell hX _).setCell hX _).setCell hX _).setCell hX _).setCell hX _
theorem Pl.pk_le (n : Int) (m : Nat) (h : 0 < m) (h2 : m ≤ 1000) : 0 ≤ Pl.pk n m ∧ Pl.pk n m ≤ 9223372036854775807 := by
  have := Pl.pk_range n m (by omega)
  omega
def AV (base nodes : Nat) (VL : List Value) (j : Nat) (u : Value) (W : World) : Prop :=
  if j = 0 then (∃ X x, u = .pointer (some ⟨X, 0, none⟩) ∧ base ≤ X ∧ AcB W X x ∧ Pl.AcG nodes x) else u = VL.getD j undef
theorem AV.eq {base nodes VL j u W} (h : AV base nodes VL j u W) (h0 : j ≠ 0) : u = VL.getD j undef := by
  unfold AV at h
  rwa [if_neg h0] at h
theorem AV.of {base nodes VL j u W} (h0 : j ≠ 0) (h : u = VL.getD j undef) : AV base nodes VL j u W := by
  unfold AV
  rwa [if_neg h0]
theorem AV.isBox {base nodes VL u W} (h : AV base nodes VL 0 u W) : ∃ X x, u = .pointer (some ⟨X, 0, none⟩) ∧ base ≤ X ∧ AcB W X x ∧ Pl.AcG nodes x := by
  unfold AV at h
  rwa [if_pos rfl] at h
theorem AV.box {base nodes VL u W} (h : ∃ X x, u = .pointer (some ⟨X, 0, none⟩) ∧ base ≤ X ∧ AcB W X x ∧ Pl.AcG nodes x) : AV base nodes VL 0 u W := by
  unfold AV
  rwa [if_pos rfl]
theorem AV.grow {base nodes VL} {W W' : World} (hb : Below W.heap.size W W') : ∀ q u, AV base nodes VL q u W → AV base nodes VL q u W' := by
  intro q u h
  unfold AV at h ⊢
  split
  · rename_i e
    rw [if_pos e] at h
    obtain ⟨X, x, h1, h2, h3, h4⟩ := h
    exact ⟨X, x, h1, h2, h3.below hb, h4⟩
  · rename_i e
    rwa [if_neg e] at h
theorem AV.stored {base nodes VL} {W : World} {X : Nat} {y x : Pl.Ac} (hx : AcB W X y) (hg : Pl.AcG nodes x) : ∀ q u, AV base nodes VL q u W → AV base nodes VL q u (set9 W X x) := by
  intro q u h
  unfold AV at h ⊢
  split
  · rename_i e
    rw [if_pos e] at h
    obtain ⟨Y, z, h1, h2, h3, h4⟩ := h
    by_cases hY : Y = X
    · subst hY
      exact ⟨Y, x, h1, h2, set9_at hx x, hg⟩
    · exact ⟨Y, z, h1, h2, ((set9_but W X x).block _ (blockLt h3) hY).trans h3, h4⟩
  · rename_i e
    rwa [if_neg e] at h

def AInv (a0 : Act) (w0 : World) (nodes : Nat) (VL : List Value) (listed : Array Bool) (a : Act) (W : World) : Prop :=
  RInv a0 10 26 11 (fun k => ([some 17, some 18, some 19, some 20, some 21, some 22, some 23, some 24, some 25, some 0, none] : List (Option Nat)).getD k none) (AV w0.heap.size nodes VL) (fun W => Below w0.heap.size w0 W) listed a W ∧ ∀ j, 1 ≤ j → j < 17 → a.tmps[10 + j]?.getD undef = a0.tmps[10 + j]?.getD undef
theorem AInv.put {a0 : Act} {w0 : World} {nodes : Nat} {VL : List Value} {listed : Array Bool} {a : Act} {W W' : World} {i j : Nat} {v : Value} (h : AInv a0 w0 nodes VL listed a W)
    (ho : ([some 17, some 18, some 19, some 20, some 21, some 22, some 23, some 24, some 25, some 0, none] : List (Option Nat)).getD i none = some j) (hj : j < 26) (hj0 : j < 1 ∨ 17 ≤ j) (hb : Below W.heap.size W W') (hv : AV w0.heap.size nodes VL j v W') (hc : Below w0.heap.size w0 W') : AInv a0 w0 nodes VL (listed.setIfInBounds i true) (a.put (some (10 + j)) v) W' :=
  ⟨h.1.put ho hj (AV.grow hb) hv hc, fun q q1 q2 => by
    show (a.tmps.setIfInBounds (10 + j) v)[10 + q]?.getD undef = _
    rw [Array.getElem?_setIfInBounds_ne (by omega)]
    exact h.2 q q1 q2⟩
theorem AInv.store {a0 : Act} {w0 : World} {nodes : Nat} {VL : List Value} {listed : Array Bool} {a : Act} {W : World} {X : Nat} {y x : Pl.Ac} (h : AInv a0 w0 nodes VL listed a W) (hxx : AcB W X y) (hX : w0.heap.size ≤ X) (hg : Pl.AcG nodes x)
    (ho : ([some 17, some 18, some 19, some 20, some 21, some 22, some 23, some 24, some 25, some 0, none] : List (Option Nat)).getD 10 none = none) : AInv a0 w0 nodes VL (listed.setIfInBounds 10 true) a (set9 W X x) :=
  ⟨h.1.skip ho (AV.stored hxx hg) (set9_below h.1.cw hX x), h.2⟩

end Go.Proofs.YtjjelkdajdeikaaGreatDoor
/-
  Acts of raw things: region 6 of keep.Acts (written by tools/gen_acts.py).
-/
namespace Go.Proofs.YtjjelkdajdeikaaGreatDoor
open Go.RowKit
set_option maxRecDepth 20000

set_option linter.unusedSimpArgs false in
set_option maxHeartbeats 8000000 in
theorem acts6 {Q : Exit → Act → World → Prop} {a0 : Act} {w0 : World} {R nodes : Nat} {k1 k2 : Int}
    (hsize : a0.tmps.size = 122) (q2 : a0.tmps[2]?.getD undef = .int .i64 nodes) (q9 : a0.tmps[9]?.getD undef = .pointer (some ⟨R, 0, none⟩)) (hR : R < w0.heap.size)
    (c1 : w0.cell? ⟨R, 1, none⟩ = some (.int .i64 k1)) (c2 : w0.cell? ⟨R, 2, none⟩ = some (.int .i64 k2)) (h1 : (Lit.int .i64 k1).wf = true) (h2 : (Lit.int .i64 k2).wf = true) (hn : 1 ≤ nodes) (hn2 : nodes ≤ 12)
    (hQ : ∀ xs W X x, xs.length = 26 → (∀ j, 1 ≤ j → j < 17 → xs.getD j undef = a0.tmps[10 + j]?.getD undef) → xs.getD 0 undef = .pointer (some ⟨X, 0, none⟩) → w0.heap.size ≤ X → AcB W X x → Pl.AcG nodes x → Below w0.heap.size w0 W → Q .normal { a0 with tmps := setFrom a0.tmps 10 xs } W) :
    ∀ ops, regIn Tryz.f17 6 = some ops → (Code.region 6 ops true).wp Tryz.prog Q a0 w0 := by
  intro ops hops
  have eo := Option.some.inj (hops.symm.trans (rfl : regIn Tryz.f17 6 = some _))
  subst eo
  clear hops
  have hsz : 10 + 26 ≤ a0.tmps.size := by omega
  have hk1 := wf_bounds h1
  have hk2 := wf_bounds h2
  have hp1 := Pl.pk_range k1 nodes (by omega)
  have hp2 := Pl.pk_range k2 nodes (by omega)
  have hAC : Pl.AcG nodes ⟨0, Pl.pk k1 nodes, Pl.pk k2 nodes, -1, 0, (0, 0), ⟨#[]⟩, ⟨#[]⟩⟩ := Pl.AcG.new hp1 hp2 (by decide)
  refine wp_region_any (by kernel_rfl) ?_
  refine wpAny_inv2 (AInv a0 w0 nodes [undef, undef, undef, undef, undef, undef, undef, undef, undef, undef, undef, undef, undef, undef, undef, undef, undef, (.pointer (some ⟨R, 1, none⟩) : Value), (.int .i64 k1 : Value), (.int .i64 nodes : Value), (.int .i64 (Pl.pk k1 nodes) : Value), (.pointer (some ⟨R, 2, none⟩) : Value), (.int .i64 k2 : Value), (.int .i64 nodes : Value), (.int .i64 (Pl.pk k2 nodes) : Value), (.agg #[.int .i64 0, .int .i64 (Pl.pk k1 nodes), .int .i64 (Pl.pk k2 nodes), .int .i64 (-1), .int .i64 0, .int .i64 0, .int .i64 0, .string ⟨#[]⟩, .string ⟨#[]⟩] : Value)]) ?_ ?_ _ _ _ _ (by decide +kernel) ?_ (closed_start _ _ _)
  · rintro i listed a' W hi hCl hI
    rw [mem_ready] at hi
    obtain ⟨hl0, o, ho, hall⟩ := hi
    have hlti : i < 11 := (Array.getElem?_eq_some_iff.1 ho).1
    have o2 := (hI.1.out (k := 2) (by omega)).trans q2
    have o9 := (hI.1.out (k := 9) (by omega)).trans q9
    have x1 := (hI.1.cw.cell (p := ⟨R, 1, none⟩) hR).trans c1
    have x2 := (hI.1.cw.cell (p := ⟨R, 2, none⟩) hR).trans c2
    have hcs : i = 0 ∨ i = 1 ∨ i = 2 ∨ i = 3 ∨ i = 4 ∨ i = 5 ∨ i = 6 ∨ i = 7 ∨ i = 8 ∨ i = 9 ∨ i = 10 := by omega
    rcases hcs with rfl | rfl | rfl | rfl | rfl | rfl | rfl | rfl | rfl | rfl | rfl
    all_goals
      simp at ho
      subst ho
      refine wpOp_of rfl rfl ?_
    · simp [Oper.wp, go_sem, o9]
      exact hI.put (i := 0) (j := 17) rfl (by omega) (by decide) (Below.refl _ _) (AV.of (by decide) rfl) hI.1.cw
    · have e27 : a'.tmps[27]?.getD undef = .pointer (some ⟨R, 1, none⟩) := AV.eq (hI.1.at (k := 0) (j := 17) hsz rfl (by omega) (hall ⟨0, .data⟩ (by simp) rfl)) (by decide)
      simp [Oper.wp, go_sem, e27, x1]
      exact hI.put (i := 1) (j := 18) rfl (by omega) (by decide) (Below.refl _ _) (AV.of (by decide) rfl) hI.1.cw
    · simp [Oper.wp, go_sem, o2]
      exact hI.put (i := 2) (j := 19) rfl (by omega) (by decide) (Below.refl _ _) (AV.of (by decide) rfl) hI.1.cw
    · have e28 : a'.tmps[28]?.getD undef = .int .i64 k1 := AV.eq (hI.1.at (k := 1) (j := 18) hsz rfl (by omega) (hall ⟨1, .data⟩ (by simp) rfl)) (by decide)
      have e29 : a'.tmps[29]?.getD undef = .int .i64 nodes := AV.eq (hI.1.at (k := 2) (j := 19) hsz rfl (by omega) (hall ⟨2, .data⟩ (by simp) rfl)) (by decide)
      simp [Oper.wp, go_sem, e28, e29]
      refine (picked_any k1 nodes W hk1.1 hk1.2 (by omega) (by omega)).mono ?_
      rintro e w1 ⟨rfl, hw1⟩
      rw [hw1]
      exact hI.put (i := 3) (j := 20) rfl (by omega) (by decide) (Below.refl _ _) (AV.of (by decide) rfl) hI.1.cw
    · simp [Oper.wp, go_sem, o9]
      exact hI.put (i := 4) (j := 21) rfl (by omega) (by decide) (Below.refl _ _) (AV.of (by decide) rfl) hI.1.cw
    · have e31 : a'.tmps[31]?.getD undef = .pointer (some ⟨R, 2, none⟩) := AV.eq (hI.1.at (k := 4) (j := 21) hsz rfl (by omega) (hall ⟨4, .data⟩ (by simp) rfl)) (by decide)
      simp [Oper.wp, go_sem, e31, x2]
      exact hI.put (i := 5) (j := 22) rfl (by omega) (by decide) (Below.refl _ _) (AV.of (by decide) rfl) hI.1.cw
    · simp [Oper.wp, go_sem, o2]
      exact hI.put (i := 6) (j := 23) rfl (by omega) (by decide) (Below.refl _ _) (AV.of (by decide) rfl) hI.1.cw
    · have e32 : a'.tmps[32]?.getD undef = .int .i64 k2 := AV.eq (hI.1.at (k := 5) (j := 22) hsz rfl (by omega) (hall ⟨5, .data⟩ (by simp) rfl)) (by decide)
      have e33 : a'.tmps[33]?.getD undef = .int .i64 nodes := AV.eq (hI.1.at (k := 6) (j := 23) hsz rfl (by omega) (hall ⟨6, .data⟩ (by simp) rfl)) (by decide)
      simp [Oper.wp, go_sem, e32, e33]
      refine (picked_any k2 nodes W hk2.1 hk2.2 (by omega) (by omega)).mono ?_
      rintro e w1 ⟨rfl, hw1⟩
      rw [hw1]
      exact hI.put (i := 7) (j := 24) rfl (by omega) (by decide) (Below.refl _ _) (AV.of (by decide) rfl) hI.1.cw
    · have e30 : a'.tmps[30]?.getD undef = .int .i64 (Pl.pk k1 nodes) := AV.eq (hI.1.at (k := 3) (j := 20) hsz rfl (by omega) (hall ⟨3, .data⟩ (by simp) rfl)) (by decide)
      have e34 : a'.tmps[34]?.getD undef = .int .i64 (Pl.pk k2 nodes) := AV.eq (hI.1.at (k := 7) (j := 24) hsz rfl (by omega) (hall ⟨7, .data⟩ (by simp) rfl)) (by decide)
      simp [Oper.wp, go_sem, e30, e34]
      exact hI.put (i := 8) (j := 25) rfl (by omega) (by decide) (Below.refl _ _) (AV.of (by decide) rfl) hI.1.cw
    · simp [Oper.wp, go_sem]
      have hb' : Below W.heap.size W (W.alloc (.cells #[.int .i64 0, .int .i64 0, .int .i64 0, .int .i64 0, .int .i64 0, .int .i64 0, .int .i64 0, .string ⟨#[]⟩, .string ⟨#[]⟩] 51)) := (Below.refl _ _).alloc (Nat.le_refl _) _
      exact hI.put (i := 9) (j := 0) rfl (by omega) (by decide) hb' (AV.box ⟨W.heap.size, ⟨0, 0, 0, 0, 0, (0, 0), ⟨#[]⟩, ⟨#[]⟩⟩, rfl, hI.1.cw.size, heapNew _ _, Pl.AcG.zero hn⟩) (hI.1.cw.trans (hb'.mono hI.1.cw.size))
    · obtain ⟨X, y, e10, hX, hxx, hyy⟩ := AV.isBox (hI.1.at (k := 9) (j := 0) hsz rfl (by omega) (hall ⟨9, .data⟩ (by simp) rfl))
      have e10 : a'.tmps[10]?.getD undef = .pointer (some ⟨X, 0, none⟩) := e10
      have e35 : a'.tmps[35]?.getD undef = .agg #[.int .i64 0, .int .i64 (Pl.pk k1 nodes), .int .i64 (Pl.pk k2 nodes), .int .i64 (-1), .int .i64 0, .int .i64 0, .int .i64 0, .string ⟨#[]⟩, .string ⟨#[]⟩] := AV.eq (hI.1.at (k := 8) (j := 25) hsz rfl (by omega) (hall ⟨8, .data⟩ (by simp) rfl)) (by decide)
      obtain ⟨⟨y0, y1, y2, y3, y4, y5, y6, y7, y8⟩, yf, yl⟩ := hxx.box
      simp [Oper.wp, go_sem, e10, e35, y0, y1, y2, y3, y4, y5, y6, y7, y8, yf]
      have hfin := AInv.store hI hxx hX hAC (by decide)
      unfold set9 at hfin
      exact hfin
  · rintro listed a' W hr ⟨hI, hkp⟩
    have hal := all_listed2 (by decide +kernel) hI.ls hr
    obtain ⟨X, x, e10, hX, hxx, hgg⟩ := AV.isBox (hI.at (k := 9) (j := 0) hsz rfl (by omega) (hal 9 (by decide)))
    have hcw := hI.cw
    obtain ⟨xs, hxl, rfl, hf⟩ := hI.fr
    have hat : ∀ j, j < 26 → (setFrom a0.tmps 10 xs)[10 + j]?.getD undef = xs.getD j undef := fun j hj => by
      rw [setFrom_at xs a0.tmps 10 j (by omega) (by omega)]; simp [List.getD]
    refine hQ xs W X x hxl (fun j j1 j2 => (hat j (by omega)).symm.trans (hkp j j1 j2)) ((hat 0 (by omega)).symm.trans e10) hX hxx hgg hcw
  · exact ⟨RInv.start hsz (Below.refl _ _).drew, fun _ _ _ => rfl⟩

end Go.Proofs.YtjjelkdajdeikaaGreatDoor
/-
  Acts of raw things: region 8 of keep.Acts (written by tools/gen_acts.py).
-/
namespace Go.Proofs.YtjjelkdajdeikaaGreatDoor
open Go.RowKit
set_option maxRecDepth 20000

set_option linter.unusedSimpArgs false in
set_option maxHeartbeats 8000000 in
theorem acts8 {Q : Exit → Act → World → Prop} {a0 : Act} {w0 : World} {R A nodes : Nat} {k2 k3 : Int} {x0 : Pl.Ac}
    (hsize : a0.tmps.size = 122) (q9 : a0.tmps[9]?.getD undef = .pointer (some ⟨R, 0, none⟩)) (q10 : a0.tmps[10]?.getD undef = .pointer (some ⟨A, 0, none⟩)) (hR : R < w0.heap.size) (hRA : R ≠ A)
    (c2 : w0.cell? ⟨R, 2, none⟩ = some (.int .i64 k2)) (c3 : w0.cell? ⟨R, 3, none⟩ = some (.int .i64 k3)) (h2 : (Lit.int .i64 k2).wf = true) (h3 : (Lit.int .i64 k3).wf = true) (hx0 : AcB w0 A x0) (hg0 : Pl.AcG nodes x0)
    (hQ : ∀ xs W x, xs.length = 9 → AcB W A x → Pl.AcG nodes x → But A w0 W → Q .normal { a0 with tmps := setFrom a0.tmps 39 xs } W) :
    ∀ ops, regIn Tryz.f17 8 = some ops → (Code.region 8 ops true).wp Tryz.prog Q a0 w0 := by
  intro ops hops
  have eo := Option.some.inj (hops.symm.trans (rfl : regIn Tryz.f17 8 = some _))
  subst eo
  clear hops
  have hsz : 39 + 9 ≤ a0.tmps.size := by omega
  have hk2 := wf_bounds h2
  have hk3 := wf_bounds h3
  have hp2 := Pl.pk_le k2 4 (by omega) (by omega)
  have hp3 := Pl.pk_le k3 256 (by omega) (by omega)
  refine wp_region_any (by kernel_rfl) ?_
  refine wpAny_inv2 (RInv a0 39 9 12 (fun k => ([some 0, some 1, some 2, some 3, some 4, some 5, some 6, none, some 7, none, some 8, none] : List (Option Nat)).getD k none) (fun j u _ => SV.V [SV.eq (.pointer (some ⟨R, 3, none⟩)), SV.eq (.int .i64 k3), SV.eq (.int .i64 (Pl.pk k3 256)), SV.eq (.pointer (some ⟨R, 2, none⟩)), SV.eq (.int .i64 k2), SV.eq (.int .i64 (Pl.pk k2 4)), SV.eq (.pointer (some ⟨A, 0, none⟩)), SV.eq (.pointer (some ⟨A, 3, none⟩)), SV.eq (.pointer (some ⟨A, 4, none⟩))] j u w0) (fun W => But A w0 W ∧ ∃ x, AcB W A x ∧ Pl.AcG nodes x)) ?_ ?_ _ _ _ _ (by decide +kernel) ?_ (closed_start _ _ _)
  · rintro i listed a' W hi hCl hI
    rw [mem_ready] at hi
    obtain ⟨hl0, o, ho, hall⟩ := hi
    have hlti : i < 12 := (Array.getElem?_eq_some_iff.1 ho).1
    have o9 := (hI.out (k := 9) (by omega)).trans q9
    have o10 := (hI.out (k := 10) (by omega)).trans q10
    obtain ⟨hbut, x, hxx, hgg⟩ := hI.cw
    obtain ⟨⟨y0, y1, y2, y3, y4, y5, y6, y7, y8⟩, yf, yl⟩ := hxx.box
    have x2 := (hbut.cell (p := ⟨R, 2, none⟩) hR hRA).trans c2
    have x3 := (hbut.cell (p := ⟨R, 3, none⟩) hR hRA).trans c3
    have hcs : i = 0 ∨ i = 1 ∨ i = 2 ∨ i = 3 ∨ i = 4 ∨ i = 5 ∨ i = 6 ∨ i = 7 ∨ i = 8 ∨ i = 9 ∨ i = 10 ∨ i = 11 := by omega
    rcases hcs with rfl | rfl | rfl | rfl | rfl | rfl | rfl | rfl | rfl | rfl | rfl | rfl
    all_goals
      simp at ho
      subst ho
      refine wpOp_of rfl rfl ?_
    · simp [Oper.wp, go_sem, o9]
      exact hI.put (i := 0) (j := 0) rfl (by omega) (fun _ _ h => h) rfl hI.cw
    · have e39 : a'.tmps[39]?.getD undef = .pointer (some ⟨R, 3, none⟩) := hI.at (k := 0) (j := 0) hsz rfl (by omega) (hall ⟨0, .data⟩ (by simp) rfl)
      simp [Oper.wp, go_sem, e39, x3]
      exact hI.put (i := 1) (j := 1) rfl (by omega) (fun _ _ h => h) rfl hI.cw
    · have e40 : a'.tmps[40]?.getD undef = .int .i64 k3 := hI.at (k := 1) (j := 1) hsz rfl (by omega) (hall ⟨1, .data⟩ (by simp) rfl)
      simp [Oper.wp, go_sem, e40]
      refine (picked_any k3 256 W hk3.1 hk3.2 (by omega) (by omega)).mono ?_
      rintro e w1 ⟨rfl, hw1⟩
      rw [hw1]
      exact hI.put (i := 2) (j := 2) rfl (by omega) (fun _ _ h => h) rfl hI.cw
    · simp [Oper.wp, go_sem, o9]
      exact hI.put (i := 3) (j := 3) rfl (by omega) (fun _ _ h => h) rfl hI.cw
    · have e42 : a'.tmps[42]?.getD undef = .pointer (some ⟨R, 2, none⟩) := hI.at (k := 3) (j := 3) hsz rfl (by omega) (hall ⟨3, .data⟩ (by simp) rfl)
      simp [Oper.wp, go_sem, e42, x2]
      exact hI.put (i := 4) (j := 4) rfl (by omega) (fun _ _ h => h) rfl hI.cw
    · have e43 : a'.tmps[43]?.getD undef = .int .i64 k2 := hI.at (k := 4) (j := 4) hsz rfl (by omega) (hall ⟨4, .data⟩ (by simp) rfl)
      simp [Oper.wp, go_sem, e43]
      refine (picked_any k2 4 W hk2.1 hk2.2 (by omega) (by omega)).mono ?_
      rintro e w1 ⟨rfl, hw1⟩
      rw [hw1]
      exact hI.put (i := 5) (j := 5) rfl (by omega) (fun _ _ h => h) rfl hI.cw
    · simp [Oper.wp, go_sem, o10]
      exact hI.put (i := 6) (j := 6) rfl (by omega) (fun _ _ h => h) rfl hI.cw
    · have e45 : a'.tmps[45]?.getD undef = .pointer (some ⟨A, 0, none⟩) := hI.at (k := 6) (j := 6) hsz rfl (by omega) (hall ⟨6, .data⟩ (by simp) rfl)
      simp [Oper.wp, go_sem, e45, y0, y1, y2, y3, y4, y5, y6, y7, y8, yf]
      exact hI.skip (i := 7) rfl (fun _ _ h => h) ⟨hbut.setCell _ _, _, hxx.kind _, hgg.kind _⟩
    · simp [Oper.wp, go_sem, o10]
      exact hI.put (i := 8) (j := 7) rfl (by omega) (fun _ _ h => h) rfl hI.cw
    · have e46 : a'.tmps[46]?.getD undef = .pointer (some ⟨A, 3, none⟩) := hI.at (k := 8) (j := 7) hsz rfl (by omega) (hall ⟨8, .data⟩ (by simp) rfl)
      have e41 : a'.tmps[41]?.getD undef = .int .i64 (Pl.pk k3 256) := hI.at (k := 2) (j := 2) hsz rfl (by omega) (hall ⟨2, .data⟩ (by simp) rfl)
      simp [Oper.wp, go_sem, e46, e41, y0, y1, y2, y3, y4, y5, y6, y7, y8, yf]
      exact hI.skip (i := 9) rfl (fun _ _ h => h) ⟨hbut.setCell _ _, _, hxx.setN _, hgg.setN _ hp3.2⟩
    · simp [Oper.wp, go_sem, o10]
      exact hI.put (i := 10) (j := 8) rfl (by omega) (fun _ _ h => h) rfl hI.cw
    · have e47 : a'.tmps[47]?.getD undef = .pointer (some ⟨A, 4, none⟩) := hI.at (k := 10) (j := 8) hsz rfl (by omega) (hall ⟨10, .data⟩ (by simp) rfl)
      have e44 : a'.tmps[44]?.getD undef = .int .i64 (Pl.pk k2 4) := hI.at (k := 5) (j := 5) hsz rfl (by omega) (hall ⟨5, .data⟩ (by simp) rfl)
      simp [Oper.wp, go_sem, e47, e44, y0, y1, y2, y3, y4, y5, y6, y7, y8, yf]
      exact hI.skip (i := 11) rfl (fun _ _ h => h) ⟨hbut.setCell _ _, _, hxx.setM _, hgg.setM _ hp2.2⟩
  · rintro listed a' W hr hI
    obtain ⟨hbut, x, hxx, hgg⟩ := hI.cw
    obtain ⟨xs, hxl, rfl, hf⟩ := hI.fr
    exact hQ xs W x hxl hxx hgg hbut
  · exact RInv.start hsz ⟨(But.refl _ _).drew, x0, hx0, hg0⟩

end Go.Proofs.YtjjelkdajdeikaaGreatDoor
/-
  Acts of raw things: region 26 of keep.Acts (written by tools/gen_acts.py).
-/
namespace Go.Proofs.YtjjelkdajdeikaaGreatDoor
open Go.RowKit
set_option maxRecDepth 20000

def SV.entry : SV := ⟨fun u _ => ∃ x : Pl.Ent, u = .agg #[.string x.key, .int .i64 x.ver, .int .i64 x.org, .string x.val] ∧ x.may = true, fun _ _ _ _ h => h⟩
def SV.text : SV := ⟨fun u _ => ∃ s : ByteArray, u = .string s ∧ s.size ≤ maxLen, fun _ _ _ _ h => h⟩
theorem entKey {x : Pl.Ent} (h : x.may = true) : x.key.size ≤ maxLen := by
  have h1 := Pl.may_parts h
  unfold maxLen
  omega
theorem entVal {x : Pl.Ent} (h : x.may = true) : x.val.size ≤ maxLen := by
  have h1 := Pl.may_parts h
  unfold maxLen
  omega

set_option linter.unusedSimpArgs false in
set_option maxHeartbeats 8000000 in
theorem acts26 {Q : Exit → Act → World → Prop} {a0 : Act} {w0 : World} {R A nodes : Nat} {k0 k1 k2 k3 : Int} {x0 : Pl.Ac}
    (hsize : a0.tmps.size = 122) (q9 : a0.tmps[9]?.getD undef = .pointer (some ⟨R, 0, none⟩)) (q10 : a0.tmps[10]?.getD undef = .pointer (some ⟨A, 0, none⟩)) (hR : R < w0.heap.size) (hRA : R ≠ A)
    (c0 : w0.cell? ⟨R, 0, none⟩ = some (.int .i64 k0)) (c1 : w0.cell? ⟨R, 1, none⟩ = some (.int .i64 k1)) (c2 : w0.cell? ⟨R, 2, none⟩ = some (.int .i64 k2)) (c3 : w0.cell? ⟨R, 3, none⟩ = some (.int .i64 k3)) (h0 : (Lit.int .i64 k0).wf = true) (h1 : (Lit.int .i64 k1).wf = true) (h2 : (Lit.int .i64 k2).wf = true) (h3 : (Lit.int .i64 k3).wf = true) (hx0 : AcB w0 A x0) (hg0 : Pl.AcG nodes x0)
    (hQ : ∀ xs W x, xs.length = 9 → AcB W A x → Pl.AcG nodes x → But A w0 W → Q .normal { a0 with tmps := setFrom a0.tmps 104 xs } W) :
    ∀ ops, regIn Tryz.f17 26 = some ops → (Code.region 26 ops true).wp Tryz.prog Q a0 w0 := by
  intro ops hops
  have eo := Option.some.inj (hops.symm.trans (rfl : regIn Tryz.f17 26 = some _))
  subst eo
  clear hops
  have hsz : 104 + 9 ≤ a0.tmps.size := by omega
  have hk0 := wf_bounds h0
  refine wp_region_any (by kernel_rfl) ?_
  refine wpAny_inv2 (RInv a0 104 9 12 (fun k => ([some 0, some 1, some 2, some 3, some 4, some 5, some 6, none, some 7, none, some 8, none] : List (Option Nat)).getD k none) (fun j u _ => SV.V [SV.eq (.agg #[.int .i64 k0, .int .i64 k1, .int .i64 k2, .int .i64 k3]), SV.entry, SV.text, SV.eq (.agg #[.int .i64 k0, .int .i64 k1, .int .i64 k2, .int .i64 k3]), SV.entry, SV.text, SV.eq (.pointer (some ⟨A, 0, none⟩)), SV.eq (.pointer (some ⟨A, 7, none⟩)), SV.eq (.pointer (some ⟨A, 8, none⟩))] j u w0) (fun W => But A w0 W ∧ ∃ x, AcB W A x ∧ Pl.AcG nodes x)) ?_ ?_ _ _ _ _ (by decide +kernel) ?_ (closed_start _ _ _)
  · rintro i listed a' W hi hCl hI
    rw [mem_ready] at hi
    obtain ⟨hl0, o, ho, hall⟩ := hi
    have hlti : i < 12 := (Array.getElem?_eq_some_iff.1 ho).1
    have o9 := (hI.out (k := 9) (by omega)).trans q9
    have o10 := (hI.out (k := 10) (by omega)).trans q10
    obtain ⟨hbut, x, hxx, hgg⟩ := hI.cw
    obtain ⟨⟨y0, y1, y2, y3, y4, y5, y6, y7, y8⟩, yf, yl⟩ := hxx.box
    have x0 := (hbut.cell (p := ⟨R, 0, none⟩) hR hRA).trans c0
    have x1 := (hbut.cell (p := ⟨R, 1, none⟩) hR hRA).trans c1
    have x2 := (hbut.cell (p := ⟨R, 2, none⟩) hR hRA).trans c2
    have x3 := (hbut.cell (p := ⟨R, 3, none⟩) hR hRA).trans c3
    have hcs : i = 0 ∨ i = 1 ∨ i = 2 ∨ i = 3 ∨ i = 4 ∨ i = 5 ∨ i = 6 ∨ i = 7 ∨ i = 8 ∨ i = 9 ∨ i = 10 ∨ i = 11 := by omega
    rcases hcs with rfl | rfl | rfl | rfl | rfl | rfl | rfl | rfl | rfl | rfl | rfl | rfl
    all_goals
      simp at ho
      subst ho
      refine wpOp_of rfl rfl ?_
    · simp [Oper.wp, go_sem, o9, x0, x1, x2, x3]
      exact hI.put (i := 0) (j := 0) rfl (by omega) (fun _ _ h => h) rfl hI.cw
    · have e104 : a'.tmps[104]?.getD undef = .agg #[.int .i64 k0, .int .i64 k1, .int .i64 k2, .int .i64 k3] := hI.at (k := 0) (j := 0) hsz rfl (by omega) (hall ⟨0, .data⟩ (by simp) rfl)
      simp [Oper.wp, go_sem, e104]
      refine (Entry_any k0 k1 k2 k3 W h0 h1 h2 h3).mono ?_
      rintro e W' ⟨z, rfl, hm, hb'⟩
      exact hI.put (i := 1) (j := 1) rfl (by omega) (fun _ _ h => h) ⟨z, rfl, hm⟩ ⟨hbut.trans (But.of hb'), x, hxx.below hb', hgg⟩
    · obtain ⟨z, hz, hm⟩ := hI.at (k := 1) (j := 1) hsz rfl (by omega) (hall ⟨1, .data⟩ (by simp) rfl)
      have hz : a'.tmps[105]?.getD undef = _ := hz
      simp [Oper.wp, go_sem, hz]
      exact hI.put (i := 2) (j := 2) rfl (by omega) (fun _ _ h => h) ⟨_, rfl, entKey hm⟩ hI.cw
    · simp [Oper.wp, go_sem, o9, x0, x1, x2, x3]
      exact hI.put (i := 3) (j := 3) rfl (by omega) (fun _ _ h => h) rfl hI.cw
    · have e107 : a'.tmps[107]?.getD undef = .agg #[.int .i64 k0, .int .i64 k1, .int .i64 k2, .int .i64 k3] := hI.at (k := 3) (j := 3) hsz rfl (by omega) (hall ⟨3, .data⟩ (by simp) rfl)
      simp [Oper.wp, go_sem, e107]
      refine (Entry_any k0 k1 k2 k3 W h0 h1 h2 h3).mono ?_
      rintro e W' ⟨z, rfl, hm, hb'⟩
      exact hI.put (i := 4) (j := 4) rfl (by omega) (fun _ _ h => h) ⟨z, rfl, hm⟩ ⟨hbut.trans (But.of hb'), x, hxx.below hb', hgg⟩
    · obtain ⟨z, hz, hm⟩ := hI.at (k := 4) (j := 4) hsz rfl (by omega) (hall ⟨4, .data⟩ (by simp) rfl)
      have hz : a'.tmps[108]?.getD undef = _ := hz
      simp [Oper.wp, go_sem, hz]
      exact hI.put (i := 5) (j := 5) rfl (by omega) (fun _ _ h => h) ⟨_, rfl, entVal hm⟩ hI.cw
    · simp [Oper.wp, go_sem, o10]
      exact hI.put (i := 6) (j := 6) rfl (by omega) (fun _ _ h => h) rfl hI.cw
    · have e110 : a'.tmps[110]?.getD undef = .pointer (some ⟨A, 0, none⟩) := hI.at (k := 6) (j := 6) hsz rfl (by omega) (hall ⟨6, .data⟩ (by simp) rfl)
      simp [Oper.wp, go_sem, e110, y0, y1, y2, y3, y4, y5, y6, y7, y8, yf]
      exact hI.skip (i := 7) rfl (fun _ _ h => h) ⟨hbut.setCell _ _, _, hxx.kind _, hgg.kind _⟩
    · simp [Oper.wp, go_sem, o10]
      exact hI.put (i := 8) (j := 7) rfl (by omega) (fun _ _ h => h) rfl hI.cw
    · obtain ⟨s, hs, hsl⟩ := hI.at (k := 2) (j := 2) hsz rfl (by omega) (hall ⟨2, .data⟩ (by simp) rfl)
      have hs : a'.tmps[106]?.getD undef = _ := hs
      have e111 : a'.tmps[111]?.getD undef = .pointer (some ⟨A, 7, none⟩) := hI.at (k := 8) (j := 7) hsz rfl (by omega) (hall ⟨8, .data⟩ (by simp) rfl)
      simp [Oper.wp, go_sem, e111, hs, y0, y1, y2, y3, y4, y5, y6, y7, y8, yf]
      exact hI.skip (i := 9) rfl (fun _ _ h => h) ⟨hbut.setCell _ _, _, hxx.setKey _, hgg.setKey _ hsl⟩
    · simp [Oper.wp, go_sem, o10]
      exact hI.put (i := 10) (j := 8) rfl (by omega) (fun _ _ h => h) rfl hI.cw
    · obtain ⟨s, hs, hsl⟩ := hI.at (k := 5) (j := 5) hsz rfl (by omega) (hall ⟨5, .data⟩ (by simp) rfl)
      have hs : a'.tmps[109]?.getD undef = _ := hs
      have e112 : a'.tmps[112]?.getD undef = .pointer (some ⟨A, 8, none⟩) := hI.at (k := 10) (j := 8) hsz rfl (by omega) (hall ⟨10, .data⟩ (by simp) rfl)
      simp [Oper.wp, go_sem, e112, hs, y0, y1, y2, y3, y4, y5, y6, y7, y8, yf]
      exact hI.skip (i := 11) rfl (fun _ _ h => h) ⟨hbut.setCell _ _, _, hxx.setVal _, hgg.setVal _ hsl⟩
  · rintro listed a' W hr hI
    obtain ⟨hbut, x, hxx, hgg⟩ := hI.cw
    obtain ⟨xs, hxl, rfl, hf⟩ := hI.fr
    exact hQ xs W x hxl hxx hgg hbut
  · exact RInv.start hsz ⟨(But.refl _ _).drew, x0, hx0, hg0⟩

end Go.Proofs.YtjjelkdajdeikaaGreatDoor
/-
  Contract of keep: acts of raw things (Acts; written by tools/gen_acts2.py).
-/
namespace Go.Proofs.YtjjelkdajdeikaaGreatDoor
open Go.RowKit
set_option maxRecDepth 20000

theorem listA9 (xs : List Value) (h : xs.length = 9) : ∃ x0 x1 x2 x3 x4 x5 x6 x7 x8, xs = [x0, x1, x2, x3, x4, x5, x6, x7, x8] := by
  match xs, h with
  | [x0, x1, x2, x3, x4, x5, x6, x7, x8], _ => exact ⟨x0, x1, x2, x3, x4, x5, x6, x7, x8, rfl⟩
set_option maxHeartbeats 16000000 in
theorem Acts_any (a : Option Addr) (len cap : Nat) (most nodes : Nat) (w : World) (h : IsRaws w a len cap) (hm : most ≤ 60) (hn1 : 1 ≤ nodes) (hn2 : nodes ≤ 12) :
    Calls Tryz.prog 17 #[.slice a len cap, .int .i64 (most : Int), .int .i64 (nodes : Int)] w fun e w' => ∃ v xs, e = .returned v ∧ OwnAc w' w.heap.size v xs ∧ xs.length ≤ most ∧ (∀ x ∈ xs, Pl.AcG nodes x) ∧ Below w.heap.size w w' := by
  have HH := hid h
  have hlc := h.1
  have hcm := h.2.1
  unfold maxLen at hcm
  clear h
  go_enter Tryz.func17, Tryz.ntmps17
  go_wp2_with fail
  go_loopw [7, 8] (fun vo i wr => ∃ (k : Nat) (xs : List Pl.Ac) (u : Value), u = vo ∧ k ≤ len ∧ k ≤ most ∧ i = .int .i64 k ∧ Hid (OwnAc wr w.heap.size u xs) ∧ Hid (xs.length ≤ k) ∧ Hid (∀ x ∈ xs, Pl.AcG nodes x) ∧ Hid (Below w.heap.size w wr)) (fun _ i _ => len - (intOf i).toNat)
  case atStart => exact ⟨0, [], _, rfl, Nat.zero_le _, Nat.zero_le _, rfl, hid (OwnAc.nil _ _), hid (Nat.le_refl _), hid (by simp), hid (Below.refl _ _)⟩
  case round =>
    obtain ⟨k, xs, u, rfl, hk, hkm, rfl, HO, HL, HG, HB⟩ := hrel
    have hzr := HB.out.size
    obtain ⟨oa, oc, rfl⟩ := ownsRow_slice HO.out
    obtain ⟨no, HNO⟩ : ∃ c, Hid (xs.length = c) := ⟨_, hid rfl⟩
    have hno : no ≤ 1000000 := by have := HL.out; have := HNO.out; omega
    rw [HNO.out] at HO ⊢
    by_cases hlt : k < len
    · by_cases hlm : k < most
      · obtain ⟨b, off, rfl, hb, hr⟩ := (HH.out.below HB.out).2.2.resolve_left (by omega)
        obtain ⟨k0, k1, k2, k3, ⟨q0, q1, q2, q3⟩, w0, w1, w2, w3⟩ := hr k hlt
        have W0 := hid w0
        have W1 := hid w1
        have W2 := hid w2
        have W3 := hid w3
        clear hr w0 w1 w2 w3
        have hlt' : (k : Int) < len := by omega
        have hlm' : (k : Int) < most := by omega
        go_wp2_with fail
        rename_i K hK
        obtain ⟨Wr, HWr⟩ : ∃ W, Hid (W = wr.alloc (.cells #[.int .i64 k0, .int .i64 k1, .int .i64 k2, .int .i64 k3] 98)) := ⟨_, hid rfl⟩
        have hbr : Below wr.heap.size wr Wr := by rw [HWr.out]; exact (Below.refl _ _).alloc (Nat.le_refl _) _
        have hzR : wr.heap.size < Wr.heap.size := by rw [HWr.out]; simp
        have c0 : Wr.cell? ⟨wr.heap.size, 0, none⟩ = some (.int .i64 k0) := by rw [HWr.out]; simp
        have c1 : Wr.cell? ⟨wr.heap.size, 1, none⟩ = some (.int .i64 k1) := by rw [HWr.out]; simp
        have c2 : Wr.cell? ⟨wr.heap.size, 2, none⟩ = some (.int .i64 k2) := by rw [HWr.out]; simp
        have c3 : Wr.cell? ⟨wr.heap.size, 3, none⟩ = some (.int .i64 k3) := by rw [HWr.out]; simp
        rw [← HWr.out]
        refine acts6 (R := wr.heap.size) (nodes := nodes) (k1 := k1) (k2 := k2) rfl rfl rfl hzR c1 c2 W1.out W2.out hn1 hn2 ?_ _ (by kernel_rfl)
        intro ys W X x hxl hkp e10 hX hxx hgg hbw
        obtain ⟨x0, x1, x2, x3, x4, x5, x6, x7, x8, x9, x10, x11, x12, x13, x14, x15, x16, x17, x18, x19, x20, x21, x22, x23, x24, x25, rfl⟩ := listN26 ys hxl
        have e10 : x0 = .pointer (some ⟨X, 0, none⟩) := e10
        subst e10
        clear hkp hxl
        have d0 := (hbw.cell (p := ⟨wr.heap.size, 0, none⟩) hzR).trans c0
        have d1 := (hbw.cell (p := ⟨wr.heap.size, 1, none⟩) hzR).trans c1
        have d2 := (hbw.cell (p := ⟨wr.heap.size, 2, none⟩) hzR).trans c2
        have d3 := (hbw.cell (p := ⟨wr.heap.size, 3, none⟩) hzR).trans c3
        have hzW : Wr.heap.size ≤ W.heap.size := hbw.size
        have hRX : wr.heap.size ≠ X := by omega
        have hwX : w.heap.size ≤ X := by omega
        have hRW : wr.heap.size < W.heap.size := by omega
        have HBW : Hid (Below w.heap.size w W) := hid (HB.out.trans ((hbr.trans (hbw.mono (by omega))).mono hzr))
        have HBR : Hid (Below wr.heap.size wr W) := hid (hbr.trans (hbw.mono (by omega)))
        have HXX := hid hxx
        have HGG := hid hgg
        clear c0 c1 c2 c3 hbw hbr hxx hgg q0 q1 q2 q3 HWr HB
        obtain ⟨⟨y0, y1, y2, y3, y4, y5, y6, y7, y8⟩, yf, yl⟩ := HXX.out.box
        have b0 := wf_bounds W0.out
        have b3 := wf_bounds W3.out
        obtain ⟨kd, HKD⟩ : ∃ c, Hid (Pl.pk k0 24 = c) := ⟨_, hid rfl⟩
        have HP24 := hid (fun W => picked_any k0 24 W b0.1 b0.2 (by omega) (by omega))
        have hkd := Pl.pk_range k0 24 (by omega)
        rw [HKD.out] at HP24 hkd

        obtain ⟨p5, HQ5⟩ : ∃ c, Hid (Pl.pk k3 5 = c) := ⟨_, hid rfl⟩
        have HP5 := hid (fun W => picked_any k3 5 W b3.1 b3.2 (by omega) (by omega))
        have hp5 := Pl.pk_range k3 5 (by omega)
        rw [HQ5.out] at HP5 hp5
        obtain ⟨p2, HQ2⟩ : ∃ c, Hid (Pl.pk k3 2 = c) := ⟨_, hid rfl⟩
        have HP2 := hid (fun W => picked_any k3 2 W b3.1 b3.2 (by omega) (by omega))
        have hp2 := Pl.pk_range k3 2 (by omega)
        rw [HQ2.out] at HP2 hp2
        obtain ⟨p8, HQ8⟩ : ∃ c, Hid (Pl.pk k3 8 = c) := ⟨_, hid rfl⟩
        have HP8 := hid (fun W => picked_any k3 8 W b3.1 b3.2 (by omega) (by omega))
        have hp8 := Pl.pk_range k3 8 (by omega)
        rw [HQ8.out] at HP8 hp8
        obtain ⟨p100, HQ100⟩ : ∃ c, Hid (Pl.pk k3 100 = c) := ⟨_, hid rfl⟩
        have HP100 := hid (fun W => picked_any k3 100 W b3.1 b3.2 (by omega) (by omega))
        have hp100 := Pl.pk_range k3 100 (by omega)
        rw [HQ100.out] at HP100 hp100
        have HPX := hid (fun W => prefix_any k3 W W3.out)
        obtain ⟨b00, b01⟩ := b0
        obtain ⟨b30, b31⟩ := b3
        have HFIN : Hid (∀ (Wz : World) (z : Pl.Ac), But X W Wz → Pl.AcG nodes z → OwnAc Wz w.heap.size (.slice oa no oc) xs ∧ Below w.heap.size w Wz ∧ w.heap.size ≤ Wz.heap.size ∧ (∀ y ∈ xs ++ [z], Pl.AcG nodes y) ∧ (xs ++ [z]).length ≤ k + 1) := hid fun Wz z hb hz => by
          have h1 := HL.out
          refine ⟨HO.out.below (HBR.out.trans (hb.below (by omega) (by omega))), HBW.out.trans (hb.below hwX HBW.out.size), Nat.le_trans HBW.out.size hb.size, ?_, by rw [List.length_append]; simp; omega⟩
          intro y hy
          rcases List.mem_append.1 hy with hy | hy
          · exact HG.out y hy
          · rw [List.mem_singleton.1 hy]; exact hz
        simp only [setFrom_spl, spl]
        refine hK _ W ?_
        clear K hK

        rcases (by omega : (0 ≤ kd ∧ kd < 6) ∨ (kd = 6) ∨ (kd = 7) ∨ (8 ≤ kd ∧ kd < 10) ∨ (kd = 10) ∨ (11 ≤ kd ∧ kd < 14) ∨ (14 ≤ kd ∧ kd < 19) ∨ (kd = 19) ∨ (20 ≤ kd ∧ kd < 22) ∨ (22 ≤ kd ∧ kd < 24)) with h | h | h | h | h | h | h | h | h | h
        · have t6 : kd < 6 := by omega
          have HFA := hid (HFIN.out ((W.setCell ⟨X, 0, none⟩ (.int .i64 1)).setCell ⟨X, 3, none⟩ (.int .i64 (1 + p5))) { x with kind := 1, n := 1 + p5 } (((But.refl X W).setCell _ _).setCell _ _) ((HGG.out.kind 1).setN (1 + p5) (by omega)))
          have HSZ : Hid (((W.setCell ⟨X, 0, none⟩ (.int .i64 1)).setCell ⟨X, 3, none⟩ (.int .i64 (1 + p5))).heap.size = W.heap.size) := hid (by simp)
          clear HFIN
          go_wp2_with (first | (go_at_call 19; refine (picked_any _ _ _ (by assumption) (by assumption) (by omega) (by omega)).mono ?_; rintro e w' ⟨rfl, hw'⟩; rw [hw']; clear hw' w'; first | rw [HKD.out] | rw [HQ5.out] | rw [HQ2.out] | rw [HQ8.out] | rw [HQ100.out]) | (at_builtin; refine append_ac rfl (.tmp 117) (.tmp 119) rfl w.heap.size (.slice oa no oc) xs { x with kind := 1, n := 1 + p5 } rfl HFA.out.1 HFA.out.2.2.1 (by rw [HSZ.out]; rfl) (by rw [HNO.out]; exact hno) ?_; intro v5 w5 ho5 hb5; have HO5 := hid ho5; have HB5 := hid hb5; clear ho5 hb5))
          go_roundw
          case rel =>
            first
              | exact ⟨k + 1, _, _, rfl, by omega, by omega, by go_num, HO5, hid HFA.out.2.2.2.2, hid HFA.out.2.2.2.1, hid (HFA.out.2.1.trans HB5.out)⟩
              | (repeat apply Exists.intro
                 exact ⟨⟨k + 1, _, _, rfl, by omega, by omega, by go_num, HO5, hid HFA.out.2.2.2.2, hid HFA.out.2.2.2.1, hid (HFA.out.2.1.trans HB5.out)⟩, rfl⟩)
          case measure => simp [intOf]; omega
        · subst h
          have HFA := hid (HFIN.out (W.setCell ⟨X, 0, none⟩ (.int .i64 2)) { x with kind := 2 } ((But.refl X W).setCell _ _) (HGG.out.kind 2))
          have HSZ : Hid ((W.setCell ⟨X, 0, none⟩ (.int .i64 2)).heap.size = W.heap.size) := hid (by simp)
          clear HFIN
          go_wp2_with (first | (go_at_call 19; refine (picked_any _ _ _ (by assumption) (by assumption) (by omega) (by omega)).mono ?_; rintro e w' ⟨rfl, hw'⟩; rw [hw']; clear hw' w'; first | rw [HKD.out] | rw [HQ5.out] | rw [HQ2.out] | rw [HQ8.out] | rw [HQ100.out]) | (at_builtin; refine append_ac rfl (.tmp 117) (.tmp 119) rfl w.heap.size (.slice oa no oc) xs { x with kind := 2 } rfl HFA.out.1 HFA.out.2.2.1 (by rw [HSZ.out]; rfl) (by rw [HNO.out]; exact hno) ?_; intro v5 w5 ho5 hb5; have HO5 := hid ho5; have HB5 := hid hb5; clear ho5 hb5))
          go_roundw
          case rel =>
            first
              | exact ⟨k + 1, _, _, rfl, by omega, by omega, by go_num, HO5, hid HFA.out.2.2.2.2, hid HFA.out.2.2.2.1, hid (HFA.out.2.1.trans HB5.out)⟩
              | (repeat apply Exists.intro
                 exact ⟨⟨k + 1, _, _, rfl, by omega, by omega, by go_num, HO5, hid HFA.out.2.2.2.2, hid HFA.out.2.2.2.1, hid (HFA.out.2.1.trans HB5.out)⟩, rfl⟩)
          case measure => simp [intOf]; omega
        · subst h
          have HFA := hid (HFIN.out ((W.setCell ⟨X, 0, none⟩ (.int .i64 3)).setCell ⟨X, 3, none⟩ (.int .i64 p2)) { x with kind := 3, n := p2 } (((But.refl X W).setCell _ _).setCell _ _) ((HGG.out.kind 3).setN p2 (by omega)))
          have HSZ : Hid (((W.setCell ⟨X, 0, none⟩ (.int .i64 3)).setCell ⟨X, 3, none⟩ (.int .i64 p2)).heap.size = W.heap.size) := hid (by simp)
          clear HFIN
          go_wp2_with (first | (go_at_call 19; refine (picked_any _ _ _ (by assumption) (by assumption) (by omega) (by omega)).mono ?_; rintro e w' ⟨rfl, hw'⟩; rw [hw']; clear hw' w'; first | rw [HKD.out] | rw [HQ5.out] | rw [HQ2.out] | rw [HQ8.out] | rw [HQ100.out]) | (at_builtin; refine append_ac rfl (.tmp 117) (.tmp 119) rfl w.heap.size (.slice oa no oc) xs { x with kind := 3, n := p2 } rfl HFA.out.1 HFA.out.2.2.1 (by rw [HSZ.out]; rfl) (by rw [HNO.out]; exact hno) ?_; intro v5 w5 ho5 hb5; have HO5 := hid ho5; have HB5 := hid hb5; clear ho5 hb5))
          go_roundw
          case rel =>
            first
              | exact ⟨k + 1, _, _, rfl, by omega, by omega, by go_num, HO5, hid HFA.out.2.2.2.2, hid HFA.out.2.2.2.1, hid (HFA.out.2.1.trans HB5.out)⟩
              | (repeat apply Exists.intro
                 exact ⟨⟨k + 1, _, _, rfl, by omega, by omega, by go_num, HO5, hid HFA.out.2.2.2.2, hid HFA.out.2.2.2.1, hid (HFA.out.2.1.trans HB5.out)⟩, rfl⟩)
          case measure => simp [intOf]; omega
        · have t6 : ¬ kd < 6 := by omega
          have s6 : (kd == 6) = false := by simp; omega
          have s7 : (kd == 7) = false := by simp; omega
          have t10 : kd < 10 := by omega
          clear h
          go_wp2_with (first | (go_at_call 19; refine (picked_any _ _ _ (by assumption) (by assumption) (by omega) (by omega)).mono ?_; rintro e w' ⟨rfl, hw'⟩; rw [hw']; clear hw' w'; first | rw [HKD.out] | rw [HQ5.out] | rw [HQ2.out] | rw [HQ8.out] | rw [HQ100.out]) | (go_at_call 48; refine (HPX.out _).mono ?_; rintro e w7 ⟨⟨p1, p2⟩, rfl, hp, hb7⟩; have HFA := hid (HFIN.out (((w7.setCell ⟨X, 0, none⟩ (.int .i64 4)).setCell ⟨X, 5, none⟩ (.int .i64 p1)).setCell ⟨X, 6, none⟩ (.int .i64 p2)) { x with kind := 4, p := (p1, p2) } ((((But.of hb7).setCell _ _).setCell _ _).setCell _ _) ((HGG.out.kind 4).setP (p1, p2) hp)); have HSZ : Hid ((((w7.setCell ⟨X, 0, none⟩ (.int .i64 4)).setCell ⟨X, 5, none⟩ (.int .i64 p1)).setCell ⟨X, 6, none⟩ (.int .i64 p2)).heap.size = w7.heap.size) := hid (by simp); obtain ⟨⟨z0, z1, z2, z3, z4, z5, z6, z7, z8⟩, zf, zl⟩ := (HXX.out.below hb7).box; clear HFIN hp hb7 y0 y1 y2 y3 y4 y5 y6 y7 y8 yf yl d0 d1 d2 d3) | (at_builtin; refine append_ac rfl (.tmp 117) (.tmp 119) rfl w.heap.size (.slice oa no oc) xs { x with kind := 4, p := (p1, p2) } rfl HFA.out.1 HFA.out.2.2.1 (by rw [HSZ.out]; rfl) (by rw [HNO.out]; exact hno) ?_; intro v5 w5 ho5 hb5; have HO5 := hid ho5; have HB5 := hid hb5; clear ho5 hb5))
          go_roundw
          case rel =>
            first
              | exact ⟨k + 1, _, _, rfl, by omega, by omega, by go_num, HO5, hid HFA.out.2.2.2.2, hid HFA.out.2.2.2.1, hid (HFA.out.2.1.trans HB5.out)⟩
              | (repeat apply Exists.intro
                 exact ⟨⟨k + 1, _, _, rfl, by omega, by omega, by go_num, HO5, hid HFA.out.2.2.2.2, hid HFA.out.2.2.2.1, hid (HFA.out.2.1.trans HB5.out)⟩, rfl⟩)
          case measure => simp [intOf]; omega
        · subst h
          go_wp2_with (first | (go_at_call 19; refine (picked_any _ _ _ (by assumption) (by assumption) (by omega) (by omega)).mono ?_; rintro e w' ⟨rfl, hw'⟩; rw [hw']; clear hw' w'; first | rw [HKD.out] | rw [HQ5.out] | rw [HQ2.out] | rw [HQ8.out] | rw [HQ100.out]) | (go_at_call 48; refine (HPX.out _).mono ?_; rintro e w7 ⟨⟨p1, p2⟩, rfl, hp, hb7⟩; have HFA := hid (HFIN.out (((w7.setCell ⟨X, 0, none⟩ (.int .i64 5)).setCell ⟨X, 5, none⟩ (.int .i64 p1)).setCell ⟨X, 6, none⟩ (.int .i64 p2)) { x with kind := 5, p := (p1, p2) } ((((But.of hb7).setCell _ _).setCell _ _).setCell _ _) ((HGG.out.kind 5).setP (p1, p2) hp)); have HSZ : Hid ((((w7.setCell ⟨X, 0, none⟩ (.int .i64 5)).setCell ⟨X, 5, none⟩ (.int .i64 p1)).setCell ⟨X, 6, none⟩ (.int .i64 p2)).heap.size = w7.heap.size) := hid (by simp); obtain ⟨⟨z0, z1, z2, z3, z4, z5, z6, z7, z8⟩, zf, zl⟩ := (HXX.out.below hb7).box; clear HFIN hp hb7 y0 y1 y2 y3 y4 y5 y6 y7 y8 yf yl d0 d1 d2 d3) | (at_builtin; refine append_ac rfl (.tmp 117) (.tmp 119) rfl w.heap.size (.slice oa no oc) xs { x with kind := 5, p := (p1, p2) } rfl HFA.out.1 HFA.out.2.2.1 (by rw [HSZ.out]; rfl) (by rw [HNO.out]; exact hno) ?_; intro v5 w5 ho5 hb5; have HO5 := hid ho5; have HB5 := hid hb5; clear ho5 hb5))
          go_roundw
          case rel =>
            first
              | exact ⟨k + 1, _, _, rfl, by omega, by omega, by go_num, HO5, hid HFA.out.2.2.2.2, hid HFA.out.2.2.2.1, hid (HFA.out.2.1.trans HB5.out)⟩
              | (repeat apply Exists.intro
                 exact ⟨⟨k + 1, _, _, rfl, by omega, by omega, by go_num, HO5, hid HFA.out.2.2.2.2, hid HFA.out.2.2.2.1, hid (HFA.out.2.1.trans HB5.out)⟩, rfl⟩)
          case measure => simp [intOf]; omega
        · have t6 : ¬ kd < 6 := by omega
          have s6 : (kd == 6) = false := by simp; omega
          have s7 : (kd == 7) = false := by simp; omega
          have t10 : ¬ kd < 10 := by omega
          have s10 : (kd == 10) = false := by simp; omega
          have t14 : kd < 14 := by omega
          have HFA := hid (HFIN.out (W.setCell ⟨X, 0, none⟩ (.int .i64 6)) { x with kind := 6 } ((But.refl X W).setCell _ _) (HGG.out.kind 6))
          have HSZ : Hid ((W.setCell ⟨X, 0, none⟩ (.int .i64 6)).heap.size = W.heap.size) := hid (by simp)
          clear HFIN
          go_wp2_with (first | (go_at_call 19; refine (picked_any _ _ _ (by assumption) (by assumption) (by omega) (by omega)).mono ?_; rintro e w' ⟨rfl, hw'⟩; rw [hw']; clear hw' w'; first | rw [HKD.out] | rw [HQ5.out] | rw [HQ2.out] | rw [HQ8.out] | rw [HQ100.out]) | (at_builtin; refine append_ac rfl (.tmp 117) (.tmp 119) rfl w.heap.size (.slice oa no oc) xs { x with kind := 6 } rfl HFA.out.1 HFA.out.2.2.1 (by rw [HSZ.out]; rfl) (by rw [HNO.out]; exact hno) ?_; intro v5 w5 ho5 hb5; have HO5 := hid ho5; have HB5 := hid hb5; clear ho5 hb5))
          go_roundw
          case rel =>
            first
              | exact ⟨k + 1, _, _, rfl, by omega, by omega, by go_num, HO5, hid HFA.out.2.2.2.2, hid HFA.out.2.2.2.1, hid (HFA.out.2.1.trans HB5.out)⟩
              | (repeat apply Exists.intro
                 exact ⟨⟨k + 1, _, _, rfl, by omega, by omega, by go_num, HO5, hid HFA.out.2.2.2.2, hid HFA.out.2.2.2.1, hid (HFA.out.2.1.trans HB5.out)⟩, rfl⟩)
          case measure => simp [intOf]; omega
        · have t6 : ¬ kd < 6 := by omega
          have s6 : (kd == 6) = false := by simp; omega
          have s7 : (kd == 7) = false := by simp; omega
          have t10 : ¬ kd < 10 := by omega
          have s10 : (kd == 10) = false := by simp; omega
          have t14 : ¬ kd < 14 := by omega
          have t19 : kd < 19 := by omega
          by_cases h8 : p8 = 0
          · subst h8
            have HFA := hid (HFIN.out ((W.setCell ⟨X, 0, none⟩ (.int .i64 7)).setCell ⟨X, 3, none⟩ (.int .i64 p100)) { x with kind := 7, n := p100 } (((But.refl X W).setCell _ _).setCell _ _) ((HGG.out.kind 7).setN p100 (by omega)))
            have HSZ : Hid (((W.setCell ⟨X, 0, none⟩ (.int .i64 7)).setCell ⟨X, 3, none⟩ (.int .i64 p100)).heap.size = W.heap.size) := hid (by simp)
            clear HFIN
            go_wp2_with (first | (go_at_call 19; refine (picked_any _ _ _ (by assumption) (by assumption) (by omega) (by omega)).mono ?_; rintro e w' ⟨rfl, hw'⟩; rw [hw']; clear hw' w'; first | rw [HKD.out] | rw [HQ5.out] | rw [HQ2.out] | rw [HQ8.out] | rw [HQ100.out]) | (at_builtin; refine append_ac rfl (.tmp 117) (.tmp 119) rfl w.heap.size (.slice oa no oc) xs { x with kind := 7, n := p100 } rfl HFA.out.1 HFA.out.2.2.1 (by rw [HSZ.out]; rfl) (by rw [HNO.out]; exact hno) ?_; intro v5 w5 ho5 hb5; have HO5 := hid ho5; have HB5 := hid hb5; clear ho5 hb5))
            go_roundw
            case rel =>
              first
                | exact ⟨k + 1, _, _, rfl, by omega, by omega, by go_num, HO5, hid HFA.out.2.2.2.2, hid HFA.out.2.2.2.1, hid (HFA.out.2.1.trans HB5.out)⟩
                | (repeat apply Exists.intro
                   exact ⟨⟨k + 1, _, _, rfl, by omega, by omega, by go_num, HO5, hid HFA.out.2.2.2.2, hid HFA.out.2.2.2.1, hid (HFA.out.2.1.trans HB5.out)⟩, rfl⟩)
            case measure => simp [intOf]; omega
          · have h8b : (p8 == 0) = false := by simp; omega
            have HFA := hid (HFIN.out (W.setCell ⟨X, 0, none⟩ (.int .i64 7)) { x with kind := 7 } ((But.refl X W).setCell _ _) (HGG.out.kind 7))
            have HSZ : Hid ((W.setCell ⟨X, 0, none⟩ (.int .i64 7)).heap.size = W.heap.size) := hid (by simp)
            clear HFIN
            go_wp2_with (first | (go_at_call 19; refine (picked_any _ _ _ (by assumption) (by assumption) (by omega) (by omega)).mono ?_; rintro e w' ⟨rfl, hw'⟩; rw [hw']; clear hw' w'; first | rw [HKD.out] | rw [HQ5.out] | rw [HQ2.out] | rw [HQ8.out] | rw [HQ100.out]) | (at_builtin; refine append_ac rfl (.tmp 117) (.tmp 119) rfl w.heap.size (.slice oa no oc) xs { x with kind := 7 } rfl HFA.out.1 HFA.out.2.2.1 (by rw [HSZ.out]; rfl) (by rw [HNO.out]; exact hno) ?_; intro v5 w5 ho5 hb5; have HO5 := hid ho5; have HB5 := hid hb5; clear ho5 hb5))
            go_roundw
            case rel =>
              first
                | exact ⟨k + 1, _, _, rfl, by omega, by omega, by go_num, HO5, hid HFA.out.2.2.2.2, hid HFA.out.2.2.2.1, hid (HFA.out.2.1.trans HB5.out)⟩
                | (repeat apply Exists.intro
                   exact ⟨⟨k + 1, _, _, rfl, by omega, by omega, by go_num, HO5, hid HFA.out.2.2.2.2, hid HFA.out.2.2.2.1, hid (HFA.out.2.1.trans HB5.out)⟩, rfl⟩)
            case measure => simp [intOf]; omega
        · subst h
          go_wp2_with (go_at_call 19; refine (picked_any _ _ _ (by assumption) (by assumption) (by omega) (by omega)).mono ?_; rintro e w' ⟨rfl, hw'⟩; rw [hw']; clear hw' w'; first | rw [HKD.out] | rw [HQ5.out] | rw [HQ2.out] | rw [HQ8.out] | rw [HQ100.out])
          rename ∀ (a : Act) (w : World), Code.wp _ _ _ a w → _ => hK
          refine acts26 (R := wr.heap.size) (A := X) (nodes := nodes) (k0 := k0) (k1 := k1) (k2 := k2) (k3 := k3) rfl rfl rfl hRW hRX d0 d1 d2 d3 W0.out W1.out W2.out W3.out HXX.out HGG.out ?_ _ (by kernel_rfl)
          intro zs Wz z hzl hzz hzg hbz
          obtain ⟨z0, z1, z2, z3, z4, z5, z6, z7, z8, rfl⟩ := listA9 zs hzl
          have HFA := hid (HFIN.out Wz z hbz hzg)
          have HSZ : Hid (Wz.heap.size = Wz.heap.size) := hid rfl
          obtain ⟨⟨v0, v1, v2, v3, v4, v5, v6, v7, v8⟩, vf, vl⟩ := hzz.box
          clear HFIN hzz hzg hbz hzl y0 y1 y2 y3 y4 y5 y6 y7 y8 yf d0 d1 d2 d3
          simp only [setFrom_spl, spl]
          refine hK _ Wz ?_
          clear hK
          go_wp2_with (at_builtin; refine append_ac rfl (.tmp 117) (.tmp 119) rfl w.heap.size (.slice oa no oc) xs z rfl HFA.out.1 HFA.out.2.2.1 (by rw [HSZ.out]; rfl) (by rw [HNO.out]; exact hno) ?_; intro v5 w5 ho5 hb5; have HO5 := hid ho5; have HB5 := hid hb5; clear ho5 hb5)
          go_roundw
          case rel =>
            first
              | exact ⟨k + 1, _, _, rfl, by omega, by omega, by go_num, HO5, hid HFA.out.2.2.2.2, hid HFA.out.2.2.2.1, hid (HFA.out.2.1.trans HB5.out)⟩
              | (repeat apply Exists.intro
                 exact ⟨⟨k + 1, _, _, rfl, by omega, by omega, by go_num, HO5, hid HFA.out.2.2.2.2, hid HFA.out.2.2.2.1, hid (HFA.out.2.1.trans HB5.out)⟩, rfl⟩)
          case measure => simp [intOf]; omega
        · have t6 : ¬ kd < 6 := by omega
          have s6 : (kd == 6) = false := by simp; omega
          have s7 : (kd == 7) = false := by simp; omega
          have t10 : ¬ kd < 10 := by omega
          have s10 : (kd == 10) = false := by simp; omega
          have t14 : ¬ kd < 14 := by omega
          have t19 : ¬ kd < 19 := by omega
          have s19 : (kd == 19) = false := by simp; omega
          have t22 : kd < 22 := by omega
          have HFA := hid (HFIN.out (W.setCell ⟨X, 0, none⟩ (.int .i64 9)) { x with kind := 9 } ((But.refl X W).setCell _ _) (HGG.out.kind 9))
          have HSZ : Hid ((W.setCell ⟨X, 0, none⟩ (.int .i64 9)).heap.size = W.heap.size) := hid (by simp)
          clear HFIN
          go_wp2_with (first | (go_at_call 19; refine (picked_any _ _ _ (by assumption) (by assumption) (by omega) (by omega)).mono ?_; rintro e w' ⟨rfl, hw'⟩; rw [hw']; clear hw' w'; first | rw [HKD.out] | rw [HQ5.out] | rw [HQ2.out] | rw [HQ8.out] | rw [HQ100.out]) | (at_builtin; refine append_ac rfl (.tmp 117) (.tmp 119) rfl w.heap.size (.slice oa no oc) xs { x with kind := 9 } rfl HFA.out.1 HFA.out.2.2.1 (by rw [HSZ.out]; rfl) (by rw [HNO.out]; exact hno) ?_; intro v5 w5 ho5 hb5; have HO5 := hid ho5; have HB5 := hid hb5; clear ho5 hb5))
          go_roundw
          case rel =>
            first
              | exact ⟨k + 1, _, _, rfl, by omega, by omega, by go_num, HO5, hid HFA.out.2.2.2.2, hid HFA.out.2.2.2.1, hid (HFA.out.2.1.trans HB5.out)⟩
              | (repeat apply Exists.intro
                 exact ⟨⟨k + 1, _, _, rfl, by omega, by omega, by go_num, HO5, hid HFA.out.2.2.2.2, hid HFA.out.2.2.2.1, hid (HFA.out.2.1.trans HB5.out)⟩, rfl⟩)
          case measure => simp [intOf]; omega
        · have t6 : ¬ kd < 6 := by omega
          have s6 : (kd == 6) = false := by simp; omega
          have s7 : (kd == 7) = false := by simp; omega
          have t10 : ¬ kd < 10 := by omega
          have s10 : (kd == 10) = false := by simp; omega
          have t14 : ¬ kd < 14 := by omega
          have t19 : ¬ kd < 19 := by omega
          have s19 : (kd == 19) = false := by simp; omega
          have t22 : ¬ kd < 22 := by omega
          clear h
          go_wp2_with (go_at_call 19; refine (picked_any _ _ _ (by assumption) (by assumption) (by omega) (by omega)).mono ?_; rintro e w' ⟨rfl, hw'⟩; rw [hw']; clear hw' w'; first | rw [HKD.out] | rw [HQ5.out] | rw [HQ2.out] | rw [HQ8.out] | rw [HQ100.out])
          rename ∀ (a : Act) (w : World), Code.wp _ _ _ a w → _ => hK
          refine acts8 (R := wr.heap.size) (A := X) (nodes := nodes) (k2 := k2) (k3 := k3) rfl rfl rfl hRW hRX d2 d3 W2.out W3.out HXX.out HGG.out ?_ _ (by kernel_rfl)
          intro zs Wz z hzl hzz hzg hbz
          obtain ⟨z0, z1, z2, z3, z4, z5, z6, z7, z8, rfl⟩ := listA9 zs hzl
          have HFA := hid (HFIN.out Wz z hbz hzg)
          have HSZ : Hid (Wz.heap.size = Wz.heap.size) := hid rfl
          obtain ⟨⟨v0, v1, v2, v3, v4, v5, v6, v7, v8⟩, vf, vl⟩ := hzz.box
          clear HFIN hzz hzg hbz hzl y0 y1 y2 y3 y4 y5 y6 y7 y8 yf d0 d1 d2 d3
          simp only [setFrom_spl, spl]
          refine hK _ Wz ?_
          clear hK
          go_wp2_with (at_builtin; refine append_ac rfl (.tmp 117) (.tmp 119) rfl w.heap.size (.slice oa no oc) xs z rfl HFA.out.1 HFA.out.2.2.1 (by rw [HSZ.out]; rfl) (by rw [HNO.out]; exact hno) ?_; intro v5 w5 ho5 hb5; have HO5 := hid ho5; have HB5 := hid hb5; clear ho5 hb5)
          go_roundw
          case rel =>
            first
              | exact ⟨k + 1, _, _, rfl, by omega, by omega, by go_num, HO5, hid HFA.out.2.2.2.2, hid HFA.out.2.2.2.1, hid (HFA.out.2.1.trans HB5.out)⟩
              | (repeat apply Exists.intro
                 exact ⟨⟨k + 1, _, _, rfl, by omega, by omega, by go_num, HO5, hid HFA.out.2.2.2.2, hid HFA.out.2.2.2.1, hid (HFA.out.2.1.trans HB5.out)⟩, rfl⟩)
          case measure => simp [intOf]; omega
      · obtain rfl : k = most := by omega
        have hlt' : (k : Int) < len := by omega
        go_wp2_with fail
        go_ret
        exact ⟨_, _, rfl, HO.out, HL.out, HG.out, HB.out⟩
    · obtain rfl : k = len := by omega
      go_wp2_with fail
      go_ret
      exact ⟨_, _, rfl, HO.out, Nat.le_trans HL.out (by omega), HG.out, HB.out⟩
end Go.Proofs.YtjjelkdajdeikaaGreatDoor
/-
  Contract of package net: a script (Run).
-/
namespace Go.Proofs.YtjjelkdajdeikaaGreatDoor
open Go.RowKit
set_option maxRecDepth 20000

def RunP (w : World) (xs : List Pl.Ac) (w' : World) (vr vs : Value) : Prop :=
  (∃ ts, OwnRp w' w.heap.size vr ts ∧ ts.map RpV.r = Pl.runR Pl.Nt.new xs) ∧ ∃ us, OwnL w' w.heap.size vs us ∧ us.length = 12 ∧ ∀ i, i < 12 → Own w' w.heap.size (us.getD i undef) ((Pl.runN Pl.Nt.new xs).K i)

set_option maxHeartbeats 1000000 in
theorem Run_long (a : Option Addr) (len cap : Nat) (w : World) (h : 400 < len) :
    Calls Tryz.prog 12 #[.slice a len cap] w fun e w' => e = .returned (.tuple #[.slice none 0 0, .slice none 0 0, .int .i64 1]) ∧ w' = w := by
  have h' : (400 : Int) < (len : Int) := by omega
  go_enter Tryz.func12, Tryz.ntmps12
  go_wp2_with fail
  exact bodyPost_ret (v := .tuple #[.slice none 0 0, .slice none 0 0, .int .i64 1]) (by simp [results, Tryz.results12, go_sem]) rfl ⟨rfl, rfl⟩

set_option maxHeartbeats 8000000 in
theorem Run_any (a : Option Addr) (len cap : Nat) (xs : List Pl.Ac) (w : World) (h : IsActs w a len cap xs) (hl : len ≤ 400) (hT : Tab w) :
    Calls Tryz.prog 12 #[.slice a len cap] w fun e w' => ∃ vr vs, e = .returned (.tuple #[vr, vs, .int .i64 0]) ∧ RunP w xs w' vr vs ∧ Below w.heap.size w w' := by
  have HA := hid h
  have HTab := hid hT
  have HLN := hid h.1
  have HOK := hid h.2.2.2.1
  have hcap := h.2.1
  have hmx := h.2.2.1
  unfold maxLen at hmx
  clear h hT
  have hl' : ¬ (400 : Int) < (len : Int) := by omega
  obtain ⟨W1, HW1⟩ : ∃ W, Hid (W = w.alloc (.cells Tryz.zeroCells92 92)) := ⟨_, hid rfl⟩
  have HN1 : Hid (NetAt W1 w.heap.size Pl.Nt.new) := hid (by rw [HW1.out]; exact NetAt.new w)
  have HB1 : Hid (Below w.heap.size w W1) := hid (by rw [HW1.out]; exact (Below.refl _ _).alloc (Nat.le_refl _) _)
  have hz1 : W1.heap.size = w.heap.size + 1 := by rw [HW1.out]; simp
  go_enter Tryz.func12, Tryz.ntmps12
  go_wp2_with (rw [← HW1.out])
  go_loopw [6, 14] (fun vr vi wr => ∃ (k : Nat) (v : Value) (ts : List RpV), v = vr ∧ vi = .int .i64 k ∧ k ≤ len ∧ Hid (OwnRp wr (w.heap.size + 1) v ts) ∧ Hid (ts.map RpV.r = Pl.runR Pl.Nt.new (xs.take k)) ∧ Hid (NetAt wr w.heap.size (Pl.runN Pl.Nt.new (xs.take k))) ∧ Hid (NKept w.heap.size W1 wr)) (fun _ vi _ => len - (intOf vi).toNat)
  case atStart => exact ⟨0, _, [], rfl, rfl, by omega, hid (OwnRp.nil _ _), hid rfl, hid HN1.out, hid (NKept.refl _ _)⟩
  case round =>
    obtain ⟨k, v, ts, hv, rfl, hk, HO, HTS, HN, HK⟩ := hrel
    subst hv
    have HLT : Hid (ts.length = k) := hid (by
      have := congrArg List.length HTS.out
      rw [List.length_map, Pl.runR_len, List.length_take, HLN.out] at this
      omega)
    have HBW : Hid (Below w.heap.size w wr) := hid (HB1.out.trans (HK.out.below (Nat.le_refl _) (by omega)))
    have hzr := HK.out.size
    obtain ⟨ra, rc, rfl⟩ := ownsRow_slice HO.out.1
    obtain ⟨nr, HNR⟩ : ∃ c, Hid (ts.length = c) := ⟨_, hid rfl⟩
    by_cases hkl : k < len
    · have hkl' : (k : Int) < (len : Int) := by omega
      obtain ⟨b, off, rfl, hbw, hr⟩ := HA.out.at hkl
      obtain ⟨x, HX⟩ : ∃ x, Hid (Pl.ac xs k = x) := ⟨_, hid rfl⟩
      have HXOK : Hid (Pl.AcOk x) := hid (by rw [← HX.out]; exact HOK.out _ (Pl.ac_mem xs k (by rw [HLN.out]; exact hkl)))
      obtain ⟨c0, c1, c2, c3, c4, c5, c6, c7, c8⟩ := hr.nine (by rw [HLN.out]; exact hkl) HX.out
      have HTK : Hid (xs.take (k + 1) = xs.take k ++ [x]) := hid (by rw [← HX.out]; exact Pl.take_ac xs k (by rw [HLN.out]; exact hkl))
      obtain ⟨s, HS⟩ : ∃ s, Hid (Pl.runN Pl.Nt.new (xs.take k) = s) := ⟨_, hid rfl⟩
      rw [HS.out] at HN
      have HG : Hid (Pl.GoodN s) := hid (by rw [← HS.out]; exact Pl.GoodN.new.run _)
      have HR1 : Hid (Pl.runR Pl.Nt.new (xs.take (k + 1)) = Pl.runR Pl.Nt.new (xs.take k) ++ [Pl.actR s x]) := hid (by rw [HTK.out, Pl.runR_snoc, HS.out])
      have HN2 : Hid (Pl.runN Pl.Nt.new (xs.take (k + 1)) = Pl.actN s x) := hid (by rw [HTK.out, Pl.runN_snoc, HS.out])
      obtain ⟨W2, HW2⟩ : ∃ W, Hid (W = wr.alloc (.cells #[.int .i64 x.kind, .int .i64 x.a, .int .i64 x.b, .int .i64 x.n, .int .i64 x.m, .int .i64 x.p.1, .int .i64 x.p.2, .string x.key, .string x.val] 51)) := ⟨_, hid rfl⟩
      have HB2 : Hid (Below wr.heap.size wr W2) := hid (by rw [HW2.out]; exact (Below.refl _ _).alloc (Nat.le_refl _) _)
      have hx2 : W2.heap[wr.heap.size]? = some (.cells #[.int .i64 x.kind, .int .i64 x.a, .int .i64 x.b, .int .i64 x.n, .int .i64 x.m, .int .i64 x.p.1, .int .i64 x.p.2, .string x.key, .string x.val] 51) := by rw [HW2.out]; exact heapNew _ _
      have HAC := hid (act_any w.heap.size s x W2 (HN.out.below HB2.out) HG.out HXOK.out (HTab.out.below (HBW.out.trans (HB2.out.mono (by omega)))))
      unfold acV at HAC
      have d0 := (HBW.out.cell (p := ⟨b, off + k * 9, none⟩) hbw).trans c0
      have d1 := (HBW.out.cell (p := ⟨b, off + k * 9 + 1, none⟩) hbw).trans c1
      have d2 := (HBW.out.cell (p := ⟨b, off + k * 9 + 2, none⟩) hbw).trans c2
      have d3 := (HBW.out.cell (p := ⟨b, off + k * 9 + 3, none⟩) hbw).trans c3
      have d4 := (HBW.out.cell (p := ⟨b, off + k * 9 + 4, none⟩) hbw).trans c4
      have d5 := (HBW.out.cell (p := ⟨b, off + k * 9 + 5, none⟩) hbw).trans c5
      have d6 := (HBW.out.cell (p := ⟨b, off + k * 9 + 6, none⟩) hbw).trans c6
      have d7 := (HBW.out.cell (p := ⟨b, off + k * 9 + 7, none⟩) hbw).trans c7
      have d8 := (HBW.out.cell (p := ⟨b, off + k * 9 + 8, none⟩) hbw).trans c8
      obtain ⟨r, HRR⟩ : ∃ r, Hid (Pl.actR s x = r) := ⟨_, hid rfl⟩
      obtain ⟨sn, HSN⟩ : ∃ r, Hid (Pl.actN s x = r) := ⟨_, hid rfl⟩
      rw [HRR.out, HSN.out] at HAC
      rw [HRR.out] at HR1
      rw [HSN.out] at HN2
      obtain ⟨kind, xa, xb, n, m, ⟨p1, p2⟩, key, val⟩ := x
      simp only at d0 d1 d2 d3 d4 d5 d6 d7 d8 HAC HW2 hx2
      have hzw2 := HB2.out.size
      obtain ⟨e0, e1, e2, e3, e4, e5, e6, e7, e8⟩ := box9 hx2
      clear c0 c1 c2 c3 c4 c5 c6 c7 c8 hr hx2
      rw [HNR.out]
      go_wp2_with (rw [← HW2.out])
      refine HAC.out.mono ?_
      rintro e w3 ⟨vp, vk, rfl, hp3, hk3, hn3, hkk⟩
      obtain ⟨ya, yc, rfl⟩ := ownsRow_slice hp3
      obtain ⟨za, zc, rfl⟩ := ownsRow_slice hk3
      have HKK : Hid (NKept w.heap.size W1 w3) := hid ((HK.out.trans (NKept.of (But.of HB2.out))).trans hkk)
      have HOT : Hid (OwnRp w3 (w.heap.size + 1) (.slice ra ts.length rc) ts) := hid ((HO.out.below HB2.out).nkept hkk (by omega))
      have HP3 := hid hp3
      have HK3 := hid hk3
      have HN3 := hid hn3
      have hz3 := hkk.size
      obtain ⟨np, HNP⟩ : ∃ c, Hid (r.path.length = c) := ⟨_, hid rfl⟩
      obtain ⟨nk, HNK⟩ : ∃ c, Hid (r.keys.length = c) := ⟨_, hid rfl⟩
      rw [HNP.out] at HP3 ⊢
      rw [HNK.out] at HK3 ⊢
      have hnr : ts.length ≤ 1000000 := by have := HLT.out; omega
      clear e0 e1 e2 e3 e4 e5 e6 e7 e8 d0 d1 d2 d3 d4 d5 d6 d7 d8 hp3 hk3 hn3 hkk
      have HAP := hid (HNR.out)
      go_wp2_with (at_builtin; refine append_rp rfl (.tmp 18) (.tmp 21) rfl (w.heap.size + 1) (.slice ra ts.length rc) ts ⟨.slice ya np yc, .slice za nk zc, r⟩ ya za np yc nk zc rfl rfl (by rw [HAP.out]; rfl) HOT.out.1 (by omega) rfl hnr ?_; intro v7 w7 ho7 hg7; obtain ⟨a7, c7, rfl⟩ := ownsRow_slice ho7; have HO7 := hid ho7; have HG7 := hid hg7; obtain ⟨n7, HN7⟩ : ∃ c, Hid ((ts ++ [(⟨.slice ya np yc, .slice za nk zc, r⟩ : RpV)]).length = c) := ⟨_, hid rfl⟩; rw [HN7.out]; clear ho7 hg7)
      have HVR := hid (World.ownsRow.alloc HOT.out.1 (.cells #[.int .i64 r.code, .slice ya np yc, .int .i64 r.cost, .slice za nk zc] 40))
      have hb3 : Below w3.heap.size w3 (w3.alloc (.cells #[.int .i64 r.code, .slice ya np yc, .int .i64 r.cost, .slice za nk zc] 40)) := (Below.refl _ _).alloc (Nat.le_refl _) _
      go_roundw
      case rel =>
        refine ⟨k + 1, _, ts ++ [⟨.slice ya np yc, .slice za nk zc, r⟩], rfl, by go_num, by omega, hid ⟨?_, fun t ht => ?_⟩, hid ?_, hid ?_, hid ?_⟩
        · have h1 := HO7.out
          rw [HN7.out] at h1 ⊢
          exact h1
        · rcases List.mem_append.1 ht with ht | ht
          · obtain ⟨q1, q2⟩ := HOT.out.2 t ht
            exact ⟨grown_keeps HVR.out HG7.out (OwnZ.below q1 hb3) (by decide), grown_keeps HVR.out HG7.out (OwnS.below q2 hb3) (by decide)⟩
          · have ht : t = ⟨.slice ya np yc, .slice za nk zc, r⟩ := by simpa using ht
            subst ht
            have h1 := (HP3.out.mono (show w.heap.size + 1 ≤ W2.heap.size by omega)).below hb3
            have h2 := OwnS.below (World.ownsRow_mono HK3.out (show w.heap.size + 1 ≤ W2.heap.size by omega)) hb3
            exact ⟨grown_keeps HVR.out HG7.out h1 (by decide), grown_keeps HVR.out HG7.out h2 (by decide)⟩
        · rw [HR1.out, ← HTS.out, List.map_append]; rfl
        · rw [HN2.out]
          exact NetAt.grown (HN3.out.below hb3) HVR.out HG7.out (Nat.lt_succ_self _)
        · exact NKept.grownRp (HKK.out.trans (NKept.of (But.of hb3))) HVR.out HG7.out (by omega)
      case measure => simp [intOf]; omega
    · obtain rfl : k = len := by omega
      have HTF : Hid (xs.take k = xs) := hid (by rw [← HLN.out]; exact List.take_length)
      rw [HTF.out] at HTS HN
      have HST := hid (netStores_any w.heap.size (Pl.runN Pl.Nt.new xs) wr HN.out)
      rw [HNR.out]
      go_wp2_with fail
      refine HST.out.mono ?_
      rintro e w5 ⟨v5, us, rfl, ho5, hu5, hs5, hb5⟩
      obtain ⟨ua, uc, rfl⟩ := ownsRow_slice ho5
      obtain ⟨n5, HN5⟩ : ∃ c, Hid (us.length = c) := ⟨_, hid rfl⟩
      have HO5 := hid ho5
      have HS5 := hid hs5
      have HB5 := hid hb5
      have HU5 := hid hu5
      rw [HN5.out]
      clear ho5 hs5 hb5 hu5
      go_wp2_with fail
      refine bodyPost_ret (v := .tuple #[.slice ra nr rc, .slice ua n5 uc, .int .i64 0]) (by simp [results, Tryz.results12, go_sem]) rfl ⟨_, _, rfl, ⟨⟨ts, ?_, HTS.out⟩, us, ?_, HU5.out, fun i hi => Own.mono (HS5.out i hi) (by omega)⟩, HBW.out.trans (HB5.out.mono HBW.out.size)⟩
      · rw [← HNR.out]
        exact (HO.out.below HB5.out).mono (by omega)
      · have h1 := HO5.out
        rw [HN5.out] at h1
        exact World.ownsRow_mono h1 HBW.out.size
end Go.Proofs.YtjjelkdajdeikaaGreatDoor
/-
  What a script's run leaves: replies and stores, to be read.
-/
namespace Go.Proofs.YtjjelkdajdeikaaGreatDoor
open Go.RowKit
set_option maxRecDepth 20000

def rpv (ts : List RpV) (i : Nat) : RpV := ts.getD i ⟨undef, undef, Pl.Rp.no 0⟩
theorem cellsRp_get : ∀ (ts : List RpV) (i k : Nat), i < ts.length → k < 4 → (cellsRp ts)[i * 4 + k]? = ([.int .i64 (rpv ts i).r.code, (rpv ts i).vp, .int .i64 (rpv ts i).r.cost, (rpv ts i).vk] : List Value)[k]?
  | [], i, k, h, _ => by simp at h
  | t :: r, 0, k, _, hk => by
    rw [Nat.zero_mul, Nat.zero_add]
    show (Value.int .i64 t.r.code :: t.vp :: .int .i64 t.r.cost :: t.vk :: cellsRp r)[k]? = ([.int .i64 t.r.code, t.vp, .int .i64 t.r.cost, t.vk] : List Value)[k]?
    match k, hk with
    | 0, _ => rfl
    | 1, _ => rfl
    | 2, _ => rfl
    | 3, _ => rfl
  | t :: r, i + 1, k, h, hk => by
    show (Value.int .i64 t.r.code :: t.vp :: .int .i64 t.r.cost :: t.vk :: cellsRp r)[(i + 1) * 4 + k]? = _
    rw [show (i + 1) * 4 + k = (i * 4 + k) + 4 by omega]
    simp only [List.getElem?_cons_succ]
    exact cellsRp_get r i k (by simpa using h) hk
def RepsAt (w : World) (g : Nat) (ts : List RpV) : Prop := ∀ i, i < ts.length → w.cell? ⟨g, i * 4, none⟩ = some (.int .i64 (rpv ts i).r.code) ∧ w.cell? ⟨g, i * 4 + 1, none⟩ = some (rpv ts i).vp ∧ w.cell? ⟨g, i * 4 + 2, none⟩ = some (.int .i64 (rpv ts i).r.cost) ∧ w.cell? ⟨g, i * 4 + 3, none⟩ = some (rpv ts i).vk
theorem RepsAt.below {w w' : World} {g : Nat} {ts : List RpV} (h : RepsAt w g ts) (hg : g < w.heap.size) (k : Below w.heap.size w w') : RepsAt w' g ts := fun i hi => by
  obtain ⟨h0, h1, h2, h3⟩ := h i hi
  exact ⟨(k.cell (p := ⟨g, _, none⟩) hg).trans h0, (k.cell (p := ⟨g, _, none⟩) hg).trans h1, (k.cell (p := ⟨g, _, none⟩) hg).trans h2, (k.cell (p := ⟨g, _, none⟩) hg).trans h3⟩
theorem rpv_mem {ts : List RpV} {i : Nat} (h : i < ts.length) : rpv ts i ∈ ts := by
  unfold rpv
  rw [List.getD_eq_getElem?_getD, List.getElem?_eq_getElem h]
  exact List.getElem_mem h
theorem OwnRp.reps {w : World} {base : Nat} {v : Value} {ts : List RpV} (h : OwnRp w base v ts) : ∃ a cap, v = .slice a ts.length cap ∧ ts.length ≤ cap ∧ cap ≤ maxLen ∧ (ts.length = 0 ∨ ∃ g, a = some ⟨g, 0, none⟩ ∧ base ≤ g ∧ g < w.heap.size ∧ RepsAt w g ts) := by
  obtain ⟨⟨hl, ⟨rfl, hn⟩ | ⟨g, cap, cur, rfl, hb, hh, hn, hm, hs, hx⟩⟩, _⟩ := h
  · exact ⟨none, 0, by rw [hn], by omega, by unfold maxLen; omega, .inl hn⟩
  · refine ⟨_, cap, rfl, hn, hm, .inr ⟨g, rfl, hb, blockLt hh, fun i hi => ?_⟩⟩
    have hc : ∀ j u, (cellsRp ts)[j]? = some u → w.cell? ⟨g, j, none⟩ = some u := by
      intro j u hj
      rw [← hx] at hj
      have hj' : cur[j]? = some u := by
        rw [List.getElem?_take] at hj
        split at hj
        · rw [← Array.getElem?_toList]; exact hj
        · cases hj
      simp [World.cell?, hh, hj']
    have h0 := cellsRp_get ts i 0 hi (by omega)
    have h1 := cellsRp_get ts i 1 hi (by omega)
    have h2 := cellsRp_get ts i 2 hi (by omega)
    have h3 := cellsRp_get ts i 3 hi (by omega)
    exact ⟨hc _ _ h0, hc _ _ h1, hc _ _ h2, hc _ _ h3⟩
def StoresAt (w : World) (g : Nat) (A : Nat → Option Addr) (C : Nat → Nat) (K : Nat → List Pl.Ent) : Prop := ∀ i, i < 12 → w.cell? ⟨g, i, none⟩ = some (.slice (A i) (K i).length (C i)) ∧ IsEnts w (A i) (K i).length (C i) (K i) ∧ (A i = none → C i = 0)
theorem OwnL.stores {w : World} {base : Nat} {v : Value} {us : List Value} {K : Nat → List Pl.Ent} (h : OwnL w base v us) (h12 : us.length = 12) (hu : ∀ i, i < 12 → Own w base (us.getD i undef) (K i)) (hok : ∀ i, ∀ e ∈ K i, e.ok) :
    ∃ g cap A C, v = .slice (some ⟨g, 0, none⟩) 12 cap ∧ base ≤ g ∧ g < w.heap.size ∧ 12 ≤ cap ∧ cap ≤ maxLen ∧ StoresAt w g A C K := by
  have hs : ∀ i, ∃ p : Option Addr × Nat, i < 12 → us.getD i undef = .slice p.1 (K i).length p.2 ∧ IsEnts w p.1 (K i).length p.2 (K i) ∧ (p.1 = none → p.2 = 0) := by
    intro i
    by_cases hi : i < 12
    · obtain ⟨a, cap, e, hE, hn, _⟩ := (hu i hi).shape (hok i)
      exact ⟨(a, cap), fun _ => ⟨e, hE, hn⟩⟩
    · exact ⟨(none, 0), fun h => absurd h hi⟩
  obtain ⟨F, hF⟩ := Classical.axiomOfChoice hs
  obtain ⟨hl, ⟨rfl, hn⟩ | ⟨g, cap, cur, rfl, hb, hh, hn, hm, hs, hx⟩⟩ := h
  · omega
  · rw [h12] at hn
    refine ⟨g, cap, fun i => (F i).1, fun i => (F i).2, by rw [h12], hb, blockLt hh, hn, hm, fun i hi => ?_⟩
    obtain ⟨e, hE, hnn⟩ := hF i hi
    refine ⟨?_, hE, hnn⟩
    rw [← e]
    have hj : us[i]? = some (us.getD i undef) := by rw [List.getD_eq_getElem?_getD, List.getElem?_eq_getElem (by omega)]; rfl
    rw [← hx] at hj
    have hj' : cur[i]? = some ((cur.toList.take (us.length * 1)).getD i undef) := by
      rw [List.getElem?_take] at hj
      split at hj
      · rw [← Array.getElem?_toList]; exact hj
      · cases hj
    rw [hx] at hj'
    simp [World.cell?, hh, hj']
theorem RunP.read {w0 w : World} {xs : List Pl.Ac} {vr vs : Value} (h : RunP w0 xs w vr vs) :
    ∃ ts ar cr gs cs A C, vr = .slice ar xs.length cr ∧ vs = .slice (some ⟨gs, 0, none⟩) 12 cs ∧ ts.map RpV.r = Pl.runR Pl.Nt.new xs ∧ ts.length = xs.length ∧ xs.length ≤ cr ∧ cr ≤ maxLen ∧ 12 ≤ cs ∧ cs ≤ maxLen ∧ gs < w.heap.size ∧
      (xs.length = 0 ∨ ∃ g, ar = some ⟨g, 0, none⟩ ∧ g < w.heap.size ∧ RepsAt w g ts) ∧ (∀ t ∈ ts, OwnZ w w0.heap.size t.vp t.r.path ∧ OwnS w w0.heap.size t.vk t.r.keys) ∧ StoresAt w gs A C (Pl.runN Pl.Nt.new xs).K := by
  obtain ⟨⟨ts, ht, hts⟩, us, hu, h12, hk⟩ := h
  have hl : ts.length = xs.length := by have := congrArg List.length hts; rwa [List.length_map, Pl.runR_len] at this
  obtain ⟨ar, cr, rfl, r1, r2, r3⟩ := ht.reps
  obtain ⟨gs, cs, A, C, rfl, _, s2, s3, s4, s5⟩ := hu.stores h12 hk fun i => Pl.Good.ok ((Pl.good_iff _).1 ((Pl.GoodN.new.run xs).K i))
  rw [hl] at r1 r3
  refine ⟨ts, ar, cr, gs, cs, A, C, by rw [hl], rfl, hts, hl, r1, r2, s3, s4, s2, ?_, ht.2, s5⟩
  rcases r3 with h | ⟨g, h1, _, h3, h4⟩
  · exact .inl h
  · exact .inr ⟨g, h1, h3, h4⟩
theorem rpv_r (ts : List RpV) (i : Nat) : (rpv ts i).r = (ts.map RpV.r).getD i (Pl.Rp.no 0) := by
  unfold rpv
  rw [List.getD_eq_getElem?_getD, List.getD_eq_getElem?_getD, List.getElem?_map]
  cases ts[i]? <;> rfl
end Go.Proofs.YtjjelkdajdeikaaGreatDoor
/-
  Plain: what the laws of scripts and of the whole rest on.
-/
namespace Go.Proofs.YtjjelkdajdeikaaGreatDoor
open Go.RowKit
set_option maxRecDepth 20000

theorem Pl.runR_take (s : Pl.Nt) (xs : List Pl.Ac) (k : Nat) : Pl.runR s (xs.take k) = (Pl.runR s xs).take k := by
  by_cases hk : k ≤ xs.length
  · have h := Pl.runR_app s (xs.take k) (xs.drop k)
    rw [List.take_append_drop] at h
    rw [h, List.take_left' (by rw [Pl.runR_len, List.length_take]; omega)]
  · rw [List.take_of_length_le (by omega), List.take_of_length_le (by rw [Pl.runR_len]; omega)]
end Go.Proofs.YtjjelkdajdeikaaGreatDoor
/-
  Acts laid as a literal.
-/
namespace Go.Proofs.YtjjelkdajdeikaaGreatDoor
open Go.RowKit
set_option maxRecDepth 20000

theorem OwnAc.acts2 {w : World} {base : Nat} {v : Value} {xs : List Pl.Ac} (h : OwnAc w base v xs) (hok : ∀ x ∈ xs, Pl.AcOk x) : ∃ a cap, v = .slice a xs.length cap ∧ IsActs w a xs.length cap xs ∧ (a = none → xs.length = 0 ∧ cap = 0) := by
  obtain ⟨a, cap, e, h1, h2, _⟩ := h.acts hok
  refine ⟨a, cap, e, h1, fun hn => ⟨h2 hn, ?_⟩⟩
  subst hn e
  obtain ⟨_, ⟨h, _⟩ | ⟨g, cap', cur, h, _⟩⟩ := h
  · simp only [Value.slice.injEq] at h
    exact h.2.2
  · simp only [Value.slice.injEq] at h
    exact absurd h.1 (by simp)
end Go.Proofs.YtjjelkdajdeikaaGreatDoor
/-
  Contract: two lists of entries that are the same are told so.
-/
namespace Go.Proofs.YtjjelkdajdeikaaGreatDoor
open Go.RowKit
set_option maxRecDepth 20000

def IsTexts (w : World) (a : Option Addr) (len cap : Nat) (ks : List ByteArray) : Prop :=
  ks.length = len ∧ len ≤ cap ∧ cap ≤ maxLen ∧ (ks = [] ∨ ∃ b off, a = some ⟨b, off, none⟩ ∧ b < w.heap.size ∧ ∀ i, i < ks.length → w.cell? ⟨b, off + i, none⟩ = some (.string (ks.getD i ⟨#[]⟩)))
end Go.Proofs.YtjjelkdajdeikaaGreatDoor
/-
  Contract: two lists of texts that are the same are told so.
-/
namespace Go.Proofs.YtjjelkdajdeikaaGreatDoor
open Go.RowKit
set_option maxRecDepth 20000

theorem OwnS.shape {w : World} {base : Nat} {v : Value} {ks : List ByteArray} (h : OwnS w base v ks) :
    ∃ a cap, v = .slice a ks.length cap ∧ IsTexts w a ks.length cap ks ∧ (a = none → cap = 0) ∧ (∀ x, a = some x → base ≤ x.block) := by
  obtain ⟨_, h | ⟨g, cap, cur, rfl, hb, hh, hn, hm, hs, hx⟩⟩ := h
  · obtain ⟨rfl, hn⟩ := h
    have hes : ks = [] := List.length_eq_zero_iff.1 hn
    subst hes
    exact ⟨none, 0, rfl, ⟨rfl, Nat.le_refl _, by simp, .inl rfl⟩, fun _ => rfl, by simp⟩
  · refine ⟨some ⟨g, 0, none⟩, cap, rfl, ⟨rfl, hn, hm, ?_⟩, by simp, by rintro x ⟨⟩; exact hb⟩
    right
    refine ⟨g, 0, rfl, lt_of_block hh, fun i hi => ?_⟩
    have hj : (ks.map Value.string)[i]? = some (.string (ks.getD i ⟨#[]⟩)) := by
      simp [List.getD, hi]
    rw [← hx] at hj
    have hj' : cur[i]? = some (.string (ks.getD i ⟨#[]⟩)) := by
      rw [List.getElem?_take] at hj
      split at hj
      · rw [← Array.getElem?_toList]; exact hj
      · cases hj
    simp only [World.cell?, hh, Nat.zero_add]
    simpa using hj'
theorem IsTexts.below {w w' : World} {a : Option Addr} {len cap : Nat} {ks : List ByteArray} (h : IsTexts w a len cap ks) (k : Below w.heap.size w w') : IsTexts w' a len cap ks := by
  obtain ⟨h1, h2, h3, h5⟩ := h
  refine ⟨h1, h2, h3, ?_⟩
  rcases h5 with h5 | ⟨b, off, rfl, hb, hr⟩
  · exact .inl h5
  · exact .inr ⟨b, off, rfl, Nat.lt_of_lt_of_le hb k.size, fun i hi => (k.cell (p := ⟨b, off + i, none⟩) hb).trans (hr i hi)⟩

end Go.Proofs.YtjjelkdajdeikaaGreatDoor
