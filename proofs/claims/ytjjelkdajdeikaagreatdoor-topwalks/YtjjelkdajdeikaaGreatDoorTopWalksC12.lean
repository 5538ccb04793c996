/-
  Contracts and facts that the proof rests on, put together out of several texts.
-/
import Derived.Test.YtjjelkdajdeikaaGreatDoorTopWalksC9
import Derived.OpenShut
import Derived.Test.YtjjelkdajdeikaaGreatDoorTopWalksC2
import Derived.Test.YtjjelkdajdeikaaGreatDoorTopWalksC6
import Derived.Test.YtjjelkdajdeikaaGreatDoorTopWalksC11
import Derived.Test.YtjjelkdajdeikaaGreatDoorTopWalksC1
import Derived.Lib.SliceRun
import Derived.Lib.EndianMore
import Derived.Shelf.Abstract
import Derived.Laws.EntriesVeiled
import Derived.Test.YtjjelkdajdeikaaGreatDoorTopWalksC3
namespace Go.Proofs.YtjjelkdajdeikaaGreatDoor
open Go.RowKit
set_option maxRecDepth 20000
theorem Pl.mask_all : (List.range 9).all (fun b => (List.range 256).all fun x => decide (bits BinOp.andNot IntKind.i64 (x : Int) (255 / 2 ^ b) = (x : Int) - (x : Int) % Pl.span (b : Int))) = true := by decide +kernel
theorem Pl.mask_span {x b : Int} (hx : 0 ≤ x ∧ x ≤ 255) (hb : 0 ≤ b ∧ b ≤ 8) : bits BinOp.andNot IntKind.i64 x (255 / 2 ^ b.toNat) = x - x % Pl.span b := by
 have h := List.all_eq_true.1 Pl.mask_all b.toNat (List.mem_range.2 (by omega))
 have h2 := List.all_eq_true.1 h x.toNat (List.mem_range.2 (by omega))
 have h3 := of_decide_eq_true h2
 rw [show ((x.toNat : Nat) : Int) = x by omega, show ((b.toNat : Nat) : Int) = b by omega] at h3
 exact h3
theorem Pl.getT_min {C H P node} (q : Int × Int) : ∀ k, (Pl.getT C H P node q k = none ∧ ∀ n, n < k → C n < 0 ∨ ¬ q ∈ P n) ∨ (∃ a, Pl.getT C H P node q k = some a ∧ (∃ n, n < k ∧ 0 ≤ C n ∧ q ∈ P n ∧ a.cost = C n) ∧ ∀ n, n < k → 0 ≤ C n → q ∈ P n → a.cost ≤ C n)
 | 0 => .inl ⟨rfl, fun n h => by omega⟩
 | k + 1 => by
  have ih := Pl.getT_min (C := C) (H := H) (P := P) (node := node) q k
  by_cases g : C k < 0 ∨ ¬ q ∈ P k
  ·have e : Pl.getT C H P node q (k + 1) = Pl.getT C H P node q k := by show (if _ then _ else _) = _; rw [if_pos g]
   rw [e]
   rcases ih with ⟨h1, h2⟩ | ⟨a, h1, ⟨n, n1, n2, n3, n4⟩, h3⟩
   ·refine .inl ⟨h1, fun n hn => ?_⟩
    rcases Nat.lt_or_ge n k with q' | q'
    ·exact h2 n q'
    ·rw [show n = k by omega]; exact g
   ·refine .inr ⟨a, h1, ⟨n, by omega, n2, n3, n4⟩, fun m hm hm2 hm3 => ?_⟩
    rcases Nat.lt_or_ge m k with q' | q'
    ·exact h3 m q' hm2 hm3
    ·rw [show m = k by omega] at hm2 hm3
     rcases g with g | g
     ·omega
     ·exact absurd hm3 g
  ·have g1 : 0 ≤ C k := by omega
   have g2 : q ∈ P k := Decidable.byContradiction fun h => g (.inr h)
   have e : Pl.getT C H P node q (k + 1) = some (Pl.more (Pl.getT C H P node q k) (Pl.mkR C H node k q)) := by show (if _ then _ else _) = _; rw [if_neg g]
   right
   refine ⟨_, e, ?_⟩
   rcases ih with ⟨h1, h2⟩ | ⟨a, h1, ⟨n, n1, n2, n3, n4⟩, h3⟩
   ·rw [h1]
    refine ⟨⟨k, by omega, g1, g2, rfl⟩, fun m hm hm2 hm3 => ?_⟩
    show C k ≤ C m
    rcases Nat.lt_or_ge m k with q' | q'
    ·rcases h2 m q' with h | h
     ·omega
     ·exact absurd hm3 h
    ·rw [show m = k by omega]; exact Int.le_refl _
   ·rw [h1]
    have hb : (Pl.bestR a (Pl.mkR C H node k q)).cost = if C k < a.cost then C k else a.cost := by
     have e : (Pl.mkR C H node k q).cost = C k := rfl
     unfold Pl.bestR
     rw [e]
     by_cases hh : C k < a.cost
     ·rw [if_pos hh, if_pos hh]; rfl
     ·rw [if_neg hh, if_neg hh]; split <;> rfl
    show (∃ n, _ ∧ _ ∧ _ ∧ (Pl.bestR a (Pl.mkR C H node k q)).cost = C n) ∧ ∀ n, _ → _ → _ → (Pl.bestR a (Pl.mkR C H node k q)).cost ≤ C n
    rw [hb]
    split
    ·rename_i hlt
     refine ⟨⟨k, by omega, g1, g2, rfl⟩, fun m hm hm2 hm3 => ?_⟩
     rcases Nat.lt_or_ge m k with q' | q'
     ·have := h3 m q' hm2 hm3; omega
     ·rw [show m = k by omega]; exact Int.le_refl _
    ·rename_i hlt
     refine ⟨⟨n, by omega, n2, n3, n4⟩, fun m hm hm2 hm3 => ?_⟩
     rcases Nat.lt_or_ge m k with q' | q'
     ·exact h3 m q' hm2 hm3
     ·rw [show m = k by omega]; omega
theorem Pl.sidesUp.lt {ps : List (Int × Int)} (h : Pl.sidesUp ps) (j : Nat) : ∀ k, j < k → k < ps.length → (Pl.pr ps j).1 < (Pl.pr ps k).1 := by
 intro k
 induction k with
 | zero => intro h; omega
 | succ k ih =>
  intro h1 h2
  have h3 := (h (k + 1) h2).2 (by omega)
  simp only [Nat.add_sub_cancel] at h3
  by_cases hj : j = k
  ·subst hj; exact h3
  ·have := ih (by omega) (by omega); omega
theorem Pl.sayN_none {ps : List (Int × Int)} (h : Pl.sidesUp ps) (b k : Nat) (hk : k ≤ ps.length) (hn : ∀ j, j < k → (Pl.pr ps j).1 ≠ (b : Int)) : Pl.sayN ps k b = 0 := by
 induction k with
 | zero => rfl
 | succ k ih =>
  have h1 := hn k (by omega)
  have h2 := (h k (by omega)).1.1
  show Pl.upd (Pl.sayN ps k) (Pl.pr ps k).1.toNat (Pl.pr ps k).2 b = 0
  rw [Pl.upd_ne _ _ (by omega)]
  exact ih (by omega) fun j hj => hn j (by omega)
theorem Pl.sayN_at {ps : List (Int × Int)} (h : Pl.sidesUp ps) (b j k : Nat) (hj : j < k) (hk : k ≤ ps.length) (e : (Pl.pr ps j).1 = (b : Int)) : Pl.sayN ps k b = (Pl.pr ps j).2 := by
 induction k with
 | zero => omega
 | succ k ih =>
  show Pl.upd (Pl.sayN ps k) (Pl.pr ps k).1.toNat (Pl.pr ps k).2 b = _
  by_cases hjk : j = k
  ·subst hjk; rw [e, Int.toNat_natCast, Pl.upd_same]
  ·have h1 := h.lt j k (by omega) (by omega)
   rw [Pl.upd_ne _ _ (by omega)]
   exact ih (by omega) (by omega)
structure Pl.Set5 (s : Pl.Nt) : Prop where
 fw : Pl.FewN Pl.keys10 s
 line : ∀ i j, s.L i j ≠ 0 → i < 5 ∧ j < 5
 told : ∀ j, j < 5 → Pl.Told s j
 tab : ∀ j, j < 5 → s.T j = Pl.tabL (s.K j) j
 same : ∀ a b, a < 5 → Pl.Rch s.L a b → s.K a = s.K b
def Pl.Kept5 (s t : Pl.Nt) : Prop := t.L = s.L ∧ t.D = s.D ∧ t.P = s.P
def Pl.tells (l : List Nat) : List Pl.Ac := l.map Pl.Ac.tell
def Pl.decides (l : List Nat) : List Pl.Ac := l.map Pl.Ac.decide
def Pl.settle5 : List Pl.Ac := Pl.tells (List.range 5) ++ (Pl.sends (Pl.rounds 4) ++ Pl.decides (List.range 5))
theorem Pl.tells_ok : ∀ (l : List Nat) (s : Pl.Nt) (t : Int), Pl.DN s t → t + 2 * l.length ≤ 1000000 → (∀ a ∈ l, a < 5) →
  Pl.DN (Pl.runN s (Pl.tells l)) (t + 2 * l.length) ∧ (∀ a ∈ l, Pl.Told (Pl.runN s (Pl.tells l)) a) ∧ (∀ j, j < 5 → Pl.Told s j → Pl.Told (Pl.runN s (Pl.tells l)) j) ∧ Pl.Kept5 s (Pl.runN s (Pl.tells l))
 | [], s, t, h, _, _ => ⟨by simpa [Pl.tells, Pl.runN] using h, fun a ha => (by cases ha), fun j _ hj => hj, rfl, rfl, rfl⟩
 | a :: r, s, t, h, ht, hl => by
  have ha := hl a (by simp)
  simp only [List.length_cons] at ht
  push_cast at ht
  obtain ⟨q1, q2, q3, q4, q5, q6⟩ := Pl.tell_ok h (by omega) ha
  have h1 := h.tell (x := Pl.Ac.tell a) rfl rfl ha
  obtain ⟨r1, r2, r3, r4⟩ := Pl.tells_ok r (Pl.actN s (Pl.Ac.tell a)) (t + 2) h1 (by omega) fun b hb => hl b (by simp [hb])
  have e : Pl.runN s (Pl.tells (a :: r)) = Pl.runN (Pl.actN s (Pl.Ac.tell a)) (Pl.tells r) := rfl
  rw [e]
  refine ⟨?_, fun b hb => ?_, fun j hj hT => r3 j hj (q2 j hj hT), r4.1.trans q3, r4.2.1.trans q4, r4.2.2.trans q5⟩
  ·have e2 : t + 2 + 2 * (r.length : Int) = t + 2 * ((a :: r).length : Int) := by simp; omega
   rw [e2] at r1; exact r1
  ·rcases List.mem_cons.1 hb with rfl | hb
   ·exact r3 b ha q1
   ·exact r2 b hb
theorem Pl.told_send {s : Pl.Nt} {t : Int} (h : Pl.DN s t) {a b : Nat} (ha : a < 5) (hb : b < 5) {j : Nat} (hj : j < 5) (hT : Pl.Told s j) : Pl.Told (Pl.actN s (Pl.Ac.send a b)) j := by
 obtain ⟨_, q1, q2, q3, _, q5⟩ := h.send (Pl.Ac.isSend a b) ha hb
 unfold Pl.Told at hT ⊢
 rw [q1, q2, q3, q5 j hj _ (.inl rfl), q5 j hj _ (.inr rfl)]
 exact hT
theorem Pl.sends_told : ∀ (ps : List (Nat × Nat)) (s : Pl.Nt) (t : Int), Pl.DN s t → (∀ p ∈ ps, p.1 < 5 ∧ p.2 < 5) → Pl.DN (Pl.runN s (Pl.sends ps)) t ∧ ∀ j, j < 5 → Pl.Told s j → Pl.Told (Pl.runN s (Pl.sends ps)) j
 | [], s, t, h, _ => ⟨h, fun _ _ hT => hT⟩
 | p :: r, s, t, h, hp => by
  obtain ⟨p1, p2⟩ := hp p (by simp)
  obtain ⟨h1, _⟩ := h.send (Pl.Ac.isSend p.1 p.2) p1 p2
  obtain ⟨r1, r2⟩ := Pl.sends_told r _ t h1 fun q hq => hp q (by simp [hq])
  exact ⟨r1, fun j hj hT => r2 j hj (Pl.told_send h p1 p2 hj hT)⟩
theorem Pl.decides_ok : ∀ (l : List Nat) (s : Pl.Nt), (∀ a ∈ l, a < 12) → (Pl.runN s (Pl.decides l)).K = s.K ∧ Pl.Kept5 s (Pl.runN s (Pl.decides l)) ∧ (∀ a ∈ l, (Pl.runN s (Pl.decides l)).T a = Pl.tabL (s.K a) a) ∧ ∀ j, s.T j = Pl.tabL (s.K j) j → (Pl.runN s (Pl.decides l)).T j = Pl.tabL (s.K j) j
 | [], s, _ => ⟨rfl, ⟨rfl, rfl, rfl⟩, fun a h => (by cases h), fun _ h => h⟩
 | a :: r, s, hl => by
  have ha := hl a (by simp)
  obtain ⟨e, _⟩ := Pl.decide_act s (x := Pl.Ac.decide a) rfl rfl ha
  obtain ⟨r1, r2, r3, r4⟩ := Pl.decides_ok r (Pl.actN s (Pl.Ac.decide a)) fun b hb => hl b (by simp [hb])
  have e2 : Pl.runN s (Pl.decides (a :: r)) = Pl.runN (Pl.actN s (Pl.Ac.decide a)) (Pl.decides r) := rfl
  rw [e2]
  rw [e] at r1 r2 r3 r4 ⊢
  have hT : ∀ j, s.T j = Pl.tabL (s.K j) j ∨ j = a → Pl.upd s.T a (Pl.tabL (s.K a) a) j = Pl.tabL (s.K j) j := by
   intro j hj
   by_cases q : j = a
   ·subst q; exact Pl.upd_same _ _ _
   ·rw [Pl.upd_ne _ _ q]; exact hj.resolve_right q
  refine ⟨r1, r2, fun b hb => ?_, fun j hj => r4 j (hT j (.inl hj))⟩
  rcases List.mem_cons.1 hb with rfl | hb
  ·exact r4 b (hT b (.inr rfl))
  ·exact r3 b hb
theorem Pl.rounds_lt5 : ∀ r, ∀ p ∈ Pl.rounds r, p.1 < 5 ∧ p.2 < 5
 | 0, p, h => by cases h
 | r + 1, p, h => by
  rcases List.mem_append.1 h with h | h
  ·exact Pl.rounds_lt5 r p h
  ·have : ∀ p ∈ Pl.pairs5, p.1 < 5 ∧ p.2 < 5 := by decide
   exact this p h
theorem Pl.settled {s : Pl.Nt} {t : Int} (h : Pl.DN s t) (ht : t ≤ 1000) : Pl.Set5 (Pl.runN s Pl.settle5) ∧ Pl.Kept5 s (Pl.runN s Pl.settle5) := by
 obtain ⟨a1, a2, _, a4⟩ := Pl.tells_ok (List.range 5) s t h (by simp; omega) fun a ha => List.mem_range.1 ha
 obtain ⟨b1, b2⟩ := Pl.sends_told (Pl.rounds 4) _ _ a1 (Pl.rounds_lt5 4)
 obtain ⟨_, b4, _, _⟩ := Pl.sends_all Pl.keys10_len (Pl.rounds 4) _ a1.fw (Pl.rounds_lt 4)
 have bs := fun a b ha hr => Pl.rounds_same (a := a) (b := b) Pl.keys10_len a1.fw a1.line ha hr
 have e : Pl.runN s Pl.settle5 = Pl.runN (Pl.runN (Pl.runN s (Pl.tells (List.range 5))) (Pl.sends (Pl.rounds 4))) (Pl.decides (List.range 5)) := by
  unfold Pl.settle5; rw [Pl.runN_app, Pl.runN_app]
 rw [e]
 generalize Pl.runN s (Pl.tells (List.range 5)) = s1 at *
 have hg := b1.fw.good.run (Pl.decides (List.range 5))
 generalize Pl.runN s1 (Pl.sends (Pl.rounds 4)) = s2 at *
 obtain ⟨c1, c2, c3, _⟩ := Pl.decides_ok (List.range 5) s2 fun a ha => by have := List.mem_range.1 ha; omega
 generalize Pl.runN s2 (Pl.decides (List.range 5)) = s3 at *
 refine ⟨⟨⟨hg, fun i => by rw [c1]; exact b1.fw.few i⟩, fun i j hl => b1.line i j (by rwa [c2.1] at hl), fun j hj => ?_, fun j hj => by rw [c1]; exact c3 j (List.mem_range.2 hj), fun a b ha hr => ?_⟩, (c2.1.trans b4.L).trans a4.1, (c2.2.1.trans b4.D).trans a4.2.1, (c2.2.2.trans b4.P).trans a4.2.2⟩
 ·have := b2 j hj (a2 j (List.mem_range.2 hj))
  unfold Pl.Told at this ⊢
  rw [c1, c2.1, c2.2.1, c2.2.2]; exact this
 ·rw [c1]; exact bs a b ha (by rwa [c2.1, b4.L] at hr)
theorem Pl.say_sides {L : Nat → Int} (h : ∀ i, 0 ≤ L i ∧ L i ≤ 1000) {b : Nat} (hb : b < 12) : Pl.say (Pl.sidesK L 12) b = L b := by
 have hu := Pl.adjF_up (Pl.sidesK_ok (fun i _ => h i) 12 (Nat.le_refl _)).1
 have mem : ∀ k, ∀ p ∈ Pl.sidesK L k, ∃ i : Nat, i < k ∧ p = ((i : Int), L i) ∧ 0 < L i := by
  intro k
  induction k with
  | zero => intro p hp; cases hp
  | succ k ih =>
   intro p hp
   unfold Pl.sidesK at hp
   split at hp
   ·rename_i hl
    rcases List.mem_append.1 hp with hp | hp
    ·obtain ⟨i, h1, h2⟩ := ih p hp; exact ⟨i, by omega, h2⟩
    ·simp only [List.mem_cons, List.not_mem_nil, or_false] at hp
     exact ⟨k, by omega, hp, hl⟩
   ·obtain ⟨i, h1, h2⟩ := ih p hp; exact ⟨i, by omega, h2⟩
 have has : ∀ k, ∀ i, i < k → 0 < L i → ((i : Int), L i) ∈ Pl.sidesK L k := by
  intro k
  induction k with
  | zero => intro i hi; omega
  | succ k ih =>
   intro i hi hl
   unfold Pl.sidesK
   rcases Nat.lt_or_ge i k with q | q
   ·split
    ·exact List.mem_append_left _ (ih i q hl)
    ·exact ih i q hl
   ·obtain rfl : i = k := by omega
    rw [if_pos hl]; simp
 unfold Pl.say
 by_cases hl : 0 < L b
 ·obtain ⟨j, hj, e⟩ := List.getElem_of_mem (has 12 b hb hl)
  have e' : Pl.pr (Pl.sidesK L 12) j = ((b : Int), L b) := by rw [Pl.pr_eq _ _ hj]; exact e
  rw [Pl.sayN_at hu b j _ hj (Nat.le_refl _) (by rw [e']), e']
 ·rw [Pl.sayN_none hu b _ (Nat.le_refl _) fun j hj e => ?_]
  ·have := h b; omega
  ·obtain ⟨i, _, e2, hi⟩ := mem 12 _ (Pl.pr_mem _ j hj)
   rw [e2] at e
   have : i = b := by have e : (i : Int) = (b : Int) := e; omega
   subst this
   exact hl hi
theorem Pl.Set5.knows {s : Pl.Nt} (h : Pl.Set5 s) {f j : Nat} (hf : f < 5) (hr : Pl.Rch s.L f j) :
  Pl.tD (s.K f) j = s.D j ∧ Pl.tS (s.K f) j = Pl.sidesK (s.L j) 12 ∧ Pl.tP (s.K f) j = s.P j := by
 have hj := hr.lt hf
 obtain ⟨⟨e1, l1, _, v1⟩, ⟨e2, l2, _, v2⟩⟩ := h.told j hj
 have hg := (Pl.good_iff _).1 (h.fw.good.K j)
 have hs := (Pl.sidesK_ok (L := s.L j) (fun i _ => h.fw.good.L j i) 12 (Nat.le_refl _)).1
 obtain ⟨_, b2, b3⟩ := Pl.adj_back (d := s.D j) hs
 obtain ⟨_, c2⟩ := Pl.pfx_back (h.fw.good.P j)
 rw [h.same f j hf hr]
 unfold Pl.tD Pl.tS Pl.tP Pl.toldV
 rw [Pl.gotE_look hg, Pl.gotE_look hg, l1, l2]
 show Pl.adjD e1.val.data.toList = _ ∧ Pl.adjS e1.val.data.toList = _ ∧ Pl.rpS e2.val.data.toList = _
 rw [v1, v2]
 exact ⟨b2, b3, c2⟩
theorem Pl.Set5.links {s : Pl.Nt} (h : Pl.Set5 s) {f a : Nat} (hf : f < 5) (hr : Pl.Rch s.L f a) {k : Nat} (hk : k < 12) (hl : 0 < Pl.lnkX (Pl.tS (s.K f)) a k) : s.L a k ≠ 0 ∧ Pl.Rch s.L f k := by
 unfold Pl.lnkX Pl.lnk at hl
 split at hl
 ·omega
 ·split at hl
  ·rw [(h.knows hf hr).2.1, Pl.say_sides (fun i => h.fw.good.L a i) hk] at hl
   have hne : s.L a k ≠ 0 := by omega
   exact ⟨hne, hr.step (hr.lt hf) (h.line a k hne).2 hne⟩
  ·omega
def cellsAc : List Pl.Ac → List Value
 | [] => []
 | x :: r => acCells x ++ cellsAc r
theorem cellsAc_append : ∀ a b : List Pl.Ac, cellsAc (a ++ b) = cellsAc a ++ cellsAc b
 | [], _ => rfl
 | x :: r, b => by simp [cellsAc, cellsAc_append r b]
theorem acCells_len (x : Pl.Ac) : (acCells x).length = 9 := rfl
theorem cellsAc_len : ∀ xs : List Pl.Ac, (cellsAc xs).length = xs.length * 9
 | [] => rfl
 | x :: r => by simp [cellsAc, acCells_len, cellsAc_len r]; omega
theorem acCells_one (x : Pl.Ac) : ∀ u ∈ acCells x, u.oneCell' = true := by
 intro u hu
 unfold acCells at hu
 simp at hu
 rcases hu with rfl | rfl | rfl | rfl | rfl | rfl | rfl | rfl | rfl <;> rfl
theorem cellsAc_one : ∀ xs : List Pl.Ac, ∀ u ∈ cellsAc xs, u.oneCell' = true
 | [], u, hu => by cases hu
 | x :: r, u, hu => by
  rcases List.mem_append.1 hu with hu | hu
  ·exact acCells_one x u hu
  ·exact cellsAc_one r u hu
theorem cellsAc_get : ∀ (xs : List Pl.Ac) (i k : Nat), i < xs.length → k < 9 → (cellsAc xs)[i * 9 + k]? = (acCells (Pl.ac xs i))[k]?
 | [], i, k, h, _ => by simp at h
 | x :: r, 0, k, _, hk => by
  show (acCells x ++ cellsAc r)[0 * 9 + k]? = _
  rw [Nat.zero_mul, Nat.zero_add, List.getElem?_append_left (by rw [acCells_len]; exact hk)]
  rfl
 | x :: r, i + 1, k, h, hk => by
  show (acCells x ++ cellsAc r)[(i + 1) * 9 + k]? = _
  rw [List.getElem?_append_right (by rw [acCells_len]; omega), acCells_len, show (i + 1) * 9 + k - 9 = i * 9 + k by omega, cellsAc_get r i k (by simpa using h) hk]
  rfl
def OwnAc (w : World) (base : Nat) (v : Value) (xs : List Pl.Ac) : Prop := w.ownsRow base 51 9 v xs.length (cellsAc xs)
theorem infoAct : (Tryz.prog.info? 51).map (fun i => (i.zero, i.size, i.bytes)) = some (some (.agg #[.int .i64 0, .int .i64 0, .int .i64 0, .int .i64 0, .int .i64 0, .int .i64 0, .int .i64 0, .string ⟨#[]⟩, .string ⟨#[]⟩]), 9, 88) := by kernel_rfl
theorem OwnAc.nil (w : World) (base : Nat) : OwnAc w base (.slice none 0 0) [] := World.ownsRow_nil _ _ _ _
theorem OwnAc.below {w w' : World} {base : Nat} {v : Value} {xs : List Pl.Ac} (h : OwnAc w base v xs) (k : Below w.heap.size w w') : OwnAc w' base v xs := ownsRow_under h k
theorem OwnAc.mono {w : World} {base base' : Nat} {v : Value} {xs : List Pl.Ac} (h : OwnAc w base v xs) (k : base' ≤ base) : OwnAc w base' v xs := World.ownsRow_mono h k
theorem OwnAc.acts {w : World} {base : Nat} {v : Value} {xs : List Pl.Ac} (h : OwnAc w base v xs) (hok : ∀ x ∈ xs, Pl.AcOk x) : ∃ a cap, v = .slice a xs.length cap ∧ IsActs w a xs.length cap xs ∧ (a = none → xs.length = 0) ∧ ∀ x, a = some x → base ≤ x.block := by
 obtain ⟨_, ⟨h, h1⟩ | ⟨g, cap, cur, rfl, hb, hh, hn, hm, hs, hx⟩⟩ := h
 ·have e : xs = [] := List.length_eq_zero_iff.1 h1
  subst e
  exact ⟨none, 0, h, ⟨rfl, Nat.le_refl _, by unfold maxLen; omega, hok, .inl rfl⟩, fun _ => rfl, by simp⟩
 ·refine ⟨_, cap, rfl, ⟨rfl, hn, hm, hok, .inr ⟨g, 0, rfl, blockLt hh, fun i hi k v hv => ?_⟩⟩, fun e => (by cases e), by rintro x ⟨⟩; exact hb⟩
  have hk : k < 9 := by have := (List.getElem?_eq_some_iff.1 hv).1; rwa [acCells_len] at this
  rw [← cellsAc_get xs i k hi hk, ← hx, List.getElem?_take] at hv
  split at hv
  ·rw [Array.getElem?_toList] at hv
   simp [World.cell?, hh, hv]
  ·cases hv
theorem ownAc_of {w : World} {base n : Nat} {v : Value} {ys : List Value} {xs : List Pl.Ac} (h : w.ownsRow base 51 9 v n ys) (e : ys = cellsAc xs) : OwnAc w base v xs := by
 subst e
 have hn : n = xs.length := by
  have := h.1
  rw [cellsAc_len] at this
  omega
 subst hn
 exact h
theorem append_ac {w : World} {ops : Array Oper} {rest : List Oper} {o : Oper} {a : Act} {Q : Exit → Act → World → Prop} (hgd : o.guard = none) (s x : Operand)
  (ho : o.op = .call { callee := .builtin .append, args := #[s, x], argTypes := #[22, 22] })
  (base : Nat) (v : Value) (xs : List Pl.Ac) (e : Pl.Ac) (hs : a.eval s = v) (hown : OwnAc w base v xs) (hbase : base ≤ w.heap.size) (hx : a.eval x = .slice (some ⟨w.heap.size, 0, none⟩) 1 1) (hb : xs.length ≤ 1000000)
  (h : ∀ v' w', OwnAc w' base v' (xs ++ [e]) → Below base w w' → wpList Tryz.prog ops Q rest (a.put o.dst v') w') :
  wpList Tryz.prog ops Q (o :: rest) a (w.alloc (.cells #[.int .i64 e.kind, .int .i64 e.a, .int .i64 e.b, .int .i64 e.n, .int .i64 e.m, .int .i64 e.p.1, .int .i64 e.p.2, .string e.key, .string e.val] 51)) := by
 obtain ⟨i0, hi0, hz0, hz1, hz2⟩ := partsOf infoAct
 refine wpList_append_own (w := _) hgd s x 22 ho base 51 i0 _ 9 88 Tryz.underlying22 hi0 hz0 hz1 hz2 rfl (by decide) _ xs.length (cellsAc xs) hs (World.ownsRow.alloc hown _) ⟨w.heap.size, 0, none⟩ 1 1 (acCells e) hx rfl ?_ (acCells_one e) (by unfold maxLen; omega) (by omega) (by simp; omega) ?_
 ·have hn := heapNew w (.cells #[.int .i64 e.kind, .int .i64 e.a, .int .i64 e.b, .int .i64 e.n, .int .i64 e.m, .int .i64 e.p.1, .int .i64 e.p.2, .string e.key, .string e.val] 51)
  obtain ⟨c0, c1, c2, c3, c4, c5, c6, c7, c8⟩ := box9 hn
  intro j u hj
  rw [add_none]
  unfold acCells at hj
  match j, hj with
  | 0, hj => simp at hj; subst hj; exact c0
  | 1, hj => simp at hj; subst hj; exact c1
  | 2, hj => simp at hj; subst hj; exact c2
  | 3, hj => simp at hj; subst hj; exact c3
  | 4, hj => simp at hj; subst hj; exact c4
  | 5, hj => simp at hj; subst hj; exact c5
  | 6, hj => simp at hj; subst hj; exact c6
  | 7, hj => simp at hj; subst hj; exact c7
  | 8, hj => simp at hj; subst hj; exact c8
  | j + 9, hj => simp at hj
 ·intro v' w' hown' hg _
  have hlt := World.ownsRow.lt hown
  exact h v' w' (ownAc_of hown' (by rw [cellsAc_append]; simp [cellsAc])) (((Below.refl _ _).alloc hbase _).grown hg (by simp; omega) (fun k hk => (hlt k hk).1))
theorem tdiv8 {n : Int} (h0 : -9223372036854775808 ≤ n) (h1 : n ≤ 9223372036854775807) : -9223372036854775808 ≤ n.tdiv 8 ∧ n.tdiv 8 ≤ 9223372036854775807 := by
 have e := Int.mul_tdiv_add_tmod n 8
 have a1 := Int.tmod_lt_of_pos n (show (0 : Int) < 8 by omega)
 have a2 := Int.lt_tmod_of_pos n (show (0 : Int) < 8 by omega)
 omega
set_option maxHeartbeats 8000000 in
theorem prefix_any (n : Int) (w : World) (h : (Lit.int .i64 n).wf = true) :
  Calls Tryz.prog 48 #[.int .i64 n] w fun e w' => ∃ p : Int × Int, e = .returned (.agg #[.int .i64 p.1, .int .i64 p.2]) ∧ Pl.pairOk p ∧ Below w.heap.size w w' := by
 have b0 := wf_bounds h
 clear h
 obtain ⟨b, HP⟩ : ∃ b, Hid (Pl.pk n 8 = b) := ⟨_, hid rfl⟩
 have hb : 0 ≤ b ∧ b < 8 := by rw [← HP.out]; exact Pl.pk_range _ _ (by omega)
 have HC1 := hid (fun W => picked_any n 8 W b0.1 b0.2 (by omega) (by omega))
 have hq : -9223372036854775808 ≤ n.tdiv 8 ∧ n.tdiv 8 ≤ 9223372036854775807 := tdiv8 b0.1 b0.2
 have hqw : IntKind.i64.wrap (n.tdiv 8) = n.tdiv 8 := by rw [IntKind.wrap_i64]; omega
 have HC2 := hid (fun W => picked_any (n.tdiv 8) 256 W hq.1 hq.2 (by omega) (by omega))
 obtain ⟨c, HQ⟩ : ∃ c, Hid (Pl.pk (n.tdiv 8) 256 = c) := ⟨_, hid rfl⟩
 rw [HP.out] at HC1
 rw [HQ.out] at HC2
 obtain ⟨f, hf, HW⟩ : ∃ f : Int → Int, (∀ y, bits BinOp.andNot IntKind.i64 c y = f y) ∧ Hid (∀ y, (Lit.int .i64 (f y)).wf = true) := ⟨fun y => bits BinOp.andNot IntKind.i64 c y, fun _ => rfl, hid (fun _ => wf_bits _ _ _ _)⟩
 have hbs : b = 0 ∨ b = 1 ∨ b = 2 ∨ b = 3 ∨ b = 4 ∨ b = 5 ∨ b = 6 ∨ b = 7 := by omega
 rcases hbs with rfl | rfl | rfl | rfl | rfl | rfl | rfl | rfl
 all_goals
  go_enter Tryz.func48, Tryz.ntmps48
  go_wp2_with fail
  refine (HC1.out _).mono ?_
  rintro e w1 ⟨rfl, rfl⟩
  go_wp2_with fail
  refine (HC2.out _).mono ?_
  rintro e w2 ⟨rfl, rfl⟩
  go_wp2_with fail
  refine bodyPost_ret (v := .agg #[.int .i64 (f _), .int .i64 _]) (by simp [results, Tryz.results48, go_sem]; exact ⟨rfl, rfl⟩) rfl ?_
  exact ⟨(f _, _), rfl, ⟨HW.out _, by dsimp only; decide⟩, ((Below.refl _ _).alloc (Nat.le_refl _) _).alloc (by simp) _⟩
structure Pl.AcG (nodes : Nat) (x : Pl.Ac) : Prop where
 ok : Pl.AcOk x
 a0 : 0 ≤ x.a
 a1 : x.a < nodes
 b0 : 0 ≤ x.b
 b1 : x.b < nodes
theorem Pl.pairOk_zero : Pl.pairOk (0, 0) := by unfold Pl.pairOk; decide
theorem Pl.AcG.new {nodes : Nat} {a b n : Int} (ha : 0 ≤ a ∧ a < nodes) (hb : 0 ≤ b ∧ b < nodes) (hn : n ≤ 9223372036854775807) : Pl.AcG nodes ⟨0, a, b, n, 0, (0, 0), ⟨#[]⟩, ⟨#[]⟩⟩ :=
 ⟨⟨(by decide : (⟨#[]⟩ : ByteArray).size ≤ maxLen), (by decide : (⟨#[]⟩ : ByteArray).size ≤ maxLen), Pl.pairOk_zero, hn, (by decide : (0 : Int) ≤ 9223372036854775807)⟩, ha.1, ha.2, hb.1, hb.2⟩
theorem Pl.AcG.zero {nodes : Nat} (h : 1 ≤ nodes) : Pl.AcG nodes ⟨0, 0, 0, 0, 0, (0, 0), ⟨#[]⟩, ⟨#[]⟩⟩ :=
 ⟨⟨by decide, by decide, Pl.pairOk_zero, by decide, by decide⟩, by decide, by show (0 : Int) < nodes; omega, by decide, by show (0 : Int) < nodes; omega⟩
theorem Pl.AcG.kind {nodes : Nat} {x : Pl.Ac} (h : Pl.AcG nodes x) (k : Int) : Pl.AcG nodes { x with kind := k } := ⟨⟨h.ok.key, h.ok.val, h.ok.p, h.ok.n, h.ok.m⟩, h.a0, h.a1, h.b0, h.b1⟩
theorem Pl.AcG.setN {nodes : Nat} {x : Pl.Ac} (h : Pl.AcG nodes x) (k : Int) (hk : k ≤ 9223372036854775807) : Pl.AcG nodes { x with n := k } := ⟨⟨h.ok.key, h.ok.val, h.ok.p, hk, h.ok.m⟩, h.a0, h.a1, h.b0, h.b1⟩
theorem Pl.AcG.setM {nodes : Nat} {x : Pl.Ac} (h : Pl.AcG nodes x) (k : Int) (hk : k ≤ 9223372036854775807) : Pl.AcG nodes { x with m := k } := ⟨⟨h.ok.key, h.ok.val, h.ok.p, h.ok.n, hk⟩, h.a0, h.a1, h.b0, h.b1⟩
theorem Pl.AcG.setP {nodes : Nat} {x : Pl.Ac} (h : Pl.AcG nodes x) (p : Int × Int) (hk : Pl.pairOk p) : Pl.AcG nodes { x with p := p } := ⟨⟨h.ok.key, h.ok.val, hk, h.ok.n, h.ok.m⟩, h.a0, h.a1, h.b0, h.b1⟩
theorem Pl.AcG.setKey {nodes : Nat} {x : Pl.Ac} (h : Pl.AcG nodes x) (s : ByteArray) (hk : s.size ≤ maxLen) : Pl.AcG nodes { x with key := s } := ⟨⟨hk, h.ok.val, h.ok.p, h.ok.n, h.ok.m⟩, h.a0, h.a1, h.b0, h.b1⟩
theorem Pl.AcG.setVal {nodes : Nat} {x : Pl.Ac} (h : Pl.AcG nodes x) (s : ByteArray) (hk : s.size ≤ maxLen) : Pl.AcG nodes { x with val := s } := ⟨⟨h.ok.key, hk, h.ok.p, h.ok.n, h.ok.m⟩, h.a0, h.a1, h.b0, h.b1⟩
def AcB (w : World) (X : Nat) (x : Pl.Ac) : Prop := w.heap[X]? = some (.cells #[.int .i64 x.kind, .int .i64 x.a, .int .i64 x.b, .int .i64 x.n, .int .i64 x.m, .int .i64 x.p.1, .int .i64 x.p.2, .string x.key, .string x.val] 51)
theorem AcB.box {w : World} {X : Nat} {x : Pl.Ac} (h : AcB w X x) : (w.cell? ⟨X, 0, none⟩ = some (.int .i64 x.kind) ∧ w.cell? ⟨X, 1, none⟩ = some (.int .i64 x.a) ∧ w.cell? ⟨X, 2, none⟩ = some (.int .i64 x.b) ∧ w.cell? ⟨X, 3, none⟩ = some (.int .i64 x.n) ∧ w.cell? ⟨X, 4, none⟩ = some (.int .i64 x.m) ∧ w.cell? ⟨X, 5, none⟩ = some (.int .i64 x.p.1) ∧ w.cell? ⟨X, 6, none⟩ = some (.int .i64 x.p.2) ∧ w.cell? ⟨X, 7, none⟩ = some (.string x.key) ∧ w.cell? ⟨X, 8, none⟩ = some (.string x.val)) ∧ (∀ o, w.frozen? ⟨X, o, none⟩ = false) ∧ X < w.heap.size := by
 unfold AcB at h
 refine ⟨⟨?_, ?_, ?_, ?_, ?_, ?_, ?_, ?_, ?_⟩, fun o => ?_, blockLt h⟩
 iterate 9 simp [World.cell?, h]
 simp [World.frozen?, h]
theorem AcB.kind {w : World} {X : Nat} {x : Pl.Ac} (h : AcB w X x) (k : Int) : AcB (w.setCell ⟨X, 0, none⟩ (.int .i64 k)) X { x with kind := k } := by
 unfold AcB at h ⊢
 simp [World.setCell, Array.getElem?_modify, h]
theorem AcB.setN {w : World} {X : Nat} {x : Pl.Ac} (h : AcB w X x) (k : Int) : AcB (w.setCell ⟨X, 3, none⟩ (.int .i64 k)) X { x with n := k } := by
 unfold AcB at h ⊢
 simp [World.setCell, Array.getElem?_modify, h]
theorem AcB.setM {w : World} {X : Nat} {x : Pl.Ac} (h : AcB w X x) (k : Int) : AcB (w.setCell ⟨X, 4, none⟩ (.int .i64 k)) X { x with m := k } := by
 unfold AcB at h ⊢
 simp [World.setCell, Array.getElem?_modify, h]
theorem AcB.setKey {w : World} {X : Nat} {x : Pl.Ac} (h : AcB w X x) (s : ByteArray) : AcB (w.setCell ⟨X, 7, none⟩ (.string s)) X { x with key := s } := by
 unfold AcB at h ⊢
 simp [World.setCell, Array.getElem?_modify, h]
theorem AcB.setVal {w : World} {X : Nat} {x : Pl.Ac} (h : AcB w X x) (s : ByteArray) : AcB (w.setCell ⟨X, 8, none⟩ (.string s)) X { x with val := s } := by
 unfold AcB at h ⊢
 simp [World.setCell, Array.getElem?_modify, h]
theorem AcB.below {w w' : World} {X : Nat} {x : Pl.Ac} (h : AcB w X x) (k : Below w.heap.size w w') : AcB w' X x := (k.block _ (blockLt h)).trans h
def set9 (w : World) (X : Nat) (x : Pl.Ac) : World := ((((((((w.setCell ⟨X, 0, none⟩ (.int .i64 x.kind)).setCell ⟨X, 1, none⟩ (.int .i64 x.a)).setCell ⟨X, 2, none⟩ (.int .i64 x.b)).setCell ⟨X, 3, none⟩ (.int .i64 x.n)).setCell ⟨X, 4, none⟩ (.int .i64 x.m)).setCell ⟨X, 5, none⟩ (.int .i64 x.p.1)).setCell ⟨X, 6, none⟩ (.int .i64 x.p.2)).setCell ⟨X, 7, none⟩ (.string x.key)).setCell ⟨X, 8, none⟩ (.string x.val)
theorem set9_at {w : World} {X : Nat} {y : Pl.Ac} (h : AcB w X y) (x : Pl.Ac) : AcB (set9 w X x) X x := by
 unfold AcB at h ⊢
 simp [set9, World.setCell, Array.getElem?_modify, h]
theorem set9_but (w : World) (X : Nat) (x : Pl.Ac) : But X w (set9 w X x) := (((((((((But.refl X w).setCell _ _).setCell _ _).setCell _ _).setCell _ _).setCell _ _).setCell _ _).setCell _ _).setCell _ _).setCell _ _
theorem set9_below {a w : World} {X B : Nat} (h : Below B a w) (hX : B ≤ X) (x : Pl.Ac) : Below B a (set9 w X x) := ((((((((h.setCell hX _).setCell hX _).setCell hX _).setCell hX _).setCell hX _).setCell hX _).setCell hX _).setCell hX _).setCell hX _
theorem Pl.pk_le (n : Int) (m : Nat) (h : 0 < m) (h2 : m ≤ 1000) : 0 ≤ Pl.pk n m ∧ Pl.pk n m ≤ 9223372036854775807 := by
 have := Pl.pk_range n m (by omega)
 omega
def AV (base nodes : Nat) (VL : List Value) (j : Nat) (u : Value) (W : World) : Prop :=
 if j = 0 then (∃ X x, u = .pointer (some ⟨X, 0, none⟩) ∧ base ≤ X ∧ AcB W X x ∧ Pl.AcG nodes x) else u = VL.getD j undef
theorem AV.eq {base nodes VL j u W} (h : AV base nodes VL j u W) (h0 : j ≠ 0) : u = VL.getD j undef := by
 unfold AV at h
 rwa [if_neg h0] at h
theorem AV.of {base nodes VL j u W} (h0 : j ≠ 0) (h : u = VL.getD j undef) : AV base nodes VL j u W := by
 unfold AV
 rwa [if_neg h0]
theorem AV.isBox {base nodes VL u W} (h : AV base nodes VL 0 u W) : ∃ X x, u = .pointer (some ⟨X, 0, none⟩) ∧ base ≤ X ∧ AcB W X x ∧ Pl.AcG nodes x := by
 unfold AV at h
 rwa [if_pos rfl] at h
theorem AV.box {base nodes VL u W} (h : ∃ X x, u = .pointer (some ⟨X, 0, none⟩) ∧ base ≤ X ∧ AcB W X x ∧ Pl.AcG nodes x) : AV base nodes VL 0 u W := by
 unfold AV
 rwa [if_pos rfl]
theorem AV.grow {base nodes VL} {W W' : World} (hb : Below W.heap.size W W') : ∀ q u, AV base nodes VL q u W → AV base nodes VL q u W' := by
 intro q u h
 unfold AV at h ⊢
 split
 ·rename_i e
  rw [if_pos e] at h
  obtain ⟨X, x, h1, h2, h3, h4⟩ := h
  exact ⟨X, x, h1, h2, h3.below hb, h4⟩
 ·rename_i e
  rwa [if_neg e] at h
theorem AV.stored {base nodes VL} {W : World} {X : Nat} {y x : Pl.Ac} (hx : AcB W X y) (hg : Pl.AcG nodes x) : ∀ q u, AV base nodes VL q u W → AV base nodes VL q u (set9 W X x) := by
 intro q u h
 unfold AV at h ⊢
 split
 ·rename_i e
  rw [if_pos e] at h
  obtain ⟨Y, z, h1, h2, h3, h4⟩ := h
  by_cases hY : Y = X
  ·subst hY
   exact ⟨Y, x, h1, h2, set9_at hx x, hg⟩
  ·exact ⟨Y, z, h1, h2, ((set9_but W X x).block _ (blockLt h3) hY).trans h3, h4⟩
 ·rename_i e
  rwa [if_neg e] at h
def AInv (a0 : Act) (w0 : World) (nodes : Nat) (VL : List Value) (listed : Array Bool) (a : Act) (W : World) : Prop :=
 RInv a0 10 26 11 (fun k => ([some 17, some 18, some 19, some 20, some 21, some 22, some 23, some 24, some 25, some 0, none] : List (Option Nat)).getD k none) (AV w0.heap.size nodes VL) (fun W => Below w0.heap.size w0 W) listed a W ∧ ∀ j, 1 ≤ j → j < 17 → a.tmps[10 + j]?.getD undef = a0.tmps[10 + j]?.getD undef
theorem AInv.put {a0 : Act} {w0 : World} {nodes : Nat} {VL : List Value} {listed : Array Bool} {a : Act} {W W' : World} {i j : Nat} {v : Value} (h : AInv a0 w0 nodes VL listed a W)
  (ho : ([some 17, some 18, some 19, some 20, some 21, some 22, some 23, some 24, some 25, some 0, none] : List (Option Nat)).getD i none = some j) (hj : j < 26) (hj0 : j < 1 ∨ 17 ≤ j) (hb : Below W.heap.size W W') (hv : AV w0.heap.size nodes VL j v W') (hc : Below w0.heap.size w0 W') : AInv a0 w0 nodes VL (listed.setIfInBounds i true) (a.put (some (10 + j)) v) W' :=
 ⟨h.1.put ho hj (AV.grow hb) hv hc, fun q q1 q2 => by
  show (a.tmps.setIfInBounds (10 + j) v)[10 + q]?.getD undef = _
  rw [Array.getElem?_setIfInBounds_ne (by omega)]
  exact h.2 q q1 q2⟩
theorem AInv.store {a0 : Act} {w0 : World} {nodes : Nat} {VL : List Value} {listed : Array Bool} {a : Act} {W : World} {X : Nat} {y x : Pl.Ac} (h : AInv a0 w0 nodes VL listed a W) (hxx : AcB W X y) (hX : w0.heap.size ≤ X) (hg : Pl.AcG nodes x)
  (ho : ([some 17, some 18, some 19, some 20, some 21, some 22, some 23, some 24, some 25, some 0, none] : List (Option Nat)).getD 10 none = none) : AInv a0 w0 nodes VL (listed.setIfInBounds 10 true) a (set9 W X x) :=
 ⟨h.1.skip ho (AV.stored hxx hg) (set9_below h.1.cw hX x), h.2⟩
set_option linter.unusedSimpArgs false in
set_option maxHeartbeats 8000000 in
theorem acts6 {Q : Exit → Act → World → Prop} {a0 : Act} {w0 : World} {R nodes : Nat} {k1 k2 : Int}
  (hsize : a0.tmps.size = 122) (q2 : a0.tmps[2]?.getD undef = .int .i64 nodes) (q9 : a0.tmps[9]?.getD undef = .pointer (some ⟨R, 0, none⟩)) (hR : R < w0.heap.size)
  (c1 : w0.cell? ⟨R, 1, none⟩ = some (.int .i64 k1)) (c2 : w0.cell? ⟨R, 2, none⟩ = some (.int .i64 k2)) (h1 : (Lit.int .i64 k1).wf = true) (h2 : (Lit.int .i64 k2).wf = true) (hn : 1 ≤ nodes) (hn2 : nodes ≤ 12)
  (hQ : ∀ xs W X x, xs.length = 26 → (∀ j, 1 ≤ j → j < 17 → xs.getD j undef = a0.tmps[10 + j]?.getD undef) → xs.getD 0 undef = .pointer (some ⟨X, 0, none⟩) → w0.heap.size ≤ X → AcB W X x → Pl.AcG nodes x → Below w0.heap.size w0 W → Q .normal { a0 with tmps := setFrom a0.tmps 10 xs } W) :
  ∀ ops, regIn Tryz.f17 6 = some ops → (Code.region 6 ops true).wp Tryz.prog Q a0 w0 := by
 intro ops hops
 have eo := Option.some.inj (hops.symm.trans (rfl : regIn Tryz.f17 6 = some _))
 subst eo
 clear hops
 have hsz : 10 + 26 ≤ a0.tmps.size := by omega
 have hk1 := wf_bounds h1
 have hk2 := wf_bounds h2
 have hp1 := Pl.pk_range k1 nodes (by omega)
 have hp2 := Pl.pk_range k2 nodes (by omega)
 have hAC : Pl.AcG nodes ⟨0, Pl.pk k1 nodes, Pl.pk k2 nodes, -1, 0, (0, 0), ⟨#[]⟩, ⟨#[]⟩⟩ := Pl.AcG.new hp1 hp2 (by decide)
 refine wp_region_any (by kernel_rfl) ?_
 refine wpAny_inv2 (AInv a0 w0 nodes [undef, undef, undef, undef, undef, undef, undef, undef, undef, undef, undef, undef, undef, undef, undef, undef, undef, (.pointer (some ⟨R, 1, none⟩) : Value), (.int .i64 k1 : Value), (.int .i64 nodes : Value), (.int .i64 (Pl.pk k1 nodes) : Value), (.pointer (some ⟨R, 2, none⟩) : Value), (.int .i64 k2 : Value), (.int .i64 nodes : Value), (.int .i64 (Pl.pk k2 nodes) : Value), (.agg #[.int .i64 0, .int .i64 (Pl.pk k1 nodes), .int .i64 (Pl.pk k2 nodes), .int .i64 (-1), .int .i64 0, .int .i64 0, .int .i64 0, .string ⟨#[]⟩, .string ⟨#[]⟩] : Value)]) ?_ ?_ _ _ _ _ (by decide +kernel) ?_ (closed_start _ _ _)
 ·rintro i listed a' W hi hCl hI
  rw [mem_ready] at hi
  obtain ⟨hl0, o, ho, hall⟩ := hi
  have hlti : i < 11 := (Array.getElem?_eq_some_iff.1 ho).1
  have o2 := (hI.1.out (k := 2) (by omega)).trans q2
  have o9 := (hI.1.out (k := 9) (by omega)).trans q9
  have x1 := (hI.1.cw.cell (p := ⟨R, 1, none⟩) hR).trans c1
  have x2 := (hI.1.cw.cell (p := ⟨R, 2, none⟩) hR).trans c2
  have hcs : i = 0 ∨ i = 1 ∨ i = 2 ∨ i = 3 ∨ i = 4 ∨ i = 5 ∨ i = 6 ∨ i = 7 ∨ i = 8 ∨ i = 9 ∨ i = 10 := by omega
  rcases hcs with rfl | rfl | rfl | rfl | rfl | rfl | rfl | rfl | rfl | rfl | rfl
  all_goals
   simp at ho
   subst ho
   refine wpOp_of rfl rfl ?_
  ·simp [Oper.wp, go_sem, o9]
   exact hI.put (i := 0) (j := 17) rfl (by omega) (by decide) (Below.refl _ _) (AV.of (by decide) rfl) hI.1.cw
  ·have e27 : a'.tmps[27]?.getD undef = .pointer (some ⟨R, 1, none⟩) := AV.eq (hI.1.at (k := 0) (j := 17) hsz rfl (by omega) (hall ⟨0, .data⟩ (by simp) rfl)) (by decide)
   simp [Oper.wp, go_sem, e27, x1]
   exact hI.put (i := 1) (j := 18) rfl (by omega) (by decide) (Below.refl _ _) (AV.of (by decide) rfl) hI.1.cw
  ·simp [Oper.wp, go_sem, o2]
   exact hI.put (i := 2) (j := 19) rfl (by omega) (by decide) (Below.refl _ _) (AV.of (by decide) rfl) hI.1.cw
  ·have e28 : a'.tmps[28]?.getD undef = .int .i64 k1 := AV.eq (hI.1.at (k := 1) (j := 18) hsz rfl (by omega) (hall ⟨1, .data⟩ (by simp) rfl)) (by decide)
   have e29 : a'.tmps[29]?.getD undef = .int .i64 nodes := AV.eq (hI.1.at (k := 2) (j := 19) hsz rfl (by omega) (hall ⟨2, .data⟩ (by simp) rfl)) (by decide)
   simp [Oper.wp, go_sem, e28, e29]
   refine (picked_any k1 nodes W hk1.1 hk1.2 (by omega) (by omega)).mono ?_
   rintro e w1 ⟨rfl, hw1⟩
   rw [hw1]
   exact hI.put (i := 3) (j := 20) rfl (by omega) (by decide) (Below.refl _ _) (AV.of (by decide) rfl) hI.1.cw
  ·simp [Oper.wp, go_sem, o9]
   exact hI.put (i := 4) (j := 21) rfl (by omega) (by decide) (Below.refl _ _) (AV.of (by decide) rfl) hI.1.cw
  ·have e31 : a'.tmps[31]?.getD undef = .pointer (some ⟨R, 2, none⟩) := AV.eq (hI.1.at (k := 4) (j := 21) hsz rfl (by omega) (hall ⟨4, .data⟩ (by simp) rfl)) (by decide)
   simp [Oper.wp, go_sem, e31, x2]
   exact hI.put (i := 5) (j := 22) rfl (by omega) (by decide) (Below.refl _ _) (AV.of (by decide) rfl) hI.1.cw
  ·simp [Oper.wp, go_sem, o2]
   exact hI.put (i := 6) (j := 23) rfl (by omega) (by decide) (Below.refl _ _) (AV.of (by decide) rfl) hI.1.cw
  ·have e32 : a'.tmps[32]?.getD undef = .int .i64 k2 := AV.eq (hI.1.at (k := 5) (j := 22) hsz rfl (by omega) (hall ⟨5, .data⟩ (by simp) rfl)) (by decide)
   have e33 : a'.tmps[33]?.getD undef = .int .i64 nodes := AV.eq (hI.1.at (k := 6) (j := 23) hsz rfl (by omega) (hall ⟨6, .data⟩ (by simp) rfl)) (by decide)
   simp [Oper.wp, go_sem, e32, e33]
   refine (picked_any k2 nodes W hk2.1 hk2.2 (by omega) (by omega)).mono ?_
   rintro e w1 ⟨rfl, hw1⟩
   rw [hw1]
   exact hI.put (i := 7) (j := 24) rfl (by omega) (by decide) (Below.refl _ _) (AV.of (by decide) rfl) hI.1.cw
  ·have e30 : a'.tmps[30]?.getD undef = .int .i64 (Pl.pk k1 nodes) := AV.eq (hI.1.at (k := 3) (j := 20) hsz rfl (by omega) (hall ⟨3, .data⟩ (by simp) rfl)) (by decide)
   have e34 : a'.tmps[34]?.getD undef = .int .i64 (Pl.pk k2 nodes) := AV.eq (hI.1.at (k := 7) (j := 24) hsz rfl (by omega) (hall ⟨7, .data⟩ (by simp) rfl)) (by decide)
   simp [Oper.wp, go_sem, e30, e34]
   exact hI.put (i := 8) (j := 25) rfl (by omega) (by decide) (Below.refl _ _) (AV.of (by decide) rfl) hI.1.cw
  ·simp [Oper.wp, go_sem]
   have hb' : Below W.heap.size W (W.alloc (.cells #[.int .i64 0, .int .i64 0, .int .i64 0, .int .i64 0, .int .i64 0, .int .i64 0, .int .i64 0, .string ⟨#[]⟩, .string ⟨#[]⟩] 51)) := (Below.refl _ _).alloc (Nat.le_refl _) _
   exact hI.put (i := 9) (j := 0) rfl (by omega) (by decide) hb' (AV.box ⟨W.heap.size, ⟨0, 0, 0, 0, 0, (0, 0), ⟨#[]⟩, ⟨#[]⟩⟩, rfl, hI.1.cw.size, heapNew _ _, Pl.AcG.zero hn⟩) (hI.1.cw.trans (hb'.mono hI.1.cw.size))
  ·obtain ⟨X, y, e10, hX, hxx, hyy⟩ := AV.isBox (hI.1.at (k := 9) (j := 0) hsz rfl (by omega) (hall ⟨9, .data⟩ (by simp) rfl))
   have e10 : a'.tmps[10]?.getD undef = .pointer (some ⟨X, 0, none⟩) := e10
   have e35 : a'.tmps[35]?.getD undef = .agg #[.int .i64 0, .int .i64 (Pl.pk k1 nodes), .int .i64 (Pl.pk k2 nodes), .int .i64 (-1), .int .i64 0, .int .i64 0, .int .i64 0, .string ⟨#[]⟩, .string ⟨#[]⟩] := AV.eq (hI.1.at (k := 8) (j := 25) hsz rfl (by omega) (hall ⟨8, .data⟩ (by simp) rfl)) (by decide)
   obtain ⟨⟨y0, y1, y2, y3, y4, y5, y6, y7, y8⟩, yf, yl⟩ := hxx.box
   simp [Oper.wp, go_sem, e10, e35, y0, y1, y2, y3, y4, y5, y6, y7, y8, yf]
   have hfin := AInv.store hI hxx hX hAC (by decide)
   unfold set9 at hfin
   exact hfin
 ·rintro listed a' W hr ⟨hI, hkp⟩
  have hal := all_listed2 (by decide +kernel) hI.ls hr
  obtain ⟨X, x, e10, hX, hxx, hgg⟩ := AV.isBox (hI.at (k := 9) (j := 0) hsz rfl (by omega) (hal 9 (by decide)))
  have hcw := hI.cw
  obtain ⟨xs, hxl, rfl, hf⟩ := hI.fr
  have hat : ∀ j, j < 26 → (setFrom a0.tmps 10 xs)[10 + j]?.getD undef = xs.getD j undef := fun j hj => by
   rw [setFrom_at xs a0.tmps 10 j (by omega) (by omega)]; simp [List.getD]
  refine hQ xs W X x hxl (fun j j1 j2 => (hat j (by omega)).symm.trans (hkp j j1 j2)) ((hat 0 (by omega)).symm.trans e10) hX hxx hgg hcw
 ·exact ⟨RInv.start hsz (Below.refl _ _).drew, fun _ _ _ => rfl⟩
set_option linter.unusedSimpArgs false in
set_option maxHeartbeats 8000000 in
theorem acts8 {Q : Exit → Act → World → Prop} {a0 : Act} {w0 : World} {R A nodes : Nat} {k2 k3 : Int} {x0 : Pl.Ac}
  (hsize : a0.tmps.size = 122) (q9 : a0.tmps[9]?.getD undef = .pointer (some ⟨R, 0, none⟩)) (q10 : a0.tmps[10]?.getD undef = .pointer (some ⟨A, 0, none⟩)) (hR : R < w0.heap.size) (hRA : R ≠ A)
  (c2 : w0.cell? ⟨R, 2, none⟩ = some (.int .i64 k2)) (c3 : w0.cell? ⟨R, 3, none⟩ = some (.int .i64 k3)) (h2 : (Lit.int .i64 k2).wf = true) (h3 : (Lit.int .i64 k3).wf = true) (hx0 : AcB w0 A x0) (hg0 : Pl.AcG nodes x0)
  (hQ : ∀ xs W x, xs.length = 9 → AcB W A x → Pl.AcG nodes x → But A w0 W → Q .normal { a0 with tmps := setFrom a0.tmps 39 xs } W) :
  ∀ ops, regIn Tryz.f17 8 = some ops → (Code.region 8 ops true).wp Tryz.prog Q a0 w0 := by
 intro ops hops
 have eo := Option.some.inj (hops.symm.trans (rfl : regIn Tryz.f17 8 = some _))
 subst eo
 clear hops
 have hsz : 39 + 9 ≤ a0.tmps.size := by omega
 have hk2 := wf_bounds h2
 have hk3 := wf_bounds h3
 have hp2 := Pl.pk_le k2 4 (by omega) (by omega)
 have hp3 := Pl.pk_le k3 256 (by omega) (by omega)
 refine wp_region_any (by kernel_rfl) ?_
 refine wpAny_inv2 (RInv a0 39 9 12 (fun k => ([some 0, some 1, some 2, some 3, some 4, some 5, some 6, none, some 7, none, some 8, none] : List (Option Nat)).getD k none) (fun j u _ => SV.V [SV.eq (.pointer (some ⟨R, 3, none⟩)), SV.eq (.int .i64 k3), SV.eq (.int .i64 (Pl.pk k3 256)), SV.eq (.pointer (some ⟨R, 2, none⟩)), SV.eq (.int .i64 k2), SV.eq (.int .i64 (Pl.pk k2 4)), SV.eq (.pointer (some ⟨A, 0, none⟩)), SV.eq (.pointer (some ⟨A, 3, none⟩)), SV.eq (.pointer (some ⟨A, 4, none⟩))] j u w0) (fun W => But A w0 W ∧ ∃ x, AcB W A x ∧ Pl.AcG nodes x)) ?_ ?_ _ _ _ _ (by decide +kernel) ?_ (closed_start _ _ _)
 ·rintro i listed a' W hi hCl hI
  rw [mem_ready] at hi
  obtain ⟨hl0, o, ho, hall⟩ := hi
  have hlti : i < 12 := (Array.getElem?_eq_some_iff.1 ho).1
  have o9 := (hI.out (k := 9) (by omega)).trans q9
  have o10 := (hI.out (k := 10) (by omega)).trans q10
  obtain ⟨hbut, x, hxx, hgg⟩ := hI.cw
  obtain ⟨⟨y0, y1, y2, y3, y4, y5, y6, y7, y8⟩, yf, yl⟩ := hxx.box
  have x2 := (hbut.cell (p := ⟨R, 2, none⟩) hR hRA).trans c2
  have x3 := (hbut.cell (p := ⟨R, 3, none⟩) hR hRA).trans c3
  have hcs : i = 0 ∨ i = 1 ∨ i = 2 ∨ i = 3 ∨ i = 4 ∨ i = 5 ∨ i = 6 ∨ i = 7 ∨ i = 8 ∨ i = 9 ∨ i = 10 ∨ i = 11 := by omega
  rcases hcs with rfl | rfl | rfl | rfl | rfl | rfl | rfl | rfl | rfl | rfl | rfl | rfl
  all_goals
   simp at ho
   subst ho
   refine wpOp_of rfl rfl ?_
  ·simp [Oper.wp, go_sem, o9]
   exact hI.put (i := 0) (j := 0) rfl (by omega) (fun _ _ h => h) rfl hI.cw
  ·have e39 : a'.tmps[39]?.getD undef = .pointer (some ⟨R, 3, none⟩) := hI.at (k := 0) (j := 0) hsz rfl (by omega) (hall ⟨0, .data⟩ (by simp) rfl)
   simp [Oper.wp, go_sem, e39, x3]
   exact hI.put (i := 1) (j := 1) rfl (by omega) (fun _ _ h => h) rfl hI.cw
  ·have e40 : a'.tmps[40]?.getD undef = .int .i64 k3 := hI.at (k := 1) (j := 1) hsz rfl (by omega) (hall ⟨1, .data⟩ (by simp) rfl)
   simp [Oper.wp, go_sem, e40]
   refine (picked_any k3 256 W hk3.1 hk3.2 (by omega) (by omega)).mono ?_
   rintro e w1 ⟨rfl, hw1⟩
   rw [hw1]
   exact hI.put (i := 2) (j := 2) rfl (by omega) (fun _ _ h => h) rfl hI.cw
  ·simp [Oper.wp, go_sem, o9]
   exact hI.put (i := 3) (j := 3) rfl (by omega) (fun _ _ h => h) rfl hI.cw
  ·have e42 : a'.tmps[42]?.getD undef = .pointer (some ⟨R, 2, none⟩) := hI.at (k := 3) (j := 3) hsz rfl (by omega) (hall ⟨3, .data⟩ (by simp) rfl)
   simp [Oper.wp, go_sem, e42, x2]
   exact hI.put (i := 4) (j := 4) rfl (by omega) (fun _ _ h => h) rfl hI.cw
  ·have e43 : a'.tmps[43]?.getD undef = .int .i64 k2 := hI.at (k := 4) (j := 4) hsz rfl (by omega) (hall ⟨4, .data⟩ (by simp) rfl)
   simp [Oper.wp, go_sem, e43]
   refine (picked_any k2 4 W hk2.1 hk2.2 (by omega) (by omega)).mono ?_
   rintro e w1 ⟨rfl, hw1⟩
   rw [hw1]
   exact hI.put (i := 5) (j := 5) rfl (by omega) (fun _ _ h => h) rfl hI.cw
  ·simp [Oper.wp, go_sem, o10]
   exact hI.put (i := 6) (j := 6) rfl (by omega) (fun _ _ h => h) rfl hI.cw
  ·have e45 : a'.tmps[45]?.getD undef = .pointer (some ⟨A, 0, none⟩) := hI.at (k := 6) (j := 6) hsz rfl (by omega) (hall ⟨6, .data⟩ (by simp) rfl)
   simp [Oper.wp, go_sem, e45, y0, y1, y2, y3, y4, y5, y6, y7, y8, yf]
   exact hI.skip (i := 7) rfl (fun _ _ h => h) ⟨hbut.setCell _ _, _, hxx.kind _, hgg.kind _⟩
  ·simp [Oper.wp, go_sem, o10]
   exact hI.put (i := 8) (j := 7) rfl (by omega) (fun _ _ h => h) rfl hI.cw
  ·have e46 : a'.tmps[46]?.getD undef = .pointer (some ⟨A, 3, none⟩) := hI.at (k := 8) (j := 7) hsz rfl (by omega) (hall ⟨8, .data⟩ (by simp) rfl)
   have e41 : a'.tmps[41]?.getD undef = .int .i64 (Pl.pk k3 256) := hI.at (k := 2) (j := 2) hsz rfl (by omega) (hall ⟨2, .data⟩ (by simp) rfl)
   simp [Oper.wp, go_sem, e46, e41, y0, y1, y2, y3, y4, y5, y6, y7, y8, yf]
   exact hI.skip (i := 9) rfl (fun _ _ h => h) ⟨hbut.setCell _ _, _, hxx.setN _, hgg.setN _ hp3.2⟩
  ·simp [Oper.wp, go_sem, o10]
   exact hI.put (i := 10) (j := 8) rfl (by omega) (fun _ _ h => h) rfl hI.cw
  ·have e47 : a'.tmps[47]?.getD undef = .pointer (some ⟨A, 4, none⟩) := hI.at (k := 10) (j := 8) hsz rfl (by omega) (hall ⟨10, .data⟩ (by simp) rfl)
   have e44 : a'.tmps[44]?.getD undef = .int .i64 (Pl.pk k2 4) := hI.at (k := 5) (j := 5) hsz rfl (by omega) (hall ⟨5, .data⟩ (by simp) rfl)
   simp [Oper.wp, go_sem, e47, e44, y0, y1, y2, y3, y4, y5, y6, y7, y8, yf]
   exact hI.skip (i := 11) rfl (fun _ _ h => h) ⟨hbut.setCell _ _, _, hxx.setM _, hgg.setM _ hp2.2⟩
 ·rintro listed a' W hr hI
  obtain ⟨hbut, x, hxx, hgg⟩ := hI.cw
  obtain ⟨xs, hxl, rfl, hf⟩ := hI.fr
  exact hQ xs W x hxl hxx hgg hbut
 ·exact RInv.start hsz ⟨(But.refl _ _).drew, x0, hx0, hg0⟩
def SV.entry : SV := ⟨fun u _ => ∃ x : Pl.Ent, u = .agg #[.string x.key, .int .i64 x.ver, .int .i64 x.org, .string x.val] ∧ x.may = true, fun _ _ _ _ h => h⟩
def SV.text : SV := ⟨fun u _ => ∃ s : ByteArray, u = .string s ∧ s.size ≤ maxLen, fun _ _ _ _ h => h⟩
theorem entKey {x : Pl.Ent} (h : x.may = true) : x.key.size ≤ maxLen := by
 have h1 := Pl.may_parts h
 unfold maxLen
 omega
theorem entVal {x : Pl.Ent} (h : x.may = true) : x.val.size ≤ maxLen := by
 have h1 := Pl.may_parts h
 unfold maxLen
 omega
set_option linter.unusedSimpArgs false in
set_option maxHeartbeats 8000000 in
theorem acts26 {Q : Exit → Act → World → Prop} {a0 : Act} {w0 : World} {R A nodes : Nat} {k0 k1 k2 k3 : Int} {x0 : Pl.Ac}
  (hsize : a0.tmps.size = 122) (q9 : a0.tmps[9]?.getD undef = .pointer (some ⟨R, 0, none⟩)) (q10 : a0.tmps[10]?.getD undef = .pointer (some ⟨A, 0, none⟩)) (hR : R < w0.heap.size) (hRA : R ≠ A)
  (c0 : w0.cell? ⟨R, 0, none⟩ = some (.int .i64 k0)) (c1 : w0.cell? ⟨R, 1, none⟩ = some (.int .i64 k1)) (c2 : w0.cell? ⟨R, 2, none⟩ = some (.int .i64 k2)) (c3 : w0.cell? ⟨R, 3, none⟩ = some (.int .i64 k3)) (h0 : (Lit.int .i64 k0).wf = true) (h1 : (Lit.int .i64 k1).wf = true) (h2 : (Lit.int .i64 k2).wf = true) (h3 : (Lit.int .i64 k3).wf = true) (hx0 : AcB w0 A x0) (hg0 : Pl.AcG nodes x0)
  (hQ : ∀ xs W x, xs.length = 9 → AcB W A x → Pl.AcG nodes x → But A w0 W → Q .normal { a0 with tmps := setFrom a0.tmps 104 xs } W) :
  ∀ ops, regIn Tryz.f17 26 = some ops → (Code.region 26 ops true).wp Tryz.prog Q a0 w0 := by
 intro ops hops
 have eo := Option.some.inj (hops.symm.trans (rfl : regIn Tryz.f17 26 = some _))
 subst eo
 clear hops
 have hsz : 104 + 9 ≤ a0.tmps.size := by omega
 have hk0 := wf_bounds h0
 refine wp_region_any (by kernel_rfl) ?_
 refine wpAny_inv2 (RInv a0 104 9 12 (fun k => ([some 0, some 1, some 2, some 3, some 4, some 5, some 6, none, some 7, none, some 8, none] : List (Option Nat)).getD k none) (fun j u _ => SV.V [SV.eq (.agg #[.int .i64 k0, .int .i64 k1, .int .i64 k2, .int .i64 k3]), SV.entry, SV.text, SV.eq (.agg #[.int .i64 k0, .int .i64 k1, .int .i64 k2, .int .i64 k3]), SV.entry, SV.text, SV.eq (.pointer (some ⟨A, 0, none⟩)), SV.eq (.pointer (some ⟨A, 7, none⟩)), SV.eq (.pointer (some ⟨A, 8, none⟩))] j u w0) (fun W => But A w0 W ∧ ∃ x, AcB W A x ∧ Pl.AcG nodes x)) ?_ ?_ _ _ _ _ (by decide +kernel) ?_ (closed_start _ _ _)
 ·rintro i listed a' W hi hCl hI
  rw [mem_ready] at hi
  obtain ⟨hl0, o, ho, hall⟩ := hi
  have hlti : i < 12 := (Array.getElem?_eq_some_iff.1 ho).1
  have o9 := (hI.out (k := 9) (by omega)).trans q9
  have o10 := (hI.out (k := 10) (by omega)).trans q10
  obtain ⟨hbut, x, hxx, hgg⟩ := hI.cw
  obtain ⟨⟨y0, y1, y2, y3, y4, y5, y6, y7, y8⟩, yf, yl⟩ := hxx.box
  have x0 := (hbut.cell (p := ⟨R, 0, none⟩) hR hRA).trans c0
  have x1 := (hbut.cell (p := ⟨R, 1, none⟩) hR hRA).trans c1
  have x2 := (hbut.cell (p := ⟨R, 2, none⟩) hR hRA).trans c2
  have x3 := (hbut.cell (p := ⟨R, 3, none⟩) hR hRA).trans c3
  have hcs : i = 0 ∨ i = 1 ∨ i = 2 ∨ i = 3 ∨ i = 4 ∨ i = 5 ∨ i = 6 ∨ i = 7 ∨ i = 8 ∨ i = 9 ∨ i = 10 ∨ i = 11 := by omega
  rcases hcs with rfl | rfl | rfl | rfl | rfl | rfl | rfl | rfl | rfl | rfl | rfl | rfl
  all_goals
   simp at ho
   subst ho
   refine wpOp_of rfl rfl ?_
  ·simp [Oper.wp, go_sem, o9, x0, x1, x2, x3]
   exact hI.put (i := 0) (j := 0) rfl (by omega) (fun _ _ h => h) rfl hI.cw
  ·have e104 : a'.tmps[104]?.getD undef = .agg #[.int .i64 k0, .int .i64 k1, .int .i64 k2, .int .i64 k3] := hI.at (k := 0) (j := 0) hsz rfl (by omega) (hall ⟨0, .data⟩ (by simp) rfl)
   simp [Oper.wp, go_sem, e104]
   refine (Entry_any k0 k1 k2 k3 W h0 h1 h2 h3).mono ?_
   rintro e W' ⟨z, rfl, hm, hb'⟩
   exact hI.put (i := 1) (j := 1) rfl (by omega) (fun _ _ h => h) ⟨z, rfl, hm⟩ ⟨hbut.trans (But.of hb'), x, hxx.below hb', hgg⟩
  ·obtain ⟨z, hz, hm⟩ := hI.at (k := 1) (j := 1) hsz rfl (by omega) (hall ⟨1, .data⟩ (by simp) rfl)
   have hz : a'.tmps[105]?.getD undef = _ := hz
   simp [Oper.wp, go_sem, hz]
   exact hI.put (i := 2) (j := 2) rfl (by omega) (fun _ _ h => h) ⟨_, rfl, entKey hm⟩ hI.cw
  ·simp [Oper.wp, go_sem, o9, x0, x1, x2, x3]
   exact hI.put (i := 3) (j := 3) rfl (by omega) (fun _ _ h => h) rfl hI.cw
  ·have e107 : a'.tmps[107]?.getD undef = .agg #[.int .i64 k0, .int .i64 k1, .int .i64 k2, .int .i64 k3] := hI.at (k := 3) (j := 3) hsz rfl (by omega) (hall ⟨3, .data⟩ (by simp) rfl)
   simp [Oper.wp, go_sem, e107]
   refine (Entry_any k0 k1 k2 k3 W h0 h1 h2 h3).mono ?_
   rintro e W' ⟨z, rfl, hm, hb'⟩
   exact hI.put (i := 4) (j := 4) rfl (by omega) (fun _ _ h => h) ⟨z, rfl, hm⟩ ⟨hbut.trans (But.of hb'), x, hxx.below hb', hgg⟩
  ·obtain ⟨z, hz, hm⟩ := hI.at (k := 4) (j := 4) hsz rfl (by omega) (hall ⟨4, .data⟩ (by simp) rfl)
   have hz : a'.tmps[108]?.getD undef = _ := hz
   simp [Oper.wp, go_sem, hz]
   exact hI.put (i := 5) (j := 5) rfl (by omega) (fun _ _ h => h) ⟨_, rfl, entVal hm⟩ hI.cw
  ·simp [Oper.wp, go_sem, o10]
   exact hI.put (i := 6) (j := 6) rfl (by omega) (fun _ _ h => h) rfl hI.cw
  ·have e110 : a'.tmps[110]?.getD undef = .pointer (some ⟨A, 0, none⟩) := hI.at (k := 6) (j := 6) hsz rfl (by omega) (hall ⟨6, .data⟩ (by simp) rfl)
   simp [Oper.wp, go_sem, e110, y0, y1, y2, y3, y4, y5, y6, y7, y8, yf]
   exact hI.skip (i := 7) rfl (fun _ _ h => h) ⟨hbut.setCell _ _, _, hxx.kind _, hgg.kind _⟩
  ·simp [Oper.wp, go_sem, o10]
   exact hI.put (i := 8) (j := 7) rfl (by omega) (fun _ _ h => h) rfl hI.cw
  ·obtain ⟨s, hs, hsl⟩ := hI.at (k := 2) (j := 2) hsz rfl (by omega) (hall ⟨2, .data⟩ (by simp) rfl)
   have hs : a'.tmps[106]?.getD undef = _ := hs
   have e111 : a'.tmps[111]?.getD undef = .pointer (some ⟨A, 7, none⟩) := hI.at (k := 8) (j := 7) hsz rfl (by omega) (hall ⟨8, .data⟩ (by simp) rfl)
   simp [Oper.wp, go_sem, e111, hs, y0, y1, y2, y3, y4, y5, y6, y7, y8, yf]
   exact hI.skip (i := 9) rfl (fun _ _ h => h) ⟨hbut.setCell _ _, _, hxx.setKey _, hgg.setKey _ hsl⟩
  ·simp [Oper.wp, go_sem, o10]
   exact hI.put (i := 10) (j := 8) rfl (by omega) (fun _ _ h => h) rfl hI.cw
  ·obtain ⟨s, hs, hsl⟩ := hI.at (k := 5) (j := 5) hsz rfl (by omega) (hall ⟨5, .data⟩ (by simp) rfl)
   have hs : a'.tmps[109]?.getD undef = _ := hs
   have e112 : a'.tmps[112]?.getD undef = .pointer (some ⟨A, 8, none⟩) := hI.at (k := 10) (j := 8) hsz rfl (by omega) (hall ⟨10, .data⟩ (by simp) rfl)
   simp [Oper.wp, go_sem, e112, hs, y0, y1, y2, y3, y4, y5, y6, y7, y8, yf]
   exact hI.skip (i := 11) rfl (fun _ _ h => h) ⟨hbut.setCell _ _, _, hxx.setVal _, hgg.setVal _ hsl⟩
 ·rintro listed a' W hr hI
  obtain ⟨hbut, x, hxx, hgg⟩ := hI.cw
  obtain ⟨xs, hxl, rfl, hf⟩ := hI.fr
  exact hQ xs W x hxl hxx hgg hbut
 ·exact RInv.start hsz ⟨(But.refl _ _).drew, x0, hx0, hg0⟩
theorem listA9 (xs : List Value) (h : xs.length = 9) : ∃ x0 x1 x2 x3 x4 x5 x6 x7 x8, xs = [x0, x1, x2, x3, x4, x5, x6, x7, x8] := by
 match xs, h with
 | [x0, x1, x2, x3, x4, x5, x6, x7, x8], _ => exact ⟨x0, x1, x2, x3, x4, x5, x6, x7, x8, rfl⟩
set_option maxHeartbeats 16000000 in
theorem Acts_any (a : Option Addr) (len cap : Nat) (most nodes : Nat) (w : World) (h : IsRaws w a len cap) (hm : most ≤ 60) (hn1 : 1 ≤ nodes) (hn2 : nodes ≤ 12) :
  Calls Tryz.prog 17 #[.slice a len cap, .int .i64 (most : Int), .int .i64 (nodes : Int)] w fun e w' => ∃ v xs, e = .returned v ∧ OwnAc w' w.heap.size v xs ∧ xs.length ≤ most ∧ (∀ x ∈ xs, Pl.AcG nodes x) ∧ Below w.heap.size w w' := by
 have HH := hid h
 have hlc := h.1
 have hcm := h.2.1
 unfold maxLen at hcm
 clear h
 go_enter Tryz.func17, Tryz.ntmps17
 go_wp2_with fail
 go_loopw [7, 8] (fun vo i wr => ∃ (k : Nat) (xs : List Pl.Ac) (u : Value), u = vo ∧ k ≤ len ∧ k ≤ most ∧ i = .int .i64 k ∧ Hid (OwnAc wr w.heap.size u xs) ∧ Hid (xs.length ≤ k) ∧ Hid (∀ x ∈ xs, Pl.AcG nodes x) ∧ Hid (Below w.heap.size w wr)) (fun _ i _ => len - (intOf i).toNat)
 case atStart => exact ⟨0, [], _, rfl, Nat.zero_le _, Nat.zero_le _, rfl, hid (OwnAc.nil _ _), hid (Nat.le_refl _), hid (by simp), hid (Below.refl _ _)⟩
 case round =>
  obtain ⟨k, xs, u, rfl, hk, hkm, rfl, HO, HL, HG, HB⟩ := hrel
  have hzr := HB.out.size
  obtain ⟨oa, oc, rfl⟩ := ownsRow_slice HO.out
  obtain ⟨no, HNO⟩ : ∃ c, Hid (xs.length = c) := ⟨_, hid rfl⟩
  have hno : no ≤ 1000000 := by have := HL.out; have := HNO.out; omega
  rw [HNO.out] at HO ⊢
  by_cases hlt : k < len
  ·by_cases hlm : k < most
   ·obtain ⟨b, off, rfl, hb, hr⟩ := (HH.out.below HB.out).2.2.resolve_left (by omega)
    obtain ⟨k0, k1, k2, k3, ⟨q0, q1, q2, q3⟩, w0, w1, w2, w3⟩ := hr k hlt
    have W0 := hid w0
    have W1 := hid w1
    have W2 := hid w2
    have W3 := hid w3
    clear hr w0 w1 w2 w3
    have hlt' : (k : Int) < len := by omega
    have hlm' : (k : Int) < most := by omega
    go_wp2_with fail
    rename_i K hK
    obtain ⟨Wr, HWr⟩ : ∃ W, Hid (W = wr.alloc (.cells #[.int .i64 k0, .int .i64 k1, .int .i64 k2, .int .i64 k3] 98)) := ⟨_, hid rfl⟩
    have hbr : Below wr.heap.size wr Wr := by rw [HWr.out]; exact (Below.refl _ _).alloc (Nat.le_refl _) _
    have hzR : wr.heap.size < Wr.heap.size := by rw [HWr.out]; simp
    have c0 : Wr.cell? ⟨wr.heap.size, 0, none⟩ = some (.int .i64 k0) := by rw [HWr.out]; simp
    have c1 : Wr.cell? ⟨wr.heap.size, 1, none⟩ = some (.int .i64 k1) := by rw [HWr.out]; simp
    have c2 : Wr.cell? ⟨wr.heap.size, 2, none⟩ = some (.int .i64 k2) := by rw [HWr.out]; simp
    have c3 : Wr.cell? ⟨wr.heap.size, 3, none⟩ = some (.int .i64 k3) := by rw [HWr.out]; simp
    rw [← HWr.out]
    refine acts6 (R := wr.heap.size) (nodes := nodes) (k1 := k1) (k2 := k2) rfl rfl rfl hzR c1 c2 W1.out W2.out hn1 hn2 ?_ _ (by kernel_rfl)
    intro ys W X x hxl hkp e10 hX hxx hgg hbw
    obtain ⟨x0, x1, x2, x3, x4, x5, x6, x7, x8, x9, x10, x11, x12, x13, x14, x15, x16, x17, x18, x19, x20, x21, x22, x23, x24, x25, rfl⟩ := listN26 ys hxl
    have e10 : x0 = .pointer (some ⟨X, 0, none⟩) := e10
    subst e10
    clear hkp hxl
    have d0 := (hbw.cell (p := ⟨wr.heap.size, 0, none⟩) hzR).trans c0
    have d1 := (hbw.cell (p := ⟨wr.heap.size, 1, none⟩) hzR).trans c1
    have d2 := (hbw.cell (p := ⟨wr.heap.size, 2, none⟩) hzR).trans c2
    have d3 := (hbw.cell (p := ⟨wr.heap.size, 3, none⟩) hzR).trans c3
    have hzW : Wr.heap.size ≤ W.heap.size := hbw.size
    have hRX : wr.heap.size ≠ X := by omega
    have hwX : w.heap.size ≤ X := by omega
    have hRW : wr.heap.size < W.heap.size := by omega
    have HBW : Hid (Below w.heap.size w W) := hid (HB.out.trans ((hbr.trans (hbw.mono (by omega))).mono hzr))
    have HBR : Hid (Below wr.heap.size wr W) := hid (hbr.trans (hbw.mono (by omega)))
    have HXX := hid hxx
    have HGG := hid hgg
    clear c0 c1 c2 c3 hbw hbr hxx hgg q0 q1 q2 q3 HWr HB
    obtain ⟨⟨y0, y1, y2, y3, y4, y5, y6, y7, y8⟩, yf, yl⟩ := HXX.out.box
    have b0 := wf_bounds W0.out
    have b3 := wf_bounds W3.out
    obtain ⟨kd, HKD⟩ : ∃ c, Hid (Pl.pk k0 24 = c) := ⟨_, hid rfl⟩
    have HP24 := hid (fun W => picked_any k0 24 W b0.1 b0.2 (by omega) (by omega))
    have hkd := Pl.pk_range k0 24 (by omega)
    rw [HKD.out] at HP24 hkd
    obtain ⟨p5, HQ5⟩ : ∃ c, Hid (Pl.pk k3 5 = c) := ⟨_, hid rfl⟩
    have HP5 := hid (fun W => picked_any k3 5 W b3.1 b3.2 (by omega) (by omega))
    have hp5 := Pl.pk_range k3 5 (by omega)
    rw [HQ5.out] at HP5 hp5
    obtain ⟨p2, HQ2⟩ : ∃ c, Hid (Pl.pk k3 2 = c) := ⟨_, hid rfl⟩
    have HP2 := hid (fun W => picked_any k3 2 W b3.1 b3.2 (by omega) (by omega))
    have hp2 := Pl.pk_range k3 2 (by omega)
    rw [HQ2.out] at HP2 hp2
    obtain ⟨p8, HQ8⟩ : ∃ c, Hid (Pl.pk k3 8 = c) := ⟨_, hid rfl⟩
    have HP8 := hid (fun W => picked_any k3 8 W b3.1 b3.2 (by omega) (by omega))
    have hp8 := Pl.pk_range k3 8 (by omega)
    rw [HQ8.out] at HP8 hp8
    obtain ⟨p100, HQ100⟩ : ∃ c, Hid (Pl.pk k3 100 = c) := ⟨_, hid rfl⟩
    have HP100 := hid (fun W => picked_any k3 100 W b3.1 b3.2 (by omega) (by omega))
    have hp100 := Pl.pk_range k3 100 (by omega)
    rw [HQ100.out] at HP100 hp100
    have HPX := hid (fun W => prefix_any k3 W W3.out)
    obtain ⟨b00, b01⟩ := b0
    obtain ⟨b30, b31⟩ := b3
    have HFIN : Hid (∀ (Wz : World) (z : Pl.Ac), But X W Wz → Pl.AcG nodes z → OwnAc Wz w.heap.size (.slice oa no oc) xs ∧ Below w.heap.size w Wz ∧ w.heap.size ≤ Wz.heap.size ∧ (∀ y ∈ xs ++ [z], Pl.AcG nodes y) ∧ (xs ++ [z]).length ≤ k + 1) := hid fun Wz z hb hz => by
     have h1 := HL.out
     refine ⟨HO.out.below (HBR.out.trans (hb.below (by omega) (by omega))), HBW.out.trans (hb.below hwX HBW.out.size), Nat.le_trans HBW.out.size hb.size, ?_, by rw [List.length_append]; simp; omega⟩
     intro y hy
     rcases List.mem_append.1 hy with hy | hy
     ·exact HG.out y hy
     ·rw [List.mem_singleton.1 hy]; exact hz
    simp only [setFrom_spl, spl]
    refine hK _ W ?_
    clear K hK
    rcases (by omega : (0 ≤ kd ∧ kd < 6) ∨ (kd = 6) ∨ (kd = 7) ∨ (8 ≤ kd ∧ kd < 10) ∨ (kd = 10) ∨ (11 ≤ kd ∧ kd < 14) ∨ (14 ≤ kd ∧ kd < 19) ∨ (kd = 19) ∨ (20 ≤ kd ∧ kd < 22) ∨ (22 ≤ kd ∧ kd < 24)) with h | h | h | h | h | h | h | h | h | h
    ·have t6 : kd < 6 := by omega
     have HFA := hid (HFIN.out ((W.setCell ⟨X, 0, none⟩ (.int .i64 1)).setCell ⟨X, 3, none⟩ (.int .i64 (1 + p5))) { x with kind := 1, n := 1 + p5 } (((But.refl X W).setCell _ _).setCell _ _) ((HGG.out.kind 1).setN (1 + p5) (by omega)))
     have HSZ : Hid (((W.setCell ⟨X, 0, none⟩ (.int .i64 1)).setCell ⟨X, 3, none⟩ (.int .i64 (1 + p5))).heap.size = W.heap.size) := hid (by simp)
     clear HFIN
     go_wp2_with (first | (go_at_call 19; refine (picked_any _ _ _ (by assumption) (by assumption) (by omega) (by omega)).mono ?_; rintro e w' ⟨rfl, hw'⟩; rw [hw']; clear hw' w'; first | rw [HKD.out] | rw [HQ5.out] | rw [HQ2.out] | rw [HQ8.out] | rw [HQ100.out]) | (at_builtin; refine append_ac rfl (.tmp 117) (.tmp 119) rfl w.heap.size (.slice oa no oc) xs { x with kind := 1, n := 1 + p5 } rfl HFA.out.1 HFA.out.2.2.1 (by rw [HSZ.out]; rfl) (by rw [HNO.out]; exact hno) ?_; intro v5 w5 ho5 hb5; have HO5 := hid ho5; have HB5 := hid hb5; clear ho5 hb5))
     go_roundw
     case rel =>
      first
       | exact ⟨k + 1, _, _, rfl, by omega, by omega, by go_num, HO5, hid HFA.out.2.2.2.2, hid HFA.out.2.2.2.1, hid (HFA.out.2.1.trans HB5.out)⟩
       | (repeat apply Exists.intro
                 exact ⟨⟨k + 1, _, _, rfl, by omega, by omega, by go_num, HO5, hid HFA.out.2.2.2.2, hid HFA.out.2.2.2.1, hid (HFA.out.2.1.trans HB5.out)⟩, rfl⟩)
     case measure => simp [intOf]; omega
    ·subst h
     have HFA := hid (HFIN.out (W.setCell ⟨X, 0, none⟩ (.int .i64 2)) { x with kind := 2 } ((But.refl X W).setCell _ _) (HGG.out.kind 2))
     have HSZ : Hid ((W.setCell ⟨X, 0, none⟩ (.int .i64 2)).heap.size = W.heap.size) := hid (by simp)
     clear HFIN
     go_wp2_with (first | (go_at_call 19; refine (picked_any _ _ _ (by assumption) (by assumption) (by omega) (by omega)).mono ?_; rintro e w' ⟨rfl, hw'⟩; rw [hw']; clear hw' w'; first | rw [HKD.out] | rw [HQ5.out] | rw [HQ2.out] | rw [HQ8.out] | rw [HQ100.out]) | (at_builtin; refine append_ac rfl (.tmp 117) (.tmp 119) rfl w.heap.size (.slice oa no oc) xs { x with kind := 2 } rfl HFA.out.1 HFA.out.2.2.1 (by rw [HSZ.out]; rfl) (by rw [HNO.out]; exact hno) ?_; intro v5 w5 ho5 hb5; have HO5 := hid ho5; have HB5 := hid hb5; clear ho5 hb5))
     go_roundw
     case rel =>
      first
       | exact ⟨k + 1, _, _, rfl, by omega, by omega, by go_num, HO5, hid HFA.out.2.2.2.2, hid HFA.out.2.2.2.1, hid (HFA.out.2.1.trans HB5.out)⟩
       | (repeat apply Exists.intro
                 exact ⟨⟨k + 1, _, _, rfl, by omega, by omega, by go_num, HO5, hid HFA.out.2.2.2.2, hid HFA.out.2.2.2.1, hid (HFA.out.2.1.trans HB5.out)⟩, rfl⟩)
     case measure => simp [intOf]; omega
    ·subst h
     have HFA := hid (HFIN.out ((W.setCell ⟨X, 0, none⟩ (.int .i64 3)).setCell ⟨X, 3, none⟩ (.int .i64 p2)) { x with kind := 3, n := p2 } (((But.refl X W).setCell _ _).setCell _ _) ((HGG.out.kind 3).setN p2 (by omega)))
     have HSZ : Hid (((W.setCell ⟨X, 0, none⟩ (.int .i64 3)).setCell ⟨X, 3, none⟩ (.int .i64 p2)).heap.size = W.heap.size) := hid (by simp)
     clear HFIN
     go_wp2_with (first | (go_at_call 19; refine (picked_any _ _ _ (by assumption) (by assumption) (by omega) (by omega)).mono ?_; rintro e w' ⟨rfl, hw'⟩; rw [hw']; clear hw' w'; first | rw [HKD.out] | rw [HQ5.out] | rw [HQ2.out] | rw [HQ8.out] | rw [HQ100.out]) | (at_builtin; refine append_ac rfl (.tmp 117) (.tmp 119) rfl w.heap.size (.slice oa no oc) xs { x with kind := 3, n := p2 } rfl HFA.out.1 HFA.out.2.2.1 (by rw [HSZ.out]; rfl) (by rw [HNO.out]; exact hno) ?_; intro v5 w5 ho5 hb5; have HO5 := hid ho5; have HB5 := hid hb5; clear ho5 hb5))
     go_roundw
     case rel =>
      first
       | exact ⟨k + 1, _, _, rfl, by omega, by omega, by go_num, HO5, hid HFA.out.2.2.2.2, hid HFA.out.2.2.2.1, hid (HFA.out.2.1.trans HB5.out)⟩
       | (repeat apply Exists.intro
                 exact ⟨⟨k + 1, _, _, rfl, by omega, by omega, by go_num, HO5, hid HFA.out.2.2.2.2, hid HFA.out.2.2.2.1, hid (HFA.out.2.1.trans HB5.out)⟩, rfl⟩)
     case measure => simp [intOf]; omega
    ·have t6 : ¬ kd < 6 := by omega
     have s6 : (kd == 6) = false := by simp; omega
     have s7 : (kd == 7) = false := by simp; omega
     have t10 : kd < 10 := by omega
     clear h
     go_wp2_with (first | (go_at_call 19; refine (picked_any _ _ _ (by assumption) (by assumption) (by omega) (by omega)).mono ?_; rintro e w' ⟨rfl, hw'⟩; rw [hw']; clear hw' w'; first | rw [HKD.out] | rw [HQ5.out] | rw [HQ2.out] | rw [HQ8.out] | rw [HQ100.out]) | (go_at_call 48; refine (HPX.out _).mono ?_; rintro e w7 ⟨⟨p1, p2⟩, rfl, hp, hb7⟩; have HFA := hid (HFIN.out (((w7.setCell ⟨X, 0, none⟩ (.int .i64 4)).setCell ⟨X, 5, none⟩ (.int .i64 p1)).setCell ⟨X, 6, none⟩ (.int .i64 p2)) { x with kind := 4, p := (p1, p2) } ((((But.of hb7).setCell _ _).setCell _ _).setCell _ _) ((HGG.out.kind 4).setP (p1, p2) hp)); have HSZ : Hid ((((w7.setCell ⟨X, 0, none⟩ (.int .i64 4)).setCell ⟨X, 5, none⟩ (.int .i64 p1)).setCell ⟨X, 6, none⟩ (.int .i64 p2)).heap.size = w7.heap.size) := hid (by simp); obtain ⟨⟨z0, z1, z2, z3, z4, z5, z6, z7, z8⟩, zf, zl⟩ := (HXX.out.below hb7).box; clear HFIN hp hb7 y0 y1 y2 y3 y4 y5 y6 y7 y8 yf yl d0 d1 d2 d3) | (at_builtin; refine append_ac rfl (.tmp 117) (.tmp 119) rfl w.heap.size (.slice oa no oc) xs { x with kind := 4, p := (p1, p2) } rfl HFA.out.1 HFA.out.2.2.1 (by rw [HSZ.out]; rfl) (by rw [HNO.out]; exact hno) ?_; intro v5 w5 ho5 hb5; have HO5 := hid ho5; have HB5 := hid hb5; clear ho5 hb5))
     go_roundw
     case rel =>
      first
       | exact ⟨k + 1, _, _, rfl, by omega, by omega, by go_num, HO5, hid HFA.out.2.2.2.2, hid HFA.out.2.2.2.1, hid (HFA.out.2.1.trans HB5.out)⟩
       | (repeat apply Exists.intro
                 exact ⟨⟨k + 1, _, _, rfl, by omega, by omega, by go_num, HO5, hid HFA.out.2.2.2.2, hid HFA.out.2.2.2.1, hid (HFA.out.2.1.trans HB5.out)⟩, rfl⟩)
     case measure => simp [intOf]; omega
    ·subst h
     go_wp2_with (first | (go_at_call 19; refine (picked_any _ _ _ (by assumption) (by assumption) (by omega) (by omega)).mono ?_; rintro e w' ⟨rfl, hw'⟩; rw [hw']; clear hw' w'; first | rw [HKD.out] | rw [HQ5.out] | rw [HQ2.out] | rw [HQ8.out] | rw [HQ100.out]) | (go_at_call 48; refine (HPX.out _).mono ?_; rintro e w7 ⟨⟨p1, p2⟩, rfl, hp, hb7⟩; have HFA := hid (HFIN.out (((w7.setCell ⟨X, 0, none⟩ (.int .i64 5)).setCell ⟨X, 5, none⟩ (.int .i64 p1)).setCell ⟨X, 6, none⟩ (.int .i64 p2)) { x with kind := 5, p := (p1, p2) } ((((But.of hb7).setCell _ _).setCell _ _).setCell _ _) ((HGG.out.kind 5).setP (p1, p2) hp)); have HSZ : Hid ((((w7.setCell ⟨X, 0, none⟩ (.int .i64 5)).setCell ⟨X, 5, none⟩ (.int .i64 p1)).setCell ⟨X, 6, none⟩ (.int .i64 p2)).heap.size = w7.heap.size) := hid (by simp); obtain ⟨⟨z0, z1, z2, z3, z4, z5, z6, z7, z8⟩, zf, zl⟩ := (HXX.out.below hb7).box; clear HFIN hp hb7 y0 y1 y2 y3 y4 y5 y6 y7 y8 yf yl d0 d1 d2 d3) | (at_builtin; refine append_ac rfl (.tmp 117) (.tmp 119) rfl w.heap.size (.slice oa no oc) xs { x with kind := 5, p := (p1, p2) } rfl HFA.out.1 HFA.out.2.2.1 (by rw [HSZ.out]; rfl) (by rw [HNO.out]; exact hno) ?_; intro v5 w5 ho5 hb5; have HO5 := hid ho5; have HB5 := hid hb5; clear ho5 hb5))
     go_roundw
     case rel =>
      first
       | exact ⟨k + 1, _, _, rfl, by omega, by omega, by go_num, HO5, hid HFA.out.2.2.2.2, hid HFA.out.2.2.2.1, hid (HFA.out.2.1.trans HB5.out)⟩
       | (repeat apply Exists.intro
                 exact ⟨⟨k + 1, _, _, rfl, by omega, by omega, by go_num, HO5, hid HFA.out.2.2.2.2, hid HFA.out.2.2.2.1, hid (HFA.out.2.1.trans HB5.out)⟩, rfl⟩)
     case measure => simp [intOf]; omega
    ·have t6 : ¬ kd < 6 := by omega
     have s6 : (kd == 6) = false := by simp; omega
     have s7 : (kd == 7) = false := by simp; omega
     have t10 : ¬ kd < 10 := by omega
     have s10 : (kd == 10) = false := by simp; omega
     have t14 : kd < 14 := by omega
     have HFA := hid (HFIN.out (W.setCell ⟨X, 0, none⟩ (.int .i64 6)) { x with kind := 6 } ((But.refl X W).setCell _ _) (HGG.out.kind 6))
     have HSZ : Hid ((W.setCell ⟨X, 0, none⟩ (.int .i64 6)).heap.size = W.heap.size) := hid (by simp)
     clear HFIN
     go_wp2_with (first | (go_at_call 19; refine (picked_any _ _ _ (by assumption) (by assumption) (by omega) (by omega)).mono ?_; rintro e w' ⟨rfl, hw'⟩; rw [hw']; clear hw' w'; first | rw [HKD.out] | rw [HQ5.out] | rw [HQ2.out] | rw [HQ8.out] | rw [HQ100.out]) | (at_builtin; refine append_ac rfl (.tmp 117) (.tmp 119) rfl w.heap.size (.slice oa no oc) xs { x with kind := 6 } rfl HFA.out.1 HFA.out.2.2.1 (by rw [HSZ.out]; rfl) (by rw [HNO.out]; exact hno) ?_; intro v5 w5 ho5 hb5; have HO5 := hid ho5; have HB5 := hid hb5; clear ho5 hb5))
     go_roundw
     case rel =>
      first
       | exact ⟨k + 1, _, _, rfl, by omega, by omega, by go_num, HO5, hid HFA.out.2.2.2.2, hid HFA.out.2.2.2.1, hid (HFA.out.2.1.trans HB5.out)⟩
       | (repeat apply Exists.intro
                 exact ⟨⟨k + 1, _, _, rfl, by omega, by omega, by go_num, HO5, hid HFA.out.2.2.2.2, hid HFA.out.2.2.2.1, hid (HFA.out.2.1.trans HB5.out)⟩, rfl⟩)
     case measure => simp [intOf]; omega
    ·have t6 : ¬ kd < 6 := by omega
     have s6 : (kd == 6) = false := by simp; omega
     have s7 : (kd == 7) = false := by simp; omega
     have t10 : ¬ kd < 10 := by omega
     have s10 : (kd == 10) = false := by simp; omega
     have t14 : ¬ kd < 14 := by omega
     have t19 : kd < 19 := by omega
     by_cases h8 : p8 = 0
     ·subst h8
      have HFA := hid (HFIN.out ((W.setCell ⟨X, 0, none⟩ (.int .i64 7)).setCell ⟨X, 3, none⟩ (.int .i64 p100)) { x with kind := 7, n := p100 } (((But.refl X W).setCell _ _).setCell _ _) ((HGG.out.kind 7).setN p100 (by omega)))
      have HSZ : Hid (((W.setCell ⟨X, 0, none⟩ (.int .i64 7)).setCell ⟨X, 3, none⟩ (.int .i64 p100)).heap.size = W.heap.size) := hid (by simp)
      clear HFIN
      go_wp2_with (first | (go_at_call 19; refine (picked_any _ _ _ (by assumption) (by assumption) (by omega) (by omega)).mono ?_; rintro e w' ⟨rfl, hw'⟩; rw [hw']; clear hw' w'; first | rw [HKD.out] | rw [HQ5.out] | rw [HQ2.out] | rw [HQ8.out] | rw [HQ100.out]) | (at_builtin; refine append_ac rfl (.tmp 117) (.tmp 119) rfl w.heap.size (.slice oa no oc) xs { x with kind := 7, n := p100 } rfl HFA.out.1 HFA.out.2.2.1 (by rw [HSZ.out]; rfl) (by rw [HNO.out]; exact hno) ?_; intro v5 w5 ho5 hb5; have HO5 := hid ho5; have HB5 := hid hb5; clear ho5 hb5))
      go_roundw
      case rel =>
       first
        | exact ⟨k + 1, _, _, rfl, by omega, by omega, by go_num, HO5, hid HFA.out.2.2.2.2, hid HFA.out.2.2.2.1, hid (HFA.out.2.1.trans HB5.out)⟩
        | (repeat apply Exists.intro
                   exact ⟨⟨k + 1, _, _, rfl, by omega, by omega, by go_num, HO5, hid HFA.out.2.2.2.2, hid HFA.out.2.2.2.1, hid (HFA.out.2.1.trans HB5.out)⟩, rfl⟩)
      case measure => simp [intOf]; omega
     ·have h8b : (p8 == 0) = false := by simp; omega
      have HFA := hid (HFIN.out (W.setCell ⟨X, 0, none⟩ (.int .i64 7)) { x with kind := 7 } ((But.refl X W).setCell _ _) (HGG.out.kind 7))
      have HSZ : Hid ((W.setCell ⟨X, 0, none⟩ (.int .i64 7)).heap.size = W.heap.size) := hid (by simp)
      clear HFIN
      go_wp2_with (first | (go_at_call 19; refine (picked_any _ _ _ (by assumption) (by assumption) (by omega) (by omega)).mono ?_; rintro e w' ⟨rfl, hw'⟩; rw [hw']; clear hw' w'; first | rw [HKD.out] | rw [HQ5.out] | rw [HQ2.out] | rw [HQ8.out] | rw [HQ100.out]) | (at_builtin; refine append_ac rfl (.tmp 117) (.tmp 119) rfl w.heap.size (.slice oa no oc) xs { x with kind := 7 } rfl HFA.out.1 HFA.out.2.2.1 (by rw [HSZ.out]; rfl) (by rw [HNO.out]; exact hno) ?_; intro v5 w5 ho5 hb5; have HO5 := hid ho5; have HB5 := hid hb5; clear ho5 hb5))
      go_roundw
      case rel =>
       first
        | exact ⟨k + 1, _, _, rfl, by omega, by omega, by go_num, HO5, hid HFA.out.2.2.2.2, hid HFA.out.2.2.2.1, hid (HFA.out.2.1.trans HB5.out)⟩
        | (repeat apply Exists.intro
                   exact ⟨⟨k + 1, _, _, rfl, by omega, by omega, by go_num, HO5, hid HFA.out.2.2.2.2, hid HFA.out.2.2.2.1, hid (HFA.out.2.1.trans HB5.out)⟩, rfl⟩)
      case measure => simp [intOf]; omega
    ·subst h
     go_wp2_with (go_at_call 19; refine (picked_any _ _ _ (by assumption) (by assumption) (by omega) (by omega)).mono ?_; rintro e w' ⟨rfl, hw'⟩; rw [hw']; clear hw' w'; first | rw [HKD.out] | rw [HQ5.out] | rw [HQ2.out] | rw [HQ8.out] | rw [HQ100.out])
     rename ∀ (a : Act) (w : World), Code.wp _ _ _ a w → _ => hK
     refine acts26 (R := wr.heap.size) (A := X) (nodes := nodes) (k0 := k0) (k1 := k1) (k2 := k2) (k3 := k3) rfl rfl rfl hRW hRX d0 d1 d2 d3 W0.out W1.out W2.out W3.out HXX.out HGG.out ?_ _ (by kernel_rfl)
     intro zs Wz z hzl hzz hzg hbz
     obtain ⟨z0, z1, z2, z3, z4, z5, z6, z7, z8, rfl⟩ := listA9 zs hzl
     have HFA := hid (HFIN.out Wz z hbz hzg)
     have HSZ : Hid (Wz.heap.size = Wz.heap.size) := hid rfl
     obtain ⟨⟨v0, v1, v2, v3, v4, v5, v6, v7, v8⟩, vf, vl⟩ := hzz.box
     clear HFIN hzz hzg hbz hzl y0 y1 y2 y3 y4 y5 y6 y7 y8 yf d0 d1 d2 d3
     simp only [setFrom_spl, spl]
     refine hK _ Wz ?_
     clear hK
     go_wp2_with (at_builtin; refine append_ac rfl (.tmp 117) (.tmp 119) rfl w.heap.size (.slice oa no oc) xs z rfl HFA.out.1 HFA.out.2.2.1 (by rw [HSZ.out]; rfl) (by rw [HNO.out]; exact hno) ?_; intro v5 w5 ho5 hb5; have HO5 := hid ho5; have HB5 := hid hb5; clear ho5 hb5)
     go_roundw
     case rel =>
      first
       | exact ⟨k + 1, _, _, rfl, by omega, by omega, by go_num, HO5, hid HFA.out.2.2.2.2, hid HFA.out.2.2.2.1, hid (HFA.out.2.1.trans HB5.out)⟩
       | (repeat apply Exists.intro
                 exact ⟨⟨k + 1, _, _, rfl, by omega, by omega, by go_num, HO5, hid HFA.out.2.2.2.2, hid HFA.out.2.2.2.1, hid (HFA.out.2.1.trans HB5.out)⟩, rfl⟩)
     case measure => simp [intOf]; omega
    ·have t6 : ¬ kd < 6 := by omega
     have s6 : (kd == 6) = false := by simp; omega
     have s7 : (kd == 7) = false := by simp; omega
     have t10 : ¬ kd < 10 := by omega
     have s10 : (kd == 10) = false := by simp; omega
     have t14 : ¬ kd < 14 := by omega
     have t19 : ¬ kd < 19 := by omega
     have s19 : (kd == 19) = false := by simp; omega
     have t22 : kd < 22 := by omega
     have HFA := hid (HFIN.out (W.setCell ⟨X, 0, none⟩ (.int .i64 9)) { x with kind := 9 } ((But.refl X W).setCell _ _) (HGG.out.kind 9))
     have HSZ : Hid ((W.setCell ⟨X, 0, none⟩ (.int .i64 9)).heap.size = W.heap.size) := hid (by simp)
     clear HFIN
     go_wp2_with (first | (go_at_call 19; refine (picked_any _ _ _ (by assumption) (by assumption) (by omega) (by omega)).mono ?_; rintro e w' ⟨rfl, hw'⟩; rw [hw']; clear hw' w'; first | rw [HKD.out] | rw [HQ5.out] | rw [HQ2.out] | rw [HQ8.out] | rw [HQ100.out]) | (at_builtin; refine append_ac rfl (.tmp 117) (.tmp 119) rfl w.heap.size (.slice oa no oc) xs { x with kind := 9 } rfl HFA.out.1 HFA.out.2.2.1 (by rw [HSZ.out]; rfl) (by rw [HNO.out]; exact hno) ?_; intro v5 w5 ho5 hb5; have HO5 := hid ho5; have HB5 := hid hb5; clear ho5 hb5))
     go_roundw
     case rel =>
      first
       | exact ⟨k + 1, _, _, rfl, by omega, by omega, by go_num, HO5, hid HFA.out.2.2.2.2, hid HFA.out.2.2.2.1, hid (HFA.out.2.1.trans HB5.out)⟩
       | (repeat apply Exists.intro
                 exact ⟨⟨k + 1, _, _, rfl, by omega, by omega, by go_num, HO5, hid HFA.out.2.2.2.2, hid HFA.out.2.2.2.1, hid (HFA.out.2.1.trans HB5.out)⟩, rfl⟩)
     case measure => simp [intOf]; omega
    ·have t6 : ¬ kd < 6 := by omega
     have s6 : (kd == 6) = false := by simp; omega
     have s7 : (kd == 7) = false := by simp; omega
     have t10 : ¬ kd < 10 := by omega
     have s10 : (kd == 10) = false := by simp; omega
     have t14 : ¬ kd < 14 := by omega
     have t19 : ¬ kd < 19 := by omega
     have s19 : (kd == 19) = false := by simp; omega
     have t22 : ¬ kd < 22 := by omega
     clear h
     go_wp2_with (go_at_call 19; refine (picked_any _ _ _ (by assumption) (by assumption) (by omega) (by omega)).mono ?_; rintro e w' ⟨rfl, hw'⟩; rw [hw']; clear hw' w'; first | rw [HKD.out] | rw [HQ5.out] | rw [HQ2.out] | rw [HQ8.out] | rw [HQ100.out])
     rename ∀ (a : Act) (w : World), Code.wp _ _ _ a w → _ => hK
     refine acts8 (R := wr.heap.size) (A := X) (nodes := nodes) (k2 := k2) (k3 := k3) rfl rfl rfl hRW hRX d2 d3 W2.out W3.out HXX.out HGG.out ?_ _ (by kernel_rfl)
     intro zs Wz z hzl hzz hzg hbz
     obtain ⟨z0, z1, z2, z3, z4, z5, z6, z7, z8, rfl⟩ := listA9 zs hzl
     have HFA := hid (HFIN.out Wz z hbz hzg)
     have HSZ : Hid (Wz.heap.size = Wz.heap.size) := hid rfl
     obtain ⟨⟨v0, v1, v2, v3, v4, v5, v6, v7, v8⟩, vf, vl⟩ := hzz.box
     clear HFIN hzz hzg hbz hzl y0 y1 y2 y3 y4 y5 y6 y7 y8 yf d0 d1 d2 d3
     simp only [setFrom_spl, spl]
     refine hK _ Wz ?_
     clear hK
     go_wp2_with (at_builtin; refine append_ac rfl (.tmp 117) (.tmp 119) rfl w.heap.size (.slice oa no oc) xs z rfl HFA.out.1 HFA.out.2.2.1 (by rw [HSZ.out]; rfl) (by rw [HNO.out]; exact hno) ?_; intro v5 w5 ho5 hb5; have HO5 := hid ho5; have HB5 := hid hb5; clear ho5 hb5)
     go_roundw
     case rel =>
      first
       | exact ⟨k + 1, _, _, rfl, by omega, by omega, by go_num, HO5, hid HFA.out.2.2.2.2, hid HFA.out.2.2.2.1, hid (HFA.out.2.1.trans HB5.out)⟩
       | (repeat apply Exists.intro
                 exact ⟨⟨k + 1, _, _, rfl, by omega, by omega, by go_num, HO5, hid HFA.out.2.2.2.2, hid HFA.out.2.2.2.1, hid (HFA.out.2.1.trans HB5.out)⟩, rfl⟩)
     case measure => simp [intOf]; omega
   ·obtain rfl : k = most := by omega
    have hlt' : (k : Int) < len := by omega
    go_wp2_with fail
    go_ret
    exact ⟨_, _, rfl, HO.out, HL.out, HG.out, HB.out⟩
  ·obtain rfl : k = len := by omega
   go_wp2_with fail
   go_ret
   exact ⟨_, _, rfl, HO.out, Nat.le_trans HL.out (by omega), HG.out, HB.out⟩
theorem append_acs {w : World} {ops : Array Oper} {rest : List Oper} {o : Oper} {a : Act} {Q : Exit → Act → World → Prop} (hgd : o.guard = none) (s x : Operand)
  (ho : o.op = .call { callee := .builtin .append, args := #[s, x], argTypes := #[22, 22] })
  (base : Nat) (v : Value) (xs : List Pl.Ac) (ad : Addr) (len cap : Nat) (es : List Pl.Ac) (hs : a.eval s = v) (hown : OwnAc w base v xs) (hbase : base ≤ w.heap.size) (hx : a.eval x = .slice (some ad) len cap) (hE : IsActs w (some ad) len cap es) (hb : xs.length ≤ 1000000) (hb2 : len ≤ 1000000)
  (h : ∀ v' w', OwnAc w' base v' (xs ++ es) → Below base w w' → wpList Tryz.prog ops Q rest (a.put o.dst v') w') : wpList Tryz.prog ops Q (o :: rest) a w := by
 obtain ⟨i0, hi0, hz0, hz1, hz2⟩ := partsOf infoAct
 obtain ⟨hl, hc, hm, hok, hrow⟩ := hE
 refine wpList_append_own (w := w) hgd s x 22 ho base 51 i0 _ 9 88 Tryz.underlying22 hi0 hz0 hz1 hz2 rfl (by decide) v xs.length (cellsAc xs) hs hown ad len cap (cellsAc es) hx (by rw [cellsAc_len, hl]) ?_ (cellsAc_one _) (by unfold maxLen; omega) (by omega) hbase ?_
 ·intro j u hj
  rcases hrow with rfl | ⟨b, off, hba, _, hr⟩
  ·simp [cellsAc] at hj
  ·cases hba
   rw [add_none]
   have hj2 : j < es.length * 9 := by have := (List.getElem?_eq_some_iff.1 hj).1; rwa [cellsAc_len] at this
   have e : j = j / 9 * 9 + j % 9 := by omega
   rw [e] at hj ⊢
   rw [cellsAc_get es (j / 9) (j % 9) (by omega) (by omega)] at hj
   have := hr (j / 9) (by omega) (j % 9) u hj
   rw [← this, Nat.add_assoc]
 ·intro v' w' hown' hg _
  have hlt := World.ownsRow.lt hown
  exact h v' w' (ownAc_of hown' (by rw [cellsAc_append])) (((Below.refl _ _)).grown hg hbase (fun k hk => (hlt k hk).1))
def setAc9 (w : World) (g o : Nat) (x : Pl.Ac) : World := ((((((((w.setCell ⟨g, o, none⟩ (.int .i64 x.kind)).setCell ⟨g, o + 1, none⟩ (.int .i64 x.a)).setCell ⟨g, o + 2, none⟩ (.int .i64 x.b)).setCell ⟨g, o + 3, none⟩ (.int .i64 x.n)).setCell ⟨g, o + 4, none⟩ (.int .i64 x.m)).setCell ⟨g, o + 5, none⟩ (.int .i64 x.p.1)).setCell ⟨g, o + 6, none⟩ (.int .i64 x.p.2)).setCell ⟨g, o + 7, none⟩ (.string x.key)).setCell ⟨g, o + 8, none⟩ (.string x.val)
theorem cellsAc_set : ∀ (xs : List Pl.Ac) (i : Nat) (x : Pl.Ac), cellsAc (xs.set i x) = (((((((((((((((((cellsAc xs).set (i * 9) (.int .i64 x.kind))).set (i * 9 + 1) (.int .i64 x.a))).set (i * 9 + 2) (.int .i64 x.b))).set (i * 9 + 3) (.int .i64 x.n))).set (i * 9 + 4) (.int .i64 x.m))).set (i * 9 + 5) (.int .i64 x.p.1))).set (i * 9 + 6) (.int .i64 x.p.2))).set (i * 9 + 7) (.string x.key))).set (i * 9 + 8) (.string x.val)
 | [], i, x => by simp [cellsAc]
 | e :: r, 0, x => by simp [cellsAc, acCells]
 | e :: r, i + 1, x => by
  rw [List.set_cons_succ, cellsAc, cellsAc_set r i x, show (i + 1) * 9 = i * 9 + 9 by omega]
  simp [cellsAc, acCells]
theorem OwnAc.opened {w : World} {base : Nat} {v : Value} {xs : List Pl.Ac} (h : OwnAc w base v xs) (hne : 0 < xs.length) :
  ∃ g cap, v = .slice (some ⟨g, 0, none⟩) xs.length cap ∧ base ≤ g ∧ g < w.heap.size ∧ xs.length ≤ cap ∧ cap ≤ maxLen ∧ ActsAt w g 0 xs ∧
   (∀ j, j < xs.length * 9 → (w.cell? ⟨g, j, none⟩).isSome = true ∧ w.frozen? ⟨g, j, none⟩ = false) ∧
   (∀ (i : Nat) (x : Pl.Ac), OwnAc (setAc9 w g (i * 9) x) base v (xs.set i x)) := by
 obtain ⟨hl, h | ⟨g, cap, cur, rfl, hb, hh, hn, hm, hs, hx⟩⟩ := h
 ·obtain ⟨_, hn⟩ := h; omega
 ·have hcell : ∀ j u, (cellsAc xs)[j]? = some u → w.cell? ⟨g, 0 + j, none⟩ = some u := by
   intro j u hj
   rw [← hx] at hj
   have hj' : cur[j]? = some u := by
    rw [List.getElem?_take] at hj
    split at hj
    ·rw [← Array.getElem?_toList]; exact hj
    ·cases hj
   simp [World.cell?, hh, hj']
  refine ⟨g, cap, rfl, hb, blockLt hh, hn, hm, ?_, ?_, ?_⟩
  ·intro i hi k v hv
   have hk : k < 9 := by have := (List.getElem?_eq_some_iff.1 hv).1; rwa [acCells_len] at this
   rw [← cellsAc_get xs i k hi hk] at hv
   have := hcell _ _ hv
   rw [← this, Nat.add_assoc]
  ·intro j hj
   have hj2 : j < (cellsAc xs).length := by rw [cellsAc_len]; exact hj
   refine ⟨?_, by simp [World.frozen?, hh]⟩
   have := hcell j _ (List.getElem?_eq_getElem hj2)
   rw [Nat.zero_add] at this
   rw [this]; rfl
  ·intro i x
   refine ⟨by simp [cellsAc_len], .inr ⟨g, cap, _, by simp, hb, rblk_set (rblk_set (rblk_set (rblk_set (rblk_set (rblk_set (rblk_set (rblk_set (rblk_set hh)))))))), by simpa using hn, hm, by simpa using hs, ?_⟩⟩
   simp only [Array.toList_setIfInBounds, List.take_set, List.length_set]
   rw [hx, cellsAc_set]
theorem run_clear_acts (w : World) (g o n c : Nat) (hn : 0 < n) (h : ∀ j, j < n * 9 → (w.cell? ⟨g, o + j, none⟩).isSome = true ∧ w.frozen? ⟨g, o + j, none⟩ = false) :
  ∃ zs : List Value, zs.length = n * 9 ∧ ∀ ty, (Builtin.clear_ #[22] ty #[.slice (some ⟨g, o, none⟩) n c]).run Tryz.prog w = .ok (.tuple #[]) (w.setCells g o zs) := by
 obtain ⟨i0, hi0, hz0, hz1, hz2⟩ := partsOf infoAct
 have hv : ∀ w, (zeroValue 51).run Tryz.prog w = .ok (.agg #[.int .i64 0, .int .i64 0, .int .i64 0, .int .i64 0, .int .i64 0, .int .i64 0, .int .i64 0, .string ⟨#[]⟩, .string ⟨#[]⟩]) w := Tryz.zeroValue51
 have hlen : (Builtin.zeroCells (Value.agg #[.int .i64 0, .int .i64 0, .int .i64 0, .int .i64 0, .int .i64 0, .int .i64 0, .int .i64 0, .string ⟨#[]⟩, .string ⟨#[]⟩]).cells n).toList.length = n * 9 := by
  simp [Builtin.zeroCells, Value.cells]
 have h1 : ∀ v ∈ (Builtin.zeroCells (Value.agg #[.int .i64 0, .int .i64 0, .int .i64 0, .int .i64 0, .int .i64 0, .int .i64 0, .int .i64 0, .string ⟨#[]⟩, .string ⟨#[]⟩]).cells n).toList, v.oneCell' = true := by
  intro v hv
  simp only [Builtin.zeroCells, Array.toList_map, List.mem_map] at hv
  obtain ⟨i, _, rfl⟩ := hv
  have hi : i % 9 = 0 ∨ i % 9 = 1 ∨ i % 9 = 2 ∨ i % 9 = 3 ∨ i % 9 = 4 ∨ i % 9 = 5 ∨ i % 9 = 6 ∨ i % 9 = 7 ∨ i % 9 = 8 := by omega
  show Value.oneCell' ((#[.int .i64 0, .int .i64 0, .int .i64 0, .int .i64 0, .int .i64 0, .int .i64 0, .int .i64 0, .string ⟨#[]⟩, .string ⟨#[]⟩] : Array Value)[i % 9]!) = true
  rcases hi with e | e | e | e | e | e | e | e | e <;> rw [e] <;> rfl
 have hst := run_storeCells_cells (P := Tryz.prog) g o _ 0 w (fun j hj => (h j (by rw [hlen] at hj; exact hj)).1) (fun j hj => (h j (by rw [hlen] at hj; exact hj)).2) h1
 simp only [Nat.add_zero] at hst
 refine ⟨_, hlen, fun ty => ?_⟩
 obtain ⟨m, rfl⟩ : ∃ m, n = m + 1 := ⟨n - 1, by omega⟩
 simp [Builtin.clear_, run_underlying Tryz.underlying22, hv, hst]
theorem rblk_cells {T : TypeId} {z : Nat × Nat} {b : Nat} : ∀ (vs : List Value) (o : Nat) (w : World) (cs : Array Value), w.heap[b]? = some (.cells cs T z) →
  ∃ cs' : Array Value, (w.setCells b o vs).heap[b]? = some (.cells cs' T z) ∧ cs'.size = cs.size ∧ ∀ n, n ≤ o → cs'.toList.take n = cs.toList.take n
 | [], _, _, cs, h => ⟨cs, h, rfl, fun _ _ => rfl⟩
 | v :: r, o, w, cs, h => by
  obtain ⟨cs', h1, h2, h3⟩ := rblk_cells r (o + 1) (w.setCell ⟨b, o, none⟩ v) _ (rblk_set h)
  refine ⟨cs', h1, by simpa using h2, fun n hn => ?_⟩
  rw [h3 n (by omega), Array.toList_setIfInBounds, List.take_set_of_le hn]
theorem OwnAc.cut {w : World} {base g n cap i : Nat} {xs ys : List Pl.Ac} (h : OwnAc w base (.slice (some ⟨g, 0, none⟩) n cap) xs) (hi : i ≤ xs.length) (hy : ys = xs.take i) (hn : xs.length = n) (zs : List Value) :
  OwnAc (w.setCells g (i * 9) zs) base (.slice (some ⟨g, 0, none⟩) i cap) ys := by
 subst hn
 obtain ⟨hl, ⟨h, _⟩ | ⟨g', cap', cur, e, hb, hh, hn, hm, hs, hx⟩⟩ := h
 ·cases h
 ·cases e
  obtain ⟨cs', c1, c2, c3⟩ := rblk_cells zs (i * 9) w cur hh
  have hyl : ys.length = i := by rw [hy, List.length_take]; omega
  refine ⟨by rw [cellsAc_len], .inr ⟨g, cap, cs', by rw [hyl], hb, c1, by omega, hm, by rw [c2]; exact hs, ?_⟩⟩
  rw [hyl, c3 _ (Nat.le_refl _)]
  have e1 : cur.toList.take (i * 9) = (cur.toList.take (xs.length * 9)).take (i * 9) := by rw [List.take_take]; congr 1; omega
  rw [e1, hx, hy]
  have e2 : cellsAc xs = cellsAc (xs.take i) ++ cellsAc (xs.drop i) := by rw [← cellsAc_append, List.take_append_drop]
  rw [e2, List.take_left' (by rw [cellsAc_len, List.length_take]; congr 1; omega)]
def PredA (g : Nat) : Prop := ∀ (W : World) (x : Pl.Ac), Calls Tryz.prog g #[acV x] W fun e w' => e = .returned (.bool (decide (x.kind = 8))) ∧ Below W.heap.size W w'
set_option maxHeartbeats 1000000 in
theorem IndexFuncA_any (g : Nat) (eg : ∀ args w, (callFunc g args).run Tryz.prog w = .ok (.enter g args) w) (hp : PredA g)
  (a : Option Addr) (len cap : Nat) (xs : List Pl.Ac) (w : World) (h : IsActs w a len cap xs) :
  Calls Tryz.prog 93 #[.slice a len cap, .func (.func g) #[] #[]] w fun e w' =>
   ((e = .returned (.int .i64 (-1)) ∧ ∀ i, i < len → ¬ (Pl.ac xs i).kind = 8) ∨ (∃ i : Nat, e = .returned (.int .i64 i) ∧ i < len ∧ (Pl.ac xs i).kind = 8 ∧ ∀ j, j < i → ¬ (Pl.ac xs j).kind = 8)) ∧ Below w.heap.size w w' := by
 have HH := hid h
 obtain ⟨hl, hc, hm, _, _⟩ := h
 unfold maxLen at hm
 have HP := hid hp
 clear hp
 go_enter Tryz.func93, Tryz.ntmps93
 go_wp2_with fail
 go_loopw [8] (fun i wr => ∃ k : Nat, k ≤ len ∧ i = .int .i64 k ∧ Hid (∀ j, j < k → ¬ (Pl.ac xs j).kind = 8) ∧ Below w.heap.size w wr) (fun i _ => len - (intOf i).toNat)
 case atStart => exact ⟨0, Nat.zero_le _, rfl, hid (fun j hj => by omega), Below.refl _ _⟩
 case round =>
  obtain ⟨k, hk, rfl, HN, hb⟩ := hrel
  by_cases hlt : k < len
  ·obtain ⟨b1, o1, rfl, hb1, hr1⟩ := (HH.out.below hb).at hlt
   obtain ⟨y, HY⟩ : ∃ y, Hid (Pl.ac xs k = y) := ⟨_, hid rfl⟩
   obtain ⟨q0, q1, q2, q3, q4, q5, q6, q7, q8⟩ := hr1.nine (by omega) HY.out
   have HC := hid (HP.out wr y)
   clear hr1
   obtain ⟨yk, ya, yb, yn, ym, ⟨yp1, yp2⟩, yx, yy⟩ := y
   unfold acV at HC
   simp only at q0 q1 q2 q3 q4 q5 q6 q7 q8 HC
   have hlt' : (k : Int) < (len : Int) := by omega
   by_cases hkk : yk = 8
   ·have hdk : decide (yk = 8) = true := decide_eq_true hkk
    have HKK := hid hkk
    clear hkk
    rw [hdk] at HC
    clear hdk
    go_wp2_with fail
    refine HC.out.mono ?_
    rintro e w1 ⟨rfl, hb1⟩
    go_wp2_with fail
    go_ret
    exact ⟨.inr ⟨k, rfl, hlt, by rw [HY.out]; exact HKK.out, HN.out⟩, hb.trans (hb1.mono hb.size)⟩
   ·have hdk : decide (yk = 8) = false := decide_eq_false hkk
    have HKK := hid hkk
    clear hkk
    rw [hdk] at HC
    clear hdk
    go_wp2_with fail
    refine HC.out.mono ?_
    rintro e w1 ⟨rfl, hb1⟩
    go_wp2_with fail
    go_roundw
    case rel => exact ⟨k + 1, by omega, by go_num, hid (fun j hj => by
     rcases Nat.lt_or_ge j k with h | h
     ·exact HN.out j h
     ·obtain rfl : j = k := by omega
      rw [HY.out]; exact HKK.out), hb.trans (hb1.mono hb.size)⟩
    case measure => simp [intOf]; omega
  ·obtain rfl : k = len := by omega
   go_wp2_with fail
   go_ret
   exact ⟨.inl ⟨rfl, HN.out⟩, hb⟩
def Pl.remA (xs : List Pl.Ac) : List Pl.Ac := xs.filter (fun y => !decide (y.kind = 8))
theorem Pl.remA_same {xs : List Pl.Ac} (h : ∀ i, i < xs.length → ¬ (Pl.ac xs i).kind = 8) : Pl.remA xs = xs := by
 unfold Pl.remA
 rw [List.filter_eq_self]
 intro y hy
 obtain ⟨i, hi, rfl⟩ := List.getElem_of_mem hy
 have := h i hi
 rw [Pl.ac_eq xs i hi] at this
 simp [this]
theorem Pl.remA_snoc {xs : List Pl.Ac} {j : Nat} (h : j < xs.length) : Pl.remA (xs.take (j + 1)) = Pl.remA (xs.take j) ++ (if (Pl.ac xs j).kind = 8 then [] else [Pl.ac xs j]) := by
 unfold Pl.remA
 rw [List.take_succ_eq_append_getElem h, List.filter_append, ← Pl.ac_eq xs j h]
 congr 1
 by_cases e : (Pl.ac xs j).kind = 8
 ·rw [if_pos e]; simp [e]
 ·rw [if_neg e]; simp [e]
theorem Pl.remA_first {xs : List Pl.Ac} {i : Nat} (hi : i < xs.length) (hk : (Pl.ac xs i).kind = 8) (hj : ∀ j, j < i → ¬ (Pl.ac xs j).kind = 8) : xs.take i = Pl.remA (xs.take (i + 1)) := by
 rw [Pl.remA_snoc hi, if_pos hk, List.append_nil]
 refine (Pl.remA_same (fun j hj' => ?_)).symm
 simp only [List.length_take] at hj'
 have e : Pl.ac (xs.take i) j = Pl.ac xs j := by
  rw [Pl.ac_eq _ _ (by simp; omega), Pl.ac_eq _ _ (by omega)]; simp
 rw [e]; exact hj j (by omega)
theorem Pl.same_ac {a b : List Pl.Ac} {j : Nat} (h : a.drop j = b.drop j) (hl : a.length = b.length) (hj : j < b.length) : Pl.ac a j = Pl.ac b j := by
 rw [Pl.ac_eq a j (by omega), Pl.ac_eq b j hj]
 have h1 : (a.drop j)[0]? = (b.drop j)[0]? := by rw [h]
 simp only [List.getElem?_drop, Nat.add_zero] at h1
 rw [List.getElem?_eq_getElem (by omega), List.getElem?_eq_getElem hj] at h1
 exact Option.some.inj h1
theorem Pl.remA_len (xs : List Pl.Ac) : (Pl.remA xs).length ≤ xs.length := List.length_filter_le _ _
set_option maxHeartbeats 4000000 in
theorem DeleteFuncA_any (g : Nat) (eg : ∀ args w, (callFunc g args).run Tryz.prog w = .ok (.enter g args) w) (hp : PredA g) (base : Nat)
  (v : Value) (xs : List Pl.Ac) (w : World) (h : OwnAc w base v xs) (hok : ∀ x ∈ xs, Pl.AcOk x) (h60 : xs.length ≤ 1000) (hbw : base ≤ w.heap.size) :
  Calls Tryz.prog 54 #[v, .func (.func g) #[] #[]] w fun e w' =>
   ∃ v', e = .returned v' ∧ OwnAc w' base v' (Pl.remA xs) ∧ Below base w w' := by
 have HO := hid h
 have HOK := hid hok
 have HP := hid hp
 obtain ⟨a, cap, rfl, hE, _, _⟩ := h.acts hok
 have HE := hid hE
 have HI := hid (IndexFuncA_any g eg hp a xs.length cap xs w hE)
 have hcap := hE.2.1
 have hm := hE.2.2.1
 unfold maxLen at hm
 clear h hok hp hE
 go_enter Tryz.func54, Tryz.ntmps54
 go_wp2_with fail
 refine HI.out.mono ?_
 rintro e w1 ⟨⟨rfl, hn⟩ | ⟨i, rfl, hi, hik, hij⟩, hb1⟩
 ·have HO1 := hid (HO.out.below hb1)
  have HN := hid (Pl.remA_same hn)
  clear hn
  go_wp2_with fail
  go_ret
  exact ⟨_, rfl, by rw [HN.out]; exact HO1.out, hb1.mono hbw⟩
 ·have hi1 : ((i : Int) == -1) = false := by simp
  have HO1 := hid (HO.out.below hb1)
  have HIK := hid hik
  have HIJ := hid hij
  clear hik hij
  go_wp2_with fail
  go_loopw [5, 6] (fun vi vj wr => ∃ (i j : Nat) (cur : List Pl.Ac), i < j ∧ j ≤ xs.length ∧ vi = .int .i64 i ∧ vj = .int .i64 j ∧ Hid (cur.length = xs.length) ∧ Hid (cur.take i = Pl.remA (xs.take j)) ∧ Hid (cur.drop j = xs.drop j) ∧ Hid (OwnAc wr base (.slice a xs.length cap) cur) ∧ Hid (Below base w wr)) (fun _ j _ => xs.length - (intOf j).toNat)
  case atStart => exact ⟨i, i + 1, xs, by omega, by omega, rfl, by go_num, hid rfl, hid (Pl.remA_first hi HIK.out HIJ.out), hid rfl, HO1, hid (hb1.mono hbw)⟩
  case round =>
   clear HO HE HI HO1 HIK HIJ hi1 hi
   obtain ⟨i, j, cur, hij, hj, rfl, rfl, HL, HT, HD, HO, HBW⟩ := hrel
   obtain ⟨g0, cap0, e0, hbg, hgw, hlc, hmc, hrow, hcl, _⟩ := HO.out.opened (by have := HL.out; omega)
   simp only [Value.slice.injEq, HL.out] at e0
   obtain ⟨rfl, _, rfl⟩ := e0
   have hwb := HBW.out.size
   by_cases hlt : j < xs.length
   ·obtain ⟨y, HY⟩ : ∃ y, Hid (Pl.ac xs j = y) := ⟨_, hid rfl⟩
    obtain ⟨q0, q1, q2, q3, q4, q5, q6, q7, q8⟩ := hrow.nine (i := j) (x := y) (by rw [HL.out]; exact hlt) (by rw [Pl.same_ac HD.out HL.out hlt]; exact HY.out)
    have HRS := hid (Pl.remA_snoc hlt)
    rw [HY.out] at HRS
    simp only [Nat.zero_add] at q0 q1 q2 q3 q4 q5 q6 q7 q8
    have HBA := hid ((Below.refl wr.heap.size wr).alloc (Nat.le_refl _) (.cells #[.int .i64 y.kind, .int .i64 y.a, .int .i64 y.b, .int .i64 y.n, .int .i64 y.m, .int .i64 y.p.1, .int .i64 y.p.2, .string y.key, .string y.val] 51))
    have HC := hid (HP.out (wr.alloc (.cells #[.int .i64 y.kind, .int .i64 y.a, .int .i64 y.b, .int .i64 y.n, .int .i64 y.m, .int .i64 y.p.1, .int .i64 y.p.2, .string y.key, .string y.val] 51)) y)
    have HNB := hid (heapNew wr (.cells #[.int .i64 y.kind, .int .i64 y.a, .int .i64 y.b, .int .i64 y.n, .int .i64 y.m, .int .i64 y.p.1, .int .i64 y.p.2, .string y.key, .string y.val] 51))
    obtain ⟨yk, ya, yb, yn, ym, ⟨yp1, yp2⟩, yx, yy⟩ := y
    unfold acV at HC
    simp only at q0 q1 q2 q3 q4 q5 q6 q7 q8 HC HRS HBA HNB
    have hlt' : (j : Int) < (xs.length : Int) := by omega
    clear hrow hcl
    by_cases hkk : yk = 8
    ·have hdk : decide (yk = 8) = true := decide_eq_true hkk
     rw [if_pos hkk, List.append_nil] at HRS
     clear hkk
     rw [hdk] at HC
     clear hdk
     go_wp2_with fail
     refine HC.out.mono ?_
     rintro e w2 ⟨rfl, hb2⟩
     have HB2 := hid (HBA.out.trans (hb2.mono HBA.out.size))
     clear hb2
     go_wp2_with fail
     go_roundw
     case rel => exact ⟨i, j + 1, cur, by omega, by omega, rfl, by go_num, HL, hid (by rw [HRS.out]; exact HT.out), hid (by rw [← List.drop_drop, ← List.drop_drop, HD.out]), hid (HO.out.below HB2.out), hid (HBW.out.trans (HB2.out.mono (Nat.le_trans hbw hwb)))⟩
     case measure => simp [intOf]; omega
    ·have hdk : decide (yk = 8) = false := decide_eq_false hkk
     rw [if_neg hkk] at HRS
     clear hkk
     rw [hdk] at HC
     clear hdk
     go_wp2_with fail
     refine HC.out.mono ?_
     rintro e w2 ⟨rfl, hb2⟩
     obtain ⟨p0, p1, p2, p3, p4, p5, p6, p7, p8⟩ := box9 ((hb2.block _ (blockLt HNB.out)).trans HNB.out)
     have HB2 := hid (HBA.out.trans (hb2.mono HBA.out.size))
     clear hb2
     obtain ⟨g1, cap1, e1, hbg1, hgw1, _, _, _, hcl1, hset1⟩ := (HO.out.below HB2.out).opened (by have := HL.out; omega)
     simp only [Value.slice.injEq, HL.out, Option.some.injEq, Addr.mk.injEq] at e1
     obtain ⟨⟨rfl, _⟩, _, rfl⟩ := e1
     obtain ⟨r0, f0⟩ := hcl1 (i * 9) (by rw [HL.out]; omega)
     obtain ⟨r1, f1⟩ := hcl1 (i * 9 + 1) (by rw [HL.out]; omega)
     obtain ⟨r2, f2⟩ := hcl1 (i * 9 + 2) (by rw [HL.out]; omega)
     obtain ⟨r3, f3⟩ := hcl1 (i * 9 + 3) (by rw [HL.out]; omega)
     obtain ⟨r4, f4⟩ := hcl1 (i * 9 + 4) (by rw [HL.out]; omega)
     obtain ⟨r5, f5⟩ := hcl1 (i * 9 + 5) (by rw [HL.out]; omega)
     obtain ⟨r6, f6⟩ := hcl1 (i * 9 + 6) (by rw [HL.out]; omega)
     obtain ⟨r7, f7⟩ := hcl1 (i * 9 + 7) (by rw [HL.out]; omega)
     obtain ⟨r8, f8⟩ := hcl1 (i * 9 + 8) (by rw [HL.out]; omega)
     obtain ⟨x0, r0⟩ := Option.isSome_iff_exists.1 r0
     obtain ⟨x1, r1⟩ := Option.isSome_iff_exists.1 r1
     obtain ⟨x2, r2⟩ := Option.isSome_iff_exists.1 r2
     obtain ⟨x3, r3⟩ := Option.isSome_iff_exists.1 r3
     obtain ⟨x4, r4⟩ := Option.isSome_iff_exists.1 r4
     obtain ⟨x5, r5⟩ := Option.isSome_iff_exists.1 r5
     obtain ⟨x6, r6⟩ := Option.isSome_iff_exists.1 r6
     obtain ⟨x7, r7⟩ := Option.isSome_iff_exists.1 r7
     obtain ⟨x8, r8⟩ := Option.isSome_iff_exists.1 r8
     have HSET := hid (hset1 i ⟨yk, ya, yb, yn, ym, (yp1, yp2), yx, yy⟩)
     unfold setAc9 at HSET
     simp only at HSET
     clear hset1 hcl1
     go_wp2_with fail
     go_roundw
     case rel => exact ⟨i + 1, j + 1, cur.set i ⟨yk, ya, yb, yn, ym, (yp1, yp2), yx, yy⟩, by omega, by omega, by go_num, by go_num, hid (by rw [List.length_set]; exact HL.out), hid (by
      rw [HRS.out, ← HT.out, List.take_succ_eq_append_getElem (by rw [List.length_set, HL.out]; omega), List.take_set_of_le (Nat.le_refl _)]
      simp), hid (by
      rw [List.drop_set_of_lt (by omega), ← List.drop_drop, ← List.drop_drop, HD.out]), HSET, hid (by
      have hb3 := HBW.out.trans (HB2.out.mono (Nat.le_trans hbw hwb))
      exact rbelow_set (rbelow_set (rbelow_set (rbelow_set (rbelow_set (rbelow_set (rbelow_set (rbelow_set (rbelow_set hb3 hbg1) hbg1) hbg1) hbg1) hbg1) hbg1) hbg1) hbg1) hbg1)⟩
     case measure => simp [intOf]; omega
   ·obtain rfl : j = xs.length := by omega
    obtain ⟨zs, hzl, hclr⟩ := run_clear_acts wr g0 (i * 9) (xs.length - i) (cap - i) (by omega) (fun q hq => hcl (i * 9 + q) (by rw [HL.out]; omega))
    have hclr0 := hclr 0
    have HROW := hid hrow
    have HTR : Hid (OwnAc (wr.setCells g0 (i * 9) zs) base (.slice (some ⟨g0, 0, none⟩) i cap) (Pl.remA xs)) := hid (by
     have hT := HT.out
     rw [List.take_length] at hT
     exact OwnAc.cut HO.out (by have := HL.out; omega) hT.symm HL.out zs)
    clear hclr hcl hrow
    go_wp2_with fail
    go_ret
    exact ⟨_, rfl, HTR.out, HBW.out.trans (Lib.below_setCells_w hbg zs (i * 9) wr)⟩
theorem Pl.getT_hops {C : Nat → Int} {H : Nat → List Int} {P : Nat → List (Int × Int)} {node : Nat} (hH : ∀ n, ∀ x ∈ H n, 0 ≤ x ∧ x ≤ 11) (q : Int × Int) : ∀ k a, Pl.getT C H P node q k = some a → ∀ x ∈ a.hops, ∃ n, n < k ∧ 0 ≤ C n ∧ q ∈ P n ∧ C n = a.cost ∧ x ∈ H n
 | 0, a, h, _, _ => by cases h
 | k + 1, a, h, x, hx => by
  have ih := Pl.getT_hops (C := C) (P := P) (node := node) hH q k
  by_cases g : C k < 0 ∨ ¬ q ∈ P k
  ·have e : Pl.getT C H P node q (k + 1) = Pl.getT C H P node q k := by show (if _ then _ else _) = _; rw [if_pos g]
   rw [e] at h
   obtain ⟨n, n1, n2, n3, n4, n5⟩ := ih a h x hx
   exact ⟨n, by omega, n2, n3, n4, n5⟩
  ·have g1 : 0 ≤ C k := by omega
   have g2 : q ∈ P k := Decidable.byContradiction fun h => g (.inr h)
   have e : Pl.getT C H P node q (k + 1) = some (Pl.more (Pl.getT C H P node q k) (Pl.mkR C H node k q)) := by show (if _ then _ else _) = _; rw [if_neg g]
   rw [e] at h
   cases hp : Pl.getT C H P node q k with
   | none =>
    rw [hp] at h
    have h : Pl.mkR C H node k q = a := Option.some.inj h
    subst h
    exact ⟨k, by omega, g1, g2, rfl, hx⟩
   | some b =>
    rw [hp] at h
    have h : Pl.bestR b (Pl.mkR C H node k q) = a := Option.some.inj h
    subst h
    unfold Pl.bestR at hx ⊢
    by_cases c1 : (Pl.mkR C H node k q).cost < b.cost
    ·rw [if_pos c1] at hx ⊢
     exact ⟨k, by omega, g1, g2, rfl, hx⟩
    ·rw [if_neg c1] at hx ⊢
     by_cases c2 : (Pl.mkR C H node k q).cost = b.cost
     ·rw [if_pos c2] at hx ⊢
      have hr : ∀ y ∈ b.hops, 0 ≤ y ∧ y ≤ 11 := fun y hy => by
       obtain ⟨n, _, _, _, _, n5⟩ := ih b hp y hy
       exact hH n y n5
      rcases (Pl.mem_unite hr (hH k)).1 hx with hx | hx
      ·obtain ⟨n, n1, n2, n3, n4, n5⟩ := ih b hp x hx
       exact ⟨n, by omega, n2, n3, n4, n5⟩
      ·exact ⟨k, by omega, g1, g2, c2, hx⟩
     ·rw [if_neg c2] at hx ⊢
      obtain ⟨n, n1, n2, n3, n4, n5⟩ := ih b hp x hx
      exact ⟨n, by omega, n2, n3, n4, n5⟩
theorem Pl.lookN_get {rs : List Pl.Rt} (hs : Pl.SrtR rs) (x : Int) : ∀ n, (Pl.lookN (rs.map Pl.Rt.p) x n = none ∧ ∀ b, b < n → Pl.getR rs (Pl.pfxAt x b) = none) ∨ ∃ i b, Pl.lookN (rs.map Pl.Rt.p) x n = some i ∧ b < n ∧ Pl.getR rs (Pl.pfxAt x b) = some (Pl.rt rs i) ∧ ∀ b', b < b' → b' < n → Pl.getR rs (Pl.pfxAt x b') = none
 | 0 => .inl ⟨rfl, fun b h => by omega⟩
 | n + 1 => by
  have hg := Pl.getR_there hs (Pl.pfxAt x n)
  by_cases ht : Pl.thereP (rs.map Pl.Rt.p) (Pl.pfxAt x n) = true
  ·rw [if_pos ht] at hg
   right
   refine ⟨_, n, ?_, by omega, hg, fun b' h1 h2 => by omega⟩
   show (if _ then _ else _) = _
   rw [if_pos ht]
  ·rw [if_neg ht] at hg
   have e : Pl.lookN (rs.map Pl.Rt.p) x (n + 1) = Pl.lookN (rs.map Pl.Rt.p) x n := by
    show (if _ then _ else _) = _
    rw [if_neg ht]
   rw [e]
   rcases Pl.lookN_get hs x n with ⟨h1, h2⟩ | ⟨i, b, h1, h2, h3, h4⟩
   ·refine .inl ⟨h1, fun b hb => ?_⟩
    rcases Nat.lt_or_ge b n with q | q
    ·exact h2 b q
    ·rw [show b = n by omega]; exact hg
   ·refine .inr ⟨i, b, h1, by omega, h3, fun b' hb1 hb2 => ?_⟩
    rcases Nat.lt_or_ge b' n with q | q
    ·exact h4 b' hb1 q
    ·rw [show b' = n by omega]; exact hg
theorem Pl.look_tab (es : List Pl.Ent) {f : Nat} (hf : f < 12) {x : Int} (hx : 0 ≤ x ∧ x ≤ 255) :
  (Pl.lookC (Pl.tabL es f) x = 6 ∧ ∀ b, b < 9 → Pl.getT (Pl.wC es f) (Pl.wH es f) (Pl.tP es) f (Pl.pfxAt x b) 12 = none) ∨
  ∃ b, b < 9 ∧ Pl.lookC (Pl.tabL es f) x = 0 ∧ Pl.getT (Pl.wC es f) (Pl.wH es f) (Pl.tP es) f (Pl.pfxAt x b) 12 = some (Pl.lookR (Pl.tabL es f) x) ∧ ∀ b', b < b' → b' < 9 → Pl.getT (Pl.wC es f) (Pl.wH es f) (Pl.tP es) f (Pl.pfxAt x b') 12 = none := by
 have hft := Pl.tabL_fault es hf
 have hsrt := (Pl.tabL_good es hf).1.2.2
 have hlk : Pl.lookC (Pl.tabL es f) x = (match Pl.lookN ((Pl.tabL es f).map Pl.Rt.p) x 9 with | some _ => 0 | none => 6) := by
  unfold Pl.lookC; rw [if_pos hft, if_pos hx]; cases Pl.lookN ((Pl.tabL es f).map Pl.Rt.p) x 9 <;> rfl
 have hlr : Pl.lookR (Pl.tabL es f) x = (match Pl.lookN ((Pl.tabL es f).map Pl.Rt.p) x 9 with | some i => Pl.rt (Pl.tabL es f) i | none => Pl.Rt.none) := by
  unfold Pl.lookR; rw [if_pos hft, if_pos hx]; cases Pl.lookN ((Pl.tabL es f).map Pl.Rt.p) x 9 <;> rfl
 rcases Pl.lookN_get hsrt x 9 with ⟨h1, h2⟩ | ⟨i, b, h1, h2, h3, h4⟩
 ·left
  refine ⟨by rw [hlk, h1], fun b hb => ?_⟩
  rw [← Pl.tabL_get]; exact h2 b hb
 ·right
  refine ⟨b, h2, by rw [hlk, h1], ?_, fun b' hb1 hb2 => ?_⟩
  ·rw [← Pl.tabL_get, h3, hlr, h1]
  ·rw [← Pl.tabL_get]; exact h4 b' hb1 hb2
theorem Pl.wH_range (es : List Pl.Ent) (f n : Nat) : ∀ x ∈ Pl.wH es f n, 0 ≤ x ∧ x ≤ 11 := by
 intro x hx
 unfold Pl.wH at hx
 obtain ⟨j, h1, h2, _⟩ := Pl.mem_hopsL.1 hx
 omega
def Pl.rank (es : List Pl.Ent) (x : Int) (f : Nat) : Nat := (8 - (Pl.lookR (Pl.tabL es f) x).p.2.toNat) * 20000 + (Pl.lookR (Pl.tabL es f) x).cost.toNat
def Pl.has (es : List Pl.Ent) (x : Int) (f : Nat) : Prop := ∃ b : Nat, b < 9 ∧ Pl.pfxAt x b ∈ Pl.tP es f
theorem Pl.hop_on (es : List Pl.Ent) {f : Nat} (hf : f < 12) {x : Int} (hx : 0 ≤ x ∧ x ≤ 255) (h0 : Pl.lookC (Pl.tabL es f) x = 0) :
  ((Pl.lookR (Pl.tabL es f) x).here = true → Pl.has es x f) ∧
  ((Pl.lookR (Pl.tabL es f) x).here = false → (Pl.lookR (Pl.tabL es f) x).hops ≠ [] ∧ ∀ y ∈ (Pl.lookR (Pl.tabL es f) x).hops, ∃ k : Nat, y = (k : Int) ∧ k < 12 ∧ 0 < Pl.lnkX (Pl.tS es) f k ∧ Pl.lookC (Pl.tabL es k) x = 0 ∧ Pl.rank es x k < Pl.rank es x f ∧ (Pl.tD es k = true → Pl.has es x k)) := by
 rcases Pl.look_tab es hf hx with ⟨h1, _⟩ | ⟨b, hb, _, h2, h3⟩
 ·rw [h1] at h0; cases h0
 obtain ⟨ho, hp⟩ := Pl.getT_ok (Pl.tab_WP es hf) (Pl.pfxAt x b) 12 (Nat.le_refl _) _ h2
 have hm := Pl.getT_min (C := Pl.wC es f) (H := Pl.wH es f) (P := Pl.tP es) (node := f) (Pl.pfxAt x b) 12
 rw [h2] at hm
 have hrt := (Pl.routeB_iff _).1 ho.1
 generalize hr : Pl.lookR (Pl.tabL es f) x = r at *
 rcases hm with ⟨e, _⟩ | ⟨a, e, ⟨n, n1, n2, n3, n4⟩, hmin⟩
 ·cases e
 ·obtain rfl : r = a := Option.some.inj e
  refine ⟨fun hh => ?_, fun hh => ?_⟩
  ·have hc : r.cost = 0 := by have := ho.2; rw [hh] at this; simpa using this.symm
   by_cases e : n = f
   ·subst e; exact ⟨b, hb, n3⟩
   ·have := Pl.wC_pos es hf e n2; omega
  ·have hne : r.hops ≠ [] := by have := hrt.2.2.1; rw [hh] at this; simpa using this
   refine ⟨hne, fun y hy => ?_⟩
   obtain ⟨t, t1, t2, t3, t4, t5⟩ := Pl.getT_hops (Pl.wH_range es f) (Pl.pfxAt x b) 12 r h2 y hy
   obtain ⟨k, rfl, hw⟩ := (Pl.mem_wH es t hf y).1 t5
   have hk := hw.klt
   have hl := Pl.way_first hw
   have hkt : (Pl.tD es k = true → t = k) ∧ 0 ≤ Pl.wC es k t ∧ Pl.wC es k t < r.cost := by
    rcases Pl.way_part hw with ⟨e1, e2⟩ | ⟨e1, e2, j, c', e3, e4⟩
    ·subst e1
     rw [Pl.wC_self es hk.1]
     exact ⟨fun _ => rfl, by omega, by omega⟩
    ·refine ⟨fun hd => (by rw [hd] at e2; cases e2), ?_⟩
     rcases Pl.wC_min es hk.1 e1 with ⟨_, q2⟩ | ⟨q1, _, q3⟩
     ·exact absurd ⟨j, e3⟩ (q2 c')
     ·have := q3 c' ⟨j, e3⟩
      exact ⟨q1, by omega⟩
   have hget : ∃ r1, Pl.getT (Pl.wC es k) (Pl.wH es k) (Pl.tP es) k (Pl.pfxAt x b) 12 = some r1 ∧ r1.cost < r.cost := by
    rcases Pl.getT_min (C := Pl.wC es k) (H := Pl.wH es k) (P := Pl.tP es) (node := k) (Pl.pfxAt x b) 12 with ⟨_, q⟩ | ⟨r1, q1, _, q3⟩
    ·rcases q t t1 with q | q
     ·omega
     ·exact absurd t3 q
    ·have := q3 t t1 hkt.2.1 t3
     exact ⟨r1, q1, by omega⟩
   obtain ⟨r1, g1, g2⟩ := hget
   have hbr : r.p.2 = (b : Int) := by rw [hp]; rfl
   have hcr : r.cost ≤ 12000 := by have := Pl.wC_bound es f n; omega
   refine ⟨k, rfl, hk.1, hl, ?_, ?_, fun hd => ⟨b, hb, (hkt.1 hd) ▸ t3⟩⟩
   ·rcases Pl.look_tab es hk.1 hx with ⟨_, q⟩ | ⟨b1, _, q, _⟩
    ·rw [q b hb] at g1; cases g1
    ·exact q
   ·rcases Pl.look_tab es hk.1 hx with ⟨_, q⟩ | ⟨b1, hb1, _, q2, q3⟩
    ·rw [q b hb] at g1; cases g1
    ·obtain ⟨ho1, hp1⟩ := Pl.getT_ok (Pl.tab_WP es hk.1) (Pl.pfxAt x b1) 12 (Nat.le_refl _) _ q2
     have hm1 := Pl.getT_min (C := Pl.wC es k) (H := Pl.wH es k) (P := Pl.tP es) (node := k) (Pl.pfxAt x b1) 12
     rw [q2] at hm1
     rcases hm1 with ⟨e, _⟩ | ⟨a, e, ⟨n', n1', n2', _, n4'⟩, _⟩
     ·cases e
     ·have e := Option.some.inj e
      have hb1r : (Pl.lookR (Pl.tabL es k) x).p.2 = (b1 : Int) := by rw [hp1]; rfl
      have hc1 : (Pl.lookR (Pl.tabL es k) x).cost ≤ 12000 ∧ 0 ≤ (Pl.lookR (Pl.tabL es k) x).cost := by
       have := Pl.wC_bound es k n'
       rw [e]; omega
      have hle : b ≤ b1 := by
       rcases Nat.lt_or_ge b1 b with q | q
       ·rw [q3 b q hb] at g1; cases g1
       ·exact q
      unfold Pl.rank
      rw [hr, hb1r, hbr, Int.toNat_natCast, Int.toNat_natCast]
      rcases Nat.lt_or_ge b b1 with q | q
      ·have : 8 - b1 + 1 ≤ 8 - b := by omega
       have := Nat.mul_le_mul_right 20000 this
       omega
      ·obtain rfl : b = b1 := by omega
       rw [g1] at q2
       have q2 := Option.some.inj q2
       rw [← q2] at hc1 ⊢
       omega
theorem Pl.nm_mem (l : List Int) (i : Nat) (h : i < l.length) : Pl.nm l i ∈ l := by rw [Pl.nm_eq l i h]; exact List.getElem_mem h
theorem Pl.hopAt_mem {r : Pl.Rt} (h : r.hops ≠ []) (m : Int) : Pl.nm r.hops (m.toNat % r.hops.length) ∈ r.hops :=
 Pl.nm_mem _ _ (Nat.mod_lt _ (List.length_pos_iff.2 h))
theorem Pl.walk_ok {s : Pl.Nt} {es : List Pl.Ent} {C : Nat → Prop} {x : Int} (hx : 0 ≤ x ∧ x ≤ 255) (m : Int) (hC : ∀ f, C f → f < 12) (hT : ∀ f, C f → s.T f = Pl.tabL es f) (hL : ∀ f k, C f → k < 12 → 0 < Pl.lnkX (Pl.tS es) f k → s.L f k ≠ 0 ∧ C k) :
  ∀ (k f : Nat) (ps : List Int) (c : Int) (d : Nat → Bool), C f → Pl.lookC (Pl.tabL es f) x = 0 → d f = true → (∀ j, d j = true → Pl.rank es x f ≤ Pl.rank es x j) → 13 ≤ k + Pl.cnt d 12 → 1 ≤ k →
   ∃ rest c' e, Pl.walkK s x m k f ps c = (0, ps ++ rest, c') ∧ C e ∧ ((rest = [] ∧ e = f) ∨ rest.getLast? = some (e : Int)) ∧ Pl.has es x e ∧ (∀ y ∈ rest, ∃ j : Nat, y = (j : Int) ∧ C j ∧ (Pl.tD es j = true → Pl.has es x j)) ∧
    ((Pl.lookR (Pl.tabL es f) x).here = true → rest = []) ∧ ((Pl.lookR (Pl.tabL es f) x).here = false → rest.head? = some (Pl.nm (Pl.lookR (Pl.tabL es f) x).hops (m.toNat % (Pl.lookR (Pl.tabL es f) x).hops.length)))
 | 0, _, _, _, _, _, _, _, _, _, h => by omega
 | k + 1, f, ps, c, d, hf, h0, hd, hr, hn, _ => by
  obtain ⟨g1, g2⟩ := Pl.hop_on es (hC f hf) hx h0
  have hTf := hT f hf
  unfold Pl.walkK
  rw [hTf, if_pos h0]
  by_cases hh : (Pl.lookR (Pl.tabL es f) x).here = true
  ·rw [if_pos hh]
   refine ⟨[], c, f, by simp, hf, .inl ⟨rfl, rfl⟩, g1 hh, fun y hy => (by cases hy), fun _ => rfl, fun h => (by rw [h] at hh; cases hh)⟩
  ·rw [if_neg hh]
   have hh' : (Pl.lookR (Pl.tabL es f) x).here = false := by simpa using hh
   obtain ⟨q1, q2⟩ := g2 hh'
   have hk : k ≠ 0 := by
    have := Pl.cnt_le d 12
    rintro rfl
    have h12 : Pl.cnt d 12 = 12 := by omega
    obtain ⟨j, _, j2, _, _, j5, _⟩ := q2 _ (Pl.hopAt_mem q1 m)
    cases hdj : d j
    ·have := Pl.cnt_lt_all j2 hdj; omega
    ·have := hr j hdj; omega
   rw [if_neg hk]
   obtain ⟨j, j1, j2, j3, j4, j5, j6⟩ := q2 _ (Pl.hopAt_mem q1 m)
   have hj : Pl.hopAt (Pl.lookR (Pl.tabL es f) x) m = j := by unfold Pl.hopAt; rw [j1, Int.toNat_natCast]
   obtain ⟨l1, l2⟩ := hL f j hf j2 j3
   rw [hj, if_neg l1]
   have hdj : d j = false := by
    cases hdj : d j
    ·rfl
    ·have := hr j hdj; omega
   have hc := Pl.cnt_upd j2 hdj
   obtain ⟨rest, c', e, r1, r2, r3, r4, r5, r6, r7⟩ := Pl.walk_ok hx m hC hT hL k j (ps ++ [(j : Int)]) (c + s.L f j) (Pl.upd d j true) l2 j4 (Pl.upd_same _ _ _) (fun i hi => by
    by_cases e : i = j
    ·rw [e]; exact Nat.le_refl _
    ·rw [Pl.upd_ne _ _ e] at hi
     have := hr i hi; omega) (by omega) (by omega)
   refine ⟨(j : Int) :: rest, c', e, by rw [r1]; simp, r2, .inr ?_, r4, fun y hy => ?_, fun h => (by rw [h] at hh'; cases hh'), fun _ => (by show some _ = some _; rw [j1])⟩
   ·rcases r3 with ⟨rfl, rfl⟩ | r3
    ·rfl
    ·rw [List.getLast?_cons, r3]; rfl
   ·rcases List.mem_cons.1 hy with rfl | hy
    ·exact ⟨j, rfl, l2, j6⟩
    ·exact r5 y hy
theorem Pl.act_spoilt {s : Pl.Nt} (h : Pl.GoodN s) {x : Pl.Ac} (hk : x.kind = 7) (ha : 0 ≤ x.a ∧ x.a ≤ 11) (hn : 0 ≤ x.n) : Pl.actN s x = s ∧ (Pl.actR s x).code ≠ 0 := by
 obtain ⟨h1, h2⟩ := Pl.send_spoilt (h.K x.a.toNat) hn
 have eN : Pl.actN s x = Pl.sendN s x := by
  unfold Pl.actN
  rw [if_neg (by omega), if_neg (by omega), if_neg (by omega), if_neg (by omega), if_neg (by omega), if_neg (by omega), if_neg (by omega), if_neg (by omega), if_pos hk]
 have eR : Pl.actR s x = ⟨Pl.sendC s x, [], 0, Pl.sendK s x⟩ := by
  unfold Pl.actR
  rw [if_neg (by omega), if_neg (by omega), if_neg (by omega), if_neg (by omega), if_neg (by omega), if_neg (by omega), if_neg (by omega), if_neg (by omega), if_pos hk]
 rw [eN, eR]
 exact ⟨h2, h1⟩
def Pl.rp (rs : List Pl.Rp) (i : Nat) : Pl.Rp := rs.getD i (Pl.Rp.no 0)
theorem Pl.rp_at (s : Pl.Nt) (xs : List Pl.Ac) (x : Pl.Ac) (ys : List Pl.Ac) : Pl.rp (Pl.runR s (xs ++ x :: ys)) xs.length = Pl.actR (Pl.runN s xs) x := by
 rw [Pl.runR_app]
 unfold Pl.rp
 rw [List.getD_eq_getElem?_getD, List.getElem?_append_right (by rw [Pl.runR_len]; exact Nat.le_refl _), Pl.runR_len, Nat.sub_self]
 rfl
def Pl.DrG (xs : List Pl.Ac) : Prop := xs.length ≤ 46 ∧ ∀ x ∈ xs, Pl.AcOk x ∧ Pl.Dr x
theorem Pl.DrG.dn {xs : List Pl.Ac} (h : Pl.DrG xs) : Pl.DN (Pl.runN Pl.Nt.new xs) (0 + 2 * xs.length) := Pl.DN.new.run fun x hx => (h.2 x hx).2
theorem Pl.DrG.set {xs : List Pl.Ac} (h : Pl.DrG xs) : Pl.Set5 (Pl.runN Pl.Nt.new (xs ++ Pl.settle5)) ∧ Pl.Kept5 (Pl.runN Pl.Nt.new xs) (Pl.runN Pl.Nt.new (xs ++ Pl.settle5)) := by
 rw [Pl.runN_app]
 have := h.1
 exact Pl.settled h.dn (by omega)
theorem Pl.settle5_len : Pl.settle5.length = 90 := by decide
theorem Pl.settle5_ok : ∀ x ∈ Pl.settle5, Pl.AcOk x := by
 intro x hx
 have hz : (⟨#[]⟩ : ByteArray).size ≤ maxLen := by show 0 ≤ _; exact Nat.zero_le _
 have hp : Pl.pairOk ((0 : Int), (0 : Int)) := Pl.pairOk_of (by simp)
 unfold Pl.settle5 at hx
 rcases List.mem_append.1 hx with hx | hx
 ·obtain ⟨a, _, rfl⟩ := List.mem_map.1 hx
  exact ⟨hz, hz, hp, by show (0 : Int) ≤ _; decide, by show (0 : Int) ≤ _; decide⟩
 ·rcases List.mem_append.1 hx with hx | hx
  ·obtain ⟨a, _, rfl⟩ := List.mem_map.1 hx
   exact ⟨hz, hz, hp, by show (-1 : Int) ≤ _; decide, by show (0 : Int) ≤ _; decide⟩
  ·obtain ⟨a, _, rfl⟩ := List.mem_map.1 hx
   exact ⟨hz, hz, hp, by show (0 : Int) ≤ _; decide, by show (0 : Int) ≤ _; decide⟩
theorem Pl.walk_act (s : Pl.Nt) {x : Pl.Ac} (hk : x.kind = 10) (ha : 0 ≤ x.a ∧ x.a ≤ 11) : Pl.actN s x = s ∧ Pl.actR s x = ⟨(Pl.walkR s x).1, (Pl.walkR s x).2.1, (Pl.walkR s x).2.2, []⟩ := by
 constructor
 ·unfold Pl.actN
  rw [if_neg (by omega), if_neg (by omega), if_neg (by omega), if_neg (by omega), if_neg (by omega), if_neg (by omega), if_neg (by omega), if_neg (by omega), if_neg (by omega), if_neg (by omega), if_neg (by omega)]
 ·unfold Pl.actR
  rw [if_neg (by omega), if_neg (by omega), if_neg (by omega), if_neg (by omega), if_neg (by omega), if_neg (by omega), if_neg (by omega), if_neg (by omega), if_neg (by omega), if_neg (by omega), if_neg (by omega)]
theorem Pl.Set5.walk {s : Pl.Nt} (h : Pl.Set5 s) {x : Pl.Ac} (hk : x.kind = 10) {f : Nat} (hxa : x.a = f) (hf : f < 5) (hx : 0 ≤ x.n ∧ x.n ≤ 255) (hm : 0 ≤ x.m) :
  ((Pl.lookC (Pl.tabL (s.K f) f) x.n = 6 ∧ Pl.actR s x = ⟨6, [], 0, []⟩) ∨
     (Pl.lookC (Pl.tabL (s.K f) f) x.n = 0 ∧ ∃ rest c' e, Pl.actR s x = ⟨0, (f : Int) :: rest, c', []⟩ ∧ Pl.Rch s.L f e ∧ ((rest = [] ∧ e = f) ∨ rest.getLast? = some (e : Int)) ∧ Pl.has (s.K f) x.n e ∧ (∀ y ∈ rest, ∃ j : Nat, y = (j : Int) ∧ Pl.Rch s.L f j ∧ (Pl.tD (s.K f) j = true → Pl.has (s.K f) x.n j)) ∧
    ((Pl.lookR (Pl.tabL (s.K f) f) x.n).here = true → rest = []) ∧ ((Pl.lookR (Pl.tabL (s.K f) f) x.n).here = false → rest.head? = some (Pl.nm (Pl.lookR (Pl.tabL (s.K f) f) x.n).hops (x.m.toNat % (Pl.lookR (Pl.tabL (s.K f) f) x.n).hops.length))))) := by
 have ta : x.a.toNat = f := by omega
 obtain ⟨_, eR⟩ := Pl.walk_act s hk (by omega)
 have eW : Pl.walkR s x = Pl.walkK s x.n x.m 13 f [(f : Int)] 0 := by unfold Pl.walkR; rw [if_neg (by omega), ta, hxa]
 rw [eR, eW]
 rcases Pl.look_tab (s.K f) (by omega : f < 12) hx with ⟨h1, _⟩ | ⟨b, _, h1, _⟩
 ·left
  refine ⟨h1, ?_⟩
  have e : Pl.walkK s x.n x.m 13 f [(f : Int)] 0 = (6, [], 0) := by
   unfold Pl.walkK
   rw [h.tab f hf, h1, if_neg (by decide)]
  rw [e]
 ·right
  obtain ⟨rest, c', e, r1, r2, r3, r4, r5, r6, r7⟩ := Pl.walk_ok (s := s) (es := s.K f) (C := fun j => Pl.Rch s.L f j) hx x.m (fun j hj => by have := hj.lt hf; omega) (fun j hj => by rw [h.tab j (hj.lt hf), h.same f j hf hj]) (fun a k ha hk hl => h.links hf ha hk hl) 13 f [(f : Int)] 0 (fun j => decide (j = f)) Pl.Rch.refl h1 (by simp) (fun j hj => Nat.le_of_eq (by rw [of_decide_eq_true hj])) (by omega) (by omega)
  exact ⟨h1, rest, c', e, by rw [r1]; rfl, r2, r3, r4, r5, r6, r7⟩
set_option maxHeartbeats 1000000 in
theorem pred_drawn : PredA 55 := by
 intro W x
 obtain ⟨k, a, b, n, m, ⟨p1, p2⟩, ky, vl⟩ := x
 unfold acV
 go_enter Tryz.func55, Tryz.ntmps55
 go_wp2_with fail
 go_ret
 exact ⟨rfl, (Below.refl _ _).alloc (Nat.le_refl _) _⟩
theorem Pl.dr_of {x : Pl.Ac} (h : Pl.AcG 5 x) (hk : x.kind ≠ 8) : Pl.Dr x := ⟨hk, ⟨h.a0, by have := h.a1; omega⟩, ⟨h.b0, by have := h.b1; omega⟩⟩
set_option maxHeartbeats 1000000 in
theorem Drawn_any (a : Option Addr) (len cap : Nat) (w : World) (h : IsRaws w a len cap) :
  Calls Tryz.prog 23 #[.slice a len cap] w fun e w' => ∃ v xs, e = .returned v ∧ OwnAc w' w.heap.size v xs ∧ xs.length ≤ 45 ∧ (∀ x ∈ xs, Pl.AcOk x ∧ Pl.Dr x) ∧ Below w.heap.size w w' := by
 have HI := hid h
 clear h
 go_enter Tryz.func23, Tryz.ntmps23
 go_wp2_with fail
 refine (Acts_any a len cap 45 5 _ HI.out (by omega) (by omega) (by omega)).mono ?_
 rintro e w1 ⟨v1, xs, rfl, ho, hl, hg, hb⟩
 have HB := hid hb
 have HG := hid hg
 have HL := hid hl
 have HD := hid (DeleteFuncA_any 55 (enters_of Tryz.func55 (by kernel_rfl) rfl) pred_drawn w.heap.size v1 xs w1 ho (fun x hx => (hg x hx).ok) (by omega) hb.size)
 clear ho hl hg hb
 go_wp2_with fail
 refine HD.out.mono ?_
 rintro e w2 ⟨v2, rfl, ho2, hb2⟩
 have HO2 := hid ho2
 have HB2 := hid hb2
 clear ho2 hb2
 go_wp2_with fail
 go_ret
 refine ⟨_, _, rfl, HO2.out, Nat.le_trans (Pl.remA_len _) HL.out, fun x hx => ?_, HB.out.trans HB2.out⟩
 obtain ⟨h1, h2⟩ := List.mem_filter.1 hx
 exact ⟨(HG.out x h1).ok, Pl.dr_of (HG.out x h1) (by simpa using h2)⟩
def PredP (g nb : Nat) (x : Int) : Prop := ∀ (W : World) (p1 p2 : Int), W.cell? ⟨nb, 0, none⟩ = some (.int .i64 x) → nb < W.heap.size → 0 ≤ p2 ∧ p2 ≤ 8 →
 Calls Tryz.prog g #[.agg #[.int .i64 p1, .int .i64 p2], .pointer (some ⟨nb, 0, none⟩)] W fun e w' => e = .returned (.bool (x - x % Pl.span p2 == p1)) ∧ Below W.heap.size W w'
set_option maxHeartbeats 1000000 in
theorem pred_walks (nb : Nat) (x : Int) (hx : 0 ≤ x ∧ x ≤ 255) : PredP 34 nb x := by
 intro W p1 p2 hc hl hp
 have hmask := Pl.mask_span hx hp
 obtain ⟨M, HM⟩ : ∃ M, Hid (x - x % Pl.span p2 = M) := ⟨_, hid rfl⟩
 rw [HM.out] at hmask
 obtain ⟨hb0, hb8⟩ := hp
 have hb64 : p2 ≤ 64 := by omega
 clear hx
 go_enter Tryz.func34, Tryz.ntmps34
 go_wp2_with fail
 go_region
 go_wp2_with fail
 go_ret
 exact ⟨by rw [HM.out]; rfl, ((Below.refl _ _).alloc (Nat.le_refl _) _).drew⟩
set_option maxHeartbeats 2000000 in
theorem IndexFuncP_hit (g nb : Nat) (x : Int) (eg : ∀ args w, (callFunc g args).run Tryz.prog w = .ok (.enter g args) w) (hp : PredP g nb x) (a : Option Addr) (len cap : Nat) (ps : List (Int × Int)) (w : World) (h : IsPairs w a len cap ps) (hok : ∀ p ∈ ps, 0 ≤ p.2 ∧ p.2 ≤ 8) (hc : w.cell? ⟨nb, 0, none⟩ = some (.int .i64 x)) (hl : nb < w.heap.size) (hh : ∃ p ∈ ps, x - x % Pl.span p.2 = p.1) :
  Calls Tryz.prog 61 #[.slice a len cap, .func (.func g) #[] #[.pointer (some ⟨nb, 0, none⟩)]] w fun e w' => ∃ i : Nat, e = .returned (.int .i64 i) ∧ Below w.heap.size w w' := by
 have HH := hid h
 have HP := hid hp
 have HOK := hid hok
 have HC := hid hc
 have HHIT : Hid (∃ j, j < ps.length ∧ x - x % Pl.span (Pl.pr ps j).2 = (Pl.pr ps j).1) := hid (by
  obtain ⟨p, hm, e⟩ := hh
  obtain ⟨j, hj, rfl⟩ := List.getElem_of_mem hm
  exact ⟨j, hj, by rw [Pl.pr_eq ps j hj]; exact e⟩)
 have HLN : Hid (ps.length = len) := hid h.1
 have hcap := h.2.1
 have hmx := h.2.2.1
 unfold maxLen at hmx
 clear h hp hok hc hh
 go_enter Tryz.func61, Tryz.ntmps61
 go_wp2_with fail
 go_loopw [8] (fun i wr => ∃ k : Nat, k ≤ len ∧ i = .int .i64 k ∧ Hid (∀ j, j < k → ¬ (x - x % Pl.span (Pl.pr ps j).2 = (Pl.pr ps j).1)) ∧ Hid (Below w.heap.size w wr)) (fun i _ => len - (intOf i).toNat)
 case atStart => exact ⟨0, Nat.zero_le _, rfl, hid (fun j hj => by omega), hid (Below.refl _ _)⟩
 case round =>
  obtain ⟨k, hk, rfl, HNO, HB⟩ := hrel
  by_cases hlt : k < len
  ·obtain ⟨b, off, rfl, hb, hr⟩ : ∃ b off, a = some ⟨b, off, none⟩ ∧ b < w.heap.size ∧ PairsAt w b off ps := by
    rcases HH.out.2.2.2.2 with h | h
    ·have := HLN.out; rw [h] at this; simp at this; omega
    ·exact h
   obtain ⟨p0, p1⟩ := hr k (by rw [HLN.out]; exact hlt)
   have p0 := (HB.out.cell (p := ⟨b, off + k * 2, none⟩) hb).trans p0
   have p1 := (HB.out.cell (p := ⟨b, off + k * 2 + 1, none⟩) hb).trans p1
   have hbw : b < wr.heap.size := Nat.lt_of_lt_of_le hb HB.out.size
   have hbs := HOK.out _ (Pl.pr_mem ps k (by rw [HLN.out]; exact hlt))
   have HCL := hid (HP.out wr (Pl.pr ps k).1 (Pl.pr ps k).2 ((HB.out.cell (p := ⟨nb, 0, none⟩) hl).trans HC.out) (Nat.lt_of_lt_of_le hl HB.out.size) hbs)
   obtain ⟨q1, q2, hpq⟩ : ∃ x y, Pl.pr ps k = (x, y) := ⟨_, _, rfl⟩
   rw [hpq] at p0 p1 HCL
   simp only at p0 p1 HCL
   have HPQ := hid hpq
   have hlt' : (k : Int) < (len : Int) := by omega
   clear hr hbs hpq
   by_cases hhit : x - x % Pl.span q2 = q1
   ·have hhb : (x - x % Pl.span q2 == q1) = true := by simpa using hhit
    rw [hhb] at HCL
    clear hhit hhb
    go_wp2_with fail
    refine HCL.out.mono ?_
    rintro e w1 ⟨rfl, hb1⟩
    have HBF := hid (HB.out.trans (hb1.mono HB.out.size))
    clear hb1
    go_wp2_with fail
    go_ret
    exact ⟨k, rfl, HBF.out⟩
   ·have hhb : (x - x % Pl.span q2 == q1) = false := by simpa using hhit
    rw [hhb] at HCL
    have HNH := hid hhit
    clear hhit hhb
    go_wp2_with fail
    refine HCL.out.mono ?_
    rintro e w1 ⟨rfl, hb1⟩
    have HBF := hid (HB.out.trans (hb1.mono HB.out.size))
    clear hb1
    go_wp2_with fail
    go_roundw
    case rel => exact ⟨k + 1, by omega, by go_num, hid (fun j hj => by
     rcases Nat.lt_or_ge j k with q | q
     ·exact HNO.out j q
     ·rw [show j = k by omega, HPQ.out]; exact HNH.out), HBF⟩
    case measure => simp [intOf]; omega
  ·obtain rfl : k = len := by omega
   exfalso
   obtain ⟨j, hj, e⟩ := HHIT.out
   exact HNO.out j (by rw [← HLN.out]; exact hj) e
set_option maxHeartbeats 1000000 in
theorem ContainsFuncP_hit (g nb : Nat) (x : Int) (eg : ∀ args w, (callFunc g args).run Tryz.prog w = .ok (.enter g args) w) (hp : PredP g nb x) (a : Option Addr) (len cap : Nat) (ps : List (Int × Int)) (w : World) (h : IsPairs w a len cap ps) (hok : ∀ p ∈ ps, 0 ≤ p.2 ∧ p.2 ≤ 8) (hc : w.cell? ⟨nb, 0, none⟩ = some (.int .i64 x)) (hl : nb < w.heap.size) (hh : ∃ p ∈ ps, x - x % Pl.span p.2 = p.1) :
  Calls Tryz.prog 33 #[.slice a len cap, .func (.func g) #[] #[.pointer (some ⟨nb, 0, none⟩)]] w fun e w' => e = .returned (.bool true) ∧ Below w.heap.size w w' := by
 have HI := hid (IndexFuncP_hit g nb x eg hp a len cap ps w h hok hc hl hh)
 clear h hp hok hc hl hh eg
 go_enter Tryz.func33, Tryz.ntmps33
 go_wp2_with fail
 refine HI.out.mono ?_
 rintro e w1 ⟨i, rfl, hb⟩
 go_wp2_with fail
 go_ret
 exact ⟨by simp, hb⟩
theorem Pl.got_of {m : List Pl.Ent} (hm : Pl.fault m = 0) {k : ByteArray} {p : Pl.Ent} (h : Pl.look m k = some p) : Pl.gotC m k = 0 ∧ Pl.gotE m k = p := by
 have hs := ((Pl.good_iff _).1 hm).2.2
 unfold Pl.gotC Pl.gotE
 rw [if_pos hm, if_pos hm]
 rcases Pl.there_look k hs with ⟨t1, t2⟩ | ⟨t1, t2⟩
 ·rw [if_pos t1, if_pos t1]
  rw [h] at t2
  cases t2
  exact ⟨rfl, rfl⟩
 ·rw [h] at t2; cases t2
theorem Pl.walked {xs ys : List Pl.Ac} (h : Pl.DrG xs) {x : Pl.Ac} {f : Nat} (hk : x.kind = 10) (hxa : x.a = f) (hf : f < 5) (hy : ys = xs ++ Pl.settle5 ++ [x]) :
  ∃ s, Pl.Set5 s ∧ Pl.runN Pl.Nt.new ys = s ∧ Pl.rp (Pl.runR Pl.Nt.new ys) (xs.length + 90) = Pl.actR s x ∧ Pl.Kept5 (Pl.runN Pl.Nt.new xs) s := by
 obtain ⟨h1, h2⟩ := h.set
 refine ⟨_, h1, ?_, ?_, h2⟩
 ·rw [hy, Pl.runN_snoc]
  exact (Pl.walk_act _ hk (by omega)).1
 ·have := Pl.rp_at Pl.Nt.new (xs ++ Pl.settle5) x []
  rw [List.length_append, Pl.settle5_len] at this
  rw [hy]; exact this
theorem Pl.Set5.own {s : Pl.Nt} (h : Pl.Set5 s) {j : Nat} (hj : j < 5) :
  Pl.gotC (s.K j) (Pl.pfxKey (j : Int)) = 0 ∧ Pl.rpC (Pl.gotE (s.K j) (Pl.pfxKey (j : Int))).val.data.toList = 0 ∧ Pl.rpS (Pl.gotE (s.K j) (Pl.pfxKey (j : Int))).val.data.toList = s.P j := by
 obtain ⟨_, e2, l2, _, v2⟩ := h.told j hj
 obtain ⟨c1, c2⟩ := Pl.pfx_back (h.fw.good.P j)
 obtain ⟨g1, g2⟩ := Pl.got_of (h.fw.good.K j) l2
 rw [g2, v2]
 exact ⟨g1, c1, c2⟩
theorem Pl.Set5.has_hit {s : Pl.Nt} (h : Pl.Set5 s) {f j : Nat} (hf : f < 5) (hr : Pl.Rch s.L f j) {x : Int} (hh : Pl.has (s.K f) x j) : ∃ p ∈ s.P j, x - x % Pl.span p.2 = p.1 := by
 obtain ⟨b, _, hm⟩ := hh
 rw [(h.knows hf hr).2.2] at hm
 exact ⟨_, hm, rfl⟩
theorem Pl.last_at {l : List Int} {e : Int} (h : l.getLast? = some e) : 0 < l.length ∧ Pl.nm l (l.length - 1) = e := by
 have hne : l ≠ [] := by rintro rfl; cases h
 have hl := List.length_pos_iff.2 hne
 refine ⟨hl, ?_⟩
 rw [Pl.nm_eq l _ (by omega), ← List.getLast_eq_getElem hne]
 rw [List.getLast?_eq_some_getLast hne] at h
 exact Option.some.inj h
def Pl.colsP (a b : Nat) : List (Nat × Nat) := ((List.range b).filter fun b => decide (a ≠ b)).map fun b => (a, b)
def Pl.rowsP (a : Nat) : List (Nat × Nat) := (List.range a).flatMap fun a => Pl.colsP a 5
theorem Pl.colsP_succ (a b : Nat) : Pl.colsP a (b + 1) = if a = b then Pl.colsP a b else Pl.colsP a b ++ [(a, b)] := by
 unfold Pl.colsP
 rw [List.range_succ, List.filter_append, List.map_append]
 by_cases h : a = b
 ·subst h; simp
 ·rw [if_neg h]; simp [h]
theorem Pl.rowsP_succ (a : Nat) : Pl.rowsP (a + 1) = Pl.rowsP a ++ Pl.colsP a 5 := by
 unfold Pl.rowsP
 rw [List.range_succ, List.flatMap_append]; simp
theorem Pl.rowsP_five : Pl.rowsP 5 = Pl.pairs5 := rfl
theorem Pl.tells_succ (k : Nat) : Pl.tells (List.range (k + 1)) = Pl.tells (List.range k) ++ [Pl.Ac.tell k] := by
 unfold Pl.tells; rw [List.range_succ, List.map_append]; rfl
theorem Pl.decides_succ (k : Nat) : Pl.decides (List.range (k + 1)) = Pl.decides (List.range k) ++ [Pl.Ac.decide k] := by
 unfold Pl.decides; rw [List.range_succ, List.map_append]; rfl
theorem Pl.sends_len (ps : List (Nat × Nat)) : (Pl.sends ps).length = ps.length := by simp [Pl.sends]
theorem Pl.colsP_len (a b : Nat) : (Pl.colsP a b).length ≤ b := by
 unfold Pl.colsP
 rw [List.length_map]
 exact Nat.le_trans (List.length_filter_le _ _) (by simp)
theorem Pl.rowsP_len : ∀ a, (Pl.rowsP a).length ≤ a * 5
 | 0 => by simp [Pl.rowsP]
 | a + 1 => by
  rw [Pl.rowsP_succ, List.length_append]
  have h1 := Pl.rowsP_len a
  have h2 := Pl.colsP_len a 5
  omega
theorem Pl.rounds_len : ∀ r, (Pl.rounds r).length ≤ r * 25
 | 0 => by simp [Pl.rounds]
 | r + 1 => by
  show (Pl.rounds r ++ Pl.pairs5).length ≤ _
  rw [List.length_append]
  have h1 := Pl.rounds_len r
  have h2 : Pl.pairs5.length ≤ 25 := by decide
  omega
def Pl.setS (r a b : Nat) : List Pl.Ac := Pl.tells (List.range 5) ++ Pl.sends (Pl.rounds r ++ (Pl.rowsP a ++ Pl.colsP a b))
theorem Pl.setS_len (r a b : Nat) (hr : r ≤ 4) (ha : a ≤ 5) (hb : b ≤ 5) : (Pl.setS r a b).length ≤ 1000 := by
 unfold Pl.setS
 rw [List.length_append, Pl.sends_len, List.length_append, List.length_append]
 have h1 := Pl.rounds_len r
 have h2 := Pl.rowsP_len a
 have h3 := Pl.colsP_len a b
 have h4 : (Pl.tells (List.range 5)).length = 5 := rfl
 omega
theorem Pl.setS_on {r a b : Nat} (h : a ≠ b) : Pl.setS r a (b + 1) = Pl.setS r a b ++ [Pl.Ac.send a b] := by
 unfold Pl.setS
 rw [Pl.colsP_succ, if_neg h, ← List.append_assoc (Pl.rowsP a), ← List.append_assoc (Pl.rounds r), Pl.sends_app, ← List.append_assoc]
 rfl
theorem Pl.setS_same {r a b : Nat} (h : a = b) : Pl.setS r a (b + 1) = Pl.setS r a b := by
 unfold Pl.setS
 rw [Pl.colsP_succ, if_pos h]
theorem Pl.setS_row (r a : Nat) : Pl.setS r a 5 = Pl.setS r (a + 1) 0 := by
 unfold Pl.setS
 rw [Pl.rowsP_succ, show Pl.colsP (a + 1) 0 = [] from rfl, List.append_nil]
theorem Pl.setS_round (r : Nat) : Pl.setS r 5 0 = Pl.setS (r + 1) 0 0 := by
 unfold Pl.setS
 rw [show Pl.colsP 5 0 = [] from rfl, show Pl.colsP 0 0 = [] from rfl, show Pl.rowsP 0 = [] from rfl, Pl.rowsP_five, List.append_nil, List.append_nil, List.append_nil]
 rfl
theorem Pl.setS_end : Pl.setS 4 0 0 ++ Pl.decides (List.range 5) = Pl.settle5 := by
 unfold Pl.setS Pl.settle5
 rw [show Pl.rowsP 0 ++ Pl.colsP 0 0 = [] from rfl, List.append_nil, List.append_assoc]
set_option maxHeartbeats 8000000 in
theorem Settle_any (w : World) : Calls Tryz.prog 25 #[.int .i64 5] w fun e w' => ∃ v, e = .returned v ∧ OwnAc w' w.heap.size v Pl.settle5 ∧ Below w.heap.size w w' := by
 go_enter Tryz.func25, Tryz.ntmps25
 go_wp2_with fail
 go_loopw [3, 9] (fun vo vi wr => ∃ (k : Nat) (v : Value), v = vo ∧ vi = .int .i64 k ∧ k ≤ 5 ∧ Hid (OwnAc wr w.heap.size v (Pl.tells (List.range k))) ∧ Hid (Below w.heap.size w wr)) (fun _ vi _ => 5 - (intOf vi).toNat)
 case atStart => exact ⟨0, _, rfl, rfl, by omega, hid (OwnAc.nil _ _), hid (Below.refl _ _)⟩
 case round =>
  obtain ⟨k, v, hv, rfl, hk, HO, HB⟩ := hrel
  subst hv
  have hzr := HB.out.size
  obtain ⟨oa, oc, rfl⟩ := ownsRow_slice HO.out
  obtain ⟨no, HNO⟩ : ∃ c, Hid ((Pl.tells (List.range k)).length = c) := ⟨_, hid rfl⟩
  have hno : no ≤ 1000000 := by rw [← HNO.out]; simp [Pl.tells]; omega
  rw [HNO.out] at HO ⊢
  by_cases hk5 : k < 5
  ·have hk5' : (k : Int) < 5 := by omega
   go_wp2_with (at_builtin; refine append_ac rfl (.tmp 12) (.tmp 15) rfl w.heap.size (.slice oa no oc) (Pl.tells (List.range k)) (Pl.Ac.tell k) rfl HO.out hzr rfl (by rw [HNO.out]; exact hno) ?_; intro v5 w5 ho5 hb5; have HO5 := hid ho5; have HB5 := hid hb5; clear ho5 hb5)
   go_roundw
   case rel => exact ⟨k + 1, _, rfl, by go_num, by omega, hid (by rw [Pl.tells_succ]; exact HO5.out), hid (HB.out.trans HB5.out)⟩
   case measure => simp [intOf]; omega
  ·obtain rfl : k = 5 := by omega
   have HS0 : Hid (OwnAc wr w.heap.size (.slice oa no oc) (Pl.setS 0 0 0)) := hid (by
    have e : Pl.setS 0 0 0 = Pl.tells (List.range 5) := by unfold Pl.setS; rw [show Pl.rounds 0 ++ (Pl.rowsP 0 ++ Pl.colsP 0 0) = [] from rfl]; simp [Pl.sends]
    rw [e]; exact HO.out)
   clear HO HNO hno hk hk5
   go_wp2_with fail
   go_loopw [3, 20] (fun vo vi wq => ∃ (r : Nat) (v : Value), v = vo ∧ vi = .int .i64 r ∧ r ≤ 4 ∧ Hid (OwnAc wq w.heap.size v (Pl.setS r 0 0)) ∧ Hid (Below w.heap.size w wq)) (fun _ vi _ => 4 - (intOf vi).toNat)
   case atStart => exact ⟨0, _, rfl, rfl, by omega, HS0, HB⟩
   case round =>
    clear HS0 HB hzr
    obtain ⟨r, v, hv, rfl, hr, HO, HB⟩ := hrel
    subst hv
    rename World => wq
    by_cases hr4 : r < 4
    ·have hr4' : (r : Int) < 4 := by omega
     go_wp2_with fail
     go_loopw [3, 23] (fun vo vi w3 => ∃ (a : Nat) (v : Value), v = vo ∧ vi = .int .i64 a ∧ a ≤ 5 ∧ Hid (OwnAc w3 w.heap.size v (Pl.setS r a 0)) ∧ Hid (Below w.heap.size w w3)) (fun _ vi _ => 5 - (intOf vi).toNat)
     case atStart => exact ⟨0, _, rfl, rfl, by omega, HO, HB⟩
     case round =>
      clear HO HB
      obtain ⟨a, v, hv, rfl, ha, HO, HB⟩ := hrel
      subst hv
      rename World => w3
      have hr4t : decide ((r : Int) < 4) = true := by simpa using hr4'
      by_cases ha5 : a < 5
      ·have ha5' : (a : Int) < 5 := by omega
       go_wp2_with fail
       go_loopw [3, 27] (fun vo vi w4 => ∃ (b : Nat) (v : Value), v = vo ∧ vi = .int .i64 b ∧ b ≤ 5 ∧ Hid (OwnAc w4 w.heap.size v (Pl.setS r a b)) ∧ Hid (Below w.heap.size w w4)) (fun _ vi _ => 5 - (intOf vi).toNat)
       case atStart => exact ⟨0, _, rfl, rfl, by omega, HO, HB⟩
       case round =>
        clear HO HB
        obtain ⟨b, v, hv, rfl, hb, HO, HB⟩ := hrel
        subst hv
        rename World => w4
        have hzr := HB.out.size
        have ha5t : decide ((a : Int) < 5) = true := by simpa using ha5'
        obtain ⟨oa, oc, rfl⟩ := ownsRow_slice HO.out
        obtain ⟨no, HNO⟩ : ∃ c, Hid ((Pl.setS r a b).length = c) := ⟨_, hid rfl⟩
        have hno : no ≤ 1000000 := by rw [← HNO.out]; have := Pl.setS_len r a b hr (by omega) hb; omega
        rw [HNO.out] at HO ⊢
        by_cases hb5 : b < 5
        ·have hb5' : (b : Int) < 5 := by omega
         by_cases hab : a = b
         ·have HSE : Hid (Pl.setS r a (b + 1) = Pl.setS r a b) := hid (Pl.setS_same hab)
          have habb : ((a : Int) != (b : Int)) = false := by simp [hab]
          clear hab
          go_wp2_with fail
          go_roundw
          case rel => exact ⟨b + 1, _, rfl, by go_num, by omega, hid (by rw [HSE.out]; exact HO.out), HB⟩
          case measure => simp [intOf]; omega
         ·have HSE : Hid (Pl.setS r a (b + 1) = Pl.setS r a b ++ [Pl.Ac.send a b]) := hid (Pl.setS_on hab)
          have habb : ((a : Int) != (b : Int)) = true := by simp; omega
          clear hab
          go_wp2_with (at_builtin; refine append_ac rfl (.tmp 33) (.tmp 37) rfl w.heap.size (.slice oa no oc) (Pl.setS r a b) (Pl.Ac.send a b) rfl HO.out hzr rfl (by rw [HNO.out]; exact hno) ?_; intro v5 w5 ho5 hb5; have HO5 := hid ho5; have HB5 := hid hb5; clear ho5 hb5)
          go_roundw
          case rel =>
           repeat apply Exists.intro
           exact ⟨⟨b + 1, _, rfl, by go_num, by omega, hid (by rw [HSE.out]; exact HO5.out), hid (HB.out.trans HB5.out)⟩, rfl⟩
          case measure => simp [intOf]; omega
        ·obtain rfl : b = 5 := by omega
         have HSE : Hid (Pl.setS r a 5 = Pl.setS r (a + 1) 0) := hid (Pl.setS_row r a)
         go_wp2_with fail
         go_roundw
         case rel => exact ⟨a + 1, _, rfl, by go_num, by omega, hid (by rw [← HSE.out]; exact HO.out), HB⟩
         case measure => simp [intOf]; omega
      ·obtain rfl : a = 5 := by omega
       have HSE : Hid (Pl.setS r 5 0 = Pl.setS (r + 1) 0 0) := hid (Pl.setS_round r)
       go_wp2_with fail
       go_roundw
       case rel => exact ⟨r + 1, _, rfl, by go_num, by omega, hid (by rw [← HSE.out]; exact HO.out), HB⟩
       case measure => simp [intOf]; omega
    ·obtain rfl : r = 4 := by omega
     go_wp2_with fail
     go_loopw [3, 43] (fun vo vi w3 => ∃ (k : Nat) (v : Value), v = vo ∧ vi = .int .i64 k ∧ k ≤ 5 ∧ Hid (OwnAc w3 w.heap.size v (Pl.setS 4 0 0 ++ Pl.decides (List.range k))) ∧ Hid (Below w.heap.size w w3)) (fun _ vi _ => 5 - (intOf vi).toNat)
     case atStart => exact ⟨0, _, rfl, rfl, by omega, hid (by rw [show Pl.decides (List.range 0) = [] from rfl, List.append_nil]; exact HO.out), HB⟩
     case round =>
      clear HO HB
      obtain ⟨k, v, hv, rfl, hk, HO, HB⟩ := hrel
      subst hv
      rename World => w3
      have hzr := HB.out.size
      obtain ⟨oa, oc, rfl⟩ := ownsRow_slice HO.out
      obtain ⟨no, HNO⟩ : ∃ c, Hid ((Pl.setS 4 0 0 ++ Pl.decides (List.range k)).length = c) := ⟨_, hid rfl⟩
      have hno : no ≤ 1000000 := by
       rw [← HNO.out, List.length_append]
       have h1 := Pl.setS_len 4 0 0 (by omega) (by omega) (by omega)
       have h2 : (Pl.decides (List.range k)).length = k := by simp [Pl.decides]
       omega
      rw [HNO.out] at HO ⊢
      by_cases hk5 : k < 5
      ·have hk5' : (k : Int) < 5 := by omega
       go_wp2_with (at_builtin; refine append_ac rfl (.tmp 46) (.tmp 49) rfl w.heap.size (.slice oa no oc) (Pl.setS 4 0 0 ++ Pl.decides (List.range k)) (Pl.Ac.decide k) rfl HO.out hzr rfl (by rw [HNO.out]; exact hno) ?_; intro v5 w5 ho5 hb5; have HO5 := hid ho5; have HB5 := hid hb5; clear ho5 hb5)
       go_roundw
       case rel =>
        repeat apply Exists.intro
        exact ⟨⟨k + 1, _, rfl, by go_num, by omega, hid (by rw [Pl.decides_succ, ← List.append_assoc]; exact HO5.out), hid (HB.out.trans HB5.out)⟩, rfl⟩
       case measure => simp [intOf]; omega
      ·obtain rfl : k = 5 := by omega
       have h1 := HO.out
       rw [Pl.setS_end] at h1
       have HO1 := hid h1
       clear h1
       go_wp2_with fail
       go_ret
       exact ⟨_, rfl, HO1.out, HB.out⟩
def RunP (w : World) (xs : List Pl.Ac) (w' : World) (vr vs : Value) : Prop :=
 (∃ ts, OwnRp w' w.heap.size vr ts ∧ ts.map RpV.r = Pl.runR Pl.Nt.new xs) ∧ ∃ us, OwnL w' w.heap.size vs us ∧ us.length = 12 ∧ ∀ i, i < 12 → Own w' w.heap.size (us.getD i undef) ((Pl.runN Pl.Nt.new xs).K i)
set_option maxHeartbeats 8000000 in
theorem Run_any (a : Option Addr) (len cap : Nat) (xs : List Pl.Ac) (w : World) (h : IsActs w a len cap xs) (hl : len ≤ 400) (hT : Tab w) :
  Calls Tryz.prog 12 #[.slice a len cap] w fun e w' => ∃ vr vs, e = .returned (.tuple #[vr, vs, .int .i64 0]) ∧ RunP w xs w' vr vs ∧ Below w.heap.size w w' := by
 have HA := hid h
 have HTab := hid hT
 have HLN := hid h.1
 have HOK := hid h.2.2.2.1
 have hcap := h.2.1
 have hmx := h.2.2.1
 unfold maxLen at hmx
 clear h hT
 have hl' : ¬ (400 : Int) < (len : Int) := by omega
 obtain ⟨W1, HW1⟩ : ∃ W, Hid (W = w.alloc (.cells Tryz.zeroCells92 92)) := ⟨_, hid rfl⟩
 have HN1 : Hid (NetAt W1 w.heap.size Pl.Nt.new) := hid (by rw [HW1.out]; exact NetAt.new w)
 have HB1 : Hid (Below w.heap.size w W1) := hid (by rw [HW1.out]; exact (Below.refl _ _).alloc (Nat.le_refl _) _)
 have hz1 : W1.heap.size = w.heap.size + 1 := by rw [HW1.out]; simp
 go_enter Tryz.func12, Tryz.ntmps12
 go_wp2_with (rw [← HW1.out])
 go_loopw [6, 14] (fun vr vi wr => ∃ (k : Nat) (v : Value) (ts : List RpV), v = vr ∧ vi = .int .i64 k ∧ k ≤ len ∧ Hid (OwnRp wr (w.heap.size + 1) v ts) ∧ Hid (ts.map RpV.r = Pl.runR Pl.Nt.new (xs.take k)) ∧ Hid (NetAt wr w.heap.size (Pl.runN Pl.Nt.new (xs.take k))) ∧ Hid (NKept w.heap.size W1 wr)) (fun _ vi _ => len - (intOf vi).toNat)
 case atStart => exact ⟨0, _, [], rfl, rfl, by omega, hid (OwnRp.nil _ _), hid rfl, hid HN1.out, hid (NKept.refl _ _)⟩
 case round =>
  obtain ⟨k, v, ts, hv, rfl, hk, HO, HTS, HN, HK⟩ := hrel
  subst hv
  have HLT : Hid (ts.length = k) := hid (by
   have := congrArg List.length HTS.out
   rw [List.length_map, Pl.runR_len, List.length_take, HLN.out] at this
   omega)
  have HBW : Hid (Below w.heap.size w wr) := hid (HB1.out.trans (HK.out.below (Nat.le_refl _) (by omega)))
  have hzr := HK.out.size
  obtain ⟨ra, rc, rfl⟩ := ownsRow_slice HO.out.1
  obtain ⟨nr, HNR⟩ : ∃ c, Hid (ts.length = c) := ⟨_, hid rfl⟩
  by_cases hkl : k < len
  ·have hkl' : (k : Int) < (len : Int) := by omega
   obtain ⟨b, off, rfl, hbw, hr⟩ := HA.out.at hkl
   obtain ⟨x, HX⟩ : ∃ x, Hid (Pl.ac xs k = x) := ⟨_, hid rfl⟩
   have HXOK : Hid (Pl.AcOk x) := hid (by rw [← HX.out]; exact HOK.out _ (Pl.ac_mem xs k (by rw [HLN.out]; exact hkl)))
   obtain ⟨c0, c1, c2, c3, c4, c5, c6, c7, c8⟩ := hr.nine (by rw [HLN.out]; exact hkl) HX.out
   have HTK : Hid (xs.take (k + 1) = xs.take k ++ [x]) := hid (by rw [← HX.out]; exact Pl.take_ac xs k (by rw [HLN.out]; exact hkl))
   obtain ⟨s, HS⟩ : ∃ s, Hid (Pl.runN Pl.Nt.new (xs.take k) = s) := ⟨_, hid rfl⟩
   rw [HS.out] at HN
   have HG : Hid (Pl.GoodN s) := hid (by rw [← HS.out]; exact Pl.GoodN.new.run _)
   have HR1 : Hid (Pl.runR Pl.Nt.new (xs.take (k + 1)) = Pl.runR Pl.Nt.new (xs.take k) ++ [Pl.actR s x]) := hid (by rw [HTK.out, Pl.runR_snoc, HS.out])
   have HN2 : Hid (Pl.runN Pl.Nt.new (xs.take (k + 1)) = Pl.actN s x) := hid (by rw [HTK.out, Pl.runN_snoc, HS.out])
   obtain ⟨W2, HW2⟩ : ∃ W, Hid (W = wr.alloc (.cells #[.int .i64 x.kind, .int .i64 x.a, .int .i64 x.b, .int .i64 x.n, .int .i64 x.m, .int .i64 x.p.1, .int .i64 x.p.2, .string x.key, .string x.val] 51)) := ⟨_, hid rfl⟩
   have HB2 : Hid (Below wr.heap.size wr W2) := hid (by rw [HW2.out]; exact (Below.refl _ _).alloc (Nat.le_refl _) _)
   have hx2 : W2.heap[wr.heap.size]? = some (.cells #[.int .i64 x.kind, .int .i64 x.a, .int .i64 x.b, .int .i64 x.n, .int .i64 x.m, .int .i64 x.p.1, .int .i64 x.p.2, .string x.key, .string x.val] 51) := by rw [HW2.out]; exact heapNew _ _
   have HAC := hid (act_any w.heap.size s x W2 (HN.out.below HB2.out) HG.out HXOK.out (HTab.out.below (HBW.out.trans (HB2.out.mono (by omega)))))
   unfold acV at HAC
   have d0 := (HBW.out.cell (p := ⟨b, off + k * 9, none⟩) hbw).trans c0
   have d1 := (HBW.out.cell (p := ⟨b, off + k * 9 + 1, none⟩) hbw).trans c1
   have d2 := (HBW.out.cell (p := ⟨b, off + k * 9 + 2, none⟩) hbw).trans c2
   have d3 := (HBW.out.cell (p := ⟨b, off + k * 9 + 3, none⟩) hbw).trans c3
   have d4 := (HBW.out.cell (p := ⟨b, off + k * 9 + 4, none⟩) hbw).trans c4
   have d5 := (HBW.out.cell (p := ⟨b, off + k * 9 + 5, none⟩) hbw).trans c5
   have d6 := (HBW.out.cell (p := ⟨b, off + k * 9 + 6, none⟩) hbw).trans c6
   have d7 := (HBW.out.cell (p := ⟨b, off + k * 9 + 7, none⟩) hbw).trans c7
   have d8 := (HBW.out.cell (p := ⟨b, off + k * 9 + 8, none⟩) hbw).trans c8
   obtain ⟨r, HRR⟩ : ∃ r, Hid (Pl.actR s x = r) := ⟨_, hid rfl⟩
   obtain ⟨sn, HSN⟩ : ∃ r, Hid (Pl.actN s x = r) := ⟨_, hid rfl⟩
   rw [HRR.out, HSN.out] at HAC
   rw [HRR.out] at HR1
   rw [HSN.out] at HN2
   obtain ⟨kind, xa, xb, n, m, ⟨p1, p2⟩, key, val⟩ := x
   simp only at d0 d1 d2 d3 d4 d5 d6 d7 d8 HAC HW2 hx2
   have hzw2 := HB2.out.size
   obtain ⟨e0, e1, e2, e3, e4, e5, e6, e7, e8⟩ := box9 hx2
   clear c0 c1 c2 c3 c4 c5 c6 c7 c8 hr hx2
   rw [HNR.out]
   go_wp2_with (rw [← HW2.out])
   refine HAC.out.mono ?_
   rintro e w3 ⟨vp, vk, rfl, hp3, hk3, hn3, hkk⟩
   obtain ⟨ya, yc, rfl⟩ := ownsRow_slice hp3
   obtain ⟨za, zc, rfl⟩ := ownsRow_slice hk3
   have HKK : Hid (NKept w.heap.size W1 w3) := hid ((HK.out.trans (NKept.of (But.of HB2.out))).trans hkk)
   have HOT : Hid (OwnRp w3 (w.heap.size + 1) (.slice ra ts.length rc) ts) := hid ((HO.out.below HB2.out).nkept hkk (by omega))
   have HP3 := hid hp3
   have HK3 := hid hk3
   have HN3 := hid hn3
   have hz3 := hkk.size
   obtain ⟨np, HNP⟩ : ∃ c, Hid (r.path.length = c) := ⟨_, hid rfl⟩
   obtain ⟨nk, HNK⟩ : ∃ c, Hid (r.keys.length = c) := ⟨_, hid rfl⟩
   rw [HNP.out] at HP3 ⊢
   rw [HNK.out] at HK3 ⊢
   have hnr : ts.length ≤ 1000000 := by have := HLT.out; omega
   clear e0 e1 e2 e3 e4 e5 e6 e7 e8 d0 d1 d2 d3 d4 d5 d6 d7 d8 hp3 hk3 hn3 hkk
   have HAP := hid (HNR.out)
   go_wp2_with (at_builtin; refine append_rp rfl (.tmp 18) (.tmp 21) rfl (w.heap.size + 1) (.slice ra ts.length rc) ts ⟨.slice ya np yc, .slice za nk zc, r⟩ ya za np yc nk zc rfl rfl (by rw [HAP.out]; rfl) HOT.out.1 (by omega) rfl hnr ?_; intro v7 w7 ho7 hg7; obtain ⟨a7, c7, rfl⟩ := ownsRow_slice ho7; have HO7 := hid ho7; have HG7 := hid hg7; obtain ⟨n7, HN7⟩ : ∃ c, Hid ((ts ++ [(⟨.slice ya np yc, .slice za nk zc, r⟩ : RpV)]).length = c) := ⟨_, hid rfl⟩; rw [HN7.out]; clear ho7 hg7)
   have HVR := hid (World.ownsRow.alloc HOT.out.1 (.cells #[.int .i64 r.code, .slice ya np yc, .int .i64 r.cost, .slice za nk zc] 40))
   have hb3 : Below w3.heap.size w3 (w3.alloc (.cells #[.int .i64 r.code, .slice ya np yc, .int .i64 r.cost, .slice za nk zc] 40)) := (Below.refl _ _).alloc (Nat.le_refl _) _
   go_roundw
   case rel =>
    refine ⟨k + 1, _, ts ++ [⟨.slice ya np yc, .slice za nk zc, r⟩], rfl, by go_num, by omega, hid ⟨?_, fun t ht => ?_⟩, hid ?_, hid ?_, hid ?_⟩
    ·have h1 := HO7.out
     rw [HN7.out] at h1 ⊢
     exact h1
    ·rcases List.mem_append.1 ht with ht | ht
     ·obtain ⟨q1, q2⟩ := HOT.out.2 t ht
      exact ⟨grown_keeps HVR.out HG7.out (OwnZ.below q1 hb3) (by decide), grown_keeps HVR.out HG7.out (OwnS.below q2 hb3) (by decide)⟩
     ·have ht : t = ⟨.slice ya np yc, .slice za nk zc, r⟩ := by simpa using ht
      subst ht
      have h1 := (HP3.out.mono (show w.heap.size + 1 ≤ W2.heap.size by omega)).below hb3
      have h2 := OwnS.below (World.ownsRow_mono HK3.out (show w.heap.size + 1 ≤ W2.heap.size by omega)) hb3
      exact ⟨grown_keeps HVR.out HG7.out h1 (by decide), grown_keeps HVR.out HG7.out h2 (by decide)⟩
    ·rw [HR1.out, ← HTS.out, List.map_append]; rfl
    ·rw [HN2.out]
     exact NetAt.grown (HN3.out.below hb3) HVR.out HG7.out (Nat.lt_succ_self _)
    ·exact NKept.grownRp (HKK.out.trans (NKept.of (But.of hb3))) HVR.out HG7.out (by omega)
   case measure => simp [intOf]; omega
  ·obtain rfl : k = len := by omega
   have HTF : Hid (xs.take k = xs) := hid (by rw [← HLN.out]; exact List.take_length)
   rw [HTF.out] at HTS HN
   have HST := hid (netStores_any w.heap.size (Pl.runN Pl.Nt.new xs) wr HN.out)
   rw [HNR.out]
   go_wp2_with fail
   refine HST.out.mono ?_
   rintro e w5 ⟨v5, us, rfl, ho5, hu5, hs5, hb5⟩
   obtain ⟨ua, uc, rfl⟩ := ownsRow_slice ho5
   obtain ⟨n5, HN5⟩ : ∃ c, Hid (us.length = c) := ⟨_, hid rfl⟩
   have HO5 := hid ho5
   have HS5 := hid hs5
   have HB5 := hid hb5
   have HU5 := hid hu5
   rw [HN5.out]
   clear ho5 hs5 hb5 hu5
   go_wp2_with fail
   refine bodyPost_ret (v := .tuple #[.slice ra nr rc, .slice ua n5 uc, .int .i64 0]) (by simp [results, Tryz.results12, go_sem]) rfl ⟨_, _, rfl, ⟨⟨ts, ?_, HTS.out⟩, us, ?_, HU5.out, fun i hi => Own.mono (HS5.out i hi) (by omega)⟩, HBW.out.trans (HB5.out.mono HBW.out.size)⟩
   ·rw [← HNR.out]
    exact (HO.out.below HB5.out).mono (by omega)
   ·have h1 := HO5.out
    rw [HN5.out] at h1
    exact World.ownsRow_mono h1 HBW.out.size
end Go.Proofs.YtjjelkdajdeikaaGreatDoor
