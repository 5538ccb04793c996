/-
  Contracts and facts that the proof rests on, put together out of several texts.
-/
import Derived.Test.YtcdobhdbafpkiadDoorShelf
import Derived.Test.YtcdobhdbafpkiadDoorAll1
import Derived.Lib.ItoaMem
import Derived.Lib.ItoaLen
import Derived.Laws.IdiomStrings
import Derived.Lib.BufferRead
import Derived.Deep.QuietTactic
import Derived.BigQuiet
import Derived.WalkKit
import Derived.Test.YtcdobhdbafpkiadDoorProg
import Derived.WalkLawsBesides
import Derived.WalkSpells
import Derived.Deep.RegionWith
import Derived.OwnWalk
/-
  Plain: pairs shown as a text; contracts of the library's strconv.Itoa and of the document's dec.
-/
namespace Go.Proofs.YtcdobhdbafpkiadDoor
open Go.RowKit
set_option maxRecDepth 20000

/-- the table that strconv reads -/
def Tab (w : World) : Prop := Lib.TabIs Tryd.prog w "internal/strconv.uint64pow10" .u64 Lib.pow10Tab
theorem Tab.below {w w' : World} (h : Tab w) (k : Below w.heap.size w w') : Tab w' := by
  unfold Tab Lib.TabIs World.var? at h ⊢
  cases hg : Tryd.prog.globalNamed "internal/strconv.uint64pow10" with
  | none => rw [hg] at h; cases h
  | some g =>
  rw [hg] at h
  simp only [Option.bind_some] at h ⊢
  have hlt : g < w.heap.size := by
    rcases Nat.lt_or_ge g w.heap.size with h' | h'
    · exact h'
    · rw [Array.getElem?_eq_none h'] at h; cases h
  rw [k.block g hlt]
  exact h
theorem below_grow (w : World) (k : Nat) (os : Array Obj) : Below w.heap.size w (Sort.grow (w.drewN k) os) := by
  refine ⟨rfl, rfl, rfl, ?_, fun j hj => ?_⟩
  · show w.heap.size ≤ (w.heap ++ os).size
    simp
  · show (w.heap ++ os)[j]? = w.heap[j]?
    rw [Array.getElem?_append_left hj]

/-- a number's digits -/
def Pl.dec (n : Int) : ByteArray := ⟨(Lib.itoa n).toArray⟩
theorem Pl.dec_size (n : Int) (h0 : -9223372036854775808 ≤ n) (h1 : n ≤ 9223372036854775807) : (Pl.dec n).size ≤ 21 := by
  have := Lib.itoa_length_le n h0 h1
  show (Lib.itoa n).toArray.size ≤ 21
  simpa using this
theorem Itoa_any (n : Int) (w : World) (h0 : 0 ≤ n) (h1 : n ≤ 100000) (hT : Tab w) :
    Calls Tryd.prog 24 #[.int .i64 n] w fun e w' => e = .returned (.string (Pl.dec n)) ∧ Below w.heap.size w w' :=
  (Tryd.strconv_Itoa n (by omega) (by omega) w hT).mono fun e w' ⟨h, k, os, hw⟩ => ⟨h, hw ▸ below_grow w k os⟩

/-- a pair as a text, with a sign between -/
def Pl.sideT (m : ByteArray) (p : Int × Int) : ByteArray := Pl.dec p.1 ++ m ++ Pl.dec p.2
/-- pairs as a text -/
def Pl.showT (m : ByteArray) (ps : List (Int × Int)) : ByteArray := ⟨(Lib.join ((ps.map (Pl.sideT m)).map (·.data.toList)) [44]).toArray⟩
def Pl.small (p : Int × Int) : Prop := 0 ≤ p.1 ∧ p.1 ≤ 1000 ∧ 0 ≤ p.2 ∧ p.2 ≤ 1000
theorem Pl.dec_le (n : Int) (h0 : 0 ≤ n) (h1 : n ≤ 1000) : (Pl.dec n).size ≤ 21 := Pl.dec_size n (by omega) (by omega)
theorem Pl.sideT_size (m : ByteArray) (p : Int × Int) (h : Pl.small p) : (Pl.sideT m p).size ≤ 42 + m.size := by
  obtain ⟨h1, h2, h3, h4⟩ := h
  unfold Pl.sideT
  rw [ByteArray.size_append, ByteArray.size_append]
  have := Pl.dec_le p.1 h1 h2
  have := Pl.dec_le p.2 h3 h4
  omega
end Go.Proofs.YtcdobhdbafpkiadDoor
/-
  Contract: pairs shown as a text: showPairs; the region that appends one part, by the rule of Inv.
-/
namespace Go.Proofs.YtcdobhdbafpkiadDoor
open Go.RowKit
set_option maxRecDepth 20000

def SF (p : Int × Int) (m : ByteArray) (R : Nat) (v0 : Value) (w : World) : Nat → Value → Prop
  | 0, v => v = v0
  | 1, v => v = .pointer (some ⟨R, 0, none⟩)
  | 2, v => v = .int .i64 p.1
  | 3, v => v = .string (Pl.dec p.1)
  | 4, v => v = .string m
  | 5, v => v = .string (Pl.dec p.1 ++ m)
  | 6, v => v = .pointer (some ⟨R, 1, none⟩)
  | 7, v => v = .int .i64 p.2
  | 8, v => v = .string (Pl.dec p.2)
  | 9, v => v = .string (Pl.sideT m p)
  | 10, v => ∃ b, v = .slice (some ⟨b, 0, none⟩) 1 1 ∧ b < w.heap.size ∧ w.cell? ⟨b, 0, none⟩ = some (.string (Pl.sideT m p))
  | _, _ => True
theorem SF.mono {p : Int × Int} {m : ByteArray} {R : Nat} {v0 : Value} {w w' : World} {k : Nat} {v : Value} (h : SF p m R v0 w k v) (hb : Below w.heap.size w w') : SF p m R v0 w' k v := by
  have hz := hb.size
  match k, h with
  | 10, ⟨b, h1, h2, h3⟩ => exact ⟨b, h1, by omega, ((bcell hb).1 b 0 h2).trans h3⟩
  | 0, h => exact h
  | 1, h => exact h
  | 2, h => exact h
  | 3, h => exact h
  | 4, h => exact h
  | 5, h => exact h
  | 6, h => exact h
  | 7, h => exact h
  | 8, h => exact h
  | 9, h => exact h
  | n + 11, h => exact h
/-- what holds while the region's operations are carried out; L: slots that it does not write -/
structure SInv (p : Int × Int) (m : ByteArray) (R base : Nat) (v0 : Value) (ks : List ByteArray) (W0 : World) (L : List (Nat × Value)) (listed : Array Bool) (a : Act) (w : World) : Prop where
  ls : listed.size = 13
  sz : a.tmps.size = 29
  df : a.defers = []
  keep : ∀ x ∈ L, a.tmps[x.1]?.getD undef = x.2
  s5 : listed.getD 12 false = false → a.tmps[5]?.getD undef = v0
  f : listed.getD 11 false = false → ∀ k, k < 11 → listed.getD k false = true → SF p m R v0 w k (a.tmps[k + 14]?.getD undef)
  nb : listed.getD 11 false = false → Below W0.heap.size W0 w
  al : listed.getD 12 false = true → listed.getD 11 false = true
  ap : listed.getD 11 false = true → listed.getD 12 false = false → ∃ v1, a.tmps[25]?.getD undef = v1 ∧ OwnT w base v1 (ks ++ [Pl.sideT m p]) ∧ Below base W0 w
  dn : listed.getD 12 false = true → ∃ v1, a.tmps[5]?.getD undef = v1 ∧ OwnT w base v1 (ks ++ [Pl.sideT m p]) ∧ Below base W0 w
theorem SInv.put {p : Int × Int} {m : ByteArray} {R base : Nat} {v0 : Value} {ks : List ByteArray} {W0 : World} {L : List (Nat × Value)} (hL : ∀ x ∈ L, x.1 ≠ 5 ∧ (x.1 < 14 ∨ 25 < x.1)) {listed : Array Bool} {a : Act} {w w' : World} {i : Nat} {v : Value}
    (h : SInv p m R base v0 ks W0 L listed a w) (hi : i < 11) (hn : listed.getD 11 false = false) (hn2 : listed.getD 12 false = false) (hb : Below w.heap.size w w') (hv : SF p m R v0 w' i v) :
    SInv p m R base v0 ks W0 L (listed.setIfInBounds i true) (a.put (some (i + 14)) v) w' := by
  have h11 : (listed.setIfInBounds i true).getD 11 false = false := by rw [getD_set_ne false (by omega)]; exact hn
  have h12 : (listed.setIfInBounds i true).getD 12 false = false := by rw [getD_set_ne false (by omega)]; exact hn2
  refine ⟨by simp [h.ls], by simp [Act.put, h.sz], h.df, ?_, ?_, ?_, fun _ => ?_, (fun h' => by rw [h12] at h'; cases h'), (fun h' => by rw [h11] at h'; cases h'), (fun h' => by rw [h12] at h'; cases h')⟩
  · intro x hx
    have := hL x hx
    rw [eval_ne (by omega)]; exact h.keep x hx
  · intro _
    rw [eval_ne (by omega)]; exact h.s5 hn2
  · intro _ k hk hl
    by_cases hki : i = k
    · subst hki
      rw [eval_eq (by rw [h.sz]; omega)]
      exact hv
    · rw [getD_set_ne false hki] at hl
      rw [eval_ne (by omega)]
      exact (h.f hn k hk hl).mono hb
  · have := h.nb hn
    exact this.trans (hb.mono this.size)
theorem arr29 (xs : Array Value) (h : xs.size = 29) : ∃ t0 t1 t2 t3 t4 t5 t6 t7 t8 t9 t10 t11 t12 t13 t14 t15 t16 t17 t18 t19 t20 t21 t22 t23 t24 t25 t26 t27 t28, xs = #[t0, t1, t2, t3, t4, t5, t6, t7, t8, t9, t10, t11, t12, t13, t14, t15, t16, t17, t18, t19, t20, t21, t22, t23, t24, t25, t26, t27, t28] := by
  obtain ⟨l⟩ := xs
  simp at h
  match l, h with
  | [t0, t1, t2, t3, t4, t5, t6, t7, t8, t9, t10, t11, t12, t13, t14, t15, t16, t17, t18, t19, t20, t21, t22, t23, t24, t25, t26, t27, t28], _ => exact ⟨t0, t1, t2, t3, t4, t5, t6, t7, t8, t9, t10, t11, t12, t13, t14, t15, t16, t17, t18, t19, t20, t21, t22, t23, t24, t25, t26, t27, t28, rfl⟩
end Go.Proofs.YtcdobhdbafpkiadDoor
/-
  Contract: pairs shown as a text: showPairs.
-/
namespace Go.Proofs.YtcdobhdbafpkiadDoor
open Go.RowKit
set_option maxRecDepth 20000

theorem Pl.take_prS (ps : List (Int × Int)) (k : Nat) (h : k < ps.length) : ps.take (k + 1) = ps.take k ++ [Pl.pr ps k] := by
  rw [List.take_succ_eq_append_getElem h, Pl.pr_eq ps k h]

theorem Pl.lens_le (B : Nat) : ∀ (xs : List (List UInt8)), (∀ x ∈ xs, x.length ≤ B) → Lib.lens xs ≤ xs.length * B
  | [], _ => by simp [Lib.lens]
  | x :: r, h => by
    have h1 := Pl.lens_le B r (fun y hy => h y (by simp [hy]))
    have h2 := h x (by simp)
    simp only [Lib.lens, List.map_cons, List.sum_cons, List.length_cons] at h1 ⊢
    rw [Nat.add_mul]; omega
theorem Pl.join_le (B : Nat) (xs : List (List UInt8)) (sep : List UInt8) (h : ∀ x ∈ xs, x.length ≤ B) : (Lib.join xs sep).length ≤ xs.length * (B + sep.length) := by
  cases xs with
  | nil => simp [Lib.join_nil]
  | cons x r =>
    rw [Lib.join_cons, List.length_append, Lib.joinTail_length]
    have h1 := Pl.lens_le B r (fun y hy => h y (by simp [hy]))
    have h2 := h x (by simp)
    rw [List.length_cons, Nat.add_mul, Nat.mul_add, Nat.mul_comm sep.length]; omega
theorem Pl.show_len (m : ByteArray) (ps : List (Int × Int)) (hs : ∀ p ∈ ps, Pl.small p) (hm : m.size ≤ 100) (hl : ps.length ≤ 100) : (Lib.join ((ps.map (Pl.sideT m)).map (·.data.toList)) (⟨#[44]⟩ : ByteArray).data.toList).length ≤ 140737488355328 := by
  refine Nat.le_trans (Pl.join_le 142 _ _ ?_) ?_
  · intro x hx
    simp only [List.mem_map] at hx
    obtain ⟨y, ⟨p, hp, rfl⟩, rfl⟩ := hx
    have := Pl.sideT_size m p (hs p hp)
    have e : (Pl.sideT m p).data.toList.length = (Pl.sideT m p).size := by simp
    omega
  · simp only [List.length_map]
    show ps.length * (142 + 1) ≤ _
    omega

set_option maxHeartbeats 4000000 in
theorem showPairs_any (a : Option Addr) (len cap : Nat) (ps : List (Int × Int)) (m : ByteArray) (w : World) (h : IsPairs w a len cap ps) (hs : ∀ p ∈ ps, Pl.small p) (hl : len ≤ 100) (hm : m.size ≤ 100) (hT : Tab w) :
    Calls Tryd.prog 19 #[.slice a len cap, .string m] w fun e w' => e = .returned (.string (Pl.showT m ps)) ∧ Below w.heap.size w w' := by
  have HH := hid h
  have HS := hid hs
  have HT := hid hT
  have hlen := h.1
  have hcap := h.2.1
  have hmax := h.2.2.1
  unfold maxLen at hmax
  clear h hs hT
  go_enter Tryd.func19, Tryd.ntmps19
  go_wp2_with fail
  go_loopw [5, 10] (fun vl i wr => ∃ (k : Nat) (vv : Value), vv = vl ∧ k ≤ len ∧ i = .int .i64 k ∧ Hid (OwnT wr w.heap.size vv ((ps.take k).map (Pl.sideT m))) ∧ Below w.heap.size w wr) (fun _ i _ => len - (intOf i).toNat)
  case atStart => exact ⟨0, _, rfl, Nat.zero_le _, rfl, hid (OwnT.nil _ _), Below.refl _ _⟩
  case round =>
    obtain ⟨k, vl, rfl, hk, rfl, HO, hb⟩ := hrel
    have hz := hb.size
    by_cases hlt : k < len
    · obtain ⟨b, off, rfl, hbw, hr⟩ : ∃ b off, a = some ⟨b, off, none⟩ ∧ b < w.heap.size ∧ PairsAt w b off ps := by
        rcases HH.out.2.2.2.2 with rfl | h
        · simp at hlen; omega
        · exact h
      obtain ⟨c0, c1⟩ := (hr.below hbw hb) k (by omega)
      have hbr : b < wr.heap.size := by omega
      clear hr
      obtain ⟨pp, hpp⟩ : ∃ pp, Hid (Pl.pr ps k = pp) := ⟨_, rfl⟩
      rw [hpp.out] at c0 c1
      have hsm : Pl.small pp := by rw [← hpp.out]; exact HS.out _ (Pl.pr_mem ps k (by omega))
      go_wp2_with fail
      refine wp_region_any (by kernel_rfl) ?_
      obtain ⟨W0, hW0⟩ : ∃ W0 : World, W0 = wr.alloc (.cells #[.int .i64 pp.1, .int .i64 pp.2] 69) := ⟨_, rfl⟩
      have hR : wr.heap.size < W0.heap.size := by rw [hW0]; simp
      have d0 : W0.cell? ⟨wr.heap.size, 0, none⟩ = some (.int .i64 pp.1) := by rw [hW0]; simp
      have d1 : W0.cell? ⟨wr.heap.size, 1, none⟩ = some (.int .i64 pp.2) := by rw [hW0]; simp
      have hBW : Below wr.heap.size wr W0 := by rw [hW0]; exact (Below.refl _ _).alloc (Nat.le_refl _) _
      have HOW : Hid (OwnT W0 w.heap.size vl ((ps.take k).map (Pl.sideT m))) := hid (HO.out.below hBW)
      have hBw : Below w.heap.size w W0 := hb.trans (hBW.mono hz)
      have HTW : Hid (Tab W0) := hid (HT.out.below hBw)
      obtain ⟨ks, HKS⟩ : ∃ ks, Hid ((ps.take k).map (Pl.sideT m) = ks) := ⟨_, hid rfl⟩
      rw [HKS.out] at HOW
      have hkl : ks.length = k := by rw [← HKS.out]; simp; omega
      obtain ⟨hs1, hs2, hs3, hs4⟩ := hsm
      have hz1 := Pl.dec_le pp.1 hs1 hs2
      have hz2 := Pl.dec_le pp.2 hs3 hs4
      obtain ⟨L, hLd⟩ : ∃ L, L = [(0, Value.slice (some ⟨b, off, none⟩) len cap), (1, Value.string m), (7, Value.pointer (some ⟨wr.heap.size, 0, none⟩)), (8, Value.slice (some ⟨b, off, none⟩) len cap), (9, Value.int .i64 (len : Int)), (10, Value.int .i64 (k : Int)), (2, undef), (3, undef), (4, Value.string ⟨#[]⟩), (6, undef), (27, undef), (28, undef)] := ⟨_, rfl⟩
      have hL : ∀ x ∈ L, x.1 ≠ 5 ∧ (x.1 < 14 ∨ 25 < x.1) := by
        intro x hx
        rw [hLd] at hx
        simp at hx
        rcases hx with rfl | rfl | rfl | rfl | rfl | rfl | rfl | rfl | rfl | rfl | rfl | rfl <;> simp
      refine wpAny_inv2 (SInv pp m wr.heap.size w.heap.size vl ks W0 L) ?_ ?_ _ _ _ _ (by decide +kernel) ?_ (closed_start _ _ _)
      · intro i listed a W hi hC hI
        rw [mem_ready] at hi
        obtain ⟨hl, o, ho, hall⟩ := hi
        have hlt : i < 13 := (Array.getElem?_eq_some_iff.1 ho).1
        have hnl : listed.getD i false = false := by
          have hls := hI.ls
          have hil : i < listed.size := by omega
          simp [hil] at hl ⊢
          exact hl
        have hn11 : i < 11 → listed.getD 11 false = false := by
          intro hi11
          cases h11 : listed.getD 11 false with
          | false => rfl
          | true =>
            exfalso
            have q10 := hC 11 _ rfl h11 ⟨10, .data⟩ (by simp) rfl
            have q0 := hC 11 _ rfl h11 ⟨0, .data⟩ (by simp) rfl
            have q9 := hC 10 _ rfl q10 ⟨9, .data⟩ (by simp) rfl
            have q8 := hC 9 _ rfl q9 ⟨8, .data⟩ (by simp) rfl
            have q5 := hC 9 _ rfl q9 ⟨5, .data⟩ (by simp) rfl
            have q7 := hC 8 _ rfl q8 ⟨7, .data⟩ (by simp) rfl
            have q6 := hC 7 _ rfl q7 ⟨6, .data⟩ (by simp) rfl
            have q3 := hC 5 _ rfl q5 ⟨3, .data⟩ (by simp) rfl
            have q4 := hC 5 _ rfl q5 ⟨4, .data⟩ (by simp) rfl
            have q2 := hC 3 _ rfl q3 ⟨2, .data⟩ (by simp) rfl
            have q1 := hC 2 _ rfl q2 ⟨1, .data⟩ (by simp) rfl
            simp only at q10 q0 q9 q8 q5 q7 q6 q3 q4 q2 q1
            have hcs : i = 0 ∨ i = 1 ∨ i = 2 ∨ i = 3 ∨ i = 4 ∨ i = 5 ∨ i = 6 ∨ i = 7 ∨ i = 8 ∨ i = 9 ∨ i = 10 := by omega
            rcases hcs with rfl | rfl | rfl | rfl | rfl | rfl | rfl | rfl | rfl | rfl | rfl <;> simp_all
        have hn12 : i < 12 → listed.getD 12 false = false := by
          intro hi12
          cases h12 : listed.getD 12 false with
          | false => rfl
          | true =>
            exfalso
            have q11 := hI.al h12
            rcases Nat.lt_or_ge i 11 with h | h
            · rw [hn11 h] at q11; cases q11
            · obtain rfl : i = 11 := by omega
              rw [q11] at hnl; cases hnl
        have hcs : i = 0 ∨ i = 1 ∨ i = 2 ∨ i = 3 ∨ i = 4 ∨ i = 5 ∨ i = 6 ∨ i = 7 ∨ i = 8 ∨ i = 9 ∨ i = 10 ∨ i = 11 ∨ i = 12 := by omega
        rcases hcs with rfl | rfl | rfl | rfl | rfl | rfl | rfl | rfl | rfl | rfl | rfl | rfl | rfl
        all_goals
          simp at ho
          subst ho
          refine wpOp_of rfl rfl ?_
        · have e1 := hI.s5 (hn12 (by omega))
          simp [Oper.wp, go_sem, e1]
          exact hI.put hL (i := 0) (by omega) (hn11 (by omega)) (hn12 (by omega)) (Below.refl _ _) rfl
        · have e1 : a.tmps[7]?.getD undef = .pointer (some ⟨wr.heap.size, 0, none⟩) := hI.keep (7, _) (by rw [hLd]; simp)
          simp [Oper.wp, go_sem, e1]
          exact hI.put hL (i := 1) (by omega) (hn11 (by omega)) (hn12 (by omega)) (Below.refl _ _) rfl
        · have e1 : a.tmps[15]?.getD undef = .pointer (some ⟨wr.heap.size, 0, none⟩) := hI.f (hn11 (by omega)) 1 (by omega) (hall ⟨1, .data⟩ (by simp) rfl)
          have e2 := ((bcell (hI.nb (hn11 (by omega)))).1 wr.heap.size 0 hR).trans d0
          simp [Oper.wp, go_sem, e1, e2]
          exact hI.put hL (i := 2) (by omega) (hn11 (by omega)) (hn12 (by omega)) (Below.refl _ _) rfl
        · have e1 : a.tmps[16]?.getD undef = .int .i64 pp.1 := hI.f (hn11 (by omega)) 2 (by omega) (hall ⟨2, .data⟩ (by simp) rfl)
          simp [Oper.wp, go_sem, e1]
          refine (Itoa_any pp.1 W hs1 (by omega) (HTW.out.below (hI.nb (hn11 (by omega))))).mono ?_
          rintro e w1 ⟨rfl, hb1⟩
          exact hI.put hL (i := 3) (by omega) (hn11 (by omega)) (hn12 (by omega)) hb1 rfl
        · have e1 : a.tmps[1]?.getD undef = .string m := hI.keep (1, _) (by rw [hLd]; simp)
          simp [Oper.wp, go_sem, e1]
          exact hI.put hL (i := 4) (by omega) (hn11 (by omega)) (hn12 (by omega)) (Below.refl _ _) rfl
        · have e1 : a.tmps[17]?.getD undef = .string (Pl.dec pp.1) := hI.f (hn11 (by omega)) 3 (by omega) (hall ⟨3, .data⟩ (by simp) rfl)
          have e2 : a.tmps[18]?.getD undef = .string m := hI.f (hn11 (by omega)) 4 (by omega) (hall ⟨4, .data⟩ (by simp) rfl)
          simp [Oper.wp, go_sem, e1, e2]
          rw [if_neg (by omega), Oper.upon_value]
          exact hI.put hL (i := 5) (by omega) (hn11 (by omega)) (hn12 (by omega)) (Below.refl _ _) rfl
        · have e1 : a.tmps[7]?.getD undef = .pointer (some ⟨wr.heap.size, 0, none⟩) := hI.keep (7, _) (by rw [hLd]; simp)
          simp [Oper.wp, go_sem, e1]
          exact hI.put hL (i := 6) (by omega) (hn11 (by omega)) (hn12 (by omega)) (Below.refl _ _) rfl
        · have e1 : a.tmps[20]?.getD undef = .pointer (some ⟨wr.heap.size, 1, none⟩) := hI.f (hn11 (by omega)) 6 (by omega) (hall ⟨6, .data⟩ (by simp) rfl)
          have e2 := ((bcell (hI.nb (hn11 (by omega)))).1 wr.heap.size 1 hR).trans d1
          simp [Oper.wp, go_sem, e1, e2]
          exact hI.put hL (i := 7) (by omega) (hn11 (by omega)) (hn12 (by omega)) (Below.refl _ _) rfl
        · have e1 : a.tmps[21]?.getD undef = .int .i64 pp.2 := hI.f (hn11 (by omega)) 7 (by omega) (hall ⟨7, .data⟩ (by simp) rfl)
          simp [Oper.wp, go_sem, e1]
          refine (Itoa_any pp.2 W hs3 (by omega) (HTW.out.below (hI.nb (hn11 (by omega))))).mono ?_
          rintro e w1 ⟨rfl, hb1⟩
          exact hI.put hL (i := 8) (by omega) (hn11 (by omega)) (hn12 (by omega)) hb1 rfl
        · have e1 : a.tmps[19]?.getD undef = .string (Pl.dec pp.1 ++ m) := hI.f (hn11 (by omega)) 5 (by omega) (hall ⟨5, .data⟩ (by simp) rfl)
          have e2 : a.tmps[22]?.getD undef = .string (Pl.dec pp.2) := hI.f (hn11 (by omega)) 8 (by omega) (hall ⟨8, .data⟩ (by simp) rfl)
          simp [Oper.wp, go_sem, e1, e2]
          rw [if_neg (by omega), Oper.upon_value]
          exact hI.put hL (i := 9) (by omega) (hn11 (by omega)) (hn12 (by omega)) (Below.refl _ _) rfl
        · have e1 : a.tmps[23]?.getD undef = .string (Pl.sideT m pp) := hI.f (hn11 (by omega)) 9 (by omega) (hall ⟨9, .data⟩ (by simp) rfl)
          simp [Oper.wp, go_sem, e1]
          exact hI.put hL (i := 10) (by omega) (hn11 (by omega)) (hn12 (by omega)) ((Below.refl _ _).alloc (Nat.le_refl _) _) ⟨W.heap.size, rfl, by simp, by simp⟩
        · have hn : listed.getD 11 false = false := hnl
          have e1 : a.tmps[14]?.getD undef = vl := hI.f hn 0 (by omega) (hall ⟨0, .data⟩ (by simp) rfl)
          obtain ⟨bb, e2, hbb, hcc⟩ := hI.f hn 10 (by omega) (hall ⟨10, .data⟩ (by simp) rfl)
          simp only [Nat.reduceAdd] at e2
          have hnb := hI.nb hn
          have hoW : OwnT W w.heap.size vl ks := HOW.out.below hnb
          have hlt2 := World.ownsRow.lt hoW
          have hbase : w.heap.size ≤ W.heap.size := Nat.le_trans hBw.size hnb.size
          obtain ⟨i0, hi0, hz0, hz1', hz2'⟩ := partsOf infoText
          refine wp_append_own W (.tmp 14) (.tmp 24) 79 rfl w.heap.size 9 i0 _ 1 16 Tryd.underlying79 hi0 hz0 hz1' hz2' rfl (by decide) vl ks.length (ks.map Value.string) (by simpa [go_sem] using e1) hoW ⟨bb, 0, none⟩ 1 1 [.string (Pl.sideT m pp)] (by simpa [go_sem] using e2) rfl ?_ ?_ (by unfold maxLen; omega) (by omega) hbase ?_
          · intro j u hj
            match j, hj with
            | 0, hj => simp at hj; subst hj; rw [add_none]; exact hcc
          · intro u hu; simp at hu; subst hu; rfl
          · intro v' w' hown' hg _
            have hbel : Below w.heap.size W0 w' := (hnb.mono hBw.size).grown hg hbase (fun k hk => (hlt2 k hk).1)
            have h11 : (listed.setIfInBounds 11 true).getD 11 false = true := by
              have hls := hI.ls
              simp [hls]
            have h12 : (listed.setIfInBounds 11 true).getD 12 false = false := by rw [getD_set_ne false (by omega)]; exact hn12 (by omega)
            show SInv pp m wr.heap.size w.heap.size vl ks W0 L (listed.setIfInBounds 11 true) (a.put (some 25) v') w'
            refine ⟨by simp [hI.ls], by simp [Act.put, hI.sz], hI.df, ?_, ?_, (fun h' => by rw [h11] at h'; cases h'), (fun h' => by rw [h11] at h'; cases h'), (fun h' => by rw [h12] at h'; cases h'), ?_, (fun h' => by rw [h12] at h'; cases h')⟩
            · intro x hx
              have := hL x hx
              rw [eval_ne (by omega)]; exact hI.keep x hx
            · intro _
              rw [eval_ne (by omega)]; exact hI.s5 (hn12 (by omega))
            · intro _ _
              refine ⟨v', eval_eq (by rw [hI.sz]; omega), ?_, hbel⟩
              unfold OwnT
              simpa using hown'
        · have hn : listed.getD 12 false = false := hnl
          have q11 := hall ⟨11, .data⟩ (by simp) rfl
          simp only at q11
          obtain ⟨v1, e1, ho1, hbel⟩ := hI.ap q11 hn
          simp [Oper.wp, go_sem, e1]
          have h12 : (listed.setIfInBounds 12 true).getD 12 false = true := by
            have hls := hI.ls
            simp [hls]
          have h11 : (listed.setIfInBounds 12 true).getD 11 false = true := by rw [getD_set_ne false (by omega)]; exact q11
          refine ⟨by simp [hI.ls], by simp [hI.sz], hI.df, ?_, (fun h' => by rw [h12] at h'; cases h'), (fun h' => by rw [h11] at h'; cases h'), (fun h' => by rw [h11] at h'; cases h'), (fun _ => h11), (fun _ h' => by rw [h12] at h'; cases h'), ?_⟩
          · intro x hx
            have := hL x hx
            have h := eval_ne (a := a) (m := 5) (n := x.1) (v := v1) (by omega)
            exact h.trans (hI.keep x hx)
          · intro _
            exact ⟨v1, eval_eq (a := a) (m := 5) (v := v1) (by rw [hI.sz]; omega), ho1, hbel⟩
      · intro listed a W hr hI
        rename_i K hK
        have hal := all_listed (by decide +kernel) hI.ls hr 12 (by decide)
        obtain ⟨v1, e5, ho1, hbel⟩ := hI.dn hal
        have k0 := hI.keep (0, Value.slice (some ⟨b, off, none⟩) len cap) (by rw [hLd]; simp)
        have k1 := hI.keep (1, Value.string m) (by rw [hLd]; simp)
        have k8 := hI.keep (8, Value.slice (some ⟨b, off, none⟩) len cap) (by rw [hLd]; simp)
        have k9 := hI.keep (9, Value.int .i64 (len : Int)) (by rw [hLd]; simp)
        have k10 := hI.keep (10, Value.int .i64 (k : Int)) (by rw [hLd]; simp)
        have k2 := hI.keep (2, undef) (by rw [hLd]; simp)
        have k3 := hI.keep (3, undef) (by rw [hLd]; simp)
        have k4 := hI.keep (4, Value.string ⟨#[]⟩) (by rw [hLd]; simp)
        have k6 := hI.keep (6, undef) (by rw [hLd]; simp)
        have k27 := hI.keep (27, undef) (by rw [hLd]; simp)
        have k28 := hI.keep (28, undef) (by rw [hLd]; simp)
        have hdf := hI.df
        obtain ⟨t0, t1, t2, t3, t4, t5, t6, t7, t8, t9, t10, t11, t12, t13, t14, t15, t16, t17, t18, t19, t20, t21, t22, t23, t24, t25, t26, t27, t28, htm⟩ := arr29 a.tmps hI.sz
        obtain ⟨tm, df⟩ := a
        simp only at htm hdf
        subst htm hdf
        simp at k0 k1 k8 k9 k10 e5 k2 k3 k4 k6 k27 k28
        subst k0 k1 k8 k9 k10 e5 k2 k3 k4 k6 k27 k28
        have HO1 : Hid (OwnT W w.heap.size t5 ((ps.take (k + 1)).map (Pl.sideT m))) := by
          refine hid ?_
          rw [Pl.take_prS ps k (by omega), List.map_append, HKS.out, hpp.out]
          exact ho1
        have hbF : Below w.heap.size w W := hBw.trans hbel
        refine hK _ W ?_
        clear hI hr
        go_wp2_with fail
        go_roundw
        case rel => exact ⟨k + 1, t5, rfl, by omega, by go_num, HO1, hbF⟩
        case measure => simp [intOf]; omega
      · rw [← hW0]
        refine ⟨by rfl, by rfl, rfl, ?_, (fun _ => rfl), ?_, (fun _ => Below.drew (Below.refl _ _)), ?_, ?_, ?_⟩
        · intro x hx
          rw [hLd] at hx
          simp at hx
          rcases hx with rfl | rfl | rfl | rfl | rfl | rfl | rfl | rfl | rfl | rfl | rfl | rfl <;> rfl
        · intro _ k hk h
          have : (Array.replicate 13 false).getD k false = true := h
          rw [show (Array.replicate 13 false).getD k false = false from by by_cases hk' : k < 13 <;> simp [hk']] at this
          cases this
        · intro h
          have : (Array.replicate 13 false).getD 12 false = true := h
          simp at this
        · intro h
          have : (Array.replicate 13 false).getD 11 false = true := h
          simp at this
        · intro h
          have : (Array.replicate 13 false).getD 12 false = true := h
          simp at this
    · obtain rfl : k = len := by omega
      obtain ⟨xs, HXS⟩ : ∃ xs, Hid (ps.map (Pl.sideT m) = xs) := ⟨_, hid rfl⟩
      have hxl : xs.length = k := by rw [← HXS.out]; simpa using hlen
      have HO' : Hid (OwnT wr w.heap.size vl xs) := by
        have h := HO.out
        rw [List.take_of_length_le (by omega), HXS.out] at h
        exact hid h
      have HSH : Hid (Pl.showT m ps = ⟨(Lib.join (xs.map (·.data.toList)) (⟨#[44]⟩ : ByteArray).data.toList).toArray⟩) := hid (by unfold Pl.showT; rw [HXS.out])
      obtain ⟨a2, cap2, rfl, hc2, hm2, hr2⟩ := OwnT.shape HO'.out
      have HLE := hid (Pl.show_len m ps HS.out hm (by omega))
      rw [HXS.out] at HLE
      rcases hr2 with hnil | ⟨b2, rfl, hb2, hlt2, hcell⟩
      · subst hnil
        have hk0 : k = 0 := by simpa using hxl.symm
        clear hlen hxl hc2
        subst hk0
        go_wp2_with fail
        refine (Tryd.strings_Join_none a2 cap2 _ _).mono ?_
        rintro e w3 ⟨rfl, rfl⟩
        go_wp2_with fail
        go_ret
        exact ⟨by rw [HSH.out]; rfl, hb⟩
      · have HJ : Hid (Calls Tryd.prog 35 #[.slice (some ⟨b2, 0, none⟩) k cap2, .string ⟨#[44]⟩] wr fun e w' => e = .returned (.string (Pl.showT m ps)) ∧ Below wr.heap.size wr w') := by
          refine hid ?_
          have h := Tryd.strings_Join b2 0 cap2 xs ⟨#[44]⟩ wr (by
            intro j x hj
            obtain ⟨hj1, hj2⟩ := List.getElem?_eq_some_iff.1 hj
            rw [← hj2]
            exact hcell j hj1) hlt2 (by omega) hc2 HLE.out
          rw [hxl, ← HSH.out] at h
          exact h
        rw [hxl]
        clear hcell hlen hxl hc2 HLE HSH HXS
        go_wp2_with fail
        refine HJ.out.mono ?_
        rintro e w3 ⟨rfl, hb3⟩
        go_wp2_with fail
        go_ret
        exact ⟨rfl, hb.trans (hb3.mono hz)⟩
end Go.Proofs.YtcdobhdbafpkiadDoor
/-
  Contract: the document's dec: a number's digits.
-/
namespace Go.Proofs.YtcdobhdbafpkiadDoor
open Go.RowKit
set_option maxRecDepth 20000

theorem Pl.dec_small {n : Nat} (h : n < 10) : Pl.dec (n : Int) = ⟨#[UInt8.ofNat (48 + n)]⟩ := by
  unfold Pl.dec
  rw [Lib.itoa_nonneg, Lib.decDigits_one h]
theorem Pl.dec_great {n : Nat} (h : ¬ n < 10) : Pl.dec (n : Int) = Pl.dec ((n / 10 : Nat) : Int) ++ Pl.dec ((n % 10 : Nat) : Int) := by
  have h1 : Pl.dec ((n % 10 : Nat) : Int) = ⟨#[UInt8.ofNat (48 + n % 10)]⟩ := Pl.dec_small (by omega)
  rw [h1]
  unfold Pl.dec
  rw [Lib.itoa_nonneg, Lib.itoa_nonneg, Lib.decDigits, dif_neg h]
  apply ByteArray.ext
  simp [ByteArray.data_append]

end Go.Proofs.YtcdobhdbafpkiadDoor
/-
  A region that draws its order, whose operations read old memory and whose callees make new memory alone: one walk, in the order of the text.
-/
namespace Go.Proofs.YtcdobhdbafpkiadDoor
open Go.RowKit
set_option maxRecDepth 20000

/-- a world that has grown out of another: what was there is as it was -/
structure WIn (W : World) where
  w : World
  h : Below W.heap.size W w

theorem wp_region_in {P : Program} {id : Nat} {Q : Exit → Act → World → Prop} {a : Act} {w : World} {l : List Oper} (hm : P.follows .mixedOrders = true) (hB : Region.lexB .any l.toArray = true)
    (h : wpQuiet P l.toArray (fun w' => ∃ x : WIn w, w' = x.w) (fun a' => ∀ w', (∃ x : WIn w, w' = x.w) → Q .normal a' w') l a) : (Code.region id l.toArray true).wp P Q a w :=
  wp_region_quiet (C := fun w' => ∃ x : WIn w, w' = x.w) hm hB ⟨⟨_, (Below.refl _ _).drew⟩, rfl⟩ (by simpa using h)

theorem in_call {P : Program} {f : FuncId} {args : Array Value} {W : World} {x : WIn W} {v : Value}
    (h : Calls P f args x.w fun e w' => e = .returned v ∧ Below x.w.heap.size x.w w') : Calls P f args x.w fun e w'' => e = .returned v ∧ ∃ y : WIn W, w'' = y.w :=
  h.mono fun _ w' ⟨he, hb⟩ => ⟨he, ⟨w', x.h.trans (hb.mono x.h.size)⟩, rfl⟩

theorem in_out {W w' : World} (h : ∃ x : WIn W, w' = x.w) : Below W.heap.size W w' := by
  obtain ⟨x, rfl⟩ := h
  exact x.h
theorem in_some (W : World) : Nonempty (WIn W) := ⟨⟨_, Below.refl _ _⟩⟩
theorem in_cell {W : World} {b o : Nat} {v : Value} (hb : b < W.heap.size) (h : W.cell? ⟨b, o, none⟩ = some v) : ∀ x : WIn W, x.w.cell? ⟨b, o, none⟩ = some v := fun x => (x.h.cell (p := ⟨b, o, none⟩) hb).trans h
end Go.Proofs.YtcdobhdbafpkiadDoor
/-
  Plain: sides that may be told are few and small; contract: the document's AdjText.
-/
namespace Go.Proofs.YtcdobhdbafpkiadDoor
open Go.RowKit
set_option maxRecDepth 20000

theorem Pl.adjN_ok (ps : List (Int × Int)) : ∀ (n i : Nat), i + n = ps.length → Pl.adjN ps n i = 0 → ∀ j, i ≤ j → j < ps.length → Pl.sideB (Pl.pr ps j).1 (Pl.pr ps j).2 = true ∧ (0 < j → (Pl.pr ps (j - 1)).1 < (Pl.pr ps j).1)
  | 0, i, h, _, j, h1, h2 => by omega
  | n + 1, i, h, h0, j, h1, h2 => by
    rw [Pl.adjN] at h0
    by_cases g1 : Pl.sideB (Pl.pr ps i).1 (Pl.pr ps i).2 = true
    · rw [if_pos g1] at h0
      by_cases g2 : 0 < i ∧ (Pl.pr ps i).1 ≤ (Pl.pr ps (i - 1)).1
      · rw [if_pos g2] at h0; cases h0
      · rw [if_neg g2] at h0
        rcases Nat.eq_or_lt_of_le h1 with e | h1
        · subst e
          exact ⟨g1, fun hp => by omega⟩
        · exact Pl.adjN_ok ps n (i + 1) (by omega) h0 j h1 h2
    · rw [if_neg g1] at h0; cases h0
theorem Pl.adjF_ok {ps : List (Int × Int)} (h : Pl.adjF ps = 0) : ps.length ≤ 12 ∧ ∀ p ∈ ps, Pl.small p := by
  have hk := Pl.adjN_ok ps ps.length 0 (by omega) h
  have hs : ∀ j, j < ps.length → 0 ≤ (Pl.pr ps j).1 ∧ (Pl.pr ps j).1 ≤ 11 ∧ 1 ≤ (Pl.pr ps j).2 ∧ (Pl.pr ps j).2 ≤ 1000 := by
    intro j hj
    have := (hk j (by omega) hj).1
    unfold Pl.sideB at this
    simp at this
    omega
  have hj : ∀ j, j < ps.length → (j : Int) ≤ (Pl.pr ps j).1 := by
    intro j
    induction j with
    | zero => intro h; have := hs 0 h; omega
    | succ j ih =>
      intro h
      have h1 := ih (by omega)
      have h2 := (hk (j + 1) (by omega) h).2 (by omega)
      simp at h2
      omega
  refine ⟨?_, ?_⟩
  · rcases Nat.lt_or_ge 12 ps.length with h | h
    · have h1 := hj 12 h
      have h2 := hs 12 h
      omega
    · exact h
  · intro p hp
    obtain ⟨i, hi, rfl⟩ := List.getElem_of_mem hp
    have := hs i hi
    rw [Pl.pr_eq ps i hi] at this
    exact ⟨this.1, by omega, by omega, by omega⟩

theorem Pl.join_snoc (xs : List (List UInt8)) (y sep : List UInt8) (h : xs ≠ []) : Lib.join (xs ++ [y]) sep = Lib.join xs sep ++ sep ++ y := by
  cases xs with
  | nil => exact absurd rfl h
  | cons x r =>
    rw [List.cons_append, Lib.join_cons, Lib.join_cons]
    simp [Lib.joinTail, List.append_assoc]
theorem Pl.ba_eq {a b : ByteArray} (h : a.data.toList = b.data.toList) : a = b := by
  apply ByteArray.ext; apply Array.toList_inj.1; exact h
theorem Pl.showT_list (m : ByteArray) (ps : List (Int × Int)) : (Pl.showT m ps).data.toList = Lib.join ((ps.map (Pl.sideT m)).map (·.data.toList)) [44] := by simp [Pl.showT]
theorem Pl.showT_nil (m : ByteArray) : Pl.showT m [] = ⟨#[]⟩ := rfl
theorem Pl.showT_one (m : ByteArray) (p : Int × Int) : Pl.showT m [p] = Pl.sideT m p := by
  apply Pl.ba_eq
  rw [Pl.showT_list]
  simp [Lib.join_one]
theorem Pl.showT_snoc (m : ByteArray) (ps : List (Int × Int)) (p : Int × Int) (h : ps ≠ []) : Pl.showT m (ps ++ [p]) = Pl.showT m ps ++ ⟨#[44]⟩ ++ Pl.sideT m p := by
  apply Pl.ba_eq
  rw [Pl.showT_list, List.map_append, List.map_append]
  rw [show List.map (fun x : ByteArray => x.data.toList) (List.map (Pl.sideT m) [p]) = [(Pl.sideT m p).data.toList] from rfl, Pl.join_snoc _ _ _ (by simpa using h), ← Pl.showT_list]
  simp [ByteArray.data_append]
theorem Pl.showT_size (m : ByteArray) (ps : List (Int × Int)) (hs : ∀ p ∈ ps, Pl.small p) (hm : m.size ≤ 100) : (Pl.showT m ps).size ≤ ps.length * 143 := by
  have h : (Pl.showT m ps).size = (Pl.showT m ps).data.toList.length := by simp
  rw [h, Pl.showT_list]
  refine Nat.le_trans (Pl.join_le 142 _ _ ?_) (by simp)
  intro x hx
  simp only [List.mem_map] at hx
  obtain ⟨y, ⟨p, hp, rfl⟩, rfl⟩ := hx
  have := Pl.sideT_size m p (hs p hp)
  have e : (Pl.sideT m p).data.toList.length = (Pl.sideT m p).size := by simp
  omega
/-- what ShowAdj answers -/
def Pl.adjText (d : Bool) (ps : List (Int × Int)) : ByteArray := if Pl.adjF ps = 0 then (if d then ⟨#[33]⟩ ++ Pl.showT ⟨#[61]⟩ ps else Pl.showT ⟨#[61]⟩ ps) else ⟨#[]⟩

end Go.Proofs.YtcdobhdbafpkiadDoor
/-
  Plain definitions: texts in their order, entries, which one is greater; no program in sight.
-/
namespace Go.Proofs.YtcdobhdbafpkiadDoor.Pl

theorem less_iff : ∀ (x y : List UInt8), Op.bytesLess x y = true ↔ x < y
  | [], [] => by simp [Op.bytesLess]
  | [], _ :: _ => by simp [Op.bytesLess]
  | _ :: _, [] => by simp [Op.bytesLess]
  | a :: x, b :: y => by
    simp only [Op.bytesLess]
    rw [List.cons_lt_cons_iff]
    by_cases h : a < b
    · simp [h]
    · by_cases e : a = b
      · subst e; simp [less_iff x y]
      · simp [h, e]

def ltB (a b : ByteArray) : Bool := Op.bytesLess a.toList b.toList
theorem ltB_def (a b : ByteArray) : Op.bytesLess a.toList b.toList = ltB a b := rfl
theorem ltB_iff (a b : ByteArray) : ltB a b = true ↔ a.toList < b.toList := by
  unfold ltB; exact less_iff _ _
theorem ltB_irrefl (a : ByteArray) : ltB a a = false := by
  rw [Bool.eq_false_iff, Ne, ltB_iff]; exact List.lt_irrefl _
theorem ltB_asymm {a b : ByteArray} (h : ltB a b = true) : ltB b a = false := by
  rw [ltB_iff] at h
  rw [Bool.eq_false_iff, Ne, ltB_iff]; exact List.lt_asymm h
theorem ltB_trans {a b c : ByteArray} (h : ltB a b = true) (k : ltB b c = true) : ltB a c = true := by
  rw [ltB_iff] at h k ⊢
  exact List.lt_trans h k
theorem toList_inj {a b : ByteArray} (h : a.toList = b.toList) : a = b := by
  rw [ByteArray.toList_eq, ByteArray.toList_eq] at h
  cases a; cases b; simp at h; simp [h]
theorem ltB_total {a b : ByteArray} (h : ltB a b = false) (k : ltB b a = false) : a = b := by
  rw [Bool.eq_false_iff, Ne, ltB_iff] at h k
  exact toList_inj (List.le_antisymm (List.not_lt.1 k) (List.not_lt.1 h))
theorem beqL (a b : ByteArray) : (a.toList == b.toList) = decide (a = b) := by
  rw [Bool.eq_iff_iff]; simp; exact ⟨toList_inj, fun h => h ▸ rfl⟩
theorem beqL_false {a b : ByteArray} (h : ¬ a = b) : (a.toList == b.toList) = false := by rw [beqL]; simp [h]
theorem ne_of_lt {a b : ByteArray} (h : ltB a b = true) : ¬ a = b := fun e => by rw [e, ltB_irrefl] at h; cases h
theorem tri (x y : ByteArray) : (Op.bytesLess x.toList y.toList = true ∧ Op.bytesLess y.toList x.toList = false ∧ ¬ x = y) ∨ x = y ∨ (Op.bytesLess x.toList y.toList = false ∧ Op.bytesLess y.toList x.toList = true ∧ ¬ x = y) := by
  show (ltB x y = true ∧ ltB y x = false ∧ ¬ x = y) ∨ x = y ∨ (ltB x y = false ∧ ltB y x = true ∧ ¬ x = y)
  cases h : ltB x y
  · cases k : ltB y x
    · exact .inr (.inl (ltB_total h k))
    · exact .inr (.inr ⟨rfl, rfl, fun e => ne_of_lt k e.symm⟩)
  · exact .inl ⟨rfl, ltB_asymm h, ne_of_lt h⟩

/-- which one of two numbers, of two texts comes first -/
def cmpI (a b : Int) : Int := if a < b then -1 else if b < a then 1 else 0
def cmpS (x y : ByteArray) : Int := if ltB x y then -1 else if ltB y x then 1 else 0
/-- which one of two entries is the greater one -/
def cmpE (v1 o1 : Int) (x1 : ByteArray) (v2 o2 : Int) (x2 : ByteArray) : Int :=
  if cmpI v1 v2 ≠ 0 then cmpI v1 v2 else if cmpI o1 o2 ≠ 0 then cmpI o1 o2 else cmpS x1 x2
theorem cmpI_lt {a b : Int} (h : a < b) : cmpI a b = -1 := by simp [cmpI, h]
theorem cmpI_gt {a b : Int} (h : b < a) : cmpI a b = 1 := by unfold cmpI; rw [if_neg (by omega), if_pos h]
theorem cmpI_eq (a : Int) : cmpI a a = 0 := by simp [cmpI]
theorem cmpS_lt {a b : ByteArray} (h : Op.bytesLess a.toList b.toList = true) : cmpS a b = -1 := by unfold cmpS; rw [if_pos (show ltB a b = true from h)]
theorem cmpS_gt {a b : ByteArray} (h : Op.bytesLess b.toList a.toList = true) : cmpS a b = 1 := by unfold cmpS; rw [if_neg (by rw [ltB_asymm h]; simp), if_pos (show ltB b a = true from h)]
theorem cmpS_eq (a : ByteArray) : cmpS a a = 0 := by simp [cmpS, ltB_irrefl]
/-- is the first one greater? -/
def aboveB (v1 o1 : Int) (x1 : ByteArray) (v2 o2 : Int) (x2 : ByteArray) : Bool := decide (cmpE v1 o1 x1 v2 o2 x2 = 1)
theorem cmpI_swap (a b : Int) : cmpI b a = - cmpI a b := by unfold cmpI; split <;> split <;> omega
theorem cmpI_vals (a b : Int) : cmpI a b = -1 ∨ cmpI a b = 0 ∨ cmpI a b = 1 := by unfold cmpI; split <;> (try split) <;> simp
theorem cmpS_swap (a b : ByteArray) : cmpS b a = - cmpS a b := by
  rcases tri a b with ⟨h, _, _⟩ | rfl | ⟨_, h, _⟩
  · rw [cmpS_lt h, cmpS_gt h]; rfl
  · rw [cmpS_eq]; rfl
  · rw [cmpS_lt h, cmpS_gt h]
theorem cmpS_vals (a b : ByteArray) : cmpS a b = -1 ∨ cmpS a b = 0 ∨ cmpS a b = 1 := by
  rcases tri a b with ⟨h, _, _⟩ | rfl | ⟨_, h, _⟩
  · rw [cmpS_lt h]; simp
  · rw [cmpS_eq]; simp
  · rw [cmpS_gt h]; simp
theorem cmpE_swap (v1 o1 : Int) (x1 : ByteArray) (v2 o2 : Int) (x2 : ByteArray) : cmpE v2 o2 x2 v1 o1 x1 = - cmpE v1 o1 x1 v2 o2 x2 := by
  unfold cmpE
  rw [cmpI_swap v1 v2, cmpI_swap o1 o2, cmpS_swap x1 x2]
  generalize cmpI v1 v2 = a; generalize cmpI o1 o2 = b; generalize cmpS x1 x2 = c
  by_cases ha : a = 0 <;> by_cases hb : b = 0 <;> simp [ha, hb]
theorem cmpE_vals (v1 o1 : Int) (x1 : ByteArray) (v2 o2 : Int) (x2 : ByteArray) : cmpE v1 o1 x1 v2 o2 x2 = -1 ∨ cmpE v1 o1 x1 v2 o2 x2 = 0 ∨ cmpE v1 o1 x1 v2 o2 x2 = 1 := by
  unfold cmpE
  have h1 := cmpI_vals v1 v2; have h2 := cmpI_vals o1 o2; have h3 := cmpS_vals x1 x2
  generalize cmpI v1 v2 = a at *; generalize cmpI o1 o2 = b at *; generalize cmpS x1 x2 = c at *
  split
  · exact h1
  · split
    · exact h2
    · exact h3
theorem above_v (v1 o1 : Int) (x1 : ByteArray) (v2 o2 : Int) (x2 : ByteArray) (h : ¬ v1 = v2) : aboveB v1 o1 x1 v2 o2 x2 = decide (v2 < v1) := by
  unfold aboveB cmpE cmpI
  rcases Int.lt_trichotomy v1 v2 with k | k | k
  · have : ¬ v2 < v1 := by omega
    simp [k, this]
  · exact absurd k h
  · have : ¬ v1 < v2 := by omega
    simp [k, this]
theorem above_o (v o1 : Int) (x1 : ByteArray) (o2 : Int) (x2 : ByteArray) (h : ¬ o1 = o2) : aboveB v o1 x1 v o2 x2 = decide (o2 < o1) := by
  unfold aboveB cmpE cmpI
  rcases Int.lt_trichotomy o1 o2 with k | k | k
  · have : ¬ o2 < o1 := by omega
    simp [k, this]
  · exact absurd k h
  · have : ¬ o1 < o2 := by omega
    simp [k, this]
theorem above_x (v o : Int) (x1 : ByteArray) (x2 : ByteArray) : aboveB v o x1 v o x2 = decide (cmpS x1 x2 = 1) := by
  unfold aboveB cmpE cmpI
  simp
end Go.Proofs.YtcdobhdbafpkiadDoor.Pl
/-
  Plain definitions: what is wrong with prefixes; no program in sight.
-/
namespace Go.Proofs.YtcdobhdbafpkiadDoor.Pl

/-- how many addresses have so many highest bits in common -/
def span (b : Int) : Int := ((256 / 2 ^ b.toNat : Nat) : Int)
def inP (p : Int × Int) : Bool := decide (0 ≤ p.2 ∧ p.2 ≤ 8) && decide (0 ≤ p.1 ∧ p.1 ≤ 255)
/-- what is wrong with one prefix -/
def pfx1 (p : Int × Int) : Int := if inP p then (if p.1 % span p.2 = 0 then 0 else 4) else 2
/-- does one not stand behind another? -/
def pfxLow (p q : Int × Int) : Bool := decide (10 * q.1 + q.2 ≤ 10 * p.1 + p.2)
def pfxN (ps : List (Int × Int)) : Nat → Nat → Int
  | 0, _ => 0
  | n + 1, i => if pfx1 (pr ps i) = 0 then (if 0 < i ∧ pfxLow (pr ps (i - 1)) (pr ps i) = true then 7 else pfxN ps n (i + 1)) else pfx1 (pr ps i)
def pfxF (ps : List (Int × Int)) : Int := if ps.length ≤ 6 then pfxN ps ps.length 0 else 1
theorem pfxF_size {ps : List (Int × Int)} (h : 6 < ps.length) : pfxF ps = 1 := by unfold pfxF; rw [if_neg (by omega)]
theorem pfxF_from {ps : List (Int × Int)} (h : ps.length ≤ 6) : pfxF ps = pfxN ps ps.length 0 := by unfold pfxF; rw [if_pos h]
theorem pfxN_bad {ps : List (Int × Int)} {n i : Nat} (h : pfx1 (pr ps i) ≠ 0) : pfxN ps (n + 1) i = pfx1 (pr ps i) := by simp [pfxN, h]
theorem pfxN_first {ps : List (Int × Int)} {n : Nat} (h : pfx1 (pr ps 0) = 0) : pfxN ps (n + 1) 0 = pfxN ps n 1 := by simp [pfxN, h]
theorem pfxN_low {ps : List (Int × Int)} {n m : Nat} (h : pfx1 (pr ps (m + 1)) = 0) (k : pfxLow (pr ps m) (pr ps (m + 1)) = true) : pfxN ps (n + 1) (m + 1) = 7 := by simp [pfxN, h, k]
theorem pfxN_on {ps : List (Int × Int)} {n m : Nat} (h : pfx1 (pr ps (m + 1)) = 0) (k : pfxLow (pr ps m) (pr ps (m + 1)) = false) : pfxN ps (n + 1) (m + 1) = pfxN ps n (m + 1 + 1) := by simp [pfxN, h, k]
theorem pfx1_zero {p : Int × Int} (h : pfx1 p = 0) : (0 ≤ p.2 ∧ p.2 ≤ 8) ∧ (0 ≤ p.1 ∧ p.1 ≤ 255) := by
  unfold pfx1 at h
  split at h
  · rename_i hh
    unfold inP at hh
    simp at hh
    exact hh
  · cases h
/-- the number that tells which of two prefixes comes first -/
def pfxC (p q : Int × Int) : Int := if cmpI p.1 q.1 ≠ 0 then cmpI p.1 q.1 else cmpI p.2 q.2
theorem pfxC_low {p q : Int × Int} (hp : (0 ≤ p.2 ∧ p.2 ≤ 8) ∧ (0 ≤ p.1 ∧ p.1 ≤ 255)) (hq : (0 ≤ q.2 ∧ q.2 ≤ 8) ∧ (0 ≤ q.1 ∧ q.1 ≤ 255)) : decide (0 ≤ pfxC p q) = pfxLow p q := by
  unfold pfxC pfxLow cmpI
  rw [Bool.eq_iff_iff]
  simp only [decide_eq_true_eq]
  split <;> split <;> (try split) <;> (try split) <;> omega
theorem span_table : span 0 = 256 ∧ span 1 = 128 ∧ span 2 = 64 ∧ span 3 = 32 ∧ span 4 = 16 ∧ span 5 = 8 ∧ span 6 = 4 ∧ span 7 = 2 ∧ span 8 = 1 := by decide
theorem bits_cases {b : Int} (h : 0 ≤ b ∧ b ≤ 8) : b = 0 ∨ b = 1 ∨ b = 2 ∨ b = 3 ∨ b = 4 ∨ b = 5 ∨ b = 6 ∨ b = 7 ∨ b = 8 := by omega
end Go.Proofs.YtcdobhdbafpkiadDoor.Pl
/-
  Contracts: what Compare, ComparedOf and Above answer at every two entries.
-/
namespace Go.Proofs.YtcdobhdbafpkiadDoor
open Go.RowKit
set_option maxRecDepth 20000

theorem isNaNi_any (n : Int) (w : World) :
    Calls Tryd.prog 70 #[.int .i64 n] w fun e w' => e = .returned (.bool false) ∧ w' = w := by
  go_enter Tryd.func70, Tryd.ntmps70
  go_wp2
  go_ret
  exact ⟨ret_bool (by simp), rfl⟩

theorem isNaNs_any (x : ByteArray) (w : World) :
    Calls Tryd.prog 88 #[.string x] w fun e w' => e = .returned (.bool false) ∧ w' = w := by
  go_enter Tryd.func88, Tryd.ntmps88
  go_wp2
  go_ret
  exact ⟨ret_bool (by simp), rfl⟩

set_option maxHeartbeats 400000 in
theorem cmpi_any (a b : Int) (w : World) :
    Calls Tryd.prog 61 #[.int .i64 a, .int .i64 b] w fun e w' => e = .returned (.int .i64 (Pl.cmpI a b)) ∧ w' = w := by
  rcases Int.lt_trichotomy a b with h | rfl | h
  · go_enter Tryd.func61, Tryd.ntmps61
    go_wp2_with (go_at_call 70; refine (isNaNi_any _ _).mono ?_; rintro e w' ⟨rfl, rfl⟩)
    go_ret
    exact ⟨ret_int (Pl.cmpI_lt h).symm, rfl⟩
  · go_enter Tryd.func61, Tryd.ntmps61
    go_wp2_with (go_at_call 70; refine (isNaNi_any _ _).mono ?_; rintro e w' ⟨rfl, rfl⟩)
    go_ret
    exact ⟨ret_int (Pl.cmpI_eq _).symm, rfl⟩
  · have h' : ¬ a < b := by omega
    go_enter Tryd.func61, Tryd.ntmps61
    go_wp2_with (go_at_call 70; refine (isNaNi_any _ _).mono ?_; rintro e w' ⟨rfl, rfl⟩)
    go_ret
    exact ⟨ret_int (Pl.cmpI_gt h).symm, rfl⟩

set_option maxHeartbeats 400000 in
theorem cmps_any (a b : ByteArray) (w : World) :
    Calls Tryd.prog 75 #[.string a, .string b] w fun e w' => e = .returned (.int .i64 (Pl.cmpS a b)) ∧ w' = w := by
  rcases Pl.tri a b with ⟨h, h', hn⟩ | rfl | ⟨h, h', hn⟩
  · go_enter Tryd.func75, Tryd.ntmps75
    go_wp2_with (go_at_call 88; refine (isNaNs_any _ _).mono ?_; rintro e w' ⟨rfl, rfl⟩)
    go_ret
    exact ⟨ret_int (Pl.cmpS_lt h).symm, rfl⟩
  · have h := Pl.ltB_irrefl a
    have h' : Op.bytesLess a.toList a.toList = false := h
    clear h
    go_enter Tryd.func75, Tryd.ntmps75
    go_wp2_with (go_at_call 88; refine (isNaNs_any _ _).mono ?_; rintro e w' ⟨rfl, rfl⟩)
    go_ret
    exact ⟨ret_int (Pl.cmpS_eq _).symm, rfl⟩
  · have he := Pl.beqL_false hn
    go_enter Tryd.func75, Tryd.ntmps75
    go_wp2_with (go_at_call 88; refine (isNaNs_any _ _).mono ?_; rintro e w' ⟨rfl, rfl⟩)
    go_ret
    exact ⟨ret_int (Pl.cmpS_gt h').symm, rfl⟩

set_option maxHeartbeats 400000 in
theorem Compare_any (k1 k2 : ByteArray) (v1 o1 v2 o2 : Int) (x1 x2 : ByteArray) (w : World) :
    Calls Tryd.prog 65 #[.agg #[.string k1, .int .i64 v1, .int .i64 o1, .string x1], .agg #[.string k2, .int .i64 v2, .int .i64 o2, .string x2]] w
      fun e w' => e = .returned (.int .i64 (Pl.cmpE v1 o1 x1 v2 o2 x2)) ∧ Below w.heap.size w w' := by
  obtain ⟨c1, H1⟩ : ∃ c, Hid (Pl.cmpI v1 v2 = c) := ⟨_, rfl⟩
  obtain ⟨c2, H2⟩ : ∃ c, Hid (Pl.cmpI o1 o2 = c) := ⟨_, rfl⟩
  obtain ⟨c3, H3⟩ : ∃ c, Hid (Pl.cmpS x1 x2 = c) := ⟨_, rfl⟩
  have HE : Hid (Pl.cmpE v1 o1 x1 v2 o2 x2 = if c1 ≠ 0 then c1 else if c2 ≠ 0 then c2 else c3) := by
    show _ = _
    unfold Pl.cmpE; rw [H1.out, H2.out, H3.out]
  by_cases e1 : c1 = 0
  all_goals by_cases e2 : c2 = 0
  all_goals
    first | (have b1 : (c1 != 0) = false := by simp [e1]) | (have b1 : (c1 != 0) = true := by simp [e1])
  all_goals
    first | (have b2 : (c2 != 0) = false := by simp [e2]) | (have b2 : (c2 != 0) = true := by simp [e2])
  all_goals
    have HF : Hid (Pl.cmpE v1 o1 x1 v2 o2 x2 = if c1 ≠ 0 then c1 else if c2 ≠ 0 then c2 else c3) := HE
    clear HE
    have E1 : Hid (c1 = 0 ∨ True) := Or.inr trivial
    simp only [e1, e2, ne_eq, not_true_eq_false, not_false_eq_true, if_true, if_false] at HF
    clear e1 e2 E1
    go_enter Tryd.func65, Tryd.ntmps65
    go_wp2_with (first | (go_at_call_of 61 (Value.int IntKind.i64 v1); refine (cmpi_any _ _ _).mono ?_; rw [H1.out]; rintro e w' ⟨rfl, rfl⟩) | (go_at_call_of 61 (Value.int IntKind.i64 o1); refine (cmpi_any _ _ _).mono ?_; rw [H2.out]; rintro e w' ⟨rfl, rfl⟩) | (go_at_call 75; refine (cmps_any _ _ _).mono ?_; rw [H3.out]; rintro e w' ⟨rfl, rfl⟩))
    go_ret
    exact ⟨ret_int HF.out.symm, ((Below.refl _ _).alloc (Nat.le_refl _) _).alloc (by simp) _⟩

end Go.Proofs.YtcdobhdbafpkiadDoor
/-
  Contracts: what CheckPrefixes, and what it calls, answers at every list of prefixes.
-/
namespace Go.Proofs.YtcdobhdbafpkiadDoor
open Go.RowKit
set_option maxRecDepth 20000

set_option maxHeartbeats 1000000 in
theorem Or_any (b off : Nat) (x y : Int) (w : World) (h0 : w.cell? ⟨b, off, none⟩ = some (.int .i64 x)) (h1 : w.cell? ⟨b, off + 1, none⟩ = some (.int .i64 y)) :
    Calls Tryd.prog 60 #[.slice (some ⟨b, off, none⟩) 2 2] w fun e w' => e = .returned (.int .i64 (if x ≠ 0 then x else y)) ∧ w' = w := by
  obtain ⟨r, HR⟩ : ∃ r, Hid ((if x ≠ 0 then x else y) = r) := ⟨_, rfl⟩
  rw [HR.out]
  go_enter Tryd.func60, Tryd.ntmps60
  go_wp2
  go_loop [8] (fun i => ∃ k : Nat, k ≤ 2 ∧ i = .int .i64 k ∧ Hid (0 < k → x = 0) ∧ Hid (1 < k → y = 0)) (fun i => 2 - (intOf i).toNat)
  case atStart => exact ⟨0, by omega, rfl, hid (by omega), hid (by omega)⟩
  case round =>
    obtain ⟨k, hk, rfl, K1, K2⟩ := hrel
    have hks : k = 0 ∨ k = 1 ∨ k = 2 := by omega
    rcases hks with rfl | rfl | rfl
    · by_cases hx : x = 0
      · subst hx
        go_wp2
        go_round
        case rel => exact ⟨1, by omega, by go_num, hid (by first | (intro _; rfl) | simp), hid (by omega)⟩
        case measure => simp [intOf]
      · have hr : r = x := by rw [← HR.out, if_pos hx]
        have HX := hid hr
        have b1 : (x == 0) = false := by simpa using hx
        clear hx hr
        go_wp2
        go_ret
        exact ⟨ret_int HX.out.symm, rfl⟩
    · have hx : x = 0 := K1.out (by omega)
      have hr : r = y := by rw [← HR.out, if_neg (by simp [hx])]
      have HX := hid hr
      have HX0 := hid hx
      clear hr hx K1 K2 HR
      by_cases hy : y = 0
      · subst hy
        go_wp2
        go_round
        case rel => exact ⟨2, by omega, by go_num, hid (fun _ => HX0.out), hid (by first | (intro _; rfl) | simp)⟩
        case measure => simp [intOf]
      · have b1 : (y == 0) = false := by simpa using hy
        clear hy
        go_wp2
        go_ret
        exact ⟨ret_int HX.out.symm, rfl⟩
    · have hr : r = 0 := by rw [← HR.out, if_neg (by simp [K1.out (by omega)]), K2.out (by omega)]
      have HX := hid hr
      clear hr
      go_wp2
      go_ret
      exact ⟨ret_int HX.out.symm, rfl⟩

theorem Or_new (A : World) (n : Nat) (x y : Int) (hn : A.heap.size = n) :
    Calls Tryd.prog 60 #[.slice (some ⟨n, 0, none⟩) 2 2] (A.alloc (.cells #[.int .i64 x, .int .i64 y] 3)).drew fun e w' => e = .returned (.int .i64 (if x ≠ 0 then x else y)) ∧ w' = (A.alloc (.cells #[.int .i64 x, .int .i64 y] 3)).drew := by
  subst hn
  obtain ⟨W, hW⟩ : ∃ W, W = A.alloc (.cells #[.int .i64 x, .int .i64 y] 3) := ⟨_, rfl⟩
  have h0 : W.cell? ⟨A.heap.size, 0, none⟩ = some (.int .i64 x) := by rw [hW]; simp
  have h1 : W.cell? ⟨A.heap.size, 0 + 1, none⟩ = some (.int .i64 y) := by rw [hW]; simp
  rw [← hW]
  clear hW
  exact Or_any A.heap.size 0 x y W.drew (by rw [World.cell?_drew]; exact h0) (by rw [World.cell?_drew]; exact h1)

end Go.Proofs.YtcdobhdbafpkiadDoor
/-
  Contract: which of two prefixes comes first.
-/
namespace Go.Proofs.YtcdobhdbafpkiadDoor
open Go.RowKit
set_option maxRecDepth 20000

def PF (p1 p2 q1 q2 c1 c2 r : Int) (R : Nat) (w : World) : Nat → Value → Prop
  | 0, v => v = .pointer (some ⟨R, 0, none⟩)
  | 1, v => v = .int .i64 p1
  | 2, v => v = .pointer (some ⟨R + 1, 0, none⟩)
  | 3, v => v = .int .i64 q1
  | 4, v => v = .int .i64 c1
  | 5, v => v = .pointer (some ⟨R, 1, none⟩)
  | 6, v => v = .int .i64 p2
  | 7, v => v = .pointer (some ⟨R + 1, 1, none⟩)
  | 8, v => v = .int .i64 q2
  | 9, v => v = .int .i64 c2
  | 10, v => ∃ b, v = .slice (some ⟨b, 0, none⟩) 2 2 ∧ b < w.heap.size ∧ w.cell? ⟨b, 0, none⟩ = some (.int .i64 c1) ∧ w.cell? ⟨b, 1, none⟩ = some (.int .i64 c2)
  | 11, v => v = .int .i64 r
  | _, _ => True
theorem PF.mono {p1 p2 q1 q2 c1 c2 r : Int} {R : Nat} {w w' : World} {k : Nat} {v : Value} (h : PF p1 p2 q1 q2 c1 c2 r R w k v) (hb : Below w.heap.size w w') : PF p1 p2 q1 q2 c1 c2 r R w' k v := by
  have hz := hb.size
  match k, h with
  | 10, ⟨b, h1, h2, h3, h4⟩ => exact ⟨b, h1, by omega, ((bcell hb).1 b 0 h2).trans h3, ((bcell hb).1 b 1 h2).trans h4⟩
  | 0, h => exact h
  | 1, h => exact h
  | 2, h => exact h
  | 3, h => exact h
  | 4, h => exact h
  | 5, h => exact h
  | 6, h => exact h
  | 7, h => exact h
  | 8, h => exact h
  | 9, h => exact h
  | 11, h => exact h
  | n + 12, h => exact h
structure PInv (p1 p2 q1 q2 c1 c2 r : Int) (R : Nat) (W0 : World) (listed : Array Bool) (a : Act) (w : World) : Prop where
  ls : listed.size = 13
  sz : a.tmps.size = 17
  df : a.defers = []
  s2 : a.tmps[2]?.getD undef = .pointer (some ⟨R, 0, none⟩)
  s3 : a.tmps[3]?.getD undef = .pointer (some ⟨R + 1, 0, none⟩)
  f : ∀ k, k < 12 → listed.getD k false = true → PF p1 p2 q1 q2 c1 c2 r R w k (a.tmps[k + 5]?.getD undef)
  nb : Below W0.heap.size W0 w
  dn : listed.getD 12 false = true → a.tmps[4]?.getD undef = .int .i64 r
theorem PInv.put {p1 p2 q1 q2 c1 c2 r : Int} {R : Nat} {W0 : World} {listed : Array Bool} {a : Act} {w w' : World} {i : Nat} {v : Value} (h : PInv p1 p2 q1 q2 c1 c2 r R W0 listed a w) (hi : i < 12) (hb : Below w.heap.size w w') (hv : PF p1 p2 q1 q2 c1 c2 r R w' i v) :
    PInv p1 p2 q1 q2 c1 c2 r R W0 (listed.setIfInBounds i true) (a.put (some (i + 5)) v) w' := by
  refine ⟨by simp [h.ls], by simp [Act.put, h.sz], h.df, by rw [eval_ne (by omega)]; exact h.s2, by rw [eval_ne (by omega)]; exact h.s3, ?_, h.nb.trans (hb.mono h.nb.size), fun h' => ?_⟩
  · intro k hk hl
    by_cases hki : i = k
    · subst hki
      rw [eval_eq (by rw [h.sz]; omega)]
      exact hv
    · rw [getD_set_ne false hki] at hl
      rw [eval_ne (by omega)]
      exact (h.f k hk hl).mono hb
  · rw [getD_set_ne false (by omega)] at h'
    rw [eval_ne (by omega)]
    exact h.dn h'

set_option maxHeartbeats 4000000 in
theorem comparePrefixes_any (p q : Int × Int) (w : World) :
    Calls Tryd.prog 40 #[.agg #[.int .i64 p.1, .int .i64 p.2], .agg #[.int .i64 q.1, .int .i64 q.2]] w fun e w' => e = .returned (.int .i64 (Pl.pfxC p q)) ∧ Below w.heap.size w w' := by
  obtain ⟨p1, p2⟩ := p
  obtain ⟨q1, q2⟩ := q
  obtain ⟨c1, H1⟩ : ∃ c, Hid (Pl.cmpI p1 q1 = c) := ⟨_, rfl⟩
  obtain ⟨c2, H2⟩ : ∃ c, Hid (Pl.cmpI p2 q2 = c) := ⟨_, rfl⟩
  obtain ⟨r, HR⟩ : ∃ c, Hid ((if c1 ≠ 0 then c1 else c2) = c) := ⟨_, rfl⟩
  have HF : Hid (Pl.pfxC (p1, p2) (q1, q2) = r) := hid (by unfold Pl.pfxC; rw [H1.out, H2.out, HR.out])
  go_enter Tryd.func40, Tryd.ntmps40
  go_wp2_with fail
  refine wp_region_any (by kernel_rfl) ?_
  obtain ⟨W0, hW0⟩ : ∃ W0 : World, W0 = ((w.alloc (.cells #[.int .i64 p1, .int .i64 p2] 33)).alloc (.cells #[.int .i64 q1, .int .i64 q2] 33)) := ⟨_, rfl⟩
  have hR : w.heap.size < W0.heap.size := by rw [hW0]; simp; omega
  have hR1 : w.heap.size + 1 < W0.heap.size := by rw [hW0]; simp
  have d0 : W0.cell? ⟨w.heap.size, 0, none⟩ = some (.int .i64 p1) := by rw [hW0]; simp
  have d1 : W0.cell? ⟨w.heap.size, 1, none⟩ = some (.int .i64 p2) := by rw [hW0]; simp
  have d2 : W0.cell? ⟨w.heap.size + 1, 0, none⟩ = some (.int .i64 q1) := by rw [hW0]; simp
  have d3 : W0.cell? ⟨w.heap.size + 1, 1, none⟩ = some (.int .i64 q2) := by rw [hW0]; simp
  have hB0 : Below w.heap.size w W0 := by rw [hW0]; exact ((Below.refl _ _).alloc (Nat.le_refl _) _).alloc (by simp) _
  refine wpAny_inv (PInv p1 p2 q1 q2 c1 c2 r w.heap.size W0) ?_ ?_ _ _ _ _ (by decide +kernel) ?_
  · intro i listed a W hi hI
    rw [mem_ready] at hi
    obtain ⟨hl, o, ho, hall⟩ := hi
    have hlt : i < 13 := (Array.getElem?_eq_some_iff.1 ho).1
    have hcs : i = 0 ∨ i = 1 ∨ i = 2 ∨ i = 3 ∨ i = 4 ∨ i = 5 ∨ i = 6 ∨ i = 7 ∨ i = 8 ∨ i = 9 ∨ i = 10 ∨ i = 11 ∨ i = 12 := by omega
    rcases hcs with rfl | rfl | rfl | rfl | rfl | rfl | rfl | rfl | rfl | rfl | rfl | rfl | rfl
    all_goals
      simp at ho
      subst ho
      refine wpOp_of rfl rfl ?_
    · have e1 := hI.s2
      simp [Oper.wp, go_sem, e1]
      exact hI.put (i := 0) (by omega) (Below.refl _ _) rfl
    · have e1 : a.tmps[5]?.getD undef = .pointer (some ⟨w.heap.size, 0, none⟩) := hI.f 0 (by omega) (hall ⟨0, .data⟩ (by simp) rfl)
      have e2 := ((bcell hI.nb).1 w.heap.size 0 hR).trans d0
      simp [Oper.wp, go_sem, e1, e2]
      exact hI.put (i := 1) (by omega) (Below.refl _ _) rfl
    · have e1 := hI.s3
      simp [Oper.wp, go_sem, e1]
      exact hI.put (i := 2) (by omega) (Below.refl _ _) rfl
    · have e1 : a.tmps[7]?.getD undef = .pointer (some ⟨w.heap.size + 1, 0, none⟩) := hI.f 2 (by omega) (hall ⟨2, .data⟩ (by simp) rfl)
      have e2 := ((bcell hI.nb).1 (w.heap.size + 1) 0 hR1).trans d2
      simp [Oper.wp, go_sem, e1, e2]
      exact hI.put (i := 3) (by omega) (Below.refl _ _) rfl
    · have e1 : a.tmps[6]?.getD undef = .int .i64 p1 := hI.f 1 (by omega) (hall ⟨1, .data⟩ (by simp) rfl)
      have e2 : a.tmps[8]?.getD undef = .int .i64 q1 := hI.f 3 (by omega) (hall ⟨3, .data⟩ (by simp) rfl)
      simp [Oper.wp, go_sem, e1, e2]
      refine (cmpi_any p1 q1 W).mono ?_
      rw [H1.out]
      rintro e w1 ⟨rfl, rfl⟩
      exact hI.put (i := 4) (by omega) (Below.refl _ _) rfl
    · have e1 := hI.s2
      simp [Oper.wp, go_sem, e1]
      exact hI.put (i := 5) (by omega) (Below.refl _ _) rfl
    · have e1 : a.tmps[10]?.getD undef = .pointer (some ⟨w.heap.size, 1, none⟩) := hI.f 5 (by omega) (hall ⟨5, .data⟩ (by simp) rfl)
      have e2 := ((bcell hI.nb).1 w.heap.size 1 hR).trans d1
      simp [Oper.wp, go_sem, e1, e2]
      exact hI.put (i := 6) (by omega) (Below.refl _ _) rfl
    · have e1 := hI.s3
      simp [Oper.wp, go_sem, e1]
      exact hI.put (i := 7) (by omega) (Below.refl _ _) rfl
    · have e1 : a.tmps[12]?.getD undef = .pointer (some ⟨w.heap.size + 1, 1, none⟩) := hI.f 7 (by omega) (hall ⟨7, .data⟩ (by simp) rfl)
      have e2 := ((bcell hI.nb).1 (w.heap.size + 1) 1 hR1).trans d3
      simp [Oper.wp, go_sem, e1, e2]
      exact hI.put (i := 8) (by omega) (Below.refl _ _) rfl
    · have e1 : a.tmps[11]?.getD undef = .int .i64 p2 := hI.f 6 (by omega) (hall ⟨6, .data⟩ (by simp) rfl)
      have e2 : a.tmps[13]?.getD undef = .int .i64 q2 := hI.f 8 (by omega) (hall ⟨8, .data⟩ (by simp) rfl)
      simp [Oper.wp, go_sem, e1, e2]
      refine (cmpi_any p2 q2 W).mono ?_
      rw [H2.out]
      rintro e w1 ⟨rfl, rfl⟩
      exact hI.put (i := 9) (by omega) (Below.refl _ _) rfl
    · have e1 : a.tmps[9]?.getD undef = .int .i64 c1 := hI.f 4 (by omega) (hall ⟨4, .data⟩ (by simp) rfl)
      have e2 : a.tmps[14]?.getD undef = .int .i64 c2 := hI.f 9 (by omega) (hall ⟨9, .data⟩ (by simp) rfl)
      simp [Oper.wp, go_sem, e1, e2]
      exact hI.put (i := 10) (by omega) ((Below.refl _ _).alloc (Nat.le_refl _) _) ⟨W.heap.size, rfl, by simp, by simp, by simp⟩
    · obtain ⟨b, e1, hb, hc0, hc1⟩ := hI.f 10 (by omega) (hall ⟨10, .data⟩ (by simp) rfl)
      simp only [Nat.reduceAdd] at e1
      simp [Oper.wp, go_sem, e1]
      refine (Or_any b 0 c1 c2 W hc0 hc1).mono ?_
      rw [HR.out]
      rintro e w1 ⟨rfl, rfl⟩
      exact hI.put (i := 11) (by omega) (Below.refl _ _) rfl
    · have e1 : a.tmps[16]?.getD undef = .int .i64 r := hI.f 11 (by omega) (hall ⟨11, .data⟩ (by simp) rfl)
      simp [Oper.wp, go_sem, e1]
      refine ⟨by simp [hI.ls], by simp [hI.sz], hI.df, ?_, ?_, ?_, hI.nb, ?_⟩
      · have := eval_ne (a := a) (m := 4) (n := 2) (v := .int .i64 r) (by omega); exact this.trans hI.s2
      · have := eval_ne (a := a) (m := 4) (n := 3) (v := .int .i64 r) (by omega); exact this.trans hI.s3
      · intro k hk hlk
        rw [getD_set_ne false (by omega)] at hlk
        have := eval_ne (a := a) (m := 4) (n := k + 5) (v := .int .i64 r) (by omega)
        exact this ▸ hI.f k hk hlk
      · intro _
        exact eval_eq (a := a) (m := 4) (v := .int .i64 r) (by rw [hI.sz]; omega)
  · intro listed a W hr hI
    rename_i K hK
    have hal := all_listed (by decide +kernel) hI.ls hr 12 (by decide)
    have e4 := hI.dn hal
    refine hK a W ?_
    refine wp_ret ?_
    show bodyPost Tryd.prog Tryd.f40 _ Exit.ret a W
    refine bodyPost_ret (v := .int .i64 r) (by simp [results, Tryd.results40, go_sem, e4]) hI.df ⟨ret_int HF.out.symm, hB0.trans (hI.nb.mono hB0.size)⟩
  · rw [← hW0]
    refine ⟨by rfl, by rfl, rfl, by rfl, by rfl, ?_, Below.drew (Below.refl _ _), ?_⟩
    · intro k hk h
      have : (Array.replicate 13 false).getD k false = true := h
      rw [show (Array.replicate 13 false).getD k false = false from by by_cases hk' : k < 13 <;> simp [hk']] at this
      cases this
    · intro h
      have : (Array.replicate 13 false).getD 12 false = true := h
      simp at this
end Go.Proofs.YtcdobhdbafpkiadDoor
/-
  Contracts: what is wrong with one prefix: checkPrefix; how many addresses have bits in common: the document's spanOf.
-/
namespace Go.Proofs.YtcdobhdbafpkiadDoor
open Go.RowKit
set_option maxRecDepth 20000

theorem Pl.pfx1_out {p : Int × Int} (h : p.2 < 0 ∨ 8 < p.2 ∨ p.1 < 0 ∨ 255 < p.1) : Pl.pfx1 p = 2 := by
  unfold Pl.pfx1
  rw [if_neg]
  unfold Pl.inP
  simp; omega
theorem Pl.pfx1_in {p : Int × Int} (h1 : 0 ≤ p.2 ∧ p.2 ≤ 8) (h2 : 0 ≤ p.1 ∧ p.1 ≤ 255) : Pl.pfx1 p = if p.1 % Pl.span p.2 = 0 then 0 else 4 := by
  unfold Pl.pfx1
  rw [if_pos]
  unfold Pl.inP
  simp; omega

set_option maxHeartbeats 1000000 in
theorem checkPrefix_any (p : Int × Int) (w : World) :
    Calls Tryd.prog 39 #[.agg #[.int .i64 p.1, .int .i64 p.2]] w fun e w' => e = .returned (.int .i64 (Pl.pfx1 p)) ∧ Below w.heap.size w w' := by
  obtain ⟨a, b⟩ := p
  have hB1 : Below w.heap.size w (w.alloc (.cells #[.int .i64 a, .int .i64 b] 33)) := (Below.refl _ _).alloc (Nat.le_refl _) _
  rcases Int.lt_or_le b 0 with h1 | h1
  · have HR := hid (Pl.pfx1_out (p := (a, b)) (.inl h1))
    go_enter Tryd.func39, Tryd.ntmps39
    go_wp2
    go_ret
    exact ⟨ret_int HR.out.symm, hB1⟩
  rcases Int.lt_or_le 8 b with h2 | h2
  · have HR := hid (Pl.pfx1_out (p := (a, b)) (.inr (.inl h2)))
    go_enter Tryd.func39, Tryd.ntmps39
    go_wp2
    go_ret
    exact ⟨ret_int HR.out.symm, hB1⟩
  rcases Int.lt_or_le a 0 with h3 | h3
  · have HR := hid (Pl.pfx1_out (p := (a, b)) (.inr (.inr (.inl h3))))
    go_enter Tryd.func39, Tryd.ntmps39
    go_wp2
    go_ret
    exact ⟨ret_int HR.out.symm, hB1⟩
  rcases Int.lt_or_le 255 a with h4 | h4
  · have HR := hid (Pl.pfx1_out (p := (a, b)) (.inr (.inr (.inr h4))))
    go_enter Tryd.func39, Tryd.ntmps39
    go_wp2
    go_ret
    exact ⟨ret_int HR.out.symm, hB1⟩
  have HR := hid (Pl.pfx1_in (p := (a, b)) ⟨h1, h2⟩ ⟨h3, h4⟩)
  obtain ⟨t0, t1, t2, t3, t4, t5, t6, t7, t8⟩ := Pl.span_table
  have hbs := Pl.bits_cases ⟨h1, h2⟩
  rcases hbs with rfl | rfl | rfl | rfl | rfl | rfl | rfl | rfl | rfl
  all_goals
    clear h1 h2
    have htm : ∀ k, a.tmod k = a % k := fun k => Int.tmod_eq_emod_of_nonneg h3
    simp only [t0, t1, t2, t3, t4, t5, t6, t7, t8] at HR
    go_enter Tryd.func39, Tryd.ntmps39
    go_wp2_with fail
    go_quiet (fail)
    go_wp2_with fail
  all_goals go_ret
  all_goals exact ⟨ret_int (by rw [HR.out]; split <;> simp_all), below_drew hB1 _⟩

theorem Pl.span_half {m : Int} (h : 0 ≤ m ∧ m ≤ 7) : (Pl.span m).tdiv 2 = Pl.span (m + 1) ∧ 0 ≤ Pl.span m ∧ Pl.span m ≤ 256 := by
  have : m = 0 ∨ m = 1 ∨ m = 2 ∨ m = 3 ∨ m = 4 ∨ m = 5 ∨ m = 6 ∨ m = 7 := by omega
  rcases this with rfl | rfl | rfl | rfl | rfl | rfl | rfl | rfl <;> decide

end Go.Proofs.YtcdobhdbafpkiadDoor
/-
  Contracts: what CheckPrefixes and the document's PrefixesFault answer at every list of prefixes.
-/
namespace Go.Proofs.YtcdobhdbafpkiadDoor
open Go.RowKit
set_option maxRecDepth 20000

set_option maxHeartbeats 1000000 in
theorem CheckPrefixes_any (a : Option Addr) (len cap : Nat) (ps : List (Int × Int)) (w : World) (h : IsPairs w a len cap ps) :
    Calls Tryd.prog 22 #[.slice a len cap] w fun e w' => e = .returned (.int .i64 (Pl.pfxF ps)) ∧ Below w.heap.size w w' := by
  obtain ⟨hl, hc, hm, hok, hrow⟩ := h
  unfold maxLen at hm
  by_cases h6 : 6 < len
  · have HR := hid (Pl.pfxF_size (ps := ps) (by omega))
    go_enter Tryd.func22, Tryd.ntmps22
    go_wp2
    go_ret
    exact ⟨ret_int HR.out.symm, Below.refl _ _⟩
  go_enter Tryd.func22, Tryd.ntmps22
  go_wp2
  go_loopw [11] (fun i wr => ∃ k : Nat, k ≤ len ∧ i = .int .i64 k ∧ Hid (Pl.pfxF ps = Pl.pfxN ps (len - k) k) ∧ Hid (∀ j, j < k → Pl.pfx1 (Pl.pr ps j) = 0) ∧ Below w.heap.size w wr) (fun i _ => len - (intOf i).toNat)
  case atStart => exact ⟨0, Nat.zero_le _, rfl, by show _ = _; rw [Pl.pfxF_from (by omega), hl]; rfl, hid (by intro j hj; omega), Below.refl _ _⟩
  case round =>
    obtain ⟨k, hk, rfl, HF, HV, hb⟩ := hrel
    by_cases hlt : k < len
    · obtain ⟨b, off, rfl, hbw, hr⟩ : ∃ b off, a = some ⟨b, off, none⟩ ∧ b < w.heap.size ∧ PairsAt w b off ps := by
        rcases hrow with rfl | h
        · simp at hl; omega
        · exact h
      clear hrow
      have hr' := hr.below hbw hb
      obtain ⟨c0, c1⟩ := hr' k (by omega)
      have hz := hb.size
      obtain ⟨n, hn⟩ : ∃ n, len - k = n + 1 := ⟨len - k - 1, by omega⟩
      have HN : Hid (len - k = n + 1) := hn
      clear hn
      have hbr : b < wr.heap.size := by omega
      obtain ⟨pp, HP⟩ : ∃ pp, Hid (Pl.pr ps k = pp) := ⟨_, rfl⟩
      rw [HP.out] at c0 c1
      obtain ⟨cc, HCC⟩ : ∃ cc, Hid (Pl.pfx1 pp = cc) := ⟨_, rfl⟩
      by_cases hc0 : cc = 0
      · subst hc0
        have HM : Hid (Pl.pfx1 (Pl.pr ps k) = 0) := hid (by rw [HP.out, HCC.out])
        have HV' : Hid (∀ j, j < k + 1 → Pl.pfx1 (Pl.pr ps j) = 0) := by
          refine hid fun j hj => ?_
          rcases Nat.lt_or_ge j k with h | h
          · exact HV.out j h
          · obtain rfl : j = k := by omega
            exact HM.out
        rcases Nat.eq_zero_or_pos k with hk0 | hk0
        · have hd : decide (0 < k) = false := by simp; omega
          have HK0 : Hid (k = 0) := hk0
          clear hk0
          go_wp2_with fail
          refine (checkPrefix_any pp _).mono ?_
          rw [HCC.out]
          rintro e w1 ⟨rfl, hb1⟩
          go_wp2_with fail
          go_quiet (fail)
          go_wp2_with fail
          go_roundw
          case rel => exact ⟨k + 1, by omega, by go_num, by show _ = _; have h := HN.out; rw [HF.out, h]; have hm := HM.out; rw [HK0.out] at hm ⊢; rw [Pl.pfxN_first hm]; congr 1; have h0 := HK0.out; omega, HV', below_drew ((hb.alloc hz _).trans (hb1.mono (by simp; omega))) _⟩
          case measure => simp [intOf]; omega
        · obtain ⟨m, rfl⟩ : ∃ m, k = m + 1 := ⟨k - 1, by omega⟩
          obtain ⟨d0, d1⟩ := hr' m (by omega)
          obtain ⟨qq, HQ⟩ : ∃ pp, Hid (Pl.pr ps m = pp) := ⟨_, rfl⟩
          rw [HQ.out] at d0 d1
          obtain ⟨cq, HCQ⟩ : ∃ c, Hid (Pl.pfxC qq pp = c) := ⟨_, rfl⟩
          have HLW : Hid (decide (0 ≤ cq) = Pl.pfxLow (Pl.pr ps m) (Pl.pr ps (m + 1))) := by
            refine hid ?_
            rw [← HCQ.out, ← HP.out, ← HQ.out]
            exact Pl.pfxC_low (Pl.pfx1_zero (HV.out m (by omega))) (Pl.pfx1_zero HM.out)
          have HCP : Hid (∀ W, Calls Tryd.prog 40 #[.agg #[.int .i64 qq.1, .int .i64 qq.2], .agg #[.int .i64 pp.1, .int .i64 pp.2]] W fun e w' => e = .returned (.int .i64 cq) ∧ Below W.heap.size W w') := by
            refine hid fun W => ?_
            have := comparePrefixes_any qq pp W
            rwa [HCQ.out] at this
          by_cases hle : 0 ≤ cq
          all_goals
            go_wp2_with fail
            refine (checkPrefix_any pp _).mono ?_
            rw [HCC.out]
            rintro e w1 ⟨rfl, hb1⟩
            have hbA : Below (wr.heap.size + 1) (wr.alloc (.cells #[.int .i64 pp.1, .int .i64 pp.2] 33)) w1 := by simpa using hb1
            obtain ⟨x0, x1, xs, hbb⟩ := box2 hbA
            have d0' := (hbb.cell (p := ⟨b, off + m * 2, none⟩) hbr).trans d0
            have d1' := (hbb.cell (p := ⟨b, off + m * 2 + 1, none⟩) hbr).trans d1
            clear hb1 hbA
            have hbw1 : b < w1.heap.size := by omega
            go_wp2_with fail
            have i0 := in_cell xs x0
            have i1 := in_cell xs x1
            have i2 := in_cell hbw1 d0'
            have i3 := in_cell hbw1 d1'
            have hne := in_some w1
            refine wp_region_in (by kernel_rfl) (by kernel_rfl) ?_
            repeat (go_big_quiet_step ((go_at_call 40; exact in_call (HCP.out _))))
            refine wpQuiet_nil ?_
            intro w5 hw'
            have hb5 := in_out hw'
            clear hw' i0 i1 i2 i3 hne x0 x1 d0' d1'
            go_wp2_with fail
          · go_ret
            exact ⟨ret_int (by rw [HF.out, HN.out, Pl.pfxN_low HM.out (by rw [← HLW.out]; simpa using hle)]), hb.trans ((hbb.mono hz).trans (hb5.mono (Nat.le_trans hz hbb.size)))⟩
          · go_roundw
            case rel => exact ⟨m + 1 + 1, by omega, by go_num, by show _ = _; rw [HF.out, HN.out, Pl.pfxN_on HM.out (by rw [← HLW.out]; simpa using hle)]; congr 1; have := HN.out; omega, HV', hb.trans ((hbb.mono hz).trans (hb5.mono (Nat.le_trans hz hbb.size)))⟩
            case measure => simp [intOf]; omega
      · have HR : Hid (Pl.pfxF ps = cc) := by
          refine hid ?_
          rw [HF.out, HN.out, Pl.pfxN_bad (by rw [HP.out, HCC.out]; exact hc0), HP.out, HCC.out]
        have hd0 : (cc == 0) = false := by simpa using hc0
        clear hc0
        go_wp2_with fail
        refine (checkPrefix_any pp _).mono ?_
        rw [HCC.out]
        rintro e w1 ⟨rfl, hb1⟩
        go_wp2_with fail
        go_ret
        exact ⟨ret_int HR.out.symm, (hb.alloc hz _).trans (hb1.mono (by simp; omega))⟩
    · obtain rfl : k = len := by omega
      go_wp2
      go_ret
      exact ⟨ret_int (by rw [HF.out]; simp [Pl.pfxN]), hb⟩
end Go.Proofs.YtcdobhdbafpkiadDoor
/-
  Contract: what the document's PrefixesFault answers at every list of prefixes.
-/
namespace Go.Proofs.YtcdobhdbafpkiadDoor
open Go.RowKit
set_option maxRecDepth 20000

theorem Pl.span_pos {b : Int} (h : 0 ≤ b ∧ b ≤ 8) : 1 ≤ Pl.span b ∧ Pl.span b ≤ 256 := by
  rcases Pl.bits_cases h with rfl | rfl | rfl | rfl | rfl | rfl | rfl | rfl | rfl <;> decide

end Go.Proofs.YtcdobhdbafpkiadDoor
/-
  Plain: prefixes that may be told are few and small; contract: the document's PrefixesText.
-/
namespace Go.Proofs.YtcdobhdbafpkiadDoor
open Go.RowKit
set_option maxRecDepth 20000

theorem Pl.pfxN_ok (ps : List (Int × Int)) : ∀ (n i : Nat), i + n = ps.length → Pl.pfxN ps n i = 0 → ∀ j, i ≤ j → j < ps.length → Pl.pfx1 (Pl.pr ps j) = 0
  | 0, i, h, _, j, h1, h2 => by omega
  | n + 1, i, h, h0, j, h1, h2 => by
    rw [Pl.pfxN] at h0
    by_cases g1 : Pl.pfx1 (Pl.pr ps i) = 0
    · rw [if_pos g1] at h0
      split at h0
      · cases h0
      · rcases Nat.eq_or_lt_of_le h1 with e | h1
        · subst e; exact g1
        · exact Pl.pfxN_ok ps n (i + 1) (by omega) h0 j h1 h2
    · rw [if_neg g1] at h0; exact absurd h0 g1
theorem Pl.pfxF_ok {ps : List (Int × Int)} (h : Pl.pfxF ps = 0) : ps.length ≤ 6 ∧ ∀ p ∈ ps, Pl.small p := by
  unfold Pl.pfxF at h
  split at h
  · rename_i hl
    refine ⟨hl, fun p hp => ?_⟩
    obtain ⟨i, hi, rfl⟩ := List.getElem_of_mem hp
    have := Pl.pfx1_zero (Pl.pfxN_ok ps ps.length 0 (by omega) h i (by omega) hi)
    rw [Pl.pr_eq ps i hi] at this
    exact ⟨by omega, by omega, by omega, by omega⟩
  · cases h
/-- what ShowPrefixes answers -/
def Pl.pfxText (ps : List (Int × Int)) : ByteArray := if Pl.pfxF ps = 0 then Pl.showT ⟨#[47]⟩ ps else ⟨#[]⟩

end Go.Proofs.YtcdobhdbafpkiadDoor
/-
  Contracts: the prefixes that a text tells: ReadPrefixes, the document's PrefixesOf; two lists of prefixes that are the same are told so.
-/
namespace Go.Proofs.YtcdobhdbafpkiadDoor
open Go.RowKit
set_option maxRecDepth 20000

/-- what ReadPrefixes answers: the code, the prefixes -/
def Pl.rpC (l : List UInt8) : Int := match Pl.pairsL 47 l with
  | none => 4
  | some ps => Pl.pfxF ps
def Pl.rpS (l : List UInt8) : List (Int × Int) := if Pl.rpC l = 0 then (Pl.pairsL 47 l).getD [] else []
theorem infoPfx : (Tryd.prog.info? 33).map (fun i => (i.zero, i.size, i.bytes)) = some (some (.agg #[.int .i64 0, .int .i64 0]), 2, 16) := by kernel_rfl
theorem Pl.rpS_ok (l : List UInt8) : ∀ p ∈ Pl.rpS l, Pl.pairOk p := by
  intro p hp
  unfold Pl.rpS at hp
  split at hp
  · cases h : Pl.pairsL 47 l with
    | none => rw [h] at hp; simp at hp
    | some a =>
      rw [h] at hp
      exact (Pl.pairsL_facts (m := 47) (l := l) h).2 p hp
  · simp at hp
theorem Pl.pairsL_cut (m : UInt8) (l : List UInt8) : Pl.pairsL m l = Pl.pairsP m (Pl.cutsL l) := by
  unfold Pl.pairsL Pl.cutsL
  split <;> rfl
theorem Pl.lists_dropP (ks : List ByteArray) (k : Nat) (h : k < ks.length) : Pl.lists (ks.drop k) = ks[k].data.toList :: Pl.lists (ks.drop (k + 1)) := by
  rw [List.drop_eq_getElem_cons h]; rfl

set_option maxHeartbeats 2000000 in
theorem ReadPrefixes_any (s : ByteArray) (w : World) (hs : s.size ≤ 4398046511103) :
    Calls Tryd.prog 10 #[.string s] w fun e w' => ∃ vl : Value, e = .returned (.tuple #[vl, .int .i64 (Pl.rpC s.data.toList)]) ∧
      OwnP 33 w' w.heap.size vl (Pl.rpS s.data.toList) ∧ Below w.heap.size w w' := by
  obtain ⟨np, HP⟩ : ∃ x, Hid (Pl.pairsL 47 s.data.toList = x) := ⟨_, rfl⟩
  cases np with
  | none =>
    have HC : Hid (Pl.rpC s.data.toList = 4 ∧ Pl.rpS s.data.toList = []) := by
      have h : Pl.rpC s.data.toList = 4 := by unfold Pl.rpC; rw [HP.out]
      refine hid ⟨h, ?_⟩
      unfold Pl.rpS; rw [h]; rfl
    rw [HC.out.1, HC.out.2]
    go_enter Tryd.func10, Tryd.ntmps10
    go_wp2_with fail
    refine (readPairs_any s 47 _ (by omega)).mono ?_
    rw [HP.out]
    rintro e w2 ⟨v2, rfl, _, hb2⟩
    go_wp2_with fail
    go_ret2
    exact ⟨_, rfl, OwnP.nil _ _ _, hb2⟩
  | some ps =>
    obtain ⟨cc, HCC⟩ : ∃ x, Hid (Pl.pfxF ps = x) := ⟨_, rfl⟩
    have HC : Hid (Pl.rpC s.data.toList = cc ∧ (cc = 0 → Pl.rpS s.data.toList = ps) ∧ (cc ≠ 0 → Pl.rpS s.data.toList = [])) := by
      have h : Pl.rpC s.data.toList = cc := by unfold Pl.rpC; rw [HP.out]; exact HCC.out
      refine hid ⟨h, fun h0 => ?_, fun h0 => ?_⟩
      · unfold Pl.rpS; rw [h, h0, HP.out]; rfl
      · unfold Pl.rpS; rw [h, if_neg h0]
    have HFA := hid (Pl.pairsL_facts (m := 47) (l := s.data.toList) HP.out)
    rw [HC.out.1]
    go_enter Tryd.func10, Tryd.ntmps10
    go_wp2_with fail
    refine (readPairs_any s 47 _ (by omega)).mono ?_
    rw [HP.out]
    rintro e w2 ⟨v2, rfl, ho2, hb2⟩
    obtain ⟨a2, cap2, rfl, hp2, _, _⟩ := OwnP.shape (ps := ps) ho2 HFA.out.2
    have HP2 := hid hp2
    have hlen : ps.length ≤ s.size + 1 := by
      have h1 := HFA.out.1
      rw [sz_list] at h1
      omega
    have hcap := hp2.2.1
    have hmax := hp2.2.2.1
    unfold maxLen at hmax
    clear ho2 hp2
    go_wp2_with fail
    go_loopw [6, 19] (fun vl i wr => ∃ (k : Nat) (vv : Value), vv = vl ∧ k ≤ ps.length ∧ i = .int .i64 k ∧ Hid (OwnP 33 wr w2.heap.size vv (ps.take k)) ∧ Below w2.heap.size w2 wr) (fun _ i _ => ps.length - (intOf i).toNat)
    case atStart => exact ⟨0, _, rfl, Nat.zero_le _, rfl, hid (OwnP.nil _ _ _), Below.refl _ _⟩
    case round =>
      obtain ⟨k, vl, rfl, hk, rfl, HO, hb⟩ := hrel
      by_cases hlt : k < ps.length
      · obtain ⟨b, off, rfl, hbw, hr⟩ : ∃ b off, a2 = some ⟨b, off, none⟩ ∧ b < w2.heap.size ∧ PairsAt w2 b off ps := by
          rcases HP2.out.2.2.2.2 with rfl | h
          · simp at hlt
          · exact h
        obtain ⟨c0, c1⟩ := (hr.below hbw hb) k hlt
        have hz := hb.size
        have hbr : b < wr.heap.size := by omega
        clear hr
        obtain ⟨pp, hpp⟩ : ∃ pp, Hid (Pl.pr ps k = pp) := ⟨_, rfl⟩
        rw [hpp.out] at c0 c1
        have HO4 := hid (HO.out.below ((Below.refl wr.heap.size wr).alloc (Nat.le_refl _) (.cells #[.int .i64 pp.1, .int .i64 pp.2] 69)))
        have htk : (ps.take k).length = k := by simp; omega
        go_wp2_with (at_builtin; refine append_pairT Tryd.underlying26 infoPfx rfl (.tmp 23) (.tmp 29) rfl w2.heap.size vl (ps.take k) pp rfl HO4.out (by simp; omega) (by show Value.slice (some ⟨wr.heap.size + 1, 0, none⟩) 1 1 = _; simp) (by rw [htk]; omega) ?_; intro v5 w5 ho5 hb5 _; have HO5 := hid ho5; clear ho5)
        go_roundw
        case rel => exact ⟨k + 1, _, rfl, by omega, by go_num, hid (by show OwnP _ _ _ _ _; rw [Pl.take_pr ps k hlt, hpp.out]; exact HO5.out), (hb.alloc hz _).trans hb5⟩
        case measure => simp [intOf]; omega
      · obtain rfl : k = ps.length := by omega
        have HO' : Hid (OwnP 33 wr w2.heap.size vl ps) := by have h := HO.out; rw [List.take_length] at h; exact hid h
        obtain ⟨a3, cap3, rfl, hp3, _, _⟩ := OwnP.shape HO'.out HFA.out.2
        have HP3 := hid hp3
        clear hp3 HO
        have hbx : Below w.heap.size w wr := hb2.trans (hb.mono hb2.size)
        by_cases hc0 : cc = 0
        · subst hc0
          have HC' := hid (HC.out.2.1 rfl)
          clear HC
          go_wp2_with fail
          refine (CheckPrefixes_any _ _ _ ps _ HP3.out).mono ?_
          rw [HCC.out]
          rintro e w4 ⟨rfl, hb4⟩
          go_wp2_with fail
          go_ret2
          exact ⟨_, rfl, by rw [HC'.out]; exact OwnP.mono (HO'.out.below hb4) hb2.size, hbx.trans (hb4.mono hbx.size)⟩
        · have HC' := hid (HC.out.2.2 hc0)
          clear HC
          have hd0 : (cc == 0) = false := by simpa using hc0
          clear hc0
          go_wp2_with fail
          refine (CheckPrefixes_any _ _ _ ps _ HP3.out).mono ?_
          rw [HCC.out]
          rintro e w4 ⟨rfl, hb4⟩
          go_wp2_with fail
          go_ret2
          exact ⟨_, rfl, by rw [HC'.out]; exact OwnP.nil _ _ _, hbx.trans (hb4.mono hbx.size)⟩

end Go.Proofs.YtcdobhdbafpkiadDoor
