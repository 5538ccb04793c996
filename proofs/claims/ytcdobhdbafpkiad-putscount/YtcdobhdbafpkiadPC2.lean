/-
  Contracts: slices.IndexFunc, slices.DeleteFunc over entries, by a closure that asks for one key.
-/
import Derived.Test.YtcdobhdbafpkiadPC1
import Derived.Lib.SliceRun
import Derived.Lib.EndianMore
namespace Go.Proofs.Ytcdobhdbafpkiad
open Go.RowKit
set_option maxRecDepth 20000

/-- a closure that says whether an entry has this key, in whatever world that has what lay below base in w -/
def PredE (g : Nat) (lb : Array Value) (key : ByteArray) (base : Nat) (w : World) : Prop :=
  ∀ (W : World) (x : Pl.Ent), Below base w W → Calls Try.prog g (#[.agg #[.string x.key, .int .i64 x.ver, .int .i64 x.org, .string x.val]] ++ lb) W fun e w' => e = .returned (.bool (decide (x.key = key))) ∧ Below W.heap.size W w'

set_option maxHeartbeats 1000000 in
theorem IndexFunc_any (g : Nat) (fr : Value) (eg : ∀ args w, (callFunc g args).run Try.prog w = .ok (.enter g args) w) (key : ByteArray) (base : Nat) (w0 : World) (hp : PredE g #[fr] key base w0)
    (a : Option Addr) (len cap : Nat) (es : List Pl.Ent) (w : World) (h : IsEnts w a len cap es) (hB : Below base w0 w) (hbw : base ≤ w.heap.size) :
    Calls Try.prog 30 #[.slice a len cap, .func (.func g) #[] #[fr]] w fun e w' =>
      ((e = .returned (.int .i64 (-1)) ∧ ∀ i, i < len → ¬ (Pl.ent es i).key = key) ∨ (∃ i : Nat, e = .returned (.int .i64 i) ∧ i < len ∧ (Pl.ent es i).key = key ∧ ∀ j, j < i → ¬ (Pl.ent es j).key = key)) ∧ Below w.heap.size w w' := by
  have HH := hid h
  obtain ⟨hl, hc, hm, _, _⟩ := h
  unfold maxLen at hm
  have HP := hid hp
  have HB := hid hB
  clear hp hB
  go_enter Try.func30, Try.ntmps30
  go_wp2_with fail
  go_loopw [8] (fun i wr => ∃ k : Nat, k ≤ len ∧ i = .int .i64 k ∧ Hid (∀ j, j < k → ¬ (Pl.ent es j).key = key) ∧ Below w.heap.size w wr) (fun i _ => len - (intOf i).toNat)
  case atStart => exact ⟨0, Nat.zero_le _, rfl, hid (fun j hj => by omega), Below.refl _ _⟩
  case round =>
    obtain ⟨k, hk, rfl, HN, hb⟩ := hrel
    by_cases hlt : k < len
    · obtain ⟨b1, o1, rfl, hb1, hr1⟩ : ∃ b off, a = some ⟨b, off, none⟩ ∧ b < w.heap.size ∧ RowAt w b off es := by
        rcases HH.out.2.2.2.2 with h | h
        · rw [h] at hl; simp at hl; omega
        · exact h
      obtain ⟨q0, q1, q2, q3⟩ := hr1.below hb1 hb k (by omega)
      have HC := hid (HP.out wr (Pl.ent es k) (HB.out.trans (hb.mono hbw)))
      clear hr1
      obtain ⟨y, HY⟩ : ∃ y, Hid (Pl.ent es k = y) := ⟨_, hid rfl⟩
      rw [HY.out] at q0 q1 q2 q3 HC
      obtain ⟨yk, yv, yo, yx⟩ := y
      simp only at q0 q1 q2 q3 HC
      have hlt' : (k : Int) < (len : Int) := by omega
      by_cases hkk : yk = key
      · have hdk : decide (yk = key) = true := decide_eq_true hkk
        have HKK := hid hkk
        clear hkk
        rw [hdk] at HC
        clear hdk
        go_wp2_with fail
        refine HC.out.mono ?_
        rintro e w1 ⟨rfl, hb1⟩
        go_wp2_with fail
        go_ret
        exact ⟨.inr ⟨k, rfl, hlt, by rw [HY.out]; exact HKK.out, HN.out⟩, hb.trans (hb1.mono hb.size)⟩
      · have hdk : decide (yk = key) = false := decide_eq_false hkk
        have HKK := hid hkk
        clear hkk
        rw [hdk] at HC
        clear hdk
        go_wp2_with fail
        refine HC.out.mono ?_
        rintro e w1 ⟨rfl, hb1⟩
        go_wp2_with fail
        go_roundw
        case rel => exact ⟨k + 1, by omega, by go_num, hid (fun j hj => by
          rcases Nat.lt_or_ge j k with h | h
          · exact HN.out j h
          · obtain rfl : j = k := by omega
            rw [HY.out]; exact HKK.out), hb.trans (hb1.mono hb.size)⟩
        case measure => simp [intOf]; omega
    · obtain rfl : k = len := by omega
      go_wp2_with fail
      go_ret
      exact ⟨.inl ⟨rfl, HN.out⟩, hb⟩

/-- one entry of a row laid anew -/
def set4 (w : World) (g o : Nat) (x : Pl.Ent) : World := (((w.setCell ⟨g, o, none⟩ (.string x.key)).setCell ⟨g, o + 1, none⟩ (.int .i64 x.ver)).setCell ⟨g, o + 2, none⟩ (.int .i64 x.org)).setCell ⟨g, o + 3, none⟩ (.string x.val)
theorem cellsL_set : ∀ (es : List Pl.Ent) (i : Nat) (x : Pl.Ent), cellsL (es.set i x) = ((((cellsL es).set (i * 4) (.string x.key)).set (i * 4 + 1) (.int .i64 x.ver)).set (i * 4 + 2) (.int .i64 x.org)).set (i * 4 + 3) (.string x.val)
  | [], i, x => by simp [cellsL]
  | e :: r, 0, x => by simp [cellsL, cellsE]
  | e :: r, i + 1, x => by
    rw [List.set_cons_succ, cellsL, cellsL_set r i x, show (i + 1) * 4 = i * 4 + 4 by omega]
    simp [cellsL, cellsE]
theorem Own.opened {w : World} {base : Nat} {v : Value} {es : List Pl.Ent} (h : Own w base v es) (hne : 0 < es.length) :
    ∃ g cap, v = .slice (some ⟨g, 0, none⟩) es.length cap ∧ base ≤ g ∧ g < w.heap.size ∧ es.length ≤ cap ∧ cap ≤ maxLen ∧ RowAt w g 0 es ∧
      (∀ j, j < es.length * 4 → (w.cell? ⟨g, j, none⟩).isSome = true ∧ w.frozen? ⟨g, j, none⟩ = false) ∧
      (∀ (i : Nat) (x : Pl.Ent), Own (set4 w g (i * 4) x) base v (es.set i x)) := by
  obtain ⟨hl, h | ⟨g, cap, cur, rfl, hb, hh, hn, hm, hs, hx⟩⟩ := h
  · obtain ⟨_, hn⟩ := h; omega
  · have hcell : ∀ j u, (cellsL es)[j]? = some u → w.cell? ⟨g, 0 + j, none⟩ = some u := by
      intro j u hj
      rw [← hx] at hj
      have hj' : cur[j]? = some u := by
        rw [List.getElem?_take] at hj
        split at hj
        · rw [← Array.getElem?_toList]; exact hj
        · cases hj
      simp [World.cell?, hh, hj']
    refine ⟨g, cap, rfl, hb, lt_of_block hh, hn, hm, (rowAt_cells es 0).2 hcell, ?_, ?_⟩
    · intro j hj
      have hj2 : j < (cellsL es).length := by rw [cellsL_len]; exact hj
      refine ⟨?_, by simp [World.frozen?, hh]⟩
      have := hcell j _ (List.getElem?_eq_getElem hj2)
      rw [Nat.zero_add] at this
      rw [this]; rfl
    · intro i x
      refine ⟨by simp [cellsL_len], .inr ⟨g, cap, _, by simp, hb, rblk_set (rblk_set (rblk_set (rblk_set hh))), by simpa using hn, hm, by simpa using hs, ?_⟩⟩
      simp only [Array.toList_setIfInBounds, List.take_set, List.length_set]
      rw [hx, cellsL_set]
theorem run_clear_ents (w : World) (g o n c : Nat) (hn : 0 < n) (h : ∀ j, j < n * 4 → (w.cell? ⟨g, o + j, none⟩).isSome = true ∧ w.frozen? ⟨g, o + j, none⟩ = false) :
    ∃ zs : List Value, zs.length = n * 4 ∧ ∀ ty, (Builtin.clear_ #[25] ty #[.slice (some ⟨g, o, none⟩) n c]).run Try.prog w = .ok (.tuple #[]) (w.setCells g o zs) := by
  obtain ⟨i0, hi0, hz0, hz1, hz2⟩ := info_parts infoEntry
  have hv : ∀ w, (zeroValue 28).run Try.prog w = .ok (.agg #[.string ⟨#[]⟩, .int .i64 0, .int .i64 0, .string ⟨#[]⟩]) w := Try.zeroValue28
  have hlen : (Builtin.zeroCells (Value.agg #[.string ⟨#[]⟩, .int .i64 0, .int .i64 0, .string ⟨#[]⟩]).cells n).toList.length = n * 4 := by
    simp [Builtin.zeroCells, Value.cells]
  have h1 : ∀ v ∈ (Builtin.zeroCells (Value.agg #[.string ⟨#[]⟩, .int .i64 0, .int .i64 0, .string ⟨#[]⟩]).cells n).toList, v.oneCell' = true := by
    intro v hv
    simp only [Builtin.zeroCells, Array.toList_map, List.mem_map] at hv
    obtain ⟨i, _, rfl⟩ := hv
    have hi : i % 4 = 0 ∨ i % 4 = 1 ∨ i % 4 = 2 ∨ i % 4 = 3 := by omega
    show Value.oneCell' ((#[.string ⟨#[]⟩, .int .i64 0, .int .i64 0, .string ⟨#[]⟩] : Array Value)[i % 4]!) = true
    rcases hi with e | e | e | e <;> rw [e] <;> rfl
  have hst := run_storeCells_cells (P := Try.prog) g o _ 0 w (fun j hj => (h j (by rw [hlen] at hj; exact hj)).1) (fun j hj => (h j (by rw [hlen] at hj; exact hj)).2) h1
  simp only [Nat.add_zero] at hst
  refine ⟨_, hlen, fun ty => ?_⟩
  obtain ⟨m, rfl⟩ : ∃ m, n = m + 1 := ⟨n - 1, by omega⟩
  simp [Builtin.clear_, run_underlying Try.underlying25, hv, hst]
end Go.Proofs.Ytcdobhdbafpkiad
