/-
  Contracts: a new search, and the nearest node of one.
-/
import Derived.Test.YtcdobhdbafpkiacDoorWaysM
namespace Go.Proofs.YtcdobhdbafpkiacDoor
open Go.RowKit
set_option maxRecDepth 20000

def Pl.dNew (k : Nat) : Pl.DS := ⟨fun j => if j < k then -1 else 0, fun _ _ => false, fun _ => false⟩
theorem zeroSearch : Tryd.zeroCells77 = Array.ofFn (n := 169) fun i => srch 0 (Pl.dNew 0) i.1 := by kernel_rfl
theorem SAt.ext {w B f s t} (h : SAt w B f s) (e1 : ∀ i, i < 12 → s.cost i = t.cost i) (e2 : ∀ i k, i < 12 → k < 12 → s.hops i k = t.hops i k) (e3 : ∀ i, i < 12 → s.done i = t.done i) : SAt w B f t := by
  refine CellsAt.ext h fun o ho => ?_
  unfold srch
  split
  · rfl
  · split
    · rw [e1 _ (by omega)]
    · split
      · rw [e2 _ _ (by omega) (by omega)]
      · rw [e3 _ (by omega)]
theorem newSearch_block (f : Nat) (w : World) : SAt (w.alloc (.cells (Tryd.zeroCells77.setIfInBounds 0 (.int .i64 f)) 77)) w.heap.size f (Pl.dNew 0) := by
  refine CellsAt.new w _ _ _ _ (by rw [zeroSearch]; simp) fun i hi => ?_
  simp only [zeroSearch, Array.size_setIfInBounds, Array.size_ofFn] at hi
  rw [Array.getElem_setIfInBounds (by rw [zeroSearch]; simpa using hi)]
  simp only [zeroSearch, Array.getElem_ofFn]
  by_cases h : 0 = i
  · subst h; rfl
  · rw [if_neg h]; unfold srch; rw [if_neg (Ne.symm h), if_neg (Ne.symm h)]

set_option maxHeartbeats 1000000 in
theorem newSearch_any (f : Nat) (hf : f < 12) (w : World) :
    Calls Tryd.prog 17 #[.int .i64 f] w fun e w' => e = .returned (.pointer (some ⟨w.heap.size, 0, none⟩)) ∧ SAt w' w.heap.size f (Pl.dInit f) ∧ Below w.heap.size w w' := by
  go_enter Tryd.func17, Tryd.ntmps17
  go_wp2_with fail
  go_loopw [8] (fun i wr => ∃ k : Nat, k ≤ 12 ∧ i = .int .i64 k ∧ Hid (SAt wr w.heap.size f (Pl.dNew k)) ∧ Hid (Below w.heap.size w wr)) (fun i _ => 12 - (intOf i).toNat)
  case atStart => exact ⟨0, by omega, rfl, newSearch_block f w, (Below.refl _ _).alloc (Nat.le_refl _) _⟩
  case round =>
    obtain ⟨k, hk, rfl, HS, HB⟩ := hrel
    by_cases hlt : k < 12
    · have hc := HS.out.cost k hlt
      have hz := CellsAt.soft HS.out (1 + k)
      have hB := CellsAt.lt HS.out
      go_wp2_with fail
      go_roundw
      case rel =>
        refine ⟨k + 1, by omega, by go_num, (HS.out.setCost k hlt (-1)).ext (fun i hi => ?_) (fun _ _ _ _ => rfl) (fun _ _ => rfl), HB.out.setCell (Nat.le_refl _) _⟩
        simp only [Pl.dNew, Pl.upd]
        split <;> split <;> omega
      case measure => simp [intOf]; omega
    · obtain rfl : k = 12 := by omega
      have hc := HS.out.cost f hf
      have hz := CellsAt.soft HS.out (1 + f)
      have hB := CellsAt.lt HS.out
      go_wp2_with fail
      go_ret
      refine ⟨rfl, (HS.out.setCost f hf 0).ext (fun i hi => ?_) (fun _ _ _ _ => rfl) (fun _ _ => rfl), HB.out.setCell (Nat.le_refl _) _⟩
      simp only [Pl.dNew, Pl.upd, Pl.dInit]
      split
      · rfl
      · simp

theorem infoInts : (Tryd.prog.info? 73).map (·.size) = some 12 := by kernel_rfl
theorem infoBools : (Tryd.prog.info? 74).map (·.size) = some 12 := by kernel_rfl
def ints12 (c : Nat → Int) : List Value := (List.range 12).map fun i => .int .i64 (c i)
def bools12 (c : Nat → Bool) : List Value := (List.range 12).map fun i => .bool (c i)
theorem ints12_get (c : Nat → Int) (k : Nat) (hk : k < 12) : (ints12 c).toArray[k]? = some (.int .i64 (c k)) := by simp [ints12, hk]
theorem bools12_get (c : Nat → Bool) (k : Nat) (hk : k < 12) : (bools12 c).toArray[k]? = some (.bool (c k)) := by simp [bools12, hk]
theorem wpList_store_as {ops : Array Oper} {rest : List Oper} {op : Oper} {a : Act} {w w1 : World} {Q : Exit → Act → World → Prop} (hgd : op.guard = none) (ty : TypeId) (x y : Operand) (ho : op.op = .store ty x y)
    (b o : Nat) (cells : List Value) (hx : a.eval x = .pointer (some ⟨b, o, none⟩)) (hy : a.eval y = .agg cells.toArray)
    (ht : w.there b o cells.length) (hi : (Tryd.prog.info? ty).map (·.size) = some cells.length) (h1 : ∀ v ∈ cells, v.oneCell' = true) (hw : w1 = w.setCells b o cells)
    (h : wpList Tryd.prog ops Q rest (a.put op.dst undef) w1) : wpList Tryd.prog ops Q (op :: rest) a w :=
  wpList_store_mid hgd ty x y ho b o cells.toArray hx hy (by simpa using ht) (by simpa using hi) (all_oneCell_toArray h1) (by rw [hw] at h; exact h)

theorem infoInt1 : (Tryd.prog.info? 3).map (·.size) = some 1 := by kernel_rfl
theorem infoBool1 : (Tryd.prog.info? 4).map (·.size) = some 1 := by kernel_rfl
theorem infoSome {T : TypeId} {n : Nat} (h : (Tryd.prog.info? T).map (·.size) = some n) : ∃ i, Tryd.prog.info? T = some i ∧ i.size = n := by
  cases hx : Tryd.prog.info? T with
  | none => rw [hx] at h; cases h
  | some i => rw [hx] at h; exact ⟨i, rfl, by simpa using h⟩
theorem run_index_ints (c : Nat → Int) (k : Nat) (hk : k < 12) (w : World) : (Instr.index 73 (.agg (ints12 c).toArray) (.int .i64 k)).run Tryd.prog w = .ok (.int .i64 (c k)) w := by
  have h1 := ints12_get c k hk
  simp only [List.getElem?_toArray] at h1
  obtain ⟨i, hi, hz⟩ := infoSome infoInt1
  simp [Instr.index, part, isAgg, sizeOf, typeInfo, underlying, go_sem, Tryd.underlying73, Tryd.underlying3, hi, hz, h1, hk]
theorem run_index_bools (c : Nat → Bool) (k : Nat) (hk : k < 12) (w : World) : (Instr.index 74 (.agg (bools12 c).toArray) (.int .i64 k)).run Tryd.prog w = .ok (.bool (c k)) w := by
  have h1 := bools12_get c k hk
  simp only [List.getElem?_toArray] at h1
  obtain ⟨i, hi, hz⟩ := infoSome infoBool1
  simp [Instr.index, part, isAgg, sizeOf, typeInfo, underlying, go_sem, Tryd.underlying74, Tryd.underlying4, hi, hz, h1, hk]
theorem SAt.costs {w B f s} (h : SAt w B f s) : w.rangeAt B 1 (ints12 s.cost) := CellsAt.range h 1 _ (by simp [ints12]) fun j hj => by
  simp only [ints12, List.length_map, List.length_range] at hj
  rw [srch_cost _ _ _ hj]; simp [ints12]
theorem SAt.hopsOf {w B f s} (h : SAt w B f s) (i : Nat) (hi : i < 12) : w.rangeAt B (13 + i * 12) (bools12 (s.hops i)) := CellsAt.range h _ _ (by simp [bools12]; omega) fun j hj => by
  simp only [bools12, List.length_map, List.length_range] at hj
  rw [srch_hops _ _ _ _ hi hj]; simp [bools12]

set_option maxHeartbeats 1000000 in
theorem nearest_any (B f : Nat) (s : Pl.DS) (w : World) (h : SAt w B f s) :
    Calls Tryd.prog 34 #[.pointer (some ⟨B, 0, none⟩)] w fun e w' => e = .returned (.int .i64 (Pl.near s 12)) ∧ w' = w := by
  have HC := hid h.costs
  have HH := hid h
  clear h
  go_enter Tryd.func34, Tryd.ntmps34
  go_wp2_with (refine wpList_load_mid rfl 73 (.tmp 8) rfl B 1 rfl (ints12 s.cost) _ HC.out Tryd.underlying73 rfl infoInts ?_)
  go_loop [3, 10] (fun b i => ∃ (k : Nat) (v : Int), k ≤ 12 ∧ i = .int .i64 k ∧ b = .int .i64 v ∧ Hid (v = Pl.near s k)) (fun _ i => 12 - (intOf i).toNat)
  case atStart => exact ⟨0, -1, by omega, rfl, rfl, rfl⟩
  case round =>
    obtain ⟨k, v, hk, rfl, rfl, HV⟩ := hrel
    by_cases hlt : k < 12
    · have hg := run_index_ints s.cost k hlt w
      have hd := HH.out.done k hlt
      obtain ⟨c, HCK⟩ : ∃ c, Hid (s.cost k = c) := ⟨_, rfl⟩
      obtain ⟨d, HDK⟩ : ∃ d, Hid (s.done k = d) := ⟨_, rfl⟩
      rw [HCK.out] at hg
      rw [HDK.out] at hd
      have HN : Hid (Pl.near s (k + 1) = if c = -1 ∨ d = true then v else if v = -1 ∨ c < s.cost v.toNat then k else v) := hid (by
        conv => lhs; unfold Pl.near
        rw [HCK.out, HDK.out, ← HV.out])
      have hB := CellsAt.lt HH.out
      by_cases hc1 : c = -1
      · subst hc1
        go_wp2_with fail
        go_round
        case rel => exact ⟨k + 1, v, by omega, by go_num, rfl, by show _ = _; rw [HN.out, if_pos (.inl rfl)]⟩
        case measure => simp [intOf]; omega
      · cases d
        case true =>
          go_wp2_with fail
          go_round
          case rel => exact ⟨k + 1, v, by omega, by go_num, rfl, by show _ = _; rw [HN.out, if_pos (.inr rfl)]⟩
          case measure => simp [intOf]; omega
        case false =>
          have HN2 : Hid (Pl.near s (k + 1) = if v = -1 ∨ c < s.cost v.toNat then (k : Int) else v) := hid (by rw [HN.out, if_neg (by simpa using hc1)])
          clear HN
          by_cases hv : v = -1
          · subst hv
            go_wp2_with fail
            go_round
            case rel => exact ⟨k + 1, k, by omega, by go_num, rfl, by show _ = _; rw [HN2.out, if_pos (.inl rfl)]⟩
            case measure => simp [intOf]; omega
          · obtain ⟨n, rfl, hn⟩ : ∃ n : Nat, v = n ∧ n < 12 := by
              rcases Pl.near_spec s k with ⟨h1, _⟩ | ⟨n, h1, h2, _⟩
              · exact absurd (HV.out.trans h1) hv
              · exact ⟨n, HV.out.trans h1, by omega⟩
            have hcn := HH.out.cost n hn
            obtain ⟨q, HQ⟩ : ∃ q, Hid (s.cost n = q) := ⟨_, rfl⟩
            rw [HQ.out] at hcn
            have HN3 : Hid (Pl.near s (k + 1) = if c < q then (k : Int) else n) := hid (by
              have e := HN2.out
              rw [Int.toNat_natCast, HQ.out] at e
              rw [e]
              by_cases hx : c < q
              · rw [if_pos (.inr hx), if_pos hx]
              · rw [if_neg (by omega), if_neg hx])
            by_cases hx : c < q
            · go_wp2_with fail
              go_round
              case rel => exact ⟨k + 1, k, by omega, by go_num, rfl, by show _ = _; rw [HN3.out, if_pos hx]⟩
              case measure => simp [intOf]; omega
            · go_wp2_with fail
              go_round
              case rel => exact ⟨k + 1, n, by omega, by go_num, rfl, by show _ = _; rw [HN3.out, if_neg hx]⟩
              case measure => simp [intOf]; omega
    · obtain rfl : k = 12 := by omega
      go_wp2_with fail
      go_ret
      exact ⟨ret_int HV.out, rfl⟩
end Go.Proofs.YtcdobhdbafpkiacDoor
