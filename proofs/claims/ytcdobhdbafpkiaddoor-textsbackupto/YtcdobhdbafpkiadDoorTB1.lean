/-
  What holds while the region of TextsBack that appends one side is carried out.
-/
import Derived.Test.YtcdobhdbafpkiadDoorSetFrom
import Derived.Test.YtcdobhdbafpkiadDoorReadA
namespace Go.Proofs.YtcdobhdbafpkiadDoor
open Go.RowKit
set_option maxRecDepth 20000

def TF (B : Nat) (v : Value) (i c k2 : Int) (l : Value) (b off : Nat) (n : Nat) (w : World) : Nat → Value → Prop
  | 0, x => x = .pointer (some ⟨B, 1, none⟩)
  | 1, x => x = v
  | 2, x => x = .int .i64 i
  | 3, x => x = l
  | 4, x => x = .int .i64 i
  | 5, x => x = .pointer (some ⟨b, off + n * 4, none⟩)
  | 6, x => x = .pointer (some ⟨b, off + n * 4 + 2, none⟩)
  | 7, x => x = .int .i64 k2
  | 8, x => x = .int .i64 c
  | 9, x => x = .int .i64 (1 + c)
  | 10, x => x = .agg #[.int .i64 i, .int .i64 (1 + c)]
  | 11, x => ∃ g, x = .slice (some ⟨g, 0, none⟩) 1 1 ∧ g < w.heap.size ∧ w.cell? ⟨g, 0, none⟩ = some (.int .i64 i) ∧ w.cell? ⟨g, 1, none⟩ = some (.int .i64 (1 + c))
  | _, _ => True
theorem TF.mono {B : Nat} {v : Value} {i c k2 : Int} {l : Value} {b off n : Nat} {w w' : World} {k : Nat} {x : Value} (h : TF B v i c k2 l b off n w k x) (hb : Below w.heap.size w w') : TF B v i c k2 l b off n w' k x := by
  have hz := hb.size
  match k, h with
  | 11, ⟨g, h1, h2, h3, h4⟩ => exact ⟨g, h1, by omega, ((bcell hb).1 g 0 h2).trans h3, ((bcell hb).1 g 1 h2).trans h4⟩
  | 0, h => exact h
  | 1, h => exact h
  | 2, h => exact h
  | 3, h => exact h
  | 4, h => exact h
  | 5, h => exact h
  | 6, h => exact h
  | 7, h => exact h
  | 8, h => exact h
  | 9, h => exact h
  | 10, h => exact h
  | m + 12, h => exact h

structure TInv (B : Nat) (d : Bool) (v : Value) (acc : List (Int × Int)) (i c k2 : Int) (l : Value) (b off n : Nat) (W0 : World) (a0 : Act) (listed : Array Bool) (a : Act) (w : World) : Prop where
  ls : listed.size = 15
  fr : ∃ xs : List Value, xs.length = 14 ∧ a = { a0 with tmps := setFrom a0.tmps 43 xs } ∧
    (listed.getD 12 false = false → ∀ k, k < 12 → listed.getD k false = true → TF B v i c k2 l b off n w k (xs.getD k undef)) ∧
    (listed.getD 13 false = true → xs.getD 13 undef = .pointer (some ⟨B, 1, none⟩)) ∧
    (listed.getD 12 false = true → listed.getD 14 false = false → ∃ aa m cap, xs.getD 12 undef = .slice aa m cap ∧ OwnP 31 w (B + 1) (.slice aa m cap) (acc ++ [(i, 1 + c)]))
  nb : listed.getD 12 false = false → Below W0.heap.size W0 w
  na : listed.getD 12 false = true → listed.getD 14 false = false → Below (B + 1) W0 w
  al : listed.getD 14 false = true → listed.getD 12 false = true ∧ listed.getD 13 false = true
  dn : listed.getD 14 false = true → ∃ aa m cap, OwnP 31 w (B + 1) (.slice aa m cap) (acc ++ [(i, 1 + c)]) ∧ Below B W0 w ∧ w.heap[B]? = some (.cells #[.bool d, .slice aa m cap] 25)

theorem frame_put {a0 : Act} {xs : List Value} {k : Nat} {x : Value} (h : k < xs.length) : Act.put { a0 with tmps := setFrom a0.tmps 43 xs } (some (43 + k)) x = { a0 with tmps := setFrom a0.tmps 43 (xs.set k x) } := by
  show ({ a0 with tmps := (setFrom a0.tmps 43 xs).setIfInBounds (43 + k) x } : Act) = _
  rw [setFrom_set xs a0.tmps 43 k x h]
theorem frame_in {a0 : Act} {xs : List Value} {k : Nat} (hs : a0.tmps.size = 152) (hl : xs.length = 14) (h : k < 14) : ({ a0 with tmps := setFrom a0.tmps 43 xs } : Act).tmps[43 + k]?.getD undef = xs.getD k undef := by
  show (setFrom a0.tmps 43 xs)[43 + k]?.getD undef = _
  rw [setFrom_at xs a0.tmps 43 k (by omega) (by omega)]
  simp [List.getD]
theorem frame_out {a0 : Act} {xs : List Value} {k : Nat} (hl : xs.length = 14) (h : k < 43 ∨ 57 ≤ k) : ({ a0 with tmps := setFrom a0.tmps 43 xs } : Act).tmps[k]?.getD undef = a0.tmps[k]?.getD undef := by
  show (setFrom a0.tmps 43 xs)[k]?.getD undef = _
  rw [setFrom_out xs a0.tmps 43 k (by omega)]

theorem TInv.put {B : Nat} {d : Bool} {v : Value} {acc : List (Int × Int)} {i c k2 : Int} {l : Value} {b off n : Nat} {W0 : World} {a0 : Act} {listed : Array Bool} {a : Act} {w w' : World} {j : Nat} {x : Value}
    (h : TInv B d v acc i c k2 l b off n W0 a0 listed a w) (hj : j < 12) (hn : listed.getD 12 false = false) (hn4 : listed.getD 14 false = false) (hb : Below w.heap.size w w') (hv : TF B v i c k2 l b off n w' j x) :
    TInv B d v acc i c k2 l b off n W0 a0 (listed.setIfInBounds j true) (a.put (some (43 + j)) x) w' := by
  have h12 : (listed.setIfInBounds j true).getD 12 false = false := by rw [getD_set_ne false (by omega)]; exact hn
  have h14 : (listed.setIfInBounds j true).getD 14 false = false := by rw [getD_set_ne false (by omega)]; exact hn4
  obtain ⟨xs, hl, rfl, hf, h13, _⟩ := h.fr
  refine ⟨by simp [h.ls], ⟨xs.set j x, by simp [hl], frame_put (by omega), ?_, ?_, fun h' => by rw [h12] at h'; cases h'⟩, fun _ => ?_, (fun h' => by rw [h12] at h'; cases h'), (fun h' => by rw [h14] at h'; cases h'), (fun h' => by rw [h14] at h'; cases h')⟩
  · intro _ k hk hlk
    by_cases e : j = k
    · subst e
      have : (xs.set j x).getD j undef = x := by simp [List.getD, hl, show j < 14 by omega]
      rw [this]; exact hv
    · rw [getD_set_ne false e] at hlk
      have : (xs.set j x).getD k undef = xs.getD k undef := by simp [List.getD, List.getElem?_set_ne e]
      rw [this]; exact (hf hn k hk hlk).mono hb
  · intro hlk
    rw [getD_set_ne false (by omega)] at hlk
    have : (xs.set j x).getD 13 undef = xs.getD 13 undef := by simp [List.getD, List.getElem?_set_ne (show j ≠ 13 by omega)]
    rw [this]; exact h13 hlk
  · have := h.nb hn
    exact this.trans (hb.mono this.size)
theorem TInv.put13 {B : Nat} {d : Bool} {v : Value} {acc : List (Int × Int)} {i c k2 : Int} {l : Value} {b off n : Nat} {W0 : World} {a0 : Act} {listed : Array Bool} {a : Act} {w : World}
    (h : TInv B d v acc i c k2 l b off n W0 a0 listed a w) (hn4 : listed.getD 14 false = false) :
    TInv B d v acc i c k2 l b off n W0 a0 (listed.setIfInBounds 13 true) (a.put (some (43 + 13)) (.pointer (some ⟨B, 1, none⟩))) w := by
  have e12 : (listed.setIfInBounds 13 true).getD 12 false = listed.getD 12 false := getD_set_ne false (by omega)
  have h14 : (listed.setIfInBounds 13 true).getD 14 false = false := by rw [getD_set_ne false (by omega)]; exact hn4
  obtain ⟨xs, hl, rfl, hf, h13, ha⟩ := h.fr
  have ne : ∀ k, k ≠ 13 → (xs.set 13 (.pointer (some ⟨B, 1, none⟩))).getD k undef = xs.getD k undef := fun k hk => by simp [List.getD, List.getElem?_set_ne (Ne.symm hk)]
  refine ⟨by simp [h.ls], ⟨xs.set 13 _, by simp [hl], frame_put (by omega), ?_, ?_, ?_⟩, (fun h' => h.nb (e12 ▸ h')), (fun h' _ => h.na (e12 ▸ h') hn4), (fun h' => by rw [h14] at h'; cases h'), (fun h' => by rw [h14] at h'; cases h')⟩
  · intro h' k hk hlk
    rw [getD_set_ne false (by omega)] at hlk
    rw [ne k (by omega)]; exact hf (e12 ▸ h') k hk hlk
  · intro _
    simp [List.getD, hl]
  · intro h' _
    rw [ne 12 (by omega)]; exact ha (e12 ▸ h') hn4
theorem TInv.at {B : Nat} {d : Bool} {v : Value} {acc : List (Int × Int)} {i c k2 : Int} {l : Value} {b off n : Nat} {W0 : World} {a0 : Act} {listed : Array Bool} {a : Act} {w : World} {k : Nat}
    (h : TInv B d v acc i c k2 l b off n W0 a0 listed a w) (hs : a0.tmps.size = 152) (hn : listed.getD 12 false = false) (hk : k < 12) (hl : listed.getD k false = true) : TF B v i c k2 l b off n w k (a.tmps[43 + k]?.getD undef) := by
  obtain ⟨xs, hxl, rfl, hf, _⟩ := h.fr
  rw [frame_in hs hxl (by omega)]
  exact hf hn k hk hl
theorem TInv.out {B : Nat} {d : Bool} {v : Value} {acc : List (Int × Int)} {i c k2 : Int} {l : Value} {b off n : Nat} {W0 : World} {a0 : Act} {listed : Array Bool} {a : Act} {w : World} {k : Nat}
    (h : TInv B d v acc i c k2 l b off n W0 a0 listed a w) (hk : k < 43 ∨ 57 ≤ k) : a.tmps[k]?.getD undef = a0.tmps[k]?.getD undef := by
  obtain ⟨xs, hxl, rfl, _⟩ := h.fr
  exact frame_out hxl hk
theorem TInv.at12 {B : Nat} {d : Bool} {v : Value} {acc : List (Int × Int)} {i c k2 : Int} {l : Value} {b off n : Nat} {W0 : World} {a0 : Act} {listed : Array Bool} {a : Act} {w : World}
    (h : TInv B d v acc i c k2 l b off n W0 a0 listed a w) (hs : a0.tmps.size = 152) (h12 : listed.getD 12 false = true) (hn : listed.getD 14 false = false) :
    ∃ aa m cap, a.tmps[55]?.getD undef = .slice aa m cap ∧ OwnP 31 w (B + 1) (.slice aa m cap) (acc ++ [(i, 1 + c)]) := by
  obtain ⟨xs, hxl, rfl, _, _, ha⟩ := h.fr
  have := ha h12 hn
  rw [← frame_in (k := 12) hs hxl (by omega)] at this
  exact this
theorem TInv.at13 {B : Nat} {d : Bool} {v : Value} {acc : List (Int × Int)} {i c k2 : Int} {l : Value} {b off n : Nat} {W0 : World} {a0 : Act} {listed : Array Bool} {a : Act} {w : World}
    (h : TInv B d v acc i c k2 l b off n W0 a0 listed a w) (hs : a0.tmps.size = 152) (h13 : listed.getD 13 false = true) : a.tmps[56]?.getD undef = .pointer (some ⟨B, 1, none⟩) := by
  obtain ⟨xs, hxl, rfl, _, h', _⟩ := h.fr
  have := h' h13
  rw [← frame_in (k := 13) hs hxl (by omega)] at this
  exact this
end Go.Proofs.YtcdobhdbafpkiadDoor
