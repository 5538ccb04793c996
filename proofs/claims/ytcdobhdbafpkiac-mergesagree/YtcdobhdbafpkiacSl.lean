/-
  Contracts: slices.Equal over lists of entries that are the same; slices.Index, slices.Contains of what is not there.
-/
import Derived.Test.YtcdobhdbafpkiacOwn
namespace Go.Proofs.Ytcdobhdbafpkiac
open Go.RowKit

set_option maxHeartbeats 400000 in
theorem Equal_eq (a b : Option Addr) (len cap capb : Nat) (es : List Pl.Ent) (w : World) (ha : IsEnts w a len cap es) (hB : IsEnts w b len capb es) :
    Calls Try.prog 17 #[.slice a len cap, .slice b len capb] w fun e w' => e = .returned (.bool true) ∧ Below w.heap.size w w' := by
  obtain ⟨hl, hc, hm, _, hrow⟩ := ha
  obtain ⟨_, hcb, hmb, _, hrowb⟩ := hB
  unfold maxLen at hm hmb
  have HR : Hid (es = [] ∨ ∃ b off, a = some ⟨b, off, none⟩ ∧ b < w.heap.size ∧ RowAt w b off es) := hrow
  have HRB : Hid (es = [] ∨ ∃ b' off, b = some ⟨b', off, none⟩ ∧ b' < w.heap.size ∧ RowAt w b' off es) := hrowb
  clear hrow hrowb
  go_enter Try.func17, Try.ntmps17
  go_wp2
  go_loopw [13] (fun i wr => ∃ k : Nat, k ≤ len ∧ i = .int .i64 k ∧ Below w.heap.size w wr) (fun i _ => len - (intOf i).toNat)
  case atStart => exact ⟨0, Nat.zero_le _, rfl, Below.refl _ _⟩
  case round =>
    obtain ⟨k, hk, rfl, hb⟩ := hrel
    by_cases hlt : k < len
    · obtain ⟨b1, o1, rfl, hb1, hr1⟩ : ∃ b off, a = some ⟨b, off, none⟩ ∧ b < w.heap.size ∧ RowAt w b off es := by
        rcases HR.out with h | h
        · rw [h] at hl; simp at hl; omega
        · exact h
      obtain ⟨b2, o2, rfl, hb2, hr2⟩ : ∃ b' off, b = some ⟨b', off, none⟩ ∧ b' < w.heap.size ∧ RowAt w b' off es := by
        rcases HRB.out with h | h
        · rw [h] at hl; simp at hl; omega
        · exact h
      obtain ⟨q0, q1, q2, q3⟩ := hr1.below hb1 hb k (by omega)
      obtain ⟨r0, r1, r2, r3⟩ := hr2.below hb2 hb k (by omega)
      clear hr1 hr2
      generalize Pl.ent es k = y at *
      obtain ⟨yk, yv, yo, yx⟩ := y
      simp only at q0 q1 q2 q3 r0 r1 r2 r3
      have hlt' : (k : Int) < (len : Int) := by omega
      go_wp2_with fail
      go_quiet (fail)
      go_wp2
      go_roundw
      case rel => exact ⟨k + 1, by omega, by go_num, below_drewN hb _⟩
      case measure => simp [intOf]; omega
    · obtain rfl : k = len := by omega
      go_wp2
      go_ret
      exact ⟨rfl, hb⟩


theorem ent_ne {a b : Pl.Ent} (h : ¬ a = b) : ¬ (a.key = b.key ∧ a.ver = b.ver ∧ a.org = b.org ∧ a.val = b.val) := by
  rintro ⟨h1, h2, h3, h4⟩
  cases a; cases b; simp only at h1 h2 h3 h4; subst h1 h2 h3 h4; exact h rfl

set_option maxHeartbeats 1000000 in
theorem Index_none (a : Option Addr) (len cap : Nat) (es : List Pl.Ent) (x : Pl.Ent) (w : World) (h : IsEnts w a len cap es) (hx : ∀ e ∈ es, ¬ x = e) :
    Calls Try.prog 33 #[.slice a len cap, .agg #[.string x.key, .int .i64 x.ver, .int .i64 x.org, .string x.val]] w fun e w' => e = .returned (.int .i64 (-1)) ∧ Below w.heap.size w w' := by
  have HH := hid h
  obtain ⟨hl, hc, hm, _, _⟩ := h
  unfold maxLen at hm
  have HX := hid hx
  obtain ⟨xk, xv, xo, xx⟩ := x
  clear hx
  go_enter Try.func33, Try.ntmps33
  go_wp2
  go_loopw [8] (fun i wr => ∃ k : Nat, k ≤ len ∧ i = .int .i64 k ∧ Hid (Below (w.heap.size + 1) (w.alloc (.cells #[.string xk, .int .i64 xv, .int .i64 xo, .string xx] 38)) wr)) (fun i _ => len - (intOf i).toNat)
  case atStart => exact ⟨0, Nat.zero_le _, rfl, Below.refl _ _⟩
  case round =>
    obtain ⟨k, hk, rfl, HB⟩ := hrel
    have HBW : Hid (Below w.heap.size w wr) := ((Below.refl _ _).alloc (Nat.le_refl _) _).trans (HB.out.mono (by omega))
    by_cases hlt : k < len
    · obtain ⟨b, off, rfl, hb, hr⟩ : ∃ b0 off, a = some ⟨b0, off, none⟩ ∧ b0 < w.heap.size ∧ RowAt w b0 off es := by
        rcases HH.out.2.2.2.2 with h | h
        · rw [h] at hl; simp at hl; omega
        · exact h
      obtain ⟨q0, q1, q2, q3⟩ := hr.below hb HBW.out k (by omega)
      obtain ⟨x0, x1, x2, x3⟩ := box4 HB.out
      have HN := hid (ent_ne (HX.out (Pl.ent es k) (Pl.ent_mem es k (by omega))))
      generalize Pl.ent es k = y at *
      obtain ⟨yk, yv, yo, yx⟩ := y
      simp only at q0 q1 q2 q3 HN
      have hz := HB.out.size
      simp at hz
      have hcs : (¬ xk = yk) ∨ (xk = yk ∧ ¬ xv = yv) ∨ (xk = yk ∧ xv = yv ∧ ¬ xo = yo) ∨ (xk = yk ∧ xv = yv ∧ xo = yo ∧ ¬ xx = yx) := by
        have := HN.out
        by_cases h1 : xk = yk
        · by_cases h2 : xv = yv
          · by_cases h3 : xo = yo
            · exact .inr (.inr (.inr ⟨h1, h2, h3, fun h4 => this ⟨h1, h2, h3, h4⟩⟩))
            · exact .inr (.inr (.inl ⟨h1, h2, h3⟩))
          · exact .inr (.inl ⟨h1, h2⟩)
        · exact .inl h1
      clear HN HX
      have hlt' : (k : Int) < (len : Int) := by omega
      have HBN := fun n => hid (below_drewN HB.out n)
      rcases hcs with h | ⟨rfl, h⟩ | ⟨rfl, rfl, h⟩ | ⟨rfl, rfl, rfl, h⟩
      all_goals
        first
          | have hb := Pl.beqL_false h
          | have hb := beq_false_of_ne h
        go_wp2_with fail
        go_quiet (fail)
        go_wp2
        go_roundw
        case rel => exact ⟨k + 1, by omega, by go_num, HBN _⟩
        case measure => simp [intOf]; omega
    · obtain rfl : k = len := by omega
      go_wp2
      go_ret
      exact ⟨rfl, HBW.out⟩
set_option maxHeartbeats 400000 in
theorem Contains_none (a : Option Addr) (len cap : Nat) (es : List Pl.Ent) (x : Pl.Ent) (w : World) (h : IsEnts w a len cap es) (hx : ∀ e ∈ es, ¬ x = e) :
    Calls Try.prog 16 #[.slice a len cap, .agg #[.string x.key, .int .i64 x.ver, .int .i64 x.org, .string x.val]] w fun e w' => e = .returned (.bool false) ∧ Below w.heap.size w w' := by
  have HI := hid (fun W hW => Index_none a len cap es x W hW hx)
  have HH := hid (h.below ((Below.refl _ _).alloc (Nat.le_refl _) (.cells #[.string x.key, .int .i64 x.ver, .int .i64 x.org, .string x.val] 38)))
  have HB : Hid (Below w.heap.size w (w.alloc (.cells #[.string x.key, .int .i64 x.ver, .int .i64 x.org, .string x.val] 38))) := (Below.refl _ _).alloc (Nat.le_refl _) _
  clear h hx
  go_enter Try.func16, Try.ntmps16
  go_wp2_with fail
  refine (HI.out _ HH.out).mono ?_
  rintro e w1 ⟨rfl, hb1⟩
  have HB1 := hid (HB.out.trans (hb1.mono HB.out.size))
  clear hb1
  go_wp2
  go_ret
  exact ⟨rfl, HB1.out⟩
end Go.Proofs.Ytcdobhdbafpkiac
