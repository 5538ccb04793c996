/-
  Contracts, the document's side: a side (sideOf), a link's cost (LinkCost).
-/
import Derived.Test.YtcdobhdbafpkiacDoorWaysD
namespace Go.Proofs.YtcdobhdbafpkiacDoor
open Go.RowKit
set_option maxRecDepth 20000

def Pl.sideN (ps : List (Int × Int)) : Nat → Nat → Int → Int
  | 0, _, _ => 0
  | n + 1, i, to => if (Pl.pr ps i).1 = to then (Pl.pr ps i).2 else Pl.sideN ps n (i + 1) to
theorem Pl.sidesUp.lt {ps : List (Int × Int)} (h : Pl.sidesUp ps) (j : Nat) : ∀ k, j < k → k < ps.length → (Pl.pr ps j).1 < (Pl.pr ps k).1 := by
  intro k
  induction k with
  | zero => intro h; omega
  | succ k ih =>
    intro h1 h2
    have h3 := (h (k + 1) h2).2 (by omega)
    simp only [Nat.add_sub_cancel] at h3
    by_cases hj : j = k
    · subst hj; exact h3
    · have := ih (by omega) (by omega); omega
theorem Pl.sayN_none {ps : List (Int × Int)} (h : Pl.sidesUp ps) (b k : Nat) (hk : k ≤ ps.length) (hn : ∀ j, j < k → (Pl.pr ps j).1 ≠ (b : Int)) : Pl.sayN ps k b = 0 := by
  induction k with
  | zero => rfl
  | succ k ih =>
    have h1 := hn k (by omega)
    have h2 := (h k (by omega)).1.1
    show Pl.upd (Pl.sayN ps k) (Pl.pr ps k).1.toNat (Pl.pr ps k).2 b = 0
    rw [Pl.upd_ne _ _ (by omega)]
    exact ih (by omega) fun j hj => hn j (by omega)
theorem Pl.sayN_at {ps : List (Int × Int)} (h : Pl.sidesUp ps) (b j k : Nat) (hj : j < k) (hk : k ≤ ps.length) (e : (Pl.pr ps j).1 = (b : Int)) : Pl.sayN ps k b = (Pl.pr ps j).2 := by
  induction k with
  | zero => omega
  | succ k ih =>
    show Pl.upd (Pl.sayN ps k) (Pl.pr ps k).1.toNat (Pl.pr ps k).2 b = _
    by_cases hjk : j = k
    · subst hjk; rw [e, Int.toNat_natCast, Pl.upd_same]
    · have h1 := h.lt j k (by omega) (by omega)
      rw [Pl.upd_ne _ _ (by omega)]
      exact ih (by omega) (by omega)
theorem Pl.sideN_say {ps : List (Int × Int)} (h : Pl.sidesUp ps) (b : Nat) : ∀ n i, i + n = ps.length → (∀ j, j < i → (Pl.pr ps j).1 ≠ (b : Int)) → Pl.sideN ps n i b = Pl.say ps b := by
  intro n
  induction n with
  | zero => intro i hi hn; exact (Pl.sayN_none h b ps.length (Nat.le_refl _) fun j hj => hn j (by omega)).symm
  | succ n ih =>
    intro i hi hn
    unfold Pl.sideN
    by_cases e : (Pl.pr ps i).1 = (b : Int)
    · rw [if_pos e]; exact (Pl.sayN_at h b i ps.length (by omega) (Nat.le_refl _) e).symm
    · rw [if_neg e]
      refine ih (i + 1) (by omega) fun j hj => ?_
      by_cases hji : j = i
      · subst hji; exact e
      · exact hn j (by omega)

set_option maxHeartbeats 1000000 in
theorem sideOf_any (d : Bool) (a : Option Addr) (len cap : Nat) (ps : List (Int × Int)) (b : Nat) (w : World) (h : IsPairs w a len cap ps) (hu : Pl.sidesUp ps) :
    Calls Tryd.prog 52 #[.agg #[.bool d, .slice a len cap], .int .i64 b] w fun e w' => e = .returned (.int .i64 (Pl.say ps b)) ∧ Below w.heap.size w w' := by
  obtain ⟨hl, hc, hm, hok, hrow⟩ := h
  unfold maxLen at hm
  have HU : Hid (Pl.say ps b = Pl.sideN ps len 0 b) := hid (Pl.sideN_say hu b len 0 (by omega) (by omega)).symm
  clear hu hok
  go_enter Tryd.func52, Tryd.ntmps52
  go_wp2
  go_loopw [5] (fun i wr => ∃ k : Nat, k ≤ len ∧ i = .int .i64 k ∧ Hid (Pl.say ps b = Pl.sideN ps (len - k) k b) ∧ Hid (Below (w.heap.size + 1) (w.alloc (.cells #[.bool d, .slice a len cap] 45)) wr)) (fun i _ => len - (intOf i).toNat)
  case atStart => exact ⟨0, Nat.zero_le _, rfl, HU, Below.refl _ _⟩
  case round =>
    obtain ⟨k, hk, rfl, HF, HB⟩ := hrel
    obtain ⟨x0, x1, xs, hbb⟩ := box2 HB.out
    by_cases hlt : k < len
    · obtain ⟨bb, off, rfl, hbw, hr⟩ : ∃ b off, a = some ⟨b, off, none⟩ ∧ b < w.heap.size ∧ PairsAt w b off ps := by
        rcases hrow with rfl | h
        · simp at hl; omega
        · exact h
      clear hrow
      obtain ⟨c0, c1⟩ := hr.below hbw hbb k (by omega)
      clear hr
      obtain ⟨n, hn⟩ : ∃ n, len - k = n + 1 := ⟨len - k - 1, by omega⟩
      have HN : Hid (len - k = n + 1) := hn
      clear hn
      have hbr : bb < wr.heap.size := by omega
      obtain ⟨q0, HQ0⟩ : ∃ q0, Hid ((Pl.pr ps k).1 = q0) := ⟨_, rfl⟩
      obtain ⟨q1, HQ1⟩ : ∃ q1, Hid ((Pl.pr ps k).2 = q1) := ⟨_, rfl⟩
      rw [HQ0.out] at c0
      rw [HQ1.out] at c1
      have HS : Hid (Pl.say ps b = if q0 = (b : Int) then q1 else Pl.sideN ps n (k + 1) b) := hid (by
        rw [HF.out, HN.out]
        show (if (Pl.pr ps k).1 = (b : Int) then (Pl.pr ps k).2 else _) = _
        rw [HQ0.out, HQ1.out])
      by_cases hq : q0 = (b : Int)
      · subst hq
        go_wp2
        go_ret
        exact ⟨ret_int (by rw [HS.out]; simp), hbb⟩
      · go_wp2
        go_roundw
        case rel => exact ⟨k + 1, by omega, by go_num, hid (by rw [HS.out, if_neg hq]; congr 1; have := HN.out; omega), HB⟩
        case measure => simp [intOf]; omega
    · obtain rfl : k = len := by omega
      go_wp2
      go_ret
      exact ⟨ret_int (by rw [HF.out]; simp [Pl.sideN]), hbb⟩

/-- a link's cost, as the document has it -/
def Pl.lnkD (ps : Nat → List (Int × Int)) : Nat → Nat → Int := fun a b => if a = b then 0 else Pl.lnk ps a b

set_option maxHeartbeats 1000000 in
theorem LinkCost_any (a : Option Addr) (len cap : Nat) (es : List Pl.Ent) (x y : Nat) (w : World) (h : IsEnts w a len cap es) (h0 : Pl.fault es = 0) (hx : x < 12) (hy : y < 12) :
    Calls Tryd.prog 38 #[.slice a len cap, .int .i64 x, .int .i64 y] w fun e w' => e = .returned (.int .i64 (Pl.lnkD (Pl.tS es) x y)) ∧ Below w.heap.size w w' := by
  have HE := hid h
  have H0 := hid h0
  clear h h0
  obtain ⟨p, HP⟩ : ∃ p, Hid (Pl.say (Pl.tS es y) x = p) := ⟨_, rfl⟩
  obtain ⟨q, HQ⟩ : ∃ p, Hid (Pl.say (Pl.tS es x) y = p) := ⟨_, rfl⟩
  have hp0 : 0 ≤ p := by rw [← HP.out]; exact (Pl.say_le (Pl.adjS_up _).ok x).1
  by_cases hxy : x = y
  · subst hxy
    have HL : Hid (Pl.lnkD (Pl.tS es) x x = 0) := hid (by unfold Pl.lnkD; rw [if_pos rfl])
    go_enter Tryd.func38, Tryd.ntmps38
    go_wp2_with fail
    go_ret
    exact ⟨ret_int HL.out.symm, Below.refl _ _⟩
  · have hxy' : ((x : Int) == (y : Int)) = false := by simp; omega
    go_enter Tryd.func38, Tryd.ntmps38
    go_wp2_with fail
    refine (adjIn_any a len cap es y w HE.out H0.out (by omega)).mono ?_
    rintro e w1 ⟨vl, rfl, ho1, hb1⟩
    obtain ⟨a1, cap1, rfl, hp1, _, _⟩ := OwnP.shape ho1 (Pl.adjS_up _).ok.pairs
    have HP1 := hid hp1
    have HB1 := hid hb1
    clear ho1 hp1 hb1
    go_wp2_with fail
    refine (sideOf_any _ _ _ _ _ x w1 HP1.out (Pl.adjS_up _)).mono ?_
    rw [show Pl.say (Pl.adjS (Pl.toldV es y).data.toList) x = p from HP.out]
    rintro e w2 ⟨rfl, hb2⟩
    have HB2 := hid (HB1.out.trans (hb2.mono HB1.out.size))
    clear hb2
    by_cases hpz : p = 0
    · subst hpz
      have HL : Hid (Pl.lnkD (Pl.tS es) x y = 0) := hid (by unfold Pl.lnkD Pl.lnk; rw [if_neg hxy, HP.out, if_neg (by omega)])
      go_wp2_with fail
      go_ret
      exact ⟨ret_int HL.out.symm, HB2.out⟩
    · have hpz' : (p == 0) = false := by simp [hpz]
      have HL : Hid (Pl.lnkD (Pl.tS es) x y = q) := hid (by unfold Pl.lnkD Pl.lnk; rw [if_neg hxy, HP.out, if_pos (by omega), HQ.out])
      go_wp2_with fail
      refine (adjIn_any a len cap es x w2 (HE.out.below HB2.out) H0.out (by omega)).mono ?_
      rintro e w3 ⟨vl, rfl, ho3, hb3⟩
      obtain ⟨a3, cap3, rfl, hp3, _, _⟩ := OwnP.shape ho3 (Pl.adjS_up _).ok.pairs
      have HP3 := hid hp3
      have HB3 := hid (HB2.out.trans (hb3.mono HB2.out.size))
      clear ho3 hp3 hb3
      go_wp2_with fail
      refine (sideOf_any _ _ _ _ _ y w3 HP3.out (Pl.adjS_up _)).mono ?_
      rw [show Pl.say (Pl.adjS (Pl.toldV es x).data.toList) y = q from HQ.out]
      rintro e w4 ⟨rfl, hb4⟩
      have HB4 := hid (HB3.out.trans (hb4.mono HB3.out.size))
      clear hb4
      go_wp2_with fail
      go_ret
      exact ⟨ret_int HL.out.symm, HB4.out⟩
end Go.Proofs.YtcdobhdbafpkiacDoor
