/-
  Contracts: the place of a key in a store in order: the closure, the search, find; the document's placeOf.
-/
import Derived.Test.YtcdobhdbafpkiadDoorCheck
import Derived.Test.YtcdobhdbafpkiadDoorSrt
namespace Go.Proofs.YtcdobhdbafpkiadDoor
open Go.RowKit
set_option maxRecDepth 20000

theorem RowAt.drewN {w : World} {b off : Nat} {es : List Pl.Ent} (h : RowAt w b off es) (n : Nat) : RowAt (w.drewN n) b off es := fun i hi => h i hi

set_option maxHeartbeats 400000 in
theorem clo_any (es : List Pl.Ent) (key : ByteArray) (b off len cap bl bk i : Nat) (w : World) (hl : es.length = len) (_hc : len ≤ cap) (_hm : cap ≤ maxLen)
    (hrow : RowAt w b off es) (h1 : w.cell? ⟨bl, 0, none⟩ = some (.slice (some ⟨b, off, none⟩) len cap)) (h2 : w.cell? ⟨bk, 0, none⟩ = some (.string key)) (hi : i < len) :
    Calls Tryd.prog 64 #[.int .i64 i, .pointer (some ⟨bl, 0, none⟩), .pointer (some ⟨bk, 0, none⟩)] w fun e w' => e = .returned (.bool (!Pl.ltB (Pl.ent es i).key key)) ∧ ∃ n, w' = w.drewN n := by
  unfold maxLen at _hm
  obtain ⟨c0, _, _, _⟩ := hrow i (by omega)
  have hi' : (i : Int) < (len : Int) := by omega
  go_enter Tryd.func64, Tryd.ntmps64
  go_wp2_with fail
  go_quiet (fail)
  go_wp2
  go_ret
  exact ⟨rfl, _, rfl⟩

set_option maxHeartbeats 400000 in
theorem Search_any (es : List Pl.Ent) (key : ByteArray) (a : Option Addr) (len cap bl bk : Nat) (w : World) (hl : es.length = len) (hc : len ≤ cap) (hm : cap ≤ maxLen)
    (hrow : es = [] ∨ ∃ b off, a = some ⟨b, off, none⟩ ∧ RowAt w b off es) (h1 : w.cell? ⟨bl, 0, none⟩ = some (.slice a len cap)) (h2 : w.cell? ⟨bk, 0, none⟩ = some (.string key)) (has : Pl.Asc es) (h60 : len ≤ 60) :
    Calls Tryd.prog 63 #[.int .i64 len, .func (.func 64) #[] #[.pointer (some ⟨bl, 0, none⟩), .pointer (some ⟨bk, 0, none⟩)]] w fun e w' => e = .returned (.int .i64 (Pl.pos es key)) ∧ ∃ n, w' = w.drewN n := by
  have hm' : cap ≤ maxLen := hm
  have HM : Hid (cap ≤ maxLen) := hm'
  clear hm'
  unfold maxLen at hm
  have HR : Hid (es = [] ∨ ∃ b off, a = some ⟨b, off, none⟩ ∧ RowAt w b off es) := hrow
  have H1 : Hid (w.cell? ⟨bl, 0, none⟩ = some (.slice a len cap)) := h1
  have H2 : Hid (w.cell? ⟨bk, 0, none⟩ = some (.string key)) := h2
  have HA : Hid (Pl.Asc es) := has
  clear hrow h1 h2 has
  go_enter Tryd.func63, Tryd.ntmps63
  go_wp2
  go_loopw [5, 6] (fun i j wr => ∃ x y n : Nat, x ≤ y ∧ y ≤ len ∧ i = .int .i64 x ∧ j = .int .i64 y ∧ Hid (wr = w.drewN n) ∧ Hid (∀ t, t < x → Pl.ltB (Pl.ent es t).key key = true) ∧ Hid (∀ t, y ≤ t → t < len → Pl.ltB (Pl.ent es t).key key = false)) (fun i j _ => (intOf j).toNat - (intOf i).toNat)
  case atStart => exact ⟨0, len, 0, Nat.zero_le _, Nat.le_refl _, rfl, rfl, rfl, fun t h => by omega, fun t h h' => by omega⟩
  case round =>
    obtain ⟨x, y, n, hxy, hy, rfl, rfl, HW, HX, HY⟩ := hrel
    by_cases hlt : x < y
    · obtain ⟨b, off, rfl, hrow⟩ : ∃ b off, a = some ⟨b, off, none⟩ ∧ RowAt w b off es := by
        rcases HR.out with h | h
        · rw [h] at hl; simp at hl; omega
        · exact h
      have hr : RowAt wr b off es := by rw [HW.out]; exact hrow.drewN n
      have h1 : wr.cell? ⟨bl, 0, none⟩ = some (.slice (some ⟨b, off, none⟩) len cap) := by rw [HW.out]; exact H1.out
      have h2 : wr.cell? ⟨bk, 0, none⟩ = some (.string key) := by rw [HW.out]; exact H2.out
      have HC := fun m => clo_any es key b off len cap bl bk m wr hl hc HM.out hr h1 h2
      have HC' : Hid _ := HC
      clear HC hr h1 h2
      go_wp2_with fail
      obtain ⟨m, hm2, hxm, hmy⟩ : ∃ m : Nat, ((x : Int) + (y : Int)) / 2 = (m : Int) ∧ x ≤ m ∧ m < y := ⟨(x + y) / 2, by omega, by omega, by omega⟩
      rw [hm2]
      clear hm2
      refine (HC'.out m (by omega)).mono ?_
      rintro e w' ⟨rfl, q, hq⟩
      have HQ : Hid (w' = wr.drewN q) := hq
      clear hq
      obtain ⟨ll, HL⟩ : ∃ ll, Hid (Pl.ltB (Pl.ent es m).key key = ll) := ⟨_, rfl⟩
      rw [HL.out]
      have HW' : Hid (w' = w.drewN (n + q)) := by show _ = _; rw [HQ.out, HW.out, World.drewN_drewN]
      cases ll
      · go_wp2
        go_roundw
        case rel => exact ⟨x, m, n + q, by omega, by omega, rfl, rfl, HW', HX, fun t h h' => Pl.asc_ge HA.out (by omega) h HL.out⟩
        case measure => simp [intOf]; omega
      · go_wp2
        go_roundw
        case rel => exact ⟨m + 1, y, n + q, by omega, by omega, by go_num, rfl, HW', fun t h => Pl.asc_lt HA.out (by omega) (by omega) HL.out, HY⟩
        case measure => simp [intOf]; omega
    · obtain rfl : x = y := by omega
      go_wp2
      go_ret
      exact ⟨ret_int (by rw [Pl.pos_of (by omega) HX.out (fun h => HY.out x (Nat.le_refl _) (by omega))]), n, HW.out⟩

set_option maxHeartbeats 400000 in
theorem find_any (a : Option Addr) (len cap : Nat) (es : List Pl.Ent) (key : ByteArray) (w : World) (h : IsEnts w a len cap es) (has : Pl.Asc es) (h60 : len ≤ 60) :
    Calls Tryd.prog 42 #[.slice a len cap, .string key] w fun e w' => e = .returned (.tuple #[.int .i64 (Pl.pos es key), .bool (Pl.there es key)]) ∧ Below w.heap.size w w' := by
  obtain ⟨hl, hc, hm, _, hrow⟩ := h
  have hmf : ∀ (fn : Fn) (first cap : Array Value) (w : World), (Instr.makeFunc fn first cap).run Tryd.prog w = .ok (.func fn first cap) w := fun _ _ _ _ => rfl
  have HB : Hid (Below w.heap.size w ((w.alloc (.cells #[.slice a len cap] 45)).alloc (.cells #[.string key] 9))) := ((Below.refl _ _).alloc (Nat.le_refl _) _).alloc (by simp) _
  have HS : Hid (Calls Tryd.prog 63 #[.int .i64 len, .func (.func 64) #[] #[.pointer (some ⟨w.heap.size, 0, none⟩), .pointer (some ⟨w.heap.size + 1, 0, none⟩)]] ((w.alloc (.cells #[.slice a len cap] 45)).alloc (.cells #[.string key] 9)) fun e w' => e = .returned (.int .i64 (Pl.pos es key)) ∧ ∃ n, w' = ((w.alloc (.cells #[.slice a len cap] 45)).alloc (.cells #[.string key] 9)).drewN n) := by
    refine Search_any es key a len cap _ _ _ hl hc hm ?_ ?_ ?_ has h60
    · rcases hrow with h | ⟨b, off, rfl, hb, hr⟩
      · exact .inl h
      · exact .inr ⟨b, off, rfl, hr.below hb HB.out⟩
    · go_simp
    · go_simp
  have hp := Pl.pos_le es key
  unfold maxLen at hm
  rcases Nat.lt_or_ge (Pl.pos es key) len with hlt | hge
  · obtain ⟨b, off, rfl, hb, hr⟩ : ∃ b off, a = some ⟨b, off, none⟩ ∧ b < w.heap.size ∧ RowAt w b off es := by
      rcases hrow with h | h
      · rw [h] at hl; simp at hl; omega
      · exact h
    obtain ⟨c0, _, _, _⟩ := hr (Pl.pos es key) (by omega)
    have HT : Hid (Pl.there es key = ((Pl.ent es (Pl.pos es key)).key.toList == key.toList)) := by
      show _ = _
      unfold Pl.there
      rw [Pl.beqL, decide_eq_true (show Pl.pos es key < es.length by omega)]; rfl
    generalize Pl.pos es key = p at *
    clear hrow hr
    have hlt' : (p : Int) < (len : Int) := by omega
    go_enter Tryd.func42, Tryd.ntmps42
    go_wp2_with fail
    refine HS.out.mono ?_
    rintro e w' ⟨rfl, n, hn⟩
    subst hn
    go_wp2_with fail
    go_quiet (fail)
    go_wp2
    go_ret2
    exact ⟨by rw [HT.out]; rfl, below_drewN (below_drewN HB.out _) _⟩
  · have HT : Hid (Pl.there es key = false) := by
      show _ = _
      unfold Pl.there
      rw [decide_eq_false (show ¬ Pl.pos es key < es.length by omega)]; rfl
    generalize Pl.pos es key = p at *
    have hd : decide ((p : Int) < (len : Int)) = false := by simp; omega
    have hd' : decide (p < len) = false := by simp; omega
    go_enter Tryd.func42, Tryd.ntmps42
    go_wp2_with fail
    refine HS.out.mono ?_
    rintro e w' ⟨rfl, n, hn⟩
    subst hn
    go_wp2_with fail
    go_quiet (fail)
    go_wp2
    go_ret2
    exact ⟨by rw [HT.out]; rfl, below_drewN (below_drewN HB.out _) _⟩

end Go.Proofs.YtcdobhdbafpkiadDoor
