/-
  What a parameter holds when it is read as data: a slice of raw things.
-/
import Derived.Test.YtcdobhdbafpkiadDoorOpen
import Derived.Test.YtcdobhdbafpkiadDoorRaw4
namespace Go.Proofs.YtcdobhdbafpkiadDoor
open Go.ChangeShapes Go.WideShapes Go.ChangeAt Go.RowKit
set_option maxRecDepth 20000

theorem cellsRaw : Tryd.prog.cellsOf 29 = 4 := by kernel_rfl
theorem raw_of_trod {H : Type} {enc : TypeId × Value → H} {w : World} {base : Nat} {spare : Nat → Bool} {held : Bool} {n : Nat} {cs : List Value} {x : DataW H × List MemPlace}
    (h : DataW.trod enc Tryd.prog w base spare held n 29 cs = some x) : ∃ k0 k1 k2 k3 : Int, cs = [.int .i64 k0, .int .i64 k1, .int .i64 k2, .int .i64 k3] ∧
      (Lit.int .i64 k0).wf = true ∧ (Lit.int .i64 k1).wf = true ∧ (Lit.int .i64 k2).wf = true ∧ (Lit.int .i64 k3).wf = true := by
  obtain ⟨y0, y1, y2, y3, m, _, hl, h0, h1, h2, h3⟩ := Go.Joins.trod_struct4 Tryd.underlying29 h
  rw [cellsRaw] at hl
  match cs, hl with
  | [c0, c1, c2, c3], _ =>
    have e3 : Tryd.prog.cellsOf 3 = 1 := by kernel_rfl
    simp only [e3] at h0 h1 h2 h3
    obtain ⟨s0, a0, _, b0⟩ := DataW.trod_int Tryd.underlying3 h0
    obtain ⟨s1, a1, _, b1⟩ := DataW.trod_int Tryd.underlying3 h1
    obtain ⟨s2, a2, _, b2⟩ := DataW.trod_int Tryd.underlying3 h2
    obtain ⟨s3, a3, _, b3⟩ := DataW.trod_int Tryd.underlying3 h3
    simp at a0 a1 a2 a3
    subst a0 a1 a2 a3
    exact ⟨s0, s1, s2, s3, rfl, b0, b1, b2, b3⟩

theorem open_raw {H : Type} {enc : TypeId × Value → H} {w : World} {r : Reach} {b0 base : Nat} {spare : Nat → Bool} {held : Bool} {v : Value} {d : DataW H} {p : List MemPlace}
    (hv : Value.okWide Tryd.prog w r b0 29 v) (h : DataW.Trod enc Tryd.prog w base spare held 29 v d p) :
    ∃ k0 k1 k2 k3 : Int, v = .agg #[.int .i64 k0, .int .i64 k1, .int .i64 k2, .int .i64 k3] ∧
      ((Lit.int .i64 k0).wf = true ∧ (Lit.int .i64 k1).wf = true ∧ (Lit.int .i64 k2).wf = true ∧ (Lit.int .i64 k3).wf = true) := by
  obtain ⟨fuel, hf⟩ := h
  obtain ⟨cs, rfl, hsz⟩ := okWide_struct Tryd.underlying29 hv
  obtain ⟨k0, k1, k2, k3, he, hw⟩ := raw_of_trod hf
  refine ⟨k0, k1, k2, k3, ?_, hw⟩
  simp [Value.cells] at he
  rw [← he]

theorem open_raws {H : Type} {enc : TypeId × Value → H} {w : World} {r : Reach} {b0 : Nat} {held : Bool} {v : Value} {d : DataW H} {p : List MemPlace}
    (hv : Value.okWide Tryd.prog w r b0 22 v) (h : DataW.Trod enc Tryd.prog w 0 (fun _ => true) held 22 v d p) :
    ∃ a len cap, v = .slice a len cap ∧ IsRaws w a len cap := by
  obtain ⟨a, len, cap, rfl⟩ := okWide_slice Tryd.underlying22 hv
  obtain ⟨fuel, hf⟩ := h
  rcases Go.Deep.open_slice Tryd.underlying22 hf with ⟨hcs, _⟩ | ⟨x, l, c, m, n, D, Q, hcs, _, hl, hm, hmm, _, hx⟩
  · simp [Value.cells] at hcs
    obtain ⟨rfl, rfl, rfl⟩ := hcs
    exact ⟨_, _, _, rfl, Nat.le_refl _, by simp, .inl rfl⟩
  · simp [Value.cells] at hcs
    obtain ⟨rfl, rfl, rfl⟩ := hcs
    simp only [if_true] at hmm
    subst hmm
    rw [cellsRaw] at hx
    refine ⟨_, _, _, rfl, hl, hm, ?_⟩
    rcases Nat.eq_zero_or_pos len with h0 | hpos
    · exact .inl h0
    · right
      obtain ⟨b, off, spot⟩ := x
      obtain ⟨cs0, g1, g2⟩ := hx 0 (by omega)
      obtain ⟨k0, k1, k2, k3, rfl, _⟩ := raw_of_trod g2
      have hc0 := (World.cells?_some g1).2.2 0 (by omega)
      simp only [List.getElem?_cons_zero] at hc0
      have hsp : spot = none := by simpa [Addr.add] using World.cell?_spot hc0
      subst hsp
      refine ⟨b, off, rfl, ?_, ?_⟩
      · have := cell_lt hc0; simpa [Addr.add] using this
      · intro i hi
        obtain ⟨cs1, f1, f2⟩ := hx i (by omega)
        obtain ⟨k0, k1, k2, k3, rfl, hw⟩ := raw_of_trod f2
        have hc := (World.cells?_some f1).2.2
        have c0 := hc 0 (by omega)
        have c1 := hc 1 (by omega)
        have c2 := hc 2 (by omega)
        have c3 := hc 3 (by omega)
        simp only [add_none, List.getElem?_cons_zero, List.getElem?_cons_succ, Nat.add_zero] at c0 c1 c2 c3
        exact ⟨k0, k1, k2, k3, ⟨c0, c1, c2, c3⟩, hw⟩
end Go.Proofs.YtcdobhdbafpkiadDoor
