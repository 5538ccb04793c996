/-
  What a parameter holds when it is read as data: a slice of bytes.
-/
import Derived.Test.YtcdobhdbafpkiabOpen
import Derived.Test.YtcdobhdbafpkiabBytes
namespace Go.Proofs.Ytcdobhdbafpkiab
open Go.ChangeShapes Go.WideShapes Go.ChangeAt Go.RowKit

theorem cellsByte : Try.prog.cellsOf 5 = 1 := by kernel_rfl
theorem byte_of_trod {H : Type} {enc : TypeId × Value → H} {w : World} {base : Nat} {spare : Nat → Bool} {held : Bool} {n : Nat} {cs : List Value} {x : DataW H × List MemPlace}
    (h : DataW.trod enc Try.prog w base spare held n 5 cs = some x) : ∃ b : UInt8, cs = [.int .u8 (b.toNat : Int)] := by
  obtain ⟨s, a, _, hw⟩ := DataW.trod_int Try.underlying5 h
  subst a
  have hr : 0 ≤ s ∧ s ≤ 255 := by
    unfold Lit.wf at hw
    simp only [Bool.and_eq_true, decide_eq_true_eq] at hw
    exact hw
  exact ⟨Pl.u8 s, by rw [Pl.u8_val hr.1 hr.2]⟩

theorem open_bytes {H : Type} {enc : TypeId × Value → H} {w : World} {r : Reach} {b0 : Nat} {held : Bool} {v : Value} {d : DataW H} {p : List MemPlace}
    (hv : Value.okWide Try.prog w r b0 23 v) (h : DataW.Trod enc Try.prog w 0 (fun _ => true) held 23 v d p) :
    ∃ a len cap bs, v = .slice a len cap ∧ IsBytes w a len cap bs := by
  obtain ⟨a, len, cap, rfl⟩ := okWide_slice Try.underlying23 hv
  obtain ⟨fuel, hf⟩ := h
  rcases Go.Deep.open_slice Try.underlying23 hf with ⟨hcs, _⟩ | ⟨x, l, c, m, n, D, Q, hcs, _, hl, hm, hmm, _, hx⟩
  · simp [Value.cells] at hcs
    obtain ⟨rfl, rfl, rfl⟩ := hcs
    exact ⟨_, _, _, [], rfl, rfl, Nat.le_refl _, by simp, .inl rfl⟩
  · simp [Value.cells] at hcs
    obtain ⟨rfl, rfl, rfl⟩ := hcs
    simp only [if_true] at hmm
    subst hmm
    rw [cellsByte] at hx
    have hx' : ∀ i, i < len → ∃ b : UInt8, w.cells? 0 (x.add (i * 1)) 1 = some [.int .u8 (b.toNat : Int)] := by
      intro i hi
      obtain ⟨cs', h1, h2⟩ := hx i (by omega)
      obtain ⟨b, rfl⟩ := byte_of_trod h2
      exact ⟨b, h1⟩
    obtain ⟨F, hF⟩ := @Go.Deep.choose_lt UInt8 ⟨0⟩ len _ hx'
    have hlen : ((List.range len).map F).length = len := by simp
    refine ⟨_, _, _, (List.range len).map F, rfl, hlen, hl, hm, ?_⟩
    rcases Nat.eq_zero_or_pos len with h0 | hpos
    · subst h0; exact .inl rfl
    · right
      obtain ⟨b, off, spot⟩ := x
      have hc0 := (World.cells?_some (hF 0 hpos)).2.2 0 (by omega)
      simp only [List.getElem?_cons_zero] at hc0
      have hsp : spot = none := by simpa [Addr.add] using World.cell?_spot hc0
      subst hsp
      refine ⟨b, off, rfl, ?_, ?_⟩
      · have := cell_lt hc0; simpa [Addr.add] using this
      · intro j u hu
        have hj : j < len := by
          rcases Nat.lt_or_ge j len with h | h
          · exact h
          · rw [List.getElem?_eq_none (by rw [bcells_len, hlen]; exact h)] at hu; cases hu
        have hc := (World.cells?_some (hF j hj)).2.2 0 (by omega)
        simp only [add_none, List.getElem?_cons_zero, Nat.add_zero, Nat.mul_one] at hc
        rw [bcell_at (by rw [hlen]; exact hj)] at hu
        cases hu
        rw [hc]
        simp [List.getD_eq_getElem?_getD, hj]

theorem open_bytes_sized {H : Type} {enc : TypeId × Value → H} {w : World} {r : Reach} {b0 : Nat} {held : Bool} {v : Value} {d : DataW H} {p : List MemPlace}
    (hv : Value.okWide Try.prog w r b0 23 v) (h : DataW.Trod enc Try.prog w 0 (fun _ => true) held 23 v d p) :
    ∃ a len cap bs, v = .slice a len cap ∧ IsBytes w a len cap bs ∧ (a = none → cap = 0) ∧ ((d = .nil ∧ len = 0) ∨ ∃ el sp, d = .slice el sp ∧ el.length = len) := by
  obtain ⟨a, len, cap, es, rfl, hE⟩ := open_bytes hv h
  refine ⟨a, len, cap, es, rfl, hE, ?_⟩
  obtain ⟨fuel, hf⟩ := h
  rcases Go.Deep.open_slice Try.underlying23 hf with ⟨hcs, hx⟩ | ⟨x, l, c, m, n, D, Q, hcs, _, hl, hm, hmm, hx, _⟩
  · simp [Value.cells] at hcs
    obtain ⟨rfl, rfl, rfl⟩ := hcs
    simp only [Prod.mk.injEq] at hx
    exact ⟨fun _ => rfl, .inl ⟨hx.1, rfl⟩⟩
  · simp [Value.cells] at hcs
    obtain ⟨rfl, rfl, rfl⟩ := hcs
    simp only [Prod.mk.injEq] at hx
    exact ⟨by simp, .inr ⟨_, _, hx.1, by simp⟩⟩
end Go.Proofs.Ytcdobhdbafpkiab
