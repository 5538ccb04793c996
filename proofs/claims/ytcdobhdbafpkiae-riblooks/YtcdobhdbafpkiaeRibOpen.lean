/-
  What a parameter holds when it is read as data: a slice of routes.
-/
import Derived.Test.YtcdobhdbafpkiaePairOpen
import Derived.Test.YtcdobhdbafpkiaeRibM
namespace Go.Proofs.Ytcdobhdbafpkiae
open Go.ChangeShapes Go.WideShapes Go.ChangeAt Go.RowKit

theorem ints_of_trod {H : Type} {enc : TypeId × Value → H} {w : World} {held : Bool} {fuel : Nat} {a : Option Addr} {len cap : Nat} {x0 : DataW H × List MemPlace}
    (hf : DataW.trod enc Try.prog w 0 (fun _ => true) held fuel 28 [.slice a len cap] = some x0) : ∃ zs, IsInts w a len cap zs := by
  have e3 : Try.prog.cellsOf 3 = 1 := by kernel_rfl
  rcases Go.Deep.open_slice Try.underlying28 hf with ⟨hcs, _⟩ | ⟨x, l, c, m, n, D, Q, hcs, _, hl, hm, hmm, _, hx⟩
  · simp at hcs
    obtain ⟨rfl, rfl, rfl⟩ := hcs
    exact ⟨[], IsInts.nil w⟩
  · simp at hcs
    obtain ⟨rfl, rfl, rfl⟩ := hcs
    simp only [if_true] at hmm
    subst hmm
    rw [e3] at hx
    have hx' : ∀ i, i < len → ∃ z : Int, w.cells? 0 (x.add (i * 1)) 1 = some [.int .i64 z] := by
      intro i hi
      obtain ⟨cs', h1, h2⟩ := hx i (by omega)
      obtain ⟨s1, a1, _, b1⟩ := DataW.trod_int Try.underlying3 h2
      subst a1
      exact ⟨s1, h1⟩
    obtain ⟨F, hF⟩ := @Go.Deep.choose_lt Int ⟨0⟩ len _ hx'
    have hlen : ((List.range len).map F).length = len := by simp
    have hent : ∀ i, i < len → Pl.nm ((List.range len).map F) i = F i := by
      intro i hi
      rw [Pl.nm_eq _ _ (by simpa using hi)]; simp
    refine ⟨(List.range len).map F, hlen, hl, hm, by simp, ?_⟩
    rcases Nat.eq_zero_or_pos len with h0 | hpos
    · subst h0; exact .inl rfl
    · right
      obtain ⟨b, off, spot⟩ := x
      have hc0 := (World.cells?_some (hF 0 hpos)).2.2 0 (by omega)
      simp only [List.getElem?_cons_zero] at hc0
      have hsp : spot = none := by simpa [Addr.add] using World.cell?_spot hc0
      subst hsp
      refine ⟨b, off, rfl, ?_, ?_⟩
      · have := cell_lt hc0; simpa [Addr.add] using this
      · intro i hi
        rw [hlen] at hi
        rw [hent i hi]
        have hc := (World.cells?_some (hF i hi)).2.2
        have c0 := hc 0 (by omega)
        simp only [add_none, List.getElem?_cons_zero, Nat.add_zero, Nat.mul_one] at c0
        exact c0

theorem cellsRoute : Try.prog.cellsOf 30 = 5 := by kernel_rfl

theorem route_of_trod {H : Type} {enc : TypeId × Value → H} {w : World} {held : Bool} {n : Nat} {cs : List Value} {x : DataW H × List MemPlace}
    (h : DataW.trod enc Try.prog w 0 (fun _ => true) held n 30 cs = some x) :
    ∃ (h : Pl.RH) (r : Pl.Rt), cs = [.int .i64 h.p.1, .int .i64 h.p.2, .bool h.here, .int .i64 h.cost, .slice h.ha h.hl h.hc] ∧ Reads w h r := by
  obtain ⟨xs, m, _, rfl, hl, hlen, hf⟩ := DataW.trod_struct Try.underlying30 h
  rw [cellsRoute] at hl
  match cs, hl, xs, hlen with
  | [c0, c1, c2, c3, c4], _, [y0, y1, y2, y3], _ =>
    have e2 : Try.prog.cellsOf 27 = 2 := by kernel_rfl
    have e3 : Try.prog.cellsOf 3 = 1 := by kernel_rfl
    have e4 : Try.prog.cellsOf 4 = 1 := by kernel_rfl
    have e5 : Try.prog.cellsOf 28 = 1 := by kernel_rfl
    have h0 := hf 0 _ rfl
    have h1 := hf 1 _ rfl
    have h2 := hf 2 _ rfl
    have h3 := hf 3 _ rfl
    simp [e2, e3, e4, e5] at h0 h1 h2 h3
    obtain ⟨p, a0, ok⟩ := pair_of_trod Try.underlying27 e2 rfl rfl rfl rfl h0
    obtain ⟨s1, a1, _⟩ := DataW.trod_bool Try.underlying4 h1
    obtain ⟨s2, a2, _, _⟩ := DataW.trod_int Try.underlying3 h2
    simp at a0 a1 a2
    obtain ⟨rfl, rfl⟩ := a0
    subst a1 a2
    rcases Go.Deep.open_slice Try.underlying28 h3 with ⟨hcs, _⟩ | ⟨x, l, c, m, n, D, Q, hcs, _⟩
    · simp at hcs
      subst hcs
      obtain ⟨zs, hz⟩ := ints_of_trod h3
      exact ⟨⟨p, s1, s2, _, _, _⟩, ⟨p, s1, s2, zs⟩, rfl, rfl, rfl, rfl, hz, ok⟩
    · simp at hcs
      subst hcs
      obtain ⟨zs, hz⟩ := ints_of_trod h3
      exact ⟨⟨p, s1, s2, _, _, _⟩, ⟨p, s1, s2, zs⟩, rfl, rfl, rfl, rfl, hz, ok⟩

theorem open_rts {H : Type} {enc : TypeId × Value → H} {w : World} {r : Reach} {b0 : Nat} {held : Bool} {v : Value} {d : DataW H} {p : List MemPlace}
    (hv : Value.okWide Try.prog w r b0 22 v) (h : DataW.Trod enc Try.prog w 0 (fun _ => true) held 22 v d p) :
    ∃ a len cap hs rs, v = .slice a len cap ∧ IsRows w a len cap hs ∧ ReadsAll w hs rs := by
  obtain ⟨a, len, cap, rfl⟩ := okWide_slice Try.underlying22 hv
  obtain ⟨fuel, hf⟩ := h
  rcases Go.Deep.open_slice Try.underlying22 hf with ⟨hcs, _⟩ | ⟨x, l, c, m, n, D, Q, hcs, _, hl, hm, hmm, _, hx⟩
  · simp [Value.cells] at hcs
    obtain ⟨rfl, rfl, rfl⟩ := hcs
    exact ⟨_, _, _, [], [], rfl, ⟨rfl, Nat.le_refl _, by simp, by simp, .inl rfl⟩, ReadsAll.nil w⟩
  · simp [Value.cells] at hcs
    obtain ⟨rfl, rfl, rfl⟩ := hcs
    simp only [if_true] at hmm
    subst hmm
    rw [cellsRoute] at hx
    have hx' : ∀ i, i < len → ∃ e : Pl.RH × Pl.Rt, w.cells? 0 (x.add (i * 5)) 5 = some [.int .i64 e.1.p.1, .int .i64 e.1.p.2, .bool e.1.here, .int .i64 e.1.cost, .slice e.1.ha e.1.hl e.1.hc] ∧ Reads w e.1 e.2 := by
      intro i hi
      obtain ⟨cs', h1, h2⟩ := hx i (by omega)
      obtain ⟨e, r, rfl, hok⟩ := route_of_trod h2
      exact ⟨(e, r), h1, hok⟩
    obtain ⟨F, hF⟩ := @Go.Deep.choose_lt (Pl.RH × Pl.Rt) ⟨(Pl.RH.none, Pl.Rt.none)⟩ len _ hx'
    have hlen : ((List.range len).map fun i => (F i).1).length = len := by simp
    have hent : ∀ i, i < len → Pl.rh ((List.range len).map fun i => (F i).1) i = (F i).1 := by
      intro i hi
      rw [Pl.rh_eq _ _ (by simpa using hi)]; simp
    have hent2 : ∀ i, i < len → Pl.rt ((List.range len).map fun i => (F i).2) i = (F i).2 := by
      intro i hi
      rw [Pl.rt_eq _ _ (by simpa using hi)]; simp
    refine ⟨_, _, _, (List.range len).map fun i => (F i).1, (List.range len).map fun i => (F i).2, rfl, ⟨hlen, hl, hm, by simp, ?_⟩, ⟨by simp, fun i hi => ?_⟩⟩
    · rcases Nat.eq_zero_or_pos len with h0 | hpos
      · subst h0; exact .inl rfl
      · right
        obtain ⟨b, off, spot⟩ := x
        have hc0 := (World.cells?_some (hF 0 hpos).1).2.2 0 (by omega)
        simp only [List.getElem?_cons_zero] at hc0
        have hsp : spot = none := by simpa [Addr.add] using World.cell?_spot hc0
        subst hsp
        refine ⟨b, off, rfl, ?_, ?_⟩
        · have := cell_lt hc0; simpa [Addr.add] using this
        · intro i hi
          rw [hlen] at hi
          rw [hent i hi]
          have hc := (World.cells?_some (hF i hi).1).2.2
          have c0 := hc 0 (by omega)
          have c1 := hc 1 (by omega)
          have c2 := hc 2 (by omega)
          have c3 := hc 3 (by omega)
          have c4 := hc 4 (by omega)
          simp only [add_none, List.getElem?_cons_zero, List.getElem?_cons_succ, Nat.add_zero] at c0 c1 c2 c3 c4
          exact ⟨c0, c1, c2, c3, c4⟩
    · rw [hlen] at hi
      rw [hent i hi, hent2 i hi]
      exact (hF i hi).2

theorem open_rts_sized {H : Type} {enc : TypeId × Value → H} {w : World} {r : Reach} {b0 : Nat} {held : Bool} {v : Value} {d : DataW H} {p : List MemPlace}
    (hv : Value.okWide Try.prog w r b0 22 v) (h : DataW.Trod enc Try.prog w 0 (fun _ => true) held 22 v d p) :
    ∃ a len cap hs rs, v = .slice a len cap ∧ IsRows w a len cap hs ∧ ReadsAll w hs rs ∧ ((d = .nil ∧ len = 0) ∨ ∃ el sp, d = .slice el sp ∧ el.length = len) := by
  obtain ⟨a, len, cap, hs, rs, rfl, hE, hD⟩ := open_rts hv h
  refine ⟨a, len, cap, hs, rs, rfl, hE, hD, ?_⟩
  obtain ⟨fuel, hf⟩ := h
  rcases Go.Deep.open_slice Try.underlying22 hf with ⟨hcs, hx⟩ | ⟨x, l, c, m, n, D, Q, hcs, _, hl, hm, hmm, hx, _⟩
  · simp [Value.cells] at hcs
    obtain ⟨rfl, rfl, rfl⟩ := hcs
    simp only [Prod.mk.injEq] at hx
    exact .inl ⟨hx.1, rfl⟩
  · simp [Value.cells] at hcs
    obtain ⟨rfl, rfl, rfl⟩ := hcs
    simp only [Prod.mk.injEq] at hx
    exact .inr ⟨_, _, hx.1, by simp⟩
end Go.Proofs.Ytcdobhdbafpkiae
