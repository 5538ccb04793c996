/-
  What a parameter holds when it is read as data: a slice of pairs of numbers, what is told of links.
-/
import Derived.Test.YtcdobhdbafpkiabDoorPair
import Derived.Test.YtcdobhdbafpkiabDoorOpenB
namespace Go.Proofs.YtcdobhdbafpkiabDoor
open Go.ChangeShapes Go.WideShapes Go.ChangeAt Go.RowKit

theorem pair_of_trod {H : Type} {enc : TypeId × Value → H} {w : World} {base : Nat} {spare : Nat → Bool} {held : Bool} {n : Nat} {cs : List Value} {x : DataW H × List MemPlace} {tE : TypeId} {f0 f1 : Field}
    (hE : Tryd.prog.underlying tE = some (.struct #[f0, f1])) (hc : Tryd.prog.cellsOf tE = 2) (t0 : f0.type = 3) (o0 : f0.offset = 0) (t1 : f1.type = 3) (o1 : f1.offset = 1)
    (h : DataW.trod enc Tryd.prog w base spare held n tE cs = some x) : ∃ p : Int × Int, cs = [.int .i64 p.1, .int .i64 p.2] ∧ Pl.pairOk p := by
  obtain ⟨xs, m, _, rfl, hl, hlen, hf⟩ := DataW.trod_struct hE h
  rw [hc] at hl
  match cs, hl, xs, hlen with
  | [c0, c1], _, [y0, y1], _ =>
    have e3 : Tryd.prog.cellsOf 3 = 1 := by kernel_rfl
    have h0 := hf 0 f0 rfl
    have h1 := hf 1 f1 rfl
    simp only [t0, t1, o0, o1, e3] at h0 h1
    obtain ⟨s0, a0, _, b0⟩ := DataW.trod_int Tryd.underlying3 (by simpa using h0)
    obtain ⟨s1, a1, _, b1⟩ := DataW.trod_int Tryd.underlying3 (by simpa using h1)
    simp at a0 a1
    subst a0 a1
    exact ⟨(s0, s1), rfl, b0, b1⟩

theorem pairs_of_trod {H : Type} {enc : TypeId × Value → H} {w : World} {held : Bool} {fuel : Nat} {a : Option Addr} {len cap : Nat} {x0 : DataW H × List MemPlace} {tS tE : TypeId} {f0 f1 : Field}
    (hS : Tryd.prog.underlying tS = some (.slice tE)) (hE : Tryd.prog.underlying tE = some (.struct #[f0, f1])) (hc : Tryd.prog.cellsOf tE = 2) (t0 : f0.type = 3) (o0 : f0.offset = 0) (t1 : f1.type = 3) (o1 : f1.offset = 1)
    (hf : DataW.trod enc Tryd.prog w 0 (fun _ => true) held fuel tS [.slice a len cap] = some x0) : ∃ ps, IsPairs w a len cap ps := by
  rcases Go.Deep.open_slice hS hf with ⟨hcs, _⟩ | ⟨x, l, c, m, n, D, Q, hcs, _, hl, hm, hmm, _, hx⟩
  · simp at hcs
    obtain ⟨rfl, rfl, rfl⟩ := hcs
    exact ⟨[], rfl, Nat.le_refl _, by simp, by simp, .inl rfl⟩
  · simp at hcs
    obtain ⟨rfl, rfl, rfl⟩ := hcs
    simp only [if_true] at hmm
    subst hmm
    rw [hc] at hx
    have hx' : ∀ i, i < len → ∃ p : Int × Int, w.cells? 0 (x.add (i * 2)) 2 = some [.int .i64 p.1, .int .i64 p.2] ∧ Pl.pairOk p := by
      intro i hi
      obtain ⟨cs', h1, h2⟩ := hx i (by omega)
      obtain ⟨e, rfl, hok⟩ := pair_of_trod hE hc t0 o0 t1 o1 h2
      exact ⟨e, h1, hok⟩
    obtain ⟨F, hF⟩ := @Go.Deep.choose_lt (Int × Int) ⟨(0, 0)⟩ len _ hx'
    have hlen : ((List.range len).map F).length = len := by simp
    have hent : ∀ i, i < len → Pl.pr ((List.range len).map F) i = F i := by
      intro i hi
      rw [Pl.pr_eq _ _ (by simpa using hi)]; simp
    refine ⟨(List.range len).map F, hlen, hl, hm, ?_, ?_⟩
    · intro e he
      simp only [List.mem_map, List.mem_range] at he
      obtain ⟨i, hi, rfl⟩ := he
      exact (hF i hi).2
    · rcases Nat.eq_zero_or_pos len with h0 | hpos
      · subst h0; exact .inl rfl
      · right
        obtain ⟨b, off, spot⟩ := x
        have hc0 := (World.cells?_some (hF 0 hpos).1).2.2 0 (by omega)
        simp only [List.getElem?_cons_zero] at hc0
        have hsp : spot = none := by simpa [Addr.add] using World.cell?_spot hc0
        subst hsp
        refine ⟨b, off, rfl, ?_, ?_⟩
        · have := cell_lt hc0; simpa [Addr.add] using this
        · intro i hi
          rw [hlen] at hi
          rw [hent i hi]
          have hc := (World.cells?_some (hF i hi).1).2.2
          have c0 := hc 0 (by omega)
          have c1 := hc 1 (by omega)
          simp only [add_none, List.getElem?_cons_zero, List.getElem?_cons_succ, Nat.add_zero] at c0 c1
          exact ⟨c0, c1⟩

theorem open_adj {H : Type} {enc : TypeId × Value → H} {w : World} {r : Reach} {b0 : Nat} {held : Bool} {v : Value} {d : DataW H} {p : List MemPlace}
    (hv : Value.okWide Tryd.prog w r b0 24 v) (h : DataW.Trod enc Tryd.prog w 0 (fun _ => true) held 24 v d p) :
    ∃ dr a len cap ps, v = .agg #[.bool dr, .slice a len cap] ∧ IsPairs w a len cap ps := by
  obtain ⟨fuel, hf⟩ := h
  obtain ⟨cs, rfl, hsz⟩ := okWide_struct Tryd.underlying24 hv
  obtain ⟨xs, m, _, hx, hl, hlen, hg⟩ := DataW.trod_struct Tryd.underlying24 hf
  have hc : Tryd.prog.cellsOf 24 = 2 := by kernel_rfl
  have e3 : Tryd.prog.cellsOf 4 = 1 := by kernel_rfl
  have e4 : Tryd.prog.cellsOf 22 = 1 := by kernel_rfl
  rw [hc] at hl
  obtain ⟨c0, c1, rfl⟩ : ∃ c0 c1, cs = #[c0, c1] := by
    obtain ⟨l⟩ := cs
    simp [Value.cells] at hl
    match l, hl with
    | [c0, c1], _ => exact ⟨c0, c1, rfl⟩
  match xs, hlen with
  | [y0, y1], _ =>
    have h0 := hg 0 _ rfl
    have h1 := hg 1 _ rfl
    simp [Value.cells, e3, e4] at h0 h1
    obtain ⟨s0, a0, _⟩ := DataW.trod_bool Tryd.underlying4 h0
    simp at a0
    subst a0
    rcases Go.Deep.open_slice Tryd.underlying22 h1 with ⟨hcs, _⟩ | ⟨x, l, c, m, n, D, Q, hcs, _⟩
    · simp at hcs
      subst hcs
      obtain ⟨ps, hp⟩ := pairs_of_trod Tryd.underlying22 Tryd.underlying32 (by kernel_rfl) rfl rfl rfl rfl h1
      exact ⟨s0, _, _, _, ps, rfl, hp⟩
    · simp at hcs
      subst hcs
      obtain ⟨ps, hp⟩ := pairs_of_trod Tryd.underlying22 Tryd.underlying32 (by kernel_rfl) rfl rfl rfl rfl h1
      exact ⟨s0, _, _, _, ps, rfl, hp⟩
end Go.Proofs.YtcdobhdbafpkiabDoor
