/-
  What a parameter holds when it is read as data: an entry, a slice of entries.
-/
import Derived.Test.YtcdobhdbafpkiadDoorCheck
import Derived.Test.YtcdobhdbafpkiadDoorOpenB
import Derived.ProofKit
import Derived.OpenShut
import Derived.ShutString
import Derived.ChangeOld
import Derived.Lib.SmallJoins
import Derived.Deep.Slices
import Derived.SizedLaws
namespace Go.Proofs.YtcdobhdbafpkiadDoor
open Go.ChangeShapes Go.WideShapes Go.ChangeAt Go.RowKit
set_option maxRecDepth 20000

theorem cellsEntry : Tryd.prog.cellsOf 64 = 4 := by kernel_rfl

theorem entry_of_trod {H : Type} {enc : TypeId × Value → H} {w : World} {base : Nat} {spare : Nat → Bool} {held : Bool} {n : Nat} {cs : List Value} {x : DataW H × List MemPlace}
    (h : DataW.trod enc Tryd.prog w base spare held n 64 cs = some x) : ∃ e : Pl.Ent, cs = [.string e.key, .int .i64 e.ver, .int .i64 e.org, .string e.val] ∧ e.ok := by
  obtain ⟨y0, y1, y2, y3, m, _, hl, h0, h1, h2, h3⟩ := Go.Joins.trod_struct4 Tryd.underlying64 h
  rw [cellsEntry] at hl
  match cs, hl with
  | [c0, c1, c2, c3], _ =>
    have e9 : Tryd.prog.cellsOf 9 = 1 := by kernel_rfl
    have e3 : Tryd.prog.cellsOf 3 = 1 := by kernel_rfl
    simp only [e9, e3] at h0 h1 h2 h3
    obtain ⟨s0, a0, _, b0⟩ := DataW.trod_string Tryd.underlying9 h0
    obtain ⟨s1, a1, _, b1⟩ := DataW.trod_int Tryd.underlying3 h1
    obtain ⟨s2, a2, _, b2⟩ := DataW.trod_int Tryd.underlying3 h2
    obtain ⟨s3, a3, _, b3⟩ := DataW.trod_string Tryd.underlying9 h3
    simp at a0 a1 a2 a3
    subst a0 a1 a2 a3
    exact ⟨⟨s0, s1, s2, s3⟩, rfl, b0, b1, b2, b3⟩

theorem open_ent {H : Type} {enc : TypeId × Value → H} {w : World} {r : Reach} {b0 base : Nat} {spare : Nat → Bool} {held : Bool} {v : Value} {d : DataW H} {p : List MemPlace}
    (hv : Value.okWide Tryd.prog w r b0 64 v) (h : DataW.Trod enc Tryd.prog w base spare held 64 v d p) :
    ∃ e : Pl.Ent, v = .agg #[.string e.key, .int .i64 e.ver, .int .i64 e.org, .string e.val] ∧ e.ok := by
  obtain ⟨fuel, hf⟩ := h
  obtain ⟨cs, rfl, hsz⟩ := okWide_struct Tryd.underlying64 hv
  obtain ⟨e, he, hok⟩ := entry_of_trod hf
  refine ⟨e, ?_, hok⟩
  simp [Value.cells] at he
  rw [← he]

theorem open_ents {H : Type} {enc : TypeId × Value → H} {w : World} {r : Reach} {b0 : Nat} {held : Bool} {v : Value} {d : DataW H} {p : List MemPlace}
    (hv : Value.okWide Tryd.prog w r b0 45 v) (h : DataW.Trod enc Tryd.prog w 0 (fun _ => true) held 45 v d p) :
    ∃ a len cap es, v = .slice a len cap ∧ IsEnts w a len cap es := by
  obtain ⟨a, len, cap, rfl⟩ := okWide_slice Tryd.underlying45 hv
  obtain ⟨fuel, hf⟩ := h
  rcases Go.Deep.open_slice Tryd.underlying45 hf with ⟨hcs, _⟩ | ⟨x, l, c, m, n, D, Q, hcs, _, hl, hm, hmm, _, hx⟩
  · simp [Value.cells] at hcs
    obtain ⟨rfl, rfl, rfl⟩ := hcs
    exact ⟨_, _, _, [], rfl, rfl, Nat.le_refl _, by simp, by simp, .inl rfl⟩
  · simp [Value.cells] at hcs
    obtain ⟨rfl, rfl, rfl⟩ := hcs
    simp only [if_true] at hmm
    subst hmm
    rw [cellsEntry] at hx
    have hx' : ∀ i, i < len → ∃ e : Pl.Ent, w.cells? 0 (x.add (i * 4)) 4 = some [.string e.key, .int .i64 e.ver, .int .i64 e.org, .string e.val] ∧ e.ok := by
      intro i hi
      obtain ⟨cs', h1, h2⟩ := hx i (by omega)
      obtain ⟨e, rfl, hok⟩ := entry_of_trod h2
      exact ⟨e, h1, hok⟩
    obtain ⟨F, hF⟩ := @Go.Deep.choose_lt Pl.Ent ⟨Pl.Ent.none⟩ len _ hx'
    have hlen : ((List.range len).map F).length = len := by simp
    have hent : ∀ i, i < len → Pl.ent ((List.range len).map F) i = F i := by
      intro i hi
      rw [Pl.ent_eq _ _ (by simpa using hi)]; simp
    refine ⟨_, _, _, (List.range len).map F, rfl, hlen, hl, hm, ?_, ?_⟩
    · intro e he
      simp only [List.mem_map, List.mem_range] at he
      obtain ⟨i, hi, rfl⟩ := he
      exact (hF i hi).2
    · rcases Nat.eq_zero_or_pos len with h0 | hpos
      · subst h0; exact .inl rfl
      · right
        obtain ⟨b, off, spot⟩ := x
        have hc0 := (World.cells?_some (hF 0 hpos).1).2.2 0 (by omega)
        simp only [List.getElem?_cons_zero] at hc0
        have hsp : spot = none := by simpa [Addr.add] using World.cell?_spot hc0
        subst hsp
        refine ⟨b, off, rfl, ?_, ?_⟩
        · have := cell_lt hc0; simpa [Addr.add] using this
        · intro i hi
          rw [hlen] at hi
          rw [hent i hi]
          have hc := (World.cells?_some (hF i hi).1).2.2
          have c0 := hc 0 (by omega)
          have c1 := hc 1 (by omega)
          have c2 := hc 2 (by omega)
          have c3 := hc 3 (by omega)
          simp only [add_none, List.getElem?_cons_zero, List.getElem?_cons_succ, Nat.add_zero] at c0 c1 c2 c3
          exact ⟨c0, c1, c2, c3⟩

theorem open_ents_sized {H : Type} {enc : TypeId × Value → H} {w : World} {r : Reach} {b0 : Nat} {held : Bool} {v : Value} {d : DataW H} {p : List MemPlace}
    (hv : Value.okWide Tryd.prog w r b0 45 v) (h : DataW.Trod enc Tryd.prog w 0 (fun _ => true) held 45 v d p) :
    ∃ a len cap es, v = .slice a len cap ∧ IsEnts w a len cap es ∧ (a = none → cap = 0) ∧ ((d = .nil ∧ len = 0) ∨ ∃ el sp, d = .slice el sp ∧ el.length = len) := by
  obtain ⟨a, len, cap, es, rfl, hE⟩ := open_ents hv h
  refine ⟨a, len, cap, es, rfl, hE, ?_⟩
  obtain ⟨fuel, hf⟩ := h
  rcases Go.Deep.open_slice Tryd.underlying45 hf with ⟨hcs, hx⟩ | ⟨x, l, c, m, n, D, Q, hcs, _, hl, hm, hmm, hx, _⟩
  · simp [Value.cells] at hcs
    obtain ⟨rfl, rfl, rfl⟩ := hcs
    simp only [Prod.mk.injEq] at hx
    exact ⟨fun _ => rfl, .inl ⟨hx.1, rfl⟩⟩
  · simp [Value.cells] at hcs
    obtain ⟨rfl, rfl, rfl⟩ := hcs
    simp only [Prod.mk.injEq] at hx
    exact ⟨by simp, .inr ⟨_, _, hx.1, by simp⟩⟩
end Go.Proofs.YtcdobhdbafpkiadDoor
