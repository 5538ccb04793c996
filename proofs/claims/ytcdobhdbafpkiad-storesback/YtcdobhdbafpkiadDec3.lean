/-
  Contract: the reader's entry.
-/
import Derived.Test.YtcdobhdbafpkiadDec2
namespace Go.Proofs.Ytcdobhdbafpkiad
open Go.RowKit
set_option maxRecDepth 20000

theorem blk_set {w : World} {b : Nat} {cs : Array Value} {T : TypeId} {z : Nat × Nat} {o : Nat} {v : Value} (h : w.heap[b]? = some (.cells cs T z)) :
    (w.setCell ⟨b, o, none⟩ v).heap[b]? = some (.cells (cs.setIfInBounds o v) T z) := by
  simp only [World.setCell, Array.getElem?_modify, h]
  simp
theorem blk4 {w : World} {b : Nat} {c0 c1 c2 c3 : Value} {T : TypeId} (h : w.heap[b]? = some (.cells #[c0, c1, c2, c3] T (0, 0))) :
    (w.cell? ⟨b, 0, none⟩ = some c0 ∧ w.cell? ⟨b, 1, none⟩ = some c1 ∧ w.cell? ⟨b, 2, none⟩ = some c2 ∧ w.cell? ⟨b, 3, none⟩ = some c3) ∧
    (w.frozen? ⟨b, 0, none⟩ = false ∧ w.frozen? ⟨b, 1, none⟩ = false ∧ w.frozen? ⟨b, 2, none⟩ = false ∧ w.frozen? ⟨b, 3, none⟩ = false) := by
  refine ⟨⟨?_, ?_, ?_, ?_⟩, ⟨?_, ?_, ?_, ?_⟩⟩
  all_goals simp [World.cell?, World.frozen?, h]
theorem RdAt.keep {w w' : World} {B R : Nat} {c : Int} {rs : List UInt8} (h : RdAt w B R c rs) (hs : w.heap.size ≤ w'.heap.size) (hk : ∀ k, k < w.heap.size → (k < B ∨ k = R) → w'.heap[k]? = w.heap[k]?) : RdAt w' B R c rs := by
  obtain ⟨a, len, cap, h0, h1, f0, f1, hI, hn, hx, hB, hR, hc⟩ := h
  have hRR := hk R hR (.inr rfl)
  refine ⟨a, len, cap, (World.cell?_of_block (w := w) hRR).trans h0, (World.cell?_of_block (w := w) hRR).trans h1, (World.frozen?_of_block (w := w) hRR).trans f0, (World.frozen?_of_block (w := w) hRR).trans f1, ?_, hn, hx, hB, by omega, hc⟩
  obtain ⟨i1, i2, i3, i5⟩ := hI
  refine ⟨i1, i2, i3, ?_⟩
  by_cases he : rs = []
  · exact .inl he
  · rcases i5 with i5 | ⟨b, off, rfl, hb, hr⟩
    · exact .inl i5
    · have hbB := hx _ rfl he
      exact .inr ⟨b, off, rfl, by omega, fun j u hj => (World.cell?_of_block (w := w) (hk b hb (.inl hbB))).trans (hr j u hj)⟩
theorem RdAt.below {w w' : World} {B R : Nat} {c : Int} {rs : List UInt8} (h : RdAt w B R c rs) (k : Below w.heap.size w w') : RdAt w' B R c rs :=
  h.keep k.size (fun i hi _ => k.block i hi)
theorem RdAt.lt {w : World} {B R : Nat} {c : Int} {rs : List UInt8} (h : RdAt w B R c rs) : R < w.heap.size ∧ B ≤ R := by
  obtain ⟨_, _, _, _, _, _, _, _, _, _, hB, hR, _⟩ := h
  exact ⟨hR, hB⟩
theorem RdAt.set {w : World} {B R b o : Nat} {c : Int} {rs : List UInt8} {v : Value} (h : RdAt w B R c rs) (hb : R < b) : RdAt (w.setCell ⟨b, o, none⟩ v) B R c rs := by
  have hl := h.lt
  exact h.keep (by simp [World.setCell]) (fun k _ hk => Below.heap_setCell _ _ _ _ (by simp; omega))
theorem Only.set_new {R b o : Nat} {a w : World} {v : Value} (h : Only R a w) (hb : a.heap.size ≤ b) : Only R a (w.setCell ⟨b, o, none⟩ v) :=
  ⟨h.os, h.tape, h.output, by have := h.size; simpa [World.setCell] using this, fun k hk hne => (Below.heap_setCell _ _ _ _ (by simp; omega)).trans (h.block k hk hne)⟩
theorem Only.blk {R b : Nat} {w w' : World} {o : Obj} (h : Only R w w') (hb : w.heap[b]? = some o) (hne : R < b) : w'.heap[b]? = some o :=
  (h.block b (lt_of_block hb) (fun e => by cases e; omega)).trans hb

set_option maxHeartbeats 1000000 in
theorem entry_any (B R : Nat) (c : Int) (rs : List UInt8) (w : World) (h : RdAt w B R c rs) :
    Calls Try.prog 47 #[.pointer (some ⟨R, 0, none⟩)] w fun e w' =>
      e = .returned (.agg #[.string (Pl.ent4 c rs).1.key, .int .i64 (Pl.ent4 c rs).1.ver, .int .i64 (Pl.ent4 c rs).1.org, .string (Pl.ent4 c rs).1.val]) ∧ RdAt w' B R (Pl.ent4 c rs).2.1 (Pl.ent4 c rs).2.2 ∧ Only R w w' := by
  have HD := hid h
  obtain ⟨hRw, hBR⟩ := h.lt
  clear h
  obtain ⟨s1, c1, r1, H1⟩ : ∃ a b d, Hid (Pl.txt c rs = (a, b, d)) := ⟨_, _, _, rfl⟩
  obtain ⟨v2, c2, r2, H2⟩ : ∃ a b d, Hid (Pl.ver c1 r1 = (a, b, d)) := ⟨_, _, _, rfl⟩
  obtain ⟨n3, c3, r3, H3⟩ : ∃ a b d, Hid (Pl.num c2 r2 = (a, b, d)) := ⟨_, _, _, rfl⟩
  obtain ⟨s4, c4, r4, H4⟩ : ∃ a b d, Hid (Pl.txt c3 r3 = (a, b, d)) := ⟨_, _, _, rfl⟩
  have HE : Hid (Pl.ent4 c rs = (⟨s1, v2, n3, s4⟩, c4, r4)) := by
    show _ = _
    unfold Pl.ent4
    rw [H1.out]; simp only
    rw [H2.out]; simp only
    rw [H3.out]; simp only
    rw [H4.out]
  have hbx : Below w.heap.size w ((w.alloc (.cells #[.string ⟨#[]⟩, .int .i64 0, .int .i64 0, .string ⟨#[]⟩] 28)).alloc (.cells #[.string ⟨#[]⟩, .int .i64 0, .int .i64 0, .string ⟨#[]⟩] 28)) := ((Below.refl _ _).alloc (Nat.le_refl _) _).alloc (by simp) _
  have HBX := hid hbx
  have e0 : ((w.alloc (.cells #[.string ⟨#[]⟩, .int .i64 0, .int .i64 0, .string ⟨#[]⟩] 28)).alloc (.cells #[.string ⟨#[]⟩, .int .i64 0, .int .i64 0, .string ⟨#[]⟩] 28)).heap[w.heap.size]? = some (.cells #[.string ⟨#[]⟩, .int .i64 0, .int .i64 0, .string ⟨#[]⟩] 28 (0, 0)) := by
    rw [Below.heap_alloc _ _ _ (by simp)]; exact heap_new w _
  have e1 : ((w.alloc (.cells #[.string ⟨#[]⟩, .int .i64 0, .int .i64 0, .string ⟨#[]⟩] 28)).alloc (.cells #[.string ⟨#[]⟩, .int .i64 0, .int .i64 0, .string ⟨#[]⟩] 28)).heap[w.heap.size + 1]? = some (.cells #[.string ⟨#[]⟩, .int .i64 0, .int .i64 0, .string ⟨#[]⟩] 28 (0, 0)) := by
    have := heap_new (w.alloc (.cells #[.string ⟨#[]⟩, .int .i64 0, .int .i64 0, .string ⟨#[]⟩] 28)) (.cells #[.string ⟨#[]⟩, .int .i64 0, .int .i64 0, .string ⟨#[]⟩] 28)
    simpa using this
  have E0 := hid e0
  have E1 := hid e1
  clear hbx e0 e1
  go_enter Try.func47, Try.ntmps47
  go_wp2_with fail
  have hc1 := text_any B R c rs _ (HD.out.below HBX.out)
  rw [H1.out] at hc1
  refine hc1.mono ?_
  rintro e w1 ⟨rfl, hr1, ho1⟩
  have hz1 := ho1.size
  simp at hz1
  have HR1 := hid hr1
  have a0 := ho1.blk E0.out (by omega)
  have a1 := ho1.blk E1.out (by omega)
  obtain ⟨⟨x0, x1, x2, x3⟩, ⟨y0, y1, y2, y3⟩⟩ := blk4 a1
  have A0 := hid a0
  have A1 := hid a1
  clear a0 a1 hr1 hc1
  go_wp2_with fail
  have hc2 := version_any B R c1 r1 _ (HR1.out.set (b := w.heap.size + 1) (o := 0) (v := .string s1) (by omega))
  rw [H2.out] at hc2
  refine hc2.mono ?_
  rintro e w2 ⟨rfl, hr2, ho2⟩
  have hz2 := ho2.size
  simp [World.setCell] at hz2
  have HR2 := hid hr2
  have b0 := ho2.blk ((Below.heap_setCell _ _ _ _ (by simp)).trans A0.out) (by omega)
  have b1 := ho2.blk (blk_set A1.out) (by omega)
  simp at b1
  clear x0 x1 x2 x3 y0 y1 y2 y3 hr2 hc2
  obtain ⟨⟨x0, x1, x2, x3⟩, ⟨y0, y1, y2, y3⟩⟩ := blk4 b1
  have B0 := hid b0
  have B1 := hid b1
  clear b0 b1
  go_wp2_with fail
  have hc3 := number_any B R c2 r2 _ (HR2.out.set (b := w.heap.size + 1) (o := 1) (v := .int .i64 v2) (by omega))
  rw [H3.out] at hc3
  refine hc3.mono ?_
  rintro e w3 ⟨rfl, hr3, ho3⟩
  have hz3 := ho3.size
  simp [World.setCell] at hz3
  have HR3 := hid hr3
  have d0 := ho3.blk ((Below.heap_setCell _ _ _ _ (by simp)).trans B0.out) (by omega)
  have d1 := ho3.blk (blk_set B1.out) (by omega)
  simp at d1
  clear x0 x1 x2 x3 y0 y1 y2 y3 hr3 hc3
  obtain ⟨⟨x0, x1, x2, x3⟩, ⟨y0, y1, y2, y3⟩⟩ := blk4 d1
  have D0 := hid d0
  have D1 := hid d1
  clear d0 d1
  go_wp2_with fail
  have hc4 := text_any B R c3 r3 _ (HR3.out.set (b := w.heap.size + 1) (o := 2) (v := .int .i64 n3) (by omega))
  rw [H4.out] at hc4
  refine hc4.mono ?_
  rintro e w4 ⟨rfl, hr4, ho4⟩
  have hz4 := ho4.size
  simp [World.setCell] at hz4
  have HR4 := hid hr4
  have g0 := ho4.blk ((Below.heap_setCell _ _ _ _ (by simp)).trans D0.out) (by omega)
  have g1 := ho4.blk (blk_set D1.out) (by omega)
  simp at g1
  clear x0 x1 x2 x3 y0 y1 y2 y3 hr4 hc4
  obtain ⟨⟨x0, x1, x2, x3⟩, ⟨y0, y1, y2, y3⟩⟩ := blk4 g1
  obtain ⟨⟨z0, z1, z2, z3⟩, ⟨t0, t1, t2, t3⟩⟩ := blk4 g0
  clear g0 g1
  go_wp2_with fail
  have o1 := (Only.of_below (R := R) HBX.out).trans ho1
  have o2 := (o1.set_new (b := w.heap.size + 1) (o := 0) (v := .string s1) (by omega)).trans ho2
  have o3 := (o2.set_new (b := w.heap.size + 1) (o := 1) (v := .int .i64 v2) (by omega)).trans ho3
  have o4 := (o3.set_new (b := w.heap.size + 1) (o := 2) (v := .int .i64 n3) (by omega)).trans ho4
  refine bodyPost_ret (v := .agg #[.string (Pl.ent4 c rs).1.key, .int .i64 (Pl.ent4 c rs).1.ver, .int .i64 (Pl.ent4 c rs).1.org, .string (Pl.ent4 c rs).1.val]) (by rw [HE.out]; simp [results, Try.results47, go_sem, z0, z1, z2, z3]) rfl ⟨rfl, ?_, ?_⟩
  · rw [HE.out]
    exact ((((HR4.out.set (by omega)).set (by omega)).set (by omega)).set (by omega)).set (by omega)
  · exact ((((o4.set_new (by omega)).set_new (by omega)).set_new (by omega)).set_new (by omega)).set_new (by omega)
end Go.Proofs.Ytcdobhdbafpkiad
