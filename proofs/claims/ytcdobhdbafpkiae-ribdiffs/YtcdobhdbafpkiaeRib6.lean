/-
  Contracts: a copy of a list of numbers; fresh: the same route with hops of its own.
-/
import Derived.Test.YtcdobhdbafpkiaeRibM
import Derived.Test.YtcdobhdbafpkiaeButB
import Derived.Laws.AppendOwnNone
import Derived.OwnWalk
namespace Go.Proofs.Ytcdobhdbafpkiae
open Go.RowKit

theorem IsInts.but {B : Nat} {w w' : World} {a : Option Addr} {len cap : Nat} {zs : List Int} (h : IsInts w a len cap zs) (k : But B w w') (hne : ∀ x, a = some x → x.block ≠ B) : IsInts w' a len cap zs := by
  obtain ⟨h1, h2, h3, h4, h5⟩ := h
  refine ⟨h1, h2, h3, h4, ?_⟩
  rcases h5 with h5 | ⟨b, off, rfl, hb, hr⟩
  · exact .inl h5
  · exact .inr ⟨b, off, rfl, Nat.lt_of_lt_of_le hb k.size, fun i hi => (k.cell (p := ⟨b, off + i, none⟩) hb (hne ⟨b, off, none⟩ rfl)).trans (hr i hi)⟩
theorem Reads.but {B : Nat} {w w' : World} {h : Pl.RH} {r : Pl.Rt} (hh : Reads w h r) (k : But B w w') (hne : ∀ x, h.ha = some x → x.block ≠ B) : Reads w' h r := ⟨hh.1, hh.2.1, hh.2.2.1, hh.2.2.2.1.but k hne, hh.2.2.2.2⟩

def cellsZ (xs : List Int) : List Value := xs.map fun x => .int .i64 x
/-- a slice value over a row of numbers of the call's own -/
def OwnZ (w : World) (base : Nat) (v : Value) (xs : List Int) : Prop := w.ownsRow base 3 1 v xs.length (cellsZ xs)
theorem infoZ : (Try.prog.info? 3).map (fun i => (i.zero, i.size, i.bytes)) = some (some (.int .i64 0), 1, 8) := by kernel_rfl
theorem OwnZ.nil (w : World) (base : Nat) : OwnZ w base (.slice none 0 0) [] := World.ownsRow_nil _ _ _ _
theorem cellsZ_one (xs : List Int) : ∀ u ∈ cellsZ xs, u.oneCell' = true := by
  intro u hu
  simp [cellsZ] at hu
  obtain ⟨x, _, rfl⟩ := hu
  rfl
theorem cellsZ_get {xs : List Int} {j : Nat} {u : Value} (h : (cellsZ xs)[j]? = some u) : j < xs.length ∧ u = .int .i64 (Pl.nm xs j) := by
  unfold cellsZ at h
  rw [List.getElem?_map] at h
  cases hx : xs[j]? with
  | none => rw [hx] at h; simp at h
  | some x =>
    rw [hx] at h
    simp at h
    obtain ⟨hj, e⟩ := List.getElem?_eq_some_iff.1 hx
    exact ⟨hj, by rw [Pl.nm_eq xs j hj, e, h]⟩
theorem OwnZ.ints {w : World} {base : Nat} {v : Value} {xs : List Int} (h : OwnZ w base v xs) :
    ∃ a cap, v = .slice a xs.length cap ∧ IsInts w a xs.length cap xs ∧ (∀ x, a = some x → base ≤ x.block) := by
  obtain ⟨_, ⟨h, h1⟩ | ⟨g, cap, cur, rfl, hb, hh, hn, hm, hs, hx⟩⟩ := h
  · have e : xs = [] := List.length_eq_zero_iff.1 h1
    subst e
    exact ⟨none, 0, h, IsInts.nil w, by simp⟩
  · refine ⟨_, cap, rfl, ⟨rfl, hn, hm, by simp, .inr ⟨g, 0, rfl, lt_of_block hh, fun i hi => ?_⟩⟩, by rintro x ⟨⟩; exact hb⟩
    have hj : (cellsZ xs)[i]? = some (.int .i64 (Pl.nm xs i)) := by
      simp [cellsZ, Pl.nm, List.getD_eq_getElem?_getD, List.getElem?_eq_getElem hi]
    rw [← hx] at hj
    have hj' : cur[i]? = some (.int .i64 (Pl.nm xs i)) := by
      rw [List.getElem?_take] at hj
      split at hj
      · rw [← Array.getElem?_toList]; exact hj
      · cases hj
    simp [World.cell?, hh, hj']

theorem OwnZ.but {B : Nat} {w w' : World} {base : Nat} {v : Value} {xs : List Int} (h : OwnZ w base v xs) (k : But B w w') (hne : B < base ∨ v.ownBlock ≠ some B) : OwnZ w' base v xs := by
  obtain ⟨h0, h1⟩ := h
  refine ⟨h0, ?_⟩
  rcases h1 with h1 | ⟨g, cap, cur, rfl, hb, hh, hr⟩
  · exact .inl h1
  · refine .inr ⟨g, cap, cur, rfl, hb, (k.block g (lt_of_block hh) ?_).trans hh, hr⟩
    rcases hne with h | h
    · omega
    · intro e; apply h; simp [Value.ownBlock, e]
theorem OwnZ.mono {w : World} {base base' : Nat} {v : Value} {xs : List Int} (h : OwnZ w base v xs) (k : base' ≤ base) : OwnZ w base' v xs := by
  obtain ⟨h0, h1⟩ := h
  refine ⟨h0, ?_⟩
  rcases h1 with h1 | ⟨g, cap, cur, rfl, hb, hr⟩
  · exact .inl h1
  · exact .inr ⟨g, cap, cur, rfl, by omega, hr⟩
theorem OwnZ.below {w w' : World} {base : Nat} {v : Value} {xs : List Int} (h : OwnZ w base v xs) (k : Below w.heap.size w w') : OwnZ w' base v xs := by
  obtain ⟨h0, h1⟩ := h
  refine ⟨h0, ?_⟩
  rcases h1 with h1 | ⟨g, cap, cur, rfl, hb, hh, hr⟩
  · exact .inl h1
  · exact .inr ⟨g, cap, cur, rfl, hb, (k.block g (lt_of_block hh)).trans hh, hr⟩
/-- what a route in memory is, its hops a row of their own from block 'base' on -/
def ReadsZ (w : World) (base : Nat) (h : Pl.RH) (r : Pl.Rt) : Prop := h.p = r.p ∧ h.here = r.here ∧ h.cost = r.cost ∧ OwnZ w base (.slice h.ha h.hl h.hc) r.hops ∧ Pl.pairOk r.p
theorem ReadsZ.reads {w : World} {base : Nat} {h : Pl.RH} {r : Pl.Rt} (hz : ReadsZ w base h r) : Reads w h r ∧ (∀ x, h.ha = some x → base ≤ x.block) := by
  obtain ⟨h1, h2, h3, h4, h5⟩ := hz
  obtain ⟨a, cap, e, hi, hb⟩ := h4.ints
  simp only [Value.slice.injEq] at e
  obtain ⟨e1, e2, e3⟩ := e
  refine ⟨⟨h1, h2, h3, ?_, h5⟩, fun x hx => hb x (by rw [← e1]; exact hx)⟩
  rw [e1, e2, e3]
  exact hi
theorem ReadsZ.below {w w' : World} {base : Nat} {h : Pl.RH} {r : Pl.Rt} (hz : ReadsZ w base h r) (k : Below w.heap.size w w') : ReadsZ w' base h r := ⟨hz.1, hz.2.1, hz.2.2.1, hz.2.2.2.1.below k, hz.2.2.2.2⟩
theorem ReadsZ.mono {w : World} {base base' : Nat} {h : Pl.RH} {r : Pl.Rt} (hz : ReadsZ w base h r) (k : base' ≤ base) : ReadsZ w base' h r := ⟨hz.1, hz.2.1, hz.2.2.1, hz.2.2.2.1.mono k, hz.2.2.2.2⟩

theorem append_copyI {w : World} {ops : Array Oper} {rest : List Oper} {o : Oper} {a : Act} {Q : Exit → Act → World → Prop} (hgd : o.guard = none) (s x : Operand)
    (ho : o.op = .call { callee := .builtin .append, args := #[s, x], argTypes := #[28, 28] })
    (ao : Option Addr) (len cap : Nat) (zs : List Int) (hs : a.eval s = .slice none 0 0) (hx : a.eval x = .slice ao len cap) (hE : IsInts w ao len cap zs) (hb : len * 8 ≤ 140737488351232)
    (h : ∀ v' w', OwnZ w' w.heap.size v' zs → Below w.heap.size w w' → wpList Try.prog ops Q rest (a.put o.dst v') w') : wpList Try.prog ops Q (o :: rest) a w := by
  obtain ⟨i0, hi0, hz0, hz1, hz2⟩ := info_parts infoZ
  obtain ⟨hl, hc, hm, hnil, hrow⟩ := hE
  rcases ao with _ | ad
  · obtain rfl := hnil rfl
    obtain rfl : len = 0 := by omega
    obtain rfl : zs = [] := List.length_eq_zero_iff.1 hl
    exact wpList_append_own_none hgd s x 28 ho w.heap.size 3 i0 1 Try.underlying28 hi0 _ 0 [] hs (World.ownsRow_nil _ _ _ _) hx (h _ _ (OwnZ.nil _ _) (Below.refl _ _))
  · refine wpList_append_own (w := w) hgd s x 28 ho w.heap.size 3 i0 _ 1 8 Try.underlying28 hi0 hz0 hz1 hz2 rfl (by decide) _ 0 [] hs (World.ownsRow_nil _ _ _ _) ad len cap (cellsZ zs) hx (by simp [cellsZ, hl]) ?_ (cellsZ_one _) (by unfold maxLen; omega) (by omega) (Nat.le_refl _) ?_
    · intro j u hj
      obtain ⟨hj1, rfl⟩ := cellsZ_get hj
      rcases hrow with rfl | ⟨b, off, hba, _, hr⟩
      · simp at hj1
      · cases hba
        rw [add_none]
        exact hr j hj1
    · intro v' w' hown hg _
      rw [List.nil_append] at hown
      refine h v' w' ?_ ((Below.refl _ _).grown hg (Nat.le_refl _) (by intro k hk; cases hk))
      unfold OwnZ
      rw [hl]
      simpa using hown

theorem heapNewZ (w : World) (o : Obj) : (w.alloc o).heap[w.heap.size]? = some o := by
  show (w.heap.push o)[w.heap.size]? = _
  simp
theorem freshBox {w w3 : World} {c0 c1 c2 c3 c4 d0 d1 d2 d3 d4 : Value} {T : TypeId} (hb : Below ((w.alloc (.cells #[c0, c1, c2, c3, c4] T)).alloc (.cells #[d0, d1, d2, d3, d4] T)).heap.size ((w.alloc (.cells #[c0, c1, c2, c3, c4] T)).alloc (.cells #[d0, d1, d2, d3, d4] T)) w3) :
    (w3.cell? ⟨w.heap.size, 0, none⟩ = some c0 ∧ w3.cell? ⟨w.heap.size, 1, none⟩ = some c1 ∧ w3.cell? ⟨w.heap.size, 2, none⟩ = some c2 ∧ w3.cell? ⟨w.heap.size, 3, none⟩ = some c3 ∧ w3.cell? ⟨w.heap.size, 4, none⟩ = some c4) ∧
    (w3.cell? ⟨w.heap.size + 1, 0, none⟩ = some d0 ∧ w3.cell? ⟨w.heap.size + 1, 1, none⟩ = some d1 ∧ w3.cell? ⟨w.heap.size + 1, 2, none⟩ = some d2 ∧ w3.cell? ⟨w.heap.size + 1, 3, none⟩ = some d3 ∧ w3.cell? ⟨w.heap.size + 1, 4, none⟩ = some d4) ∧
    (∀ o, w3.frozen? ⟨w.heap.size, o, none⟩ = false) ∧ (∀ o, w3.frozen? ⟨w.heap.size + 1, o, none⟩ = false) := by
  have hs : ((w.alloc (.cells #[c0, c1, c2, c3, c4] T)).alloc (.cells #[d0, d1, d2, d3, d4] T)).heap.size = w.heap.size + 2 := by simp
  have hc : ∀ (b o : Nat) (v : Value), b < w.heap.size + 2 → ((w.alloc (.cells #[c0, c1, c2, c3, c4] T)).alloc (.cells #[d0, d1, d2, d3, d4] T)).cell? ⟨b, o, none⟩ = some v → w3.cell? ⟨b, o, none⟩ = some v := fun b o v hlt hv => (hb.cell (p := ⟨b, o, none⟩) (by rw [hs]; exact hlt)).trans hv
  refine ⟨⟨hc _ _ _ (by omega) (by simp), hc _ _ _ (by omega) (by simp), hc _ _ _ (by omega) (by simp), hc _ _ _ (by omega) (by simp), hc _ _ _ (by omega) (by simp)⟩, ⟨hc _ _ _ (by omega) ?_, hc _ _ _ (by omega) ?_, hc _ _ _ (by omega) ?_, hc _ _ _ (by omega) ?_, hc _ _ _ (by omega) ?_⟩, ?_, ?_⟩
  iterate 5
    have e := World.size_alloc w (.cells #[c0, c1, c2, c3, c4] T)
    rw [← e]; simp
  · intro o
    rw [hb.frozen (p := ⟨w.heap.size, o, none⟩) (by rw [hs]; show w.heap.size < _; omega)]
    have e : ((w.alloc (.cells #[c0, c1, c2, c3, c4] T)).alloc (.cells #[d0, d1, d2, d3, d4] T)).heap[w.heap.size]? = some (.cells #[c0, c1, c2, c3, c4] T) := by
      rw [Below.heap_alloc _ _ _ (by simp)]; exact heapNewZ w _
    simp only [World.frozen?, e]
    simp
  · intro o
    rw [hb.frozen (p := ⟨w.heap.size + 1, o, none⟩) (by rw [hs]; show w.heap.size + 1 < _; omega)]
    have e : ((w.alloc (.cells #[c0, c1, c2, c3, c4] T)).alloc (.cells #[d0, d1, d2, d3, d4] T)).heap[w.heap.size + 1]? = some (.cells #[d0, d1, d2, d3, d4] T) := by
      have h := heapNewZ (w.alloc (.cells #[c0, c1, c2, c3, c4] T)) (.cells #[d0, d1, d2, d3, d4] T)
      rwa [World.size_alloc] at h
    simp only [World.frozen?, e]
    simp

set_option maxHeartbeats 1000000 in
theorem fresh_own (h : Pl.RH) (r : Pl.Rt) (w : World) (hr : Reads w h r) (hl : h.hl ≤ 1000) :
    Calls Try.prog 25 #[.agg #[.int .i64 h.p.1, .int .i64 h.p.2, .bool h.here, .int .i64 h.cost, .slice h.ha h.hl h.hc]] w fun e w' =>
      ∃ g : Pl.RH, e = .returned (.agg #[.int .i64 g.p.1, .int .i64 g.p.2, .bool g.here, .int .i64 g.cost, .slice g.ha g.hl g.hc]) ∧ ReadsZ w' w.heap.size g r ∧ Below w.heap.size w w' := by
  obtain ⟨h1, h2, h3, h4, h5⟩ := hr
  have HI := hid h4
  have HX := hid (And.intro h1 (And.intro h2 (And.intro h3 h5)))
  clear h1 h2 h3 h4 h5
  obtain ⟨⟨p1, p2⟩, here, cost, ha, hln, hc⟩ := h
  simp only at HI HX hl
  simp only
  have HB : Hid (Below w.heap.size w ((w.alloc (.cells #[.int .i64 p1, .int .i64 p2, .bool here, .int .i64 cost, .slice ha hln hc] 30)).alloc (.cells #[.int .i64 0, .int .i64 0, .bool false, .int .i64 0, .slice none 0 0] 30))) := hid (((Below.refl _ _).alloc (Nat.le_refl _) _).alloc (by simp) _)
  go_enter Try.func25, Try.ntmps25
  go_wp2_with (at_builtin; refine append_copyI rfl _ _ rfl ha hln hc r.hops rfl rfl (HI.out.below HB.out) (by omega) ?_; intro v' w3 hown3 hb3; obtain ⟨a3, cap3, rfl, _, _⟩ := hown3.ints; have HI3 := hid hown3; clear hown3; have x0 := freshBox hb3; obtain ⟨⟨x0, x1, x2, x3, x4⟩, ⟨y0, y1, y2, y3, y4⟩, xf, yf⟩ := x0)
  have HB3 := hid hb3
  clear hb3
  have HK : Hid (Below w.heap.size w w3) := hid (HB.out.trans (HB3.out.mono (by simp; omega)))
  refine bodyPost_ret (v := .agg #[.int .i64 p1, .int .i64 p2, .bool here, .int .i64 cost, .slice a3 r.hops.length cap3]) (by simp [results, Try.results25, go_sem, y0, y1, y2, y3, y4]) rfl ?_
  have hu1 : But w.heap.size w3 (w3.setCell ⟨w.heap.size, 4, none⟩ (.slice a3 r.hops.length cap3)) := (But.refl _ _).setCell _ _
  refine ⟨⟨(p1, p2), here, cost, a3, r.hops.length, cap3⟩, rfl, ⟨HX.out.1, HX.out.2.1, HX.out.2.2.1, ?_, HX.out.2.2.2⟩, ?_⟩
  · refine OwnZ.mono (base := w.heap.size + 2) ?_ (by omega)
    refine OwnZ.but (B := w.heap.size + 1) (w := w3.setCell ⟨w.heap.size, 4, none⟩ (.slice a3 r.hops.length cap3)) (OwnZ.but (OwnZ.mono HI3.out (by simp)) hu1 (.inl (by omega))) ?_ (.inl (by omega))
    exact (((((But.refl _ _).setCell _ _).setCell _ _).setCell _ _).setCell _ _).setCell _ _
  · exact ((((((HK.out.setCell (Nat.le_refl _) _).setCell (by simp) _).setCell (by simp) _).setCell (by simp) _).setCell (by simp) _).setCell (by simp) _)
theorem fresh_any (h : Pl.RH) (r : Pl.Rt) (w : World) (hr : Reads w h r) (hl : h.hl ≤ 1000) :
    Calls Try.prog 25 #[.agg #[.int .i64 h.p.1, .int .i64 h.p.2, .bool h.here, .int .i64 h.cost, .slice h.ha h.hl h.hc]] w fun e w' =>
      ∃ g : Pl.RH, e = .returned (.agg #[.int .i64 g.p.1, .int .i64 g.p.2, .bool g.here, .int .i64 g.cost, .slice g.ha g.hl g.hc]) ∧ Reads w' g r ∧ (∀ x, g.ha = some x → w.heap.size ≤ x.block) ∧ Below w.heap.size w w' :=
  (fresh_own h r w hr hl).mono fun _ _ ⟨g, h1, h2, h3⟩ => ⟨g, h1, h2.reads.1, h2.reads.2, h3⟩
end Go.Proofs.Ytcdobhdbafpkiae
