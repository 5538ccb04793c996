/-
  Slices of numbers and of routes in memory.
-/
import Derived.Test.YtcdobhdbafpkiaePair
import Derived.Test.YtcdobhdbafpkiaeRibP
namespace Go.Proofs.Ytcdobhdbafpkiae
open Go.RowKit

/-- the cells of numbers, one behind the other -/
def IntsAt (w : World) (b off : Nat) (zs : List Int) : Prop := ∀ i, i < zs.length → w.cell? ⟨b, off + i, none⟩ = some (.int .i64 (Pl.nm zs i))
/-- a slice of numbers -/
def IsInts (w : World) (a : Option Addr) (len cap : Nat) (zs : List Int) : Prop :=
  zs.length = len ∧ len ≤ cap ∧ cap ≤ maxLen ∧ (a = none → cap = 0) ∧ (zs = [] ∨ ∃ b off, a = some ⟨b, off, none⟩ ∧ b < w.heap.size ∧ IntsAt w b off zs)
theorem IntsAt.below {w w' : World} {b off : Nat} {zs : List Int} (h : IntsAt w b off zs) (hb : b < w.heap.size) (k : Below w.heap.size w w') : IntsAt w' b off zs :=
  fun i hi => (k.cell (p := ⟨b, _, none⟩) hb).trans (h i hi)
theorem IsInts.below {w w' : World} {a : Option Addr} {len cap : Nat} {zs : List Int} (h : IsInts w a len cap zs) (k : Below w.heap.size w w') : IsInts w' a len cap zs := by
  obtain ⟨h1, h2, h3, h4, h5⟩ := h
  refine ⟨h1, h2, h3, h4, ?_⟩
  rcases h5 with h5 | ⟨b, off, rfl, hb, hr⟩
  · exact .inl h5
  · exact .inr ⟨b, off, rfl, Nat.lt_of_lt_of_le hb k.size, hr.below hb k⟩
theorem IsInts.nil (w : World) : IsInts w none 0 0 [] := ⟨rfl, Nat.le_refl _, by simp, fun _ => rfl, .inl rfl⟩

/-- a route as it lies in memory: its hops are a slice -/
structure Pl.RH where
  p : Int × Int
  here : Bool
  cost : Int
  ha : Option Addr
  hl : Nat
  hc : Nat
def Pl.RH.none : Pl.RH := ⟨(0, 0), false, 0, Option.none, 0, 0⟩
def Pl.rh (hs : List Pl.RH) (i : Nat) : Pl.RH := hs.getD i Pl.RH.none
theorem Pl.rh_eq (hs : List Pl.RH) (i : Nat) (h : i < hs.length) : Pl.rh hs i = hs[i] := by simp [Pl.rh, List.getD, h]
theorem Pl.rh_mem (hs : List Pl.RH) (i : Nat) (h : i < hs.length) : Pl.rh hs i ∈ hs := by rw [Pl.rh_eq hs i h]; exact List.getElem_mem h
theorem Pl.rh_cons_succ (e : Pl.RH) (es : List Pl.RH) (i : Nat) : Pl.rh (e :: es) (i + 1) = Pl.rh es i := by simp [Pl.rh]
theorem Pl.rh_cons_zero (e : Pl.RH) (es : List Pl.RH) : Pl.rh (e :: es) 0 = e := by simp [Pl.rh]

/-- the cells of routes, one behind the other -/
def RowsAt (w : World) (b off : Nat) (hs : List Pl.RH) : Prop := ∀ i, i < hs.length →
  w.cell? ⟨b, off + i * 5, none⟩ = some (.int .i64 (Pl.rh hs i).p.1) ∧ w.cell? ⟨b, off + i * 5 + 1, none⟩ = some (.int .i64 (Pl.rh hs i).p.2) ∧
  w.cell? ⟨b, off + i * 5 + 2, none⟩ = some (.bool (Pl.rh hs i).here) ∧ w.cell? ⟨b, off + i * 5 + 3, none⟩ = some (.int .i64 (Pl.rh hs i).cost) ∧
  w.cell? ⟨b, off + i * 5 + 4, none⟩ = some (.slice (Pl.rh hs i).ha (Pl.rh hs i).hl (Pl.rh hs i).hc)
/-- a slice of routes -/
def IsRows (w : World) (a : Option Addr) (len cap : Nat) (hs : List Pl.RH) : Prop :=
  hs.length = len ∧ len ≤ cap ∧ cap ≤ maxLen ∧ (a = none → cap = 0) ∧ (hs = [] ∨ ∃ b off, a = some ⟨b, off, none⟩ ∧ b < w.heap.size ∧ RowsAt w b off hs)
theorem RowsAt.below {w w' : World} {b off : Nat} {hs : List Pl.RH} (h : RowsAt w b off hs) (hb : b < w.heap.size) (k : Below w.heap.size w w') : RowsAt w' b off hs := by
  intro i hi
  obtain ⟨c0, c1, c2, c3, c4⟩ := h i hi
  exact ⟨(k.cell (p := ⟨b, _, none⟩) hb).trans c0, (k.cell (p := ⟨b, _, none⟩) hb).trans c1, (k.cell (p := ⟨b, _, none⟩) hb).trans c2, (k.cell (p := ⟨b, _, none⟩) hb).trans c3, (k.cell (p := ⟨b, _, none⟩) hb).trans c4⟩
theorem IsRows.below {w w' : World} {a : Option Addr} {len cap : Nat} {hs : List Pl.RH} (h : IsRows w a len cap hs) (k : Below w.heap.size w w') : IsRows w' a len cap hs := by
  obtain ⟨h1, h2, h3, h4, h5⟩ := h
  refine ⟨h1, h2, h3, h4, ?_⟩
  rcases h5 with h5 | ⟨b, off, rfl, hb, hr⟩
  · exact .inl h5
  · exact .inr ⟨b, off, rfl, Nat.lt_of_lt_of_le hb k.size, hr.below hb k⟩
/-- what a route in memory is -/
def Reads (w : World) (h : Pl.RH) (r : Pl.Rt) : Prop := h.p = r.p ∧ h.here = r.here ∧ h.cost = r.cost ∧ IsInts w h.ha h.hl h.hc r.hops ∧ Pl.pairOk r.p
theorem Reads.below {w w' : World} {h : Pl.RH} {r : Pl.Rt} (hh : Reads w h r) (k : Below w.heap.size w w') : Reads w' h r := ⟨hh.1, hh.2.1, hh.2.2.1, hh.2.2.2.1.below k, hh.2.2.2.2⟩
def ReadsAll (w : World) (hs : List Pl.RH) (rs : List Pl.Rt) : Prop := hs.length = rs.length ∧ ∀ i, i < hs.length → Reads w (Pl.rh hs i) (Pl.rt rs i)
theorem ReadsAll.below {w w' : World} {hs : List Pl.RH} {rs : List Pl.Rt} (h : ReadsAll w hs rs) (k : Below w.heap.size w w') : ReadsAll w' hs rs := ⟨h.1, fun i hi => (h.2 i hi).below k⟩
theorem ReadsAll.map_p {w : World} {hs : List Pl.RH} {rs : List Pl.Rt} (h : ReadsAll w hs rs) : hs.map Pl.RH.p = rs.map Pl.Rt.p := by
  refine List.ext_getElem (by simpa using h.1) fun i h1 h2 => ?_
  simp only [List.length_map] at h1 h2
  have := (h.2 i h1).1
  rw [Pl.rh_eq hs i h1, Pl.rt_eq rs i h2] at this
  simpa using this
theorem ReadsAll.nil (w : World) : ReadsAll w [] [] := ⟨rfl, fun i h => by simp at h⟩
theorem IsRows.at {w : World} {a : Option Addr} {len cap : Nat} {hs : List Pl.RH} (h : IsRows w a len cap hs) {k : Nat} (hk : k < len) : ∃ b off, a = some ⟨b, off, none⟩ ∧ b < w.heap.size ∧ RowsAt w b off hs := by
  rcases h.2.2.2.2 with e | h'
  · have := h.1; rw [e] at this; simp at this; omega
  · exact h'
theorem IsInts.at {w : World} {a : Option Addr} {len cap : Nat} {zs : List Int} (h : IsInts w a len cap zs) {k : Nat} (hk : k < len) : ∃ b off, a = some ⟨b, off, none⟩ ∧ b < w.heap.size ∧ IntsAt w b off zs := by
  rcases h.2.2.2.2 with e | h'
  · have := h.1; rw [e] at this; simp at this; omega
  · exact h'
end Go.Proofs.Ytcdobhdbafpkiae
