/-
  Plain: the document's table as a list, address by address and bits by bits, is the program's; no program in sight.
-/
import Derived.Test.YtmdjbdolegojcaaGreatDoorAll6
namespace Go.Proofs.YtmdjbdolegojcaaGreatDoor
open Go.RowKit
set_option maxRecDepth 20000

/-- the document's route to a prefix, if the prefix may be -/
def Pl.rX (es : List Pl.Ent) (f a b : Nat) : List Pl.Rt := if (a : Int) % Pl.span (b : Int) = 0 then (Pl.rRt (Pl.wC es f) (Pl.wH es f) (Pl.tP es) f ((a : Int), (b : Int))).toList else []
def Pl.rB (es : List Pl.Ent) (f a : Nat) : Nat → List Pl.Rt
  | 0 => []
  | k + 1 => Pl.rB es f a k ++ Pl.rX es f a k
def Pl.rA (es : List Pl.Ent) (f : Nat) : Nat → List Pl.Rt
  | 0 => []
  | k + 1 => Pl.rA es f k ++ Pl.rB es f k 9
theorem Pl.mem_rX {es : List Pl.Ent} {f a b : Nat} (hf : f < 12) {r : Pl.Rt} : r ∈ Pl.rX es f a b ↔ (a : Int) % Pl.span (b : Int) = 0 ∧ Pl.getT (Pl.wC es f) (Pl.wH es f) (Pl.tP es) f ((a : Int), (b : Int)) 12 = some r := by
  unfold Pl.rX
  rw [Pl.rRt_same es hf]
  split
  · rename_i h; simp [h, eq_comm]
  · rename_i h; simp [h]
theorem Pl.rX_p {es : List Pl.Ent} {f a b : Nat} (hf : f < 12) {r : Pl.Rt} (h : r ∈ Pl.rX es f a b) : r.p = ((a : Int), (b : Int)) :=
  (Pl.getT_ok (Pl.tab_WP es hf) _ 12 (Nat.le_refl _) r ((Pl.mem_rX hf).1 h).2).2
theorem Pl.mem_rB {es : List Pl.Ent} {f a : Nat} {r : Pl.Rt} : ∀ k, r ∈ Pl.rB es f a k ↔ ∃ b, b < k ∧ r ∈ Pl.rX es f a b
  | 0 => by simp [Pl.rB]
  | k + 1 => by
    unfold Pl.rB
    rw [List.mem_append, Pl.mem_rB k]
    constructor
    · rintro (⟨b, h1, h2⟩ | h)
      · exact ⟨b, by omega, h2⟩
      · exact ⟨k, by omega, h⟩
    · rintro ⟨b, h1, h2⟩
      rcases Nat.lt_or_ge b k with q | q
      · exact .inl ⟨b, q, h2⟩
      · rw [show b = k by omega] at h2; exact .inr h2
theorem Pl.mem_rA {es : List Pl.Ent} {f : Nat} {r : Pl.Rt} : ∀ k, r ∈ Pl.rA es f k ↔ ∃ a, a < k ∧ r ∈ Pl.rB es f a 9
  | 0 => by simp [Pl.rA]
  | k + 1 => by
    unfold Pl.rA
    rw [List.mem_append, Pl.mem_rA k]
    constructor
    · rintro (⟨b, h1, h2⟩ | h)
      · exact ⟨b, by omega, h2⟩
      · exact ⟨k, by omega, h⟩
    · rintro ⟨b, h1, h2⟩
      rcases Nat.lt_or_ge b k with q | q
      · exact .inl ⟨b, q, h2⟩
      · rw [show b = k by omega] at h2; exact .inr h2
theorem Pl.rX_one (es : List Pl.Ent) (f a b : Nat) : Pl.SrtR (Pl.rX es f a b) ∧ (Pl.rX es f a b).length ≤ 1 := by
  unfold Pl.rX
  split
  · cases Pl.rRt (Pl.wC es f) (Pl.wH es f) (Pl.tP es) f ((a : Int), (b : Int)) with
    | none => exact ⟨List.Pairwise.nil, by simp⟩
    | some r => exact ⟨List.pairwise_singleton _ _, by simp⟩
  · exact ⟨List.Pairwise.nil, by simp⟩
theorem Pl.rB_srt {es : List Pl.Ent} {f : Nat} (hf : f < 12) (a : Nat) : ∀ k, Pl.SrtR (Pl.rB es f a k) ∧ (Pl.rB es f a k).length ≤ k
  | 0 => ⟨List.Pairwise.nil, by simp [Pl.rB]⟩
  | k + 1 => by
    obtain ⟨h1, h2⟩ := Pl.rB_srt (es := es) hf a k
    obtain ⟨g1, g2⟩ := Pl.rX_one es f a k
    unfold Pl.rB
    refine ⟨List.pairwise_append.2 ⟨h1, g1, fun x hx y hy => ?_⟩, by simp; omega⟩
    obtain ⟨b, hb, hx⟩ := (Pl.mem_rB k).1 hx
    rw [Pl.rX_p hf hx, Pl.rX_p hf hy, Pl.pltB_iff]
    right
    exact ⟨rfl, by show (b : Int) < (k : Int); omega⟩
theorem Pl.rA_srt {es : List Pl.Ent} {f : Nat} (hf : f < 12) : ∀ k, Pl.SrtR (Pl.rA es f k) ∧ (Pl.rA es f k).length ≤ k * 9
  | 0 => ⟨List.Pairwise.nil, by simp [Pl.rA]⟩
  | k + 1 => by
    obtain ⟨h1, h2⟩ := Pl.rA_srt (es := es) hf k
    obtain ⟨g1, g2⟩ := Pl.rB_srt (es := es) hf k 9
    unfold Pl.rA
    refine ⟨List.pairwise_append.2 ⟨h1, g1, fun x hx y hy => ?_⟩, by simp; omega⟩
    obtain ⟨a, ha, hx⟩ := (Pl.mem_rA k).1 hx
    obtain ⟨b, _, hx⟩ := (Pl.mem_rB 9).1 hx
    obtain ⟨c, _, hy⟩ := (Pl.mem_rB 9).1 hy
    rw [Pl.rX_p hf hx, Pl.rX_p hf hy, Pl.pltB_iff]
    left
    show (a : Int) < (k : Int)
    omega
theorem Pl.srtR_mem {a b : List Pl.Rt} (ha : Pl.SrtR a) (hb : Pl.SrtR b) (h : ∀ r, r ∈ a ↔ r ∈ b) : a = b := by
  refine Pl.srtR_ext ha hb fun q => ?_
  cases e1 : Pl.getR a q with
  | some r =>
    obtain ⟨h1, h2⟩ := Pl.getR_some e1
    rw [← h2]
    exact (Pl.getR_mem hb ((h r).1 h1)).symm
  | none =>
    cases e2 : Pl.getR b q with
    | none => rfl
    | some r =>
      obtain ⟨h1, h2⟩ := Pl.getR_some e2
      have := Pl.getR_mem ha ((h r).2 h1)
      rw [h2, e1] at this
      cases this
/-- both tables are the same -/
theorem Pl.rA_all (es : List Pl.Ent) {f : Nat} (hf : f < 12) : Pl.rA es f 256 = Pl.tabL es f := by
  have hg := (Pl.tabL_good es hf).1
  refine Pl.srtR_mem (Pl.rA_srt hf 256).1 hg.2.2 fun r => ?_
  rw [Pl.mem_rA]
  constructor
  · rintro ⟨a, ha, h⟩
    obtain ⟨b, hb, h⟩ := (Pl.mem_rB 9).1 h
    obtain ⟨_, h2⟩ := (Pl.mem_rX hf).1 h
    rw [← Pl.tabL_get] at h2
    exact (Pl.getR_some h2).1
  · intro h
    have h1 := Pl.getR_mem hg.2.2 h
    rw [Pl.tabL_get] at h1
    have hr := (Pl.routeB_iff r).1 (hg.2.1 r h)
    have hz := Pl.pfx1_zero hr.1
    have hm : r.p.1 % Pl.span r.p.2 = 0 := by
      have := hr.1
      unfold Pl.pfx1 at this
      split at this
      · split at this
        · assumption
        · cases this
      · cases this
    have e : r.p = ((r.p.1.toNat : Int), (r.p.2.toNat : Int)) := by
      rw [show ((r.p.1.toNat : Nat) : Int) = r.p.1 by omega, show ((r.p.2.toNat : Nat) : Int) = r.p.2 by omega]
    refine ⟨r.p.1.toNat, by omega, (Pl.mem_rB 9).2 ⟨r.p.2.toNat, by omega, (Pl.mem_rX hf).2 ⟨?_, ?_⟩⟩⟩
    · rw [show ((r.p.1.toNat : Nat) : Int) = r.p.1 by omega, show ((r.p.2.toNat : Nat) : Int) = r.p.2 by omega]; exact hm
    · rw [← e]; exact h1
end Go.Proofs.YtmdjbdolegojcaaGreatDoor
