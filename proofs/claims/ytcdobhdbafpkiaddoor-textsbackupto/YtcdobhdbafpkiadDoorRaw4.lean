/-
  Contract: the store of raw things.
-/
import Derived.Test.YtcdobhdbafpkiadDoorRaw3
import Derived.Test.YtcdobhdbafpkiadDoorMerge
namespace Go.Proofs.YtcdobhdbafpkiadDoor
open Go.RowKit
set_option maxRecDepth 20000

/-- a slice of raw things -/
def IsRaws (w : World) (a : Option Addr) (len cap : Nat) : Prop :=
  len ≤ cap ∧ cap ≤ maxLen ∧ (len = 0 ∨ ∃ b off, a = some ⟨b, off, none⟩ ∧ b < w.heap.size ∧ ∀ i, i < len → ∃ k0 k1 k2 k3 : Int,
    (w.cell? ⟨b, off + i * 4, none⟩ = some (.int .i64 k0) ∧ w.cell? ⟨b, off + i * 4 + 1, none⟩ = some (.int .i64 k1) ∧ w.cell? ⟨b, off + i * 4 + 2, none⟩ = some (.int .i64 k2) ∧ w.cell? ⟨b, off + i * 4 + 3, none⟩ = some (.int .i64 k3)) ∧
    (Lit.int .i64 k0).wf = true ∧ (Lit.int .i64 k1).wf = true ∧ (Lit.int .i64 k2).wf = true ∧ (Lit.int .i64 k3).wf = true)
theorem IsRaws.below {w w' : World} {a : Option Addr} {len cap : Nat} (h : IsRaws w a len cap) (k : Below w.heap.size w w') : IsRaws w' a len cap := by
  obtain ⟨h1, h2, h3⟩ := h
  refine ⟨h1, h2, ?_⟩
  rcases h3 with h3 | ⟨b, off, rfl, hb, hr⟩
  · exact .inl h3
  · refine .inr ⟨b, off, rfl, Nat.lt_of_lt_of_le hb k.size, fun i hi => ?_⟩
    obtain ⟨k0, k1, k2, k3, ⟨q0, q1, q2, q3⟩, hw⟩ := hr i hi
    have hc := (bcell k).1
    exact ⟨k0, k1, k2, k3, ⟨(hc b _ hb).trans q0, (hc b _ hb).trans q1, (hc b _ hb).trans q2, (hc b _ hb).trans q3⟩, hw⟩

namespace Pl
theorem good_nil : Good [] := (good_iff []).1 rfl
theorem good_one {x : Ent} (h : x.may = true) : Good [x] := by
  rw [← good_iff]
  simp [fault, faultN, ent, h, lowB]
theorem mrg_one {es : List Ent} {x : Ent} : (mrg es [] [x]).1 = if comesB es x then ins es x else es := by
  unfold mrg; split <;> simp [mrg]
theorem ins_len_le (es : List Ent) (x : Ent) : es.length ≤ (ins es x).length ∧ (ins es x).length ≤ es.length + 1 := by
  rw [ins_len]; split <;> omega
theorem ins_ne (es : List Ent) (x : Ent) : 1 ≤ (ins es x).length := by
  cases es with
  | nil => rw [ins_len]; simp [there]
  | cons e r => have := (ins_len_le (e :: r) x).1; simp at this; omega
theorem step_one {es : List Ent} {x : Ent} (h : Good es) (hx : x.may = true) : mergeC es [x] = 0 ∧ Good (mergeO es [x]) ∧ es.length ≤ (mergeO es [x]).length ∧ (mergeO es [x]).length ≤ es.length + 1 ∧ 1 ≤ (mergeO es [x]).length := by
  have h1 := (good_iff es).2 h
  have h2 := (good_iff [x]).2 (good_one hx)
  have hc : mergeC es [x] = 0 := by unfold mergeC; rw [if_pos h1]; exact h2
  have ho : mergeO es [x] = if comesB es x then ins es x else es := by unfold mergeO; rw [if_pos hc, mrg_one]
  refine ⟨hc, ?_, ?_⟩
  · unfold mergeO; rw [if_pos hc]; exact mrg_good _ _ _ h (by intro e he; rw [List.mem_singleton.1 he]; exact hx)
  · rw [ho]
    split
    · exact ⟨(ins_len_le es x).1, (ins_len_le es x).2, ins_ne es x⟩
    · rename_i hcm
      refine ⟨Nat.le_refl _, by omega, ?_⟩
      cases es with
      | nil => simp [comesB, there] at hcm
      | cons e r => simp
theorem step_ver {es : List Ent} {x : Ent} (h : Good es) (hx : x.may = true) (hv : ∀ y ∈ es, y.ver ≤ 4) (hx4 : x.ver ≤ 4) : ∀ y ∈ mergeO es [x], y.ver ≤ 4 := by
  have hc := (step_one h hx).1
  have ho : mergeO es [x] = if comesB es x then ins es x else es := by unfold mergeO; rw [if_pos hc, mrg_one]
  rw [ho]
  split
  · intro y hy
    rcases mem_ins hy with rfl | hy
    · exact hx4
    · exact hv y hy
  · exact hv
end Pl

set_option maxHeartbeats 2000000 in
theorem Store_any4 (a : Option Addr) (len cap : Nat) (most : Nat) (w : World) (h : IsRaws w a len cap) (hm : most ≤ 20) :
    Calls Tryd.prog 33 #[.slice a len cap, .int .i64 (most : Int)] w fun e w' => ∃ v es, e = .returned v ∧ Own w' w.heap.size v es ∧ Pl.Good es ∧ (∀ y ∈ es, y.ver ≤ 4) ∧ es.length ≤ most ∧ (1 ≤ len → 1 ≤ most → 1 ≤ es.length) ∧ Below w.heap.size w w' := by
  have HH := hid h
  have hlc := h.1
  have hcm := h.2.1
  unfold maxLen at hcm
  clear h
  go_enter Tryd.func33, Tryd.ntmps33
  go_wp2
  go_loopw [5, 6] (fun vo i wr => ∃ (k : Nat) (es : List Pl.Ent) (u : Value), u = vo ∧ k ≤ len ∧ k ≤ most ∧ i = .int .i64 k ∧ Hid (Own wr w.heap.size u es) ∧ Hid (Pl.Good es) ∧ Hid (∀ y ∈ es, y.ver ≤ 4) ∧ es.length ≤ k ∧ Hid (1 ≤ k → 1 ≤ es.length) ∧ Hid (Below w.heap.size w wr)) (fun _ i _ => len - (intOf i).toNat)
  case atStart => exact ⟨0, [], _, rfl, Nat.zero_le _, Nat.zero_le _, rfl, Own.nil _ _, Pl.good_nil, hid (by simp), Nat.le_refl _, (fun h => by omega), Below.refl _ _⟩
  case round =>
    obtain ⟨k, es, u, rfl, hk, hkm, rfl, HO, HG, HV4, hle, HNE, HB⟩ := hrel
    obtain ⟨au, cu, rfl, hE, hn, _⟩ := HO.out.shape HG.out.ok
    have HE := hid hE
    have HN := hid hn
    have HZ := hid HB.out.size
    clear hE hn
    by_cases hlt : k < len
    · by_cases hlm : k < most
      · obtain ⟨b, off, rfl, hb, hr⟩ := (HH.out.below HB.out).2.2.resolve_left (by omega)
        obtain ⟨k0, k1, k2, k3, ⟨q0, q1, q2, q3⟩, w0, w1, w2, w3⟩ := hr k hlt
        have HEN := hid (fun W => Entry_any4 k0 k1 k2 k3 W w0 w1 w2 w3)
        clear hr w0 w1 w2 w3
        go_wp2_with fail
        refine (HEN.out _).mono ?_
        rintro e w1 ⟨x, rfl, ⟨hx, hx4⟩, hb1⟩
        have HV5 : Hid (∀ y ∈ Pl.mergeO es [x], y.ver ≤ 4) := hid (Pl.step_ver HG.out hx HV4.out hx4)
        clear hx4
        obtain ⟨xk, xv, xo, xx⟩ := x
        simp only
        have hst := Pl.step_one HG.out hx
        have HX := hid hx
        have HB1 := hid hb1
        clear hb1 hx
        obtain ⟨s1, s2, s3, s4, s5⟩ := hst
        have S2 := hid s2
        have S4 := hid s4
        clear s2
        have HI1 : Hid (IsEnts (w1.alloc (.cells #[.string xk, .int .i64 xv, .int .i64 xo, .string xx] 64)) (some ⟨w1.heap.size, 0, none⟩) 1 1 [⟨xk, xv, xo, xx⟩]) := by
          refine ⟨rfl, Nat.le_refl _, by decide, ?_, .inr ⟨_, _, rfl, by simp, ?_⟩⟩
          · intro e he; rw [List.mem_singleton.1 he]; exact Pl.may_ok HX.out
          · intro i hi
            obtain rfl : i = 0 := by simp at hi; omega
            simp [Pl.ent]
        have HBA : Hid (Below w1.heap.size w1 (w1.alloc (.cells #[.string xk, .int .i64 xv, .int .i64 xo, .string xx] 64))) := (Below.refl _ _).alloc (Nat.le_refl _) _
        go_wp2_with fail
        refine (Merge_any _ _ _ es _ _ _ [⟨xk, xv, xo, xx⟩] _ ((HE.out.below HB1.out).below HBA.out) HN.out HI1.out).mono ?_
        rintro e w2 ⟨vo, vk, rfl, ho2, _, hb2⟩
        rw [s1]
        have HO2 := hid ho2
        have HB2 : Hid (Below w.heap.size w w2) := by
          have b1 := HB.out.trans (HB1.out.mono HZ.out)
          have b2 := b1.trans (HBA.out.mono b1.size)
          exact b2.trans (hb2.mono b2.size)
        have HZ2 : Hid (w.heap.size ≤ (w1.alloc (.cells #[.string xk, .int .i64 xv, .int .i64 xo, .string xx] 64)).heap.size) := by
          have b1 := HB.out.trans (HB1.out.mono HZ.out)
          have b2 := b1.trans (HBA.out.mono b1.size)
          exact b2.size
        clear ho2 hb2
        go_wp2_with fail
        go_roundw
        case rel => exact ⟨k + 1, _, _, rfl, by omega, by omega, by go_num, HO2.out.mono HZ2.out, S2, HV5, by have := S4.out; omega, (fun _ => s5), HB2⟩
        case measure => simp [intOf]; omega
      · obtain rfl : k = most := by omega
        go_wp2
        go_ret
        exact ⟨_, _, rfl, HO.out, HG.out, HV4.out, by omega, (fun _ h => HNE.out h), HB.out⟩
    · obtain rfl : k = len := by omega
      go_wp2
      go_ret
      exact ⟨_, _, rfl, HO.out, HG.out, HV4.out, by omega, (fun h _ => HNE.out h), HB.out⟩
theorem Store_any (a : Option Addr) (len cap : Nat) (most : Nat) (w : World) (h : IsRaws w a len cap) (hm : most ≤ 20) :
    Calls Tryd.prog 33 #[.slice a len cap, .int .i64 (most : Int)] w fun e w' => ∃ v es, e = .returned v ∧ Own w' w.heap.size v es ∧ Pl.Good es ∧ es.length ≤ most ∧ (1 ≤ len → 1 ≤ most → 1 ≤ es.length) ∧ Below w.heap.size w w' :=
  (Store_any4 a len cap most w h hm).mono fun _ _ ⟨v, es, e, o, g, _, r⟩ => ⟨v, es, e, o, g, r⟩
end Go.Proofs.YtcdobhdbafpkiadDoor
