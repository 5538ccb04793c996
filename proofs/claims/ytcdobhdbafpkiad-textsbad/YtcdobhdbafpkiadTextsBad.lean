/-
  Proved: for every number, the texts that can't be read are refused, each with its code, and nothing comes out (the law TextsBad returns true); no condition.
-/
import Derived.Test.YtcdobhdbafpkiadRows
import Derived.Test.YtcdobhdbafpkiadReadP
import Derived.Test.YtcdobhdbafpkiadRaw1
import Derived.Test.YtcdobhdbafpkiadOpenB
namespace Go.Proofs.Ytcdobhdbafpkiad.textsBad
open Go.ChangeShapes Go.WideShapes Go.ChangeAt Go.RowKit
set_option maxRecDepth 20000
open Go.ChangeMaps (open_string shut_string)
set_option linter.unusedVariables false

def oddL : List (List UInt8) := [[49], [49, 61], [61, 49], [49, 61, 48, 49], [49, 61, 50, 44], [44, 49, 61, 50], [49, 61, 50, 59, 51, 61, 52], [49, 50, 61, 49], [49, 61, 48], [49, 61, 49, 48, 48, 49], [50, 61, 49, 44, 49, 61, 49], [49, 61, 49, 44, 49, 61, 50], [33, 33, 49, 61, 49], [32, 49, 61, 49], [49, 61, 45, 49]]
def errL : List Int := [4, 4, 4, 4, 4, 4, 4, 2, 2, 2, 7, 7, 4, 4, 4]
def badL : List (List UInt8) := [[49], [49, 47], [49, 47, 57], [50, 53, 54, 47, 56], [49, 47, 55], [54, 52, 47, 50, 44, 48, 47, 49], [48, 47, 49, 44, 48, 47, 49], [48, 47, 48, 44], [48, 47, 56, 44, 49, 47, 56, 44, 50, 47, 56, 44, 51, 47, 56, 44, 52, 47, 56, 44, 53, 47, 56, 44, 54, 47, 56]]
def err2L : List Int := [4, 4, 2, 2, 4, 7, 7, 4, 1]
def odd (i : Nat) : ByteArray := ⟨(oddL.getD i []).toArray⟩
def bad (i : Nat) : ByteArray := ⟨(badL.getD i []).toArray⟩
def er1 (i : Nat) : Int := errL.getD i 0
def er2 (i : Nat) : Int := err2L.getD i 0
theorem odd_facts : ∀ i : Fin 15, Pl.adjC (oddL.getD i []) = errL.getD i 0 ∧ Pl.adjD (oddL.getD i []) = false ∧ Pl.adjS (oddL.getD i []) = [] := by decide +kernel
theorem bad_facts : ∀ i : Fin 9, Pl.rpC (badL.getD i []) = err2L.getD i 0 ∧ Pl.rpS (badL.getD i []) = [] := by decide +kernel
theorem odd_size : ∀ i : Fin 15, (oddL.getD i []).length ≤ 100 := by decide +kernel
theorem bad_size : ∀ i : Fin 9, (badL.getD i []).length ≤ 100 := by decide +kernel

theorem cellAt {A : World} {vs : Array Value} {T : TypeId} {i n : Nat} {v : Value} (hn : A.heap.size = n) (h : vs[i]? = some v) : (A.alloc (.cells vs T)).cell? ⟨n, i, none⟩ = some v := by
  subst hn
  have h1 : (A.alloc (.cells vs T)).heap[A.heap.size]? = some (.cells vs T) := by
    show (A.heap.push _)[A.heap.size]? = _
    simp
  unfold World.cell?
  simp only [h1]
  exact h
theorem cellOld {A : World} {o : Obj} {b i : Nat} {v : Value} (h : A.cell? ⟨b, i, none⟩ = some v) : (A.alloc o).cell? ⟨b, i, none⟩ = some v :=
  (((Below.refl A.heap.size A).alloc (Nat.le_refl _) o).cell (p := ⟨b, i, none⟩) (cell_lt h)).trans h

set_option maxHeartbeats 2000000 in
theorem walk (n : Int) (w : World) (hn : (Lit.int .i64 n).wf = true) :
    Calls Try.prog 5 #[.int .i64 n] w fun e w' => e = .returned (.bool true) ∧ Below w.heap.size w w' := by
  have hnb : -9223372036854775808 ≤ n ∧ n ≤ 9223372036854775807 := by
    unfold Lit.wf at hn
    simp only [Bool.and_eq_true, decide_eq_true_eq] at hn
    exact hn
  obtain ⟨i, hi⟩ := Int.eq_ofNat_of_zero_le (Pl.pk_range n 15 (by omega)).1
  obtain ⟨k, hk⟩ := Int.eq_ofNat_of_zero_le (Pl.pk_range n 9 (by omega)).1
  have hi1 : i < 15 := by have := (Pl.pk_range n 15 (by omega)).2; omega
  have hk1 : k < 9 := by have := (Pl.pk_range n 9 (by omega)).2; omega
  have HI := hid hi
  have HK := hid hk
  clear hi hk
  have HOF : Hid (Pl.adjC (odd i).data.toList = er1 i ∧ Pl.adjD (odd i).data.toList = false ∧ Pl.adjS (odd i).data.toList = [] ∧ (odd i).size ≤ 100) := by
    have h1 := odd_facts ⟨i, hi1⟩
    have h2 := odd_size ⟨i, hi1⟩
    refine hid ⟨h1.1, h1.2.1, h1.2.2, ?_⟩
    rw [← sz_list]; exact h2
  have HBF : Hid (Pl.rpC (bad k).data.toList = er2 k ∧ Pl.rpS (bad k).data.toList = [] ∧ (bad k).size ≤ 100) := by
    have h1 := bad_facts ⟨k, hk1⟩
    have h2 := bad_size ⟨k, hk1⟩
    refine hid ⟨h1.1, h1.2, ?_⟩
    rw [← sz_list]; exact h2
  go_enter Try.func5, Try.ntmps5
  go_wp2_with fail
  generalize hW1 : World.alloc _ _ = W1
  have hb1 : Below w.heap.size w W1 := by
    rw [← hW1]
    exact ((((Below.refl _ _).alloc (Nat.le_refl _) _).alloc (by simp) _).alloc (by simp; omega) _).alloc (by simp; omega) _
  have c1 : W1.cell? ⟨w.heap.size, i, none⟩ = some (.string (odd i)) := by
    rw [← hW1]
    refine cellOld (cellOld (cellOld (cellAt rfl ?_)))
    have : i = 0 ∨ i = 1 ∨ i = 2 ∨ i = 3 ∨ i = 4 ∨ i = 5 ∨ i = 6 ∨ i = 7 ∨ i = 8 ∨ i = 9 ∨ i = 10 ∨ i = 11 ∨ i = 12 ∨ i = 13 ∨ i = 14 := by omega
    rcases this with rfl | rfl | rfl | rfl | rfl | rfl | rfl | rfl | rfl | rfl | rfl | rfl | rfl | rfl | rfl <;> rfl
  have c2 : W1.cell? ⟨w.heap.size + 1, i, none⟩ = some (.int .i64 (er1 i)) := by
    rw [← hW1]
    refine cellOld (cellOld (cellAt (by simp) ?_))
    have : i = 0 ∨ i = 1 ∨ i = 2 ∨ i = 3 ∨ i = 4 ∨ i = 5 ∨ i = 6 ∨ i = 7 ∨ i = 8 ∨ i = 9 ∨ i = 10 ∨ i = 11 ∨ i = 12 ∨ i = 13 ∨ i = 14 := by omega
    rcases this with rfl | rfl | rfl | rfl | rfl | rfl | rfl | rfl | rfl | rfl | rfl | rfl | rfl | rfl | rfl <;> rfl
  have c3 : W1.cell? ⟨w.heap.size + 1 + 1, k, none⟩ = some (.string (bad k)) := by
    rw [← hW1]
    refine cellOld (cellAt (by simp) ?_)
    have : k = 0 ∨ k = 1 ∨ k = 2 ∨ k = 3 ∨ k = 4 ∨ k = 5 ∨ k = 6 ∨ k = 7 ∨ k = 8 := by omega
    rcases this with rfl | rfl | rfl | rfl | rfl | rfl | rfl | rfl | rfl <;> rfl
  have c4 : W1.cell? ⟨w.heap.size + 1 + 1 + 1, k, none⟩ = some (.int .i64 (er2 k)) := by
    rw [← hW1]
    refine cellAt (by simp) ?_
    have : k = 0 ∨ k = 1 ∨ k = 2 ∨ k = 3 ∨ k = 4 ∨ k = 5 ∨ k = 6 ∨ k = 7 ∨ k = 8 := by omega
    rcases this with rfl | rfl | rfl | rfl | rfl | rfl | rfl | rfl | rfl <;> rfl
  clear hW1
  have l1 := cell_lt c1
  have l2 := cell_lt c2
  have l3 := cell_lt c3
  have l4 := cell_lt c4
  simp only at l1 l2 l3 l4
  generalize odd i = so at *
  generalize bad k = sb at *
  generalize er1 i = eo at *
  generalize er2 k = eb at *
  obtain ⟨g1, g2, g3, g4⟩ := HOF.out
  obtain ⟨g5, g6, g7⟩ := HBF.out
  clear HOF HBF
  have G1 := hid g1
  have G2 := hid g2
  have G3 := hid g3
  have G5 := hid g5
  have G6 := hid g6
  clear g1 g2 g3 g5 g6
  refine (picked_any n 15 _ hnb.1 hnb.2 (by omega) (by omega)).mono ?_
  rw [HI.out]
  rintro e w2 ⟨rfl, rfl⟩
  go_wp2_with fail
  refine (picked_any n 9 _ hnb.1 hnb.2 (by omega) (by omega)).mono ?_
  rw [HK.out]
  rintro e w2 ⟨rfl, rfl⟩
  go_wp2_with fail
  refine (ReadAdj_any so _ (by omega)).mono ?_
  rw [G1.out, G2.out, G3.out]
  rintro e w3 ⟨v3, rfl, ho3, hb3⟩
  obtain ⟨a3, cap3, rfl, _, _, _⟩ := OwnP.shape ho3 (by simp)
  clear ho3
  have d2 := (hb3.cell (p := ⟨w.heap.size + 1, i, none⟩) l2).trans c2
  have d3 := (hb3.cell (p := ⟨w.heap.size + 1 + 1, k, none⟩) l3).trans c3
  have d4 := (hb3.cell (p := ⟨w.heap.size + 1 + 1 + 1, k, none⟩) l4).trans c4
  have hz3 := hb3.size
  have d3' : ∀ o, (w3.alloc o).cell? ⟨w.heap.size + 1 + 1, k, none⟩ = some (.string sb) := fun o => cellOld d3
  clear c1 c2 c3 c4
  go_wp2_with fail
  refine (ReadPrefixes_any sb _ (by omega)).mono ?_
  rw [G5.out, G6.out]
  rintro e w4 ⟨v4, rfl, ho4, hb4⟩
  obtain ⟨a4, cap4, rfl, _, _, _⟩ := OwnP.shape ho4 (by simp)
  clear ho4
  have hbA : Below (w3.heap.size + 1) (w3.alloc (.cells #[.bool false, .slice a3 ([] : List (Int × Int)).length cap3] 53)) w4 := by simpa using hb4
  obtain ⟨x0, x1, xs, hbb⟩ := box2 hbA
  have e2 := (hbb.cell (p := ⟨w.heap.size + 1, i, none⟩) (show w.heap.size + 1 < w3.heap.size by omega)).trans d2
  have e4 := (hbb.cell (p := ⟨w.heap.size + 1 + 1 + 1, k, none⟩) (show w.heap.size + 1 + 1 + 1 < w3.heap.size by omega)).trans d4
  have hbF : Below w.heap.size w w4 := (hb1.trans (hb3.mono hb1.size)).trans (hbb.mono (Nat.le_trans hb1.size hb3.size))
  clear d2 d3 d4 hb4 hbA hb3 hb1
  go_wp2_with fail
  go_ret
  exact ⟨ret_bool (by simp), hbF⟩

set_option maxRecDepth 100000 in
theorem lifted (os : Os) (started : os.Started) (H : Type) (enc : TypeId × Value → H) :
    ReturnsInHanded {} Try.checked os 5 .any (Rows.textsBadSpec.pre6 enc Try.prog Try.f5 Rows.textsBadRow.domain false) (Rows.textsBadSpec.post enc Try.prog Try.f5 false true false false) := by
  refine returnsInHanded_of_change (C := Try.checked) own started (by kernel_rfl) Try.func5
    (ChangeSpec.witness6 (enc := enc) (C := Try.checked) false ⟨#[], #[.int .i64 0], []⟩ 8 (by kernel_rfl) (by kernel_rfl) (by kernel_rfl) (by kernel_rfl)) ?_
  intro W base args ds gs before hval0 hW hcnd _
  have hval : ∀ (j : Nat) t v, Try.f5.params[j]? = some t → args[j]? = some v → Value.okWide Try.prog W .any base t v := hval0
  have hW' := hW
  obtain ⟨p, q, hA0, hV, rfl, hfz, hnd⟩ := hW
  have hA : DataW.TrodAll enc Try.prog W 0 (fun _ => true) true Try.f5.params.toList args.toList ds p := hA0
  rw [Try.params5] at hA hval
  obtain ⟨v0, vs0, d0, ds0, p0, q0, hargs, rfl, rfl, h0, r0⟩ := trodAll_cons hA
  obtain ⟨rfl, rfl, rfl⟩ := trodAll_nil r0
  obtain rfl : args = #[v0] := by cases args; simp_all
  obtain ⟨rfl, rfl⟩ := trodVars_none hV
  have k0 := h0
  have lt0 : ∀ x ∈ p0, x.block < W.heap.size := by obtain ⟨m, hm⟩ := k0; exact DataW.trod_lt m _ _ _ hm
  obtain ⟨a0, rfl, _, _, w0⟩ := open_int Try.underlying3 (hval 0 3 v0 rfl rfl) h0
  clear hA0 hval0
  refine (walk a0 W w0).mono fun e W' ⟨he, bel⟩ => ?_
  subst he
  exact ⟨_, rfl, _, _, _, [], _, [], hW', trodAll_mk1 (shut_bool Try.underlying4 _), (trodAll_cons_mk (Below.trod laidOut (by kernel_rfl) (of_decide_eq_true (by kernel_rfl)) k0 bel lt0) trodAll_mk0), rfl, bel.frame _, fun h => by cases h⟩

theorem over : Rows.textsBadRow.holds Try.pinned (OpenSpec.ofChange Rows.textsBadSpec) :=
  OpenClaim.holds_of_wide 5 Try.f5 rfl rfl rfl rfl rfl rfl rfl ⟨rfl, rfl, rfl, rfl, rfl⟩ rfl rfl rfl rfl rfl (by kernel_rfl) Try.func5 (by kernel_rfl)
    (of_decide_eq_true (by kernel_rfl)) (by unfold Func.isWrapper; first | (rw [if_pos (by decide +kernel)]; kernel_rfl) | (rw [if_neg (by decide +kernel)]; exact ⟨rfl, rfl⟩))
    (fun os started H enc _ => lifted os started H enc)

end Go.Proofs.Ytcdobhdbafpkiad.textsBad
namespace Go.Proofs.Ytcdobhdbafpkiad
theorem textsBad_holds : Rows.TextsBadSaid := textsBad.over
#print axioms textsBad_holds
end Go.Proofs.Ytcdobhdbafpkiad

