/-
  Contracts, the document's side: what a node tells in a store (adjIn), a side (sideOf), a link's cost (LinkCost).
-/
import Derived.Test.YtcdobhdbafpkiacDoorWaysV
import Derived.Test.YtcdobhdbafpkiacDoorAdjOf
import Derived.Test.YtcdobhdbafpkiacDoorDecR
namespace Go.Proofs.YtcdobhdbafpkiacDoor
open Go.RowKit
set_option maxRecDepth 20000

theorem Pl.adj_none : Pl.adjD ([] : List UInt8) = false ∧ Pl.adjS ([] : List UInt8) = [] := by decide

set_option maxHeartbeats 2000000 in
theorem adjIn_any (a : Option Addr) (len cap : Nat) (es : List Pl.Ent) (n : Nat) (w : World) (h : IsEnts w a len cap es) (h0 : Pl.fault es = 0) (hn : n ≤ 1000) :
    Calls Tryd.prog 37 #[.slice a len cap, .int .i64 n] w fun e w' => ∃ vl : Value, e = .returned (.agg #[.bool (Pl.adjD (Pl.toldV es n).data.toList), vl]) ∧
      OwnP 103 w' w.heap.size vl (Pl.adjS (Pl.toldV es n).data.toList) ∧ Below w.heap.size w w' := by
  have HH := hid h
  clear h
  have hvz : (Pl.toldV es n).size ≤ 120 := Pl.gotE_val _ _
  obtain ⟨g1, g2, g3⟩ := Pl.good_of_fault h0
  have hlen : es.length = len := HH.out.1
  have hl60 : len ≤ 60 := by omega
  have HA : Hid (Pl.Asc es) := g3
  clear g1 g2 g3
  have HD := hid (dec_any n (w.alloc (.cells #[.bool false, .slice none 0 0] 45)) (by omega))
  obtain ⟨ky, HKY⟩ : ∃ ky, Hid (Pl.adjKey n = ky) := ⟨_, rfl⟩
  have HK : Hid (ky = ⟨#[97, 58]⟩ ++ Pl.dec n) := hid HKY.out.symm
  have HV : Hid (Pl.toldV es n = (if Pl.there es ky then Pl.ent es (Pl.pos es ky) else Pl.Ent.none).val) := hid (by
    unfold Pl.toldV Pl.gotE; rw [h0, if_pos rfl, HKY.out])
  have HPL := hid (fun w' (hb : Below w.heap.size w w') => placeOf_any a len cap es ky w' (HH.out.below hb))
  rw [Pl.idxI_asc HA.out] at HPL
  rw [HK.out] at HPL HV
  clear HK HKY ky
  have hdz := Pl.dec_le n (by omega) (by omega)
  generalize Pl.dec (n : Int) = ds at *
  have b1 : Below w.heap.size w (w.alloc (.cells #[.bool false, .slice none 0 0] 45)) := (Below.refl _ _).alloc (Nat.le_refl _) _
  obtain ⟨t, HT⟩ : ∃ t, Hid (Pl.there es (⟨#[97, 58]⟩ ++ ds) = t) := ⟨_, rfl⟩
  obtain ⟨p, HP⟩ : ∃ t, Hid (Pl.pos es (⟨#[97, 58]⟩ ++ ds) = t) := ⟨_, rfl⟩
  rw [HT.out, HP.out] at HPL HV
  cases t
  · have HE : Hid (Pl.toldV es n = ByteArray.empty) := hid HV.out
    have HAN := hid Pl.adj_none
    simp only [Bool.false_eq_true, ↓reduceIte] at HPL
    rw [HE.out]
    rw [show ByteArray.empty.data.toList = ([] : List UInt8) from rfl, HAN.out.1, HAN.out.2]
    go_enter Tryd.func37, Tryd.ntmps37
    go_wp2_with fail
    refine HD.out.mono ?_
    rintro e w1 ⟨rfl, hb1⟩
    have hbA : Below (w.heap.size + 1) (w.alloc (.cells #[.bool false, .slice none 0 0] 45)) w1 := by simpa using hb1
    have hw1 : Below w.heap.size w w1 := b1.trans (hb1.mono b1.size)
    clear hb1
    go_wp2_with fail
    refine (HPL.out w1 hw1).mono ?_
    rintro e w2 ⟨rfl, hw2⟩
    rw [hw2]
    clear hw2 w2
    obtain ⟨x0, x1, xs, hbb⟩ := box2 hbA
    obtain ⟨f0, f1⟩ := box2f hbA
    go_wp2_with fail
    have hblk : w1.heap[w.heap.size]? = some (.cells #[.bool false, .slice none 0 0] 45) := (hbA.block _ (Nat.lt_succ_self _)).trans (heapNew w _)
    obtain ⟨z0, z1, _, _⟩ := adjAt_cells (adjAt_set (adjAt_set0 hblk (.bool false)) (.slice none 0 0))
    refine bodyPost_ret (v := .agg #[.bool false, .slice none 0 0]) (by simp [results, Tryd.results37, go_sem, z0, z1]) rfl ⟨_, rfl, OwnP.nil _ _ _, ?_⟩
    exact (hbb.setCell (Nat.le_refl _) _).setCell (Nat.le_refl _) _
  · have hplt : p < len := by
      have := HT.out
      unfold Pl.there at this
      simp only [Bool.and_eq_true, decide_eq_true_eq] at this
      have := HP.out
      omega
    have HE : Hid (Pl.toldV es n = (Pl.ent es p).val) := hid HV.out
    simp only [↓reduceIte] at HPL
    rw [HE.out] at hvz ⊢
    obtain ⟨b, off, rfl, hbw, hr⟩ : ∃ b off, a = some ⟨b, off, none⟩ ∧ b < w.heap.size ∧ RowAt w b off es := by
      rcases HH.out.2.2.2.2 with h | h
      · rw [h] at hlen; simp at hlen; omega
      · exact h
    have hcap := HH.out.2.1
    have hm := HH.out.2.2.1
    unfold maxLen at hm
    have HR := hid hr
    clear hr
    obtain ⟨gx, HGX⟩ : ∃ x, Hid ((Pl.ent es p).val = x) := ⟨_, rfl⟩
    rw [HGX.out] at hvz ⊢
    obtain ⟨rc, HRC⟩ : ∃ x, Hid (Pl.adjC gx.data.toList = x) := ⟨_, hid rfl⟩
    obtain ⟨rd, HRD⟩ : ∃ x, Hid (Pl.adjD gx.data.toList = x) := ⟨_, hid rfl⟩
    obtain ⟨rs, HRS⟩ : ∃ x, Hid (Pl.adjS gx.data.toList = x) := ⟨_, hid rfl⟩
    rw [HRD.out, HRS.out]
    go_enter Tryd.func37, Tryd.ntmps37
    go_wp2_with fail
    refine HD.out.mono ?_
    rintro e w1 ⟨rfl, hb1⟩
    have hbA : Below (w.heap.size + 1) (w.alloc (.cells #[.bool false, .slice none 0 0] 45)) w1 := by simpa using hb1
    have hw1 : Below w.heap.size w w1 := b1.trans (hb1.mono b1.size)
    clear hb1
    go_wp2_with fail
    refine (HPL.out w1 hw1).mono ?_
    rintro e w2 ⟨rfl, hw2⟩
    rw [hw2]
    clear hw2 w2
    obtain ⟨_, _, _, q3⟩ := HR.out.below hbw hw1 p (by omega)
    rw [HGX.out] at q3
    have hlt' : (p : Int) < (len : Int) := by omega
    have hbr : b < w1.heap.size := by have := hw1.size; omega
    have hz1 := hbA.size
    simp at hz1
    go_wp2_with fail
    refine (AdjOf_any gx _ (by omega)).mono ?_
    rw [HRC.out, HRD.out, HRS.out]
    rintro e w3 ⟨v3, rfl, ho3, hb3⟩
    have hbA3 : Below (w.heap.size + 1) (w.alloc (.cells #[.bool false, .slice none 0 0] 45)) w3 := hbA.trans (hb3.mono (by omega))
    obtain ⟨a3, n3, cap3, rfl⟩ := ho3.slice
    have HO3 := hid ho3
    obtain ⟨x0, x1, xs, hbb⟩ := box2 hbA3
    obtain ⟨f0, f1⟩ := box2f hbA3
    have hz3 := hb3.size
    clear ho3 hb3
    go_wp2_with fail
    have hblk : w3.heap[w.heap.size]? = some (.cells #[.bool false, .slice none 0 0] 45) := (hbA3.block _ (Nat.lt_succ_self _)).trans (heapNew w _)
    have hfin := heapOld (adjAt_set (adjAt_set0 hblk (.bool rd)) (.slice a3 n3 cap3)) (.cells #[.bool rd, .slice a3 n3 cap3] 45)
    obtain ⟨z0, z1, _, _⟩ := adjAt_cells hfin
    refine bodyPost_ret (v := .agg #[.bool rd, .slice a3 n3 cap3]) (by simp [results, Tryd.results37, go_sem, z0, z1]) rfl ⟨_, rfl, ?_, ?_⟩
    · exact OwnP.mono (World.ownsRow.alloc (ownsRow_setCell_below (ownsRow_setCell_below HO3.out (by simp; omega) _) (by simp; omega) _) _) (by omega)
    · exact ((hbb.setCell (Nat.le_refl _) _).setCell (Nat.le_refl _) _).alloc (by simp [World.setCell]; omega) _
end Go.Proofs.YtcdobhdbafpkiacDoor
