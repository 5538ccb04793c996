/-
  Contracts: merged; StoreTells.
-/
import Derived.Test.YtcdobhdbafpkiadRaw4
import Derived.Test.YtcdobhdbafpkiadMPlain
import Derived.Test.YtcdobhdbafpkiadEncode
namespace Go.Proofs.Ytcdobhdbafpkiad
open Go.RowKit
set_option maxRecDepth 20000

theorem Pl.merge_good {a b : List Pl.Ent} (ha : Pl.Good a) (hb : Pl.Good b) : Pl.mergeC a b = 0 ∧ Pl.mergeO a b = (Pl.mrg a [] b).1 ∧ Pl.Good (Pl.mergeO a b) := by
  have h1 := (Pl.good_iff a).2 ha
  have h2 := (Pl.good_iff b).2 hb
  have hc : Pl.mergeC a b = 0 := by unfold Pl.mergeC; rw [if_pos h1]; exact h2
  have ho : Pl.mergeO a b = (Pl.mrg a [] b).1 := by unfold Pl.mergeO; rw [if_pos hc]
  exact ⟨hc, ho, by rw [ho]; exact Pl.mrg_good _ _ _ ha hb.2.1⟩

theorem merged_any (a : Option Addr) (len cap : Nat) (ea : List Pl.Ent) (b : Option Addr) (lenb capb : Nat) (eb : List Pl.Ent) (w : World) (h : IsEnts w a len cap ea) (hnil : a = none → cap = 0) (hB : IsEnts w b lenb capb eb) :
    Calls Try.prog 17 #[.slice a len cap, .slice b lenb capb] w fun e w' => ∃ vo, e = .returned vo ∧ Own w' w.heap.size vo (Pl.mergeO ea eb) ∧ Below w.heap.size w w' := by
  have HM := hid (Merge_any _ _ _ _ _ _ _ _ _ h hnil hB)
  clear h hnil hB
  go_enter Try.func17, Try.ntmps17
  go_wp2_with fail
  refine HM.out.mono ?_
  rintro e w1 ⟨vo, vk, rfl, ho, _, hb⟩
  have HO := hid ho
  clear ho
  go_wp2_with fail
  go_ret
  exact ⟨_, rfl, HO.out, hb⟩

set_option maxHeartbeats 1000000 in
theorem StoreTells_any (w : World) : Calls Try.prog 18 #[] w fun e w' => e = .returned (.bool true) ∧ Below w.heap.size w w' := by
  have HRW : Hid (IsRaws (w.alloc (.cells #[.int .i64 1, .int .i64 1, .int .i64 1, .int .i64 1, .int .i64 2, .int .i64 2, .int .i64 2, .int .i64 2] 24)) (some ⟨w.heap.size, 0, none⟩) 2 2) := by
    refine ⟨Nat.le_refl _, by decide, .inr ⟨_, _, rfl, by simp, ?_⟩⟩
    intro i hi
    have hi' : i = 0 ∨ i = 1 := by omega
    rcases hi' with rfl | rfl
    · exact ⟨1, 1, 1, 1, ⟨by simp, by simp, by simp, by simp⟩, by decide, by decide, by decide, by decide⟩
    · exact ⟨2, 2, 2, 2, ⟨by simp, by simp, by simp, by simp⟩, by decide, by decide, by decide, by decide⟩
  have HBA := hid ((Below.refl w.heap.size w).alloc (Nat.le_refl _) (.cells #[.int .i64 1, .int .i64 1, .int .i64 1, .int .i64 1, .int .i64 2, .int .i64 2, .int .i64 2, .int .i64 2] 24))
  have HST := hid (Store_any _ _ _ 20 _ HRW.out (by omega))
  go_enter Try.func18, Try.ntmps18
  go_wp2_with fail
  refine HST.out.mono ?_
  rintro e w1 ⟨v, es, rfl, ho, hg, hlen, hne, hb1⟩
  have hne1 := hne (by omega) (by omega)
  have HG := hid hg
  obtain ⟨a1, c1, rfl, hE, _, _⟩ := ho.shape hg.ok
  have HE := hid hE
  have HB1 := hid (HBA.out.trans (hb1.mono HBA.out.size))
  have hmg := Pl.merge_good Pl.good_nil hg
  have hmt : Pl.mergeO [] es = es := by rw [hmg.2.1, Pl.mrg_tail es [] [] (by simpa using hg.2.2) (by simpa using hg.1)]; rfl
  have HMC := hid hmg.1
  have HMT := hid hmt
  have HF := hid ((Pl.good_iff es).2 hg)
  clear ho hg hE hne hmg hmt hb1
  go_wp2_with fail
  refine (Merge_any none 0 0 [] _ _ _ es _ ⟨rfl, Nat.le_refl _, by simp, by simp, .inl rfl⟩ (fun _ => rfl) HE.out).mono ?_
  rw [HMC.out, HMT.out]
  rintro e w2 ⟨vo, vk, rfl, ho2, _, hb2⟩
  obtain ⟨a2, c2, rfl, hE2, _, _⟩ := ho2.shape HG.out.ok
  have HE2 := hid hE2
  have HB2 := hid (HB1.out.trans (hb2.mono HB1.out.size))
  clear ho2 hE2 hb2
  go_wp2_with fail
  refine (Encode_any _ _ _ es _ HE2.out).mono ?_
  rw [HF.out]
  rintro e w3 ⟨v3, rfl, ho3, hb3⟩
  obtain ⟨a3, c3, rfl, hI3, _, _⟩ := ho3.shape
  have HB3 := hid (HB2.out.trans (hb3.mono HB2.out.size))
  have hbl : (0 : Int) < ((Pl.encO es).length : Int) := by
    unfold Pl.encO
    rw [if_pos HF.out, Pl.enc, List.length_append, Pl.sealL_len]
    omega
  generalize (Pl.encO es).length = nb at *
  have hel : (0 : Int) < (es.length : Int) := by omega
  clear ho3 hI3 hb3
  go_wp2
  go_ret
  exact ⟨ret_bool (by simp; omega), HB3.out⟩
end Go.Proofs.Ytcdobhdbafpkiad
