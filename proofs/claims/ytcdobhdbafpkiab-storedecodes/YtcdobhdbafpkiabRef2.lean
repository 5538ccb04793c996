/-
  Contracts: the document's reader: a text.
-/
import Derived.Test.YtcdobhdbafpkiabRef1
namespace Go.Proofs.Ytcdobhdbafpkiab
open Go.RowKit

set_option maxHeartbeats 1000000 in
theorem sptext_any (B R : Nat) (c : Int) (rs : List UInt8) (w : World) (h : SpAt w B R c rs) :
    Calls Try.prog 28 #[.pointer (some ⟨R, 0, none⟩)] w fun e w' => e = .returned (.string (Pl.txt c rs).1) ∧ SpAt w' B R (Pl.txt c rs).2.1 (Pl.txt c rs).2.2 ∧ Only R w w' := by
  have HD := hid h
  clear h
  have hnr := Pl.num_range c rs
  have HNU := hid (one_any B R c rs w HD.out)
  obtain ⟨n, c1, r1, HE⟩ : ∃ n c1 r1, Hid (Pl.num c rs = (n, c1, r1)) := ⟨_, _, _, rfl⟩
  have HT : Hid (Pl.txt c rs = if c1 = 0 then (if n.toNat ≤ r1.length then (⟨(r1.take n.toNat).toArray⟩, 0, r1.drop n.toNat) else (⟨#[]⟩, 5, [])) else (⟨#[]⟩, c1, [])) := by
    show _ = _
    unfold Pl.txt; rw [HE.out]
  rw [HE.out] at hnr HNU
  simp only at hnr HNU
  obtain ⟨hn0, hn1⟩ := hnr
  obtain ⟨m, rfl⟩ := Int.eq_ofNat_of_zero_le hn0
  simp only [Int.toNat_natCast] at HT
  go_enter Try.func28, Try.ntmps28
  go_wp2_with fail
  refine HNU.out.mono ?_
  rintro e w1 ⟨rfl, hr1, ho1⟩
  have HR1 := hid hr1
  have HO1 := hid ho1
  obtain ⟨a, len, cap, bs, i, h0, h1, h2, f0, f1, f2, hI, hx, hB, hR, hi, hrs, hbs, hll⟩ := hr1
  have HI := hid hI
  obtain ⟨hl, hlc, hm, hrow⟩ := hI
  unfold maxLen at hm
  clear ho1
  by_cases hc : c1 = 0
  · subst hc
    have hr := hrs rfl
    subst hr
    obtain ⟨b, off, rfl, hb, hrw⟩ := hrow.resolve_left hbs
    clear hrw hrow
    by_cases hle : i + m ≤ len
    · obtain ⟨j, hj⟩ : ∃ j, i + m = j := ⟨_, rfl⟩
      have hxb := hx _ rfl hbs
      simp at hxb
      have hbr : ¬ b = R := by omega
      have HF : Hid (Pl.txt c rs = (⟨((bs.drop i).take m).toArray⟩, 0, bs.drop j)) := by
        show _ = _
        rw [HT.out, if_pos rfl, if_pos (by simp; omega), List.drop_drop, hj]
      have HON := hid (fun n => SpAt.on (w := w1.drewN n) (j := j) h0 h1 h2 f0 f1 f2 HI.out hx hB hR (by omega) hbs hll)
      have hji : (i : Int) + (m : Int) = (j : Int) := by omega
      have hjm : (j : Int) - (m : Int) = (i : Int) := by omega
      have hnlt : ¬ ((len : Int) < (j : Int)) := by omega
      have hij : (i : Int) ≤ (j : Int) := by omega
      have hjl : (j : Int) ≤ (len : Int) := by omega
      have hmj : j - i = m := by omega
      have HMJ := hid hmj
      clear hmj
      have hjc : (j : Int) ≤ (cap : Int) := by omega
      have hjc' : j ≤ cap := by omega
      have hij' : i ≤ j := by omega
      by_cases hci : cap = i
      · subst hci
        obtain rfl : j = cap := by omega
        have hcv : ∀ n k, (convert 23 9 (.slice (some ⟨b, off, none⟩) 0 0)).run Try.prog (((w1.drewN n).setCell ⟨R, 1, none⟩ (.int .i64 (j : Int))).drewN k) = .ok (.string ⟨((bs.drop j).take m).toArray⟩) (((w1.drewN n).setCell ⟨R, 1, none⟩ (.int .i64 (j : Int))).drewN k) := by
          intro n k
          refine conv_any ?_
          rw [show m = 0 by omega]
          exact ⟨by simp, Nat.le_refl _, by simp, .inl (by simp)⟩
        clear hrs hx hbs hj
        go_wp2
        go_quiet (fail)
        go_wp2
        go_quiet (fail)
        go_wp2
        go_ret
        refine ⟨by rw [HF.out]; rfl, ?_, ((HO1.out.drewN _).trans (Only.set R 1 _ _)).drewN _⟩
        rw [HF.out]
        exact (HON.out _).drewN _
      · have hcv : ∀ n k, (convert 23 9 (.slice (some ⟨b, off + i, none⟩) (j - i) (cap - i))).run Try.prog (((w1.drewN n).setCell ⟨R, 1, none⟩ (.int .i64 (j : Int))).drewN k) = .ok (.string ⟨((bs.drop i).take m).toArray⟩) (((w1.drewN n).setCell ⟨R, 1, none⟩ (.int .i64 (j : Int))).drewN k) := by
          intro n k
          refine conv_any ?_
          rw [HMJ.out]
          have hW : IsBytes (w1.drewN n) (some ⟨b, off, none⟩) len cap bs := HI.out
          exact bytes_to (bytes_on (isBytes_only hW ((Only.set R 1 _ _).drewN _) hB hx) hi) (by omega)
        clear hrs hx hbs hj
        go_wp2
        go_quiet (fail)
        go_wp2
        go_quiet (fail)
        go_wp2
        go_ret
        refine ⟨by rw [HF.out]; rfl, ?_, ((HO1.out.drewN _).trans (Only.set R 1 _ _)).drewN _⟩
        rw [HF.out]
        exact (HON.out _).drewN _
    · have HF : Hid (Pl.txt c rs = (⟨#[]⟩, 5, [])) := by
        show _ = _
        rw [HT.out, if_pos rfl, if_neg (by simp; omega)]
      have HER := hid (fun n => (HR1.out.drewN n).err (n := 5) (by omega) [])
      have hgt : (len : Int) < (i : Int) + (m : Int) := by omega
      clear hrs hx hbs
      go_wp2
      go_quiet (fail)
      go_wp2
      go_ret
      refine ⟨by rw [HF.out]; rfl, ?_, HO1.out.drewN _ |>.trans (Only.set R 2 _ _)⟩
      rw [HF.out]
      exact HER.out _
  · have hce : (c1 == 0) = false := by simp [hc]
    have hcb : (c1 != 0) = true := by simp [hc]
    have HC := hid hc
    have HF : Hid (Pl.txt c rs = (⟨#[]⟩, c1, [])) := by show _ = _; rw [HT.out, if_neg hc]
    clear hrow hrs hx hc hbs
    go_wp2
    go_quiet (fail)
    go_wp2
    go_ret
    refine ⟨by rw [HF.out]; rfl, ?_, HO1.out.drewN _⟩
    rw [HF.out]
    exact (HR1.out.bad HC.out _).drewN _
end Go.Proofs.Ytcdobhdbafpkiab
