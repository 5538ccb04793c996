/-
  Contract: the document's StoreOf.
-/
import Derived.Test.YtcdobhdbafpkiabRef4
import Derived.Deep.RegionWith
namespace Go.Proofs.Ytcdobhdbafpkiab
open Go.RowKit

set_option maxHeartbeats 2000000 in
theorem StoreOf_any (a : Option Addr) (len cap : Nat) (bs : List UInt8) (w : World) (h : IsBytes w a len cap bs) :
    Calls Try.prog 11 #[.slice a len cap] w fun e w' => ∃ v, e = .returned (.tuple #[v, .int .i64 (Pl.decC bs)]) ∧ Own w' w.heap.size v (Pl.decO bs) ∧ Below w.heap.size w w' := by
  have HI := hid h
  obtain ⟨hl, hlc, hm, hrow⟩ := h
  unfold maxLen at hm
  have HBAD : ∀ n : Int, ¬ n = 0 → Pl.frameC bs = n → Hid (Pl.decC bs = n) ∧ Hid (Pl.decO bs = []) := by
    intro n hn hf
    have hc : Pl.decC bs = n := by unfold Pl.decC; rw [hf, if_neg hn]
    exact ⟨hc, by show _ = _; unfold Pl.decO; rw [hc, if_neg hn]⟩
  by_cases h1 : 20000 < len
  · obtain ⟨HC, HO⟩ := HBAD 1 (by omega) (by unfold Pl.frameC; rw [if_pos (by omega)])
    clear hrow HBAD
    go_enter Try.func11, Try.ntmps11
    go_wp2
    go_ret2
    exact ⟨_, by rw [HC.out]; rfl, by rw [HO.out]; exact Own.nil _ _, Below.refl _ _⟩
  by_cases h2 : len < 6
  · obtain ⟨HC, HO⟩ := HBAD 5 (by omega) (by unfold Pl.frameC; rw [if_neg (by omega), if_pos (by omega)])
    clear hrow HBAD
    go_enter Try.func11, Try.ntmps11
    go_wp2
    go_ret2
    exact ⟨_, by rw [HC.out]; rfl, by rw [HO.out]; exact Own.nil _ _, Below.refl _ _⟩
  obtain ⟨b, off, rfl, hb, hr⟩ : ∃ b off, a = some ⟨b, off, none⟩ ∧ b < w.heap.size ∧ ∀ j u, (bcells bs)[j]? = some u → w.cell? ⟨b, off + j, none⟩ = some u := by
    rcases hrow with h | h
    · rw [h] at hl; simp at hl; omega
    · exact h
  have q0 := hr 0 _ (bcell_at (by omega))
  simp only [Nat.add_zero] at q0
  clear hr
  have hpos : (0 : Int) < (len : Int) := by omega
  by_cases h3 : bs.getD 0 0 = 116
  · have hne : (((bs.getD 0 0).toNat : Int) != 116) = false := by rw [h3]; rfl
    have H3 := hid h3
    have HQ0 : Hid (w.cell? ⟨b, off, none⟩ = some (.int .u8 116)) := by
      have := q0
      rw [h3] at this
      exact this
    clear h3
    generalize ((bs.getD 0 0).toNat : Int) = x0 at *
    obtain ⟨e, he⟩ : ∃ e, len = e + 4 := ⟨len - 4, by omega⟩
    have HEQ := hid he
    have HTO := hid (bytes_to HI.out (show e ≤ len by omega))
    have HON := hid (bytes_on (n := e) HI.out (by omega))
    have hcvT : (convert 23 9 (.slice (some ⟨b, off + e, none⟩) (len - e) (cap - e))).run Try.prog w.drew = .ok (.string ⟨(bs.drop e).toArray⟩) w.drew := conv_any HON.out
    obtain ⟨q, HQ⟩ : ∃ q, Hid (decide (bs.drop e = Pl.sealL (bs.take e)) = q) := ⟨_, rfl⟩
    have HF : Hid (Pl.frameC bs = if q = true then 0 else 9) := by
      show _ = _
      unfold Pl.frameC
      rw [if_neg (by omega), if_neg (by omega), if_neg (fun h => h H3.out), hl, show len - 4 = e by omega]
      cases q
      · have := of_decide_eq_false HQ.out
        rw [if_pos (fun h => this h.symm)]; rfl
      · have := of_decide_eq_true HQ.out
        rw [if_neg (fun h => h this.symm)]; rfl
    have hsub : (len : Int) - 4 = (e : Int) := by omega
    have hle : (e : Int) ≤ (len : Int) := by omega
    have hce : ¬ (cap = e) := by omega
    have hce2 : ¬ ((cap : Int) = (e : Int)) := by omega
    have hbq : (Pl.sealL (bs.take e) == bs.drop e) = q := by
      rw [← HQ.out, Bool.eq_iff_iff]
      simp only [beq_iff_eq, decide_eq_true_eq]
      exact ⟨Eq.symm, Eq.symm⟩
    have hwe : IntKind.i64.wrap (e : Int) = (e : Int) := by rw [IntKind.wrap_i64]; omega
    have hec : (e : Int) ≤ (cap : Int) := by omega
    have hec' : e ≤ cap := by omega
    have hel' : e ≤ len := by omega
    clear he hl hrow
    cases q
    · obtain ⟨HC, HO⟩ := HBAD 9 (by omega) HF.out
      clear HBAD
      go_enter Try.func11, Try.ntmps11
      go_wp2_with fail
      go_region_with (first
        | (go_at_call 24; refine (SealOf_any _ _ _ (bs.take e) _ (HTO.out.below (Below.drew (Below.refl _ _)))).mono ?_; rintro e w1 ⟨v1, rfl, ho1, hb1⟩; obtain ⟨a1, c1, rfl, hI1, _, _⟩ := ho1.shape; have hcv1 := conv_any hI1; have hcv2 := conv_any (HON.out.below ((Below.drew (Below.refl _ _)).trans hb1)); have HB1 := hid hb1; clear hI1 ho1 hb1))
      all_goals
        go_wp2
        go_ret2
        exact ⟨_, by rw [HC.out]; rfl, by rw [HO.out]; exact Own.nil _ _, (Below.drew (Below.refl _ _)).trans HB1.out⟩
    · exact StoreOf_good b off len cap e bs w HI.out HEQ.out (by omega) (by omega) H3.out hb (of_decide_eq_true HQ.out).symm HQ0.out
  · have hne : (((bs.getD 0 0).toNat : Int) != 116) = true := by
      rw [bne_iff_ne]
      intro e
      have e' : (bs.getD 0 0).toNat = (116 : UInt8).toNat := by show _ = 116; omega
      exact h3 (UInt8.toNat_inj.1 e')
    obtain ⟨HC, HO⟩ := HBAD 4 (by omega) (by unfold Pl.frameC; rw [if_neg (by omega), if_neg (by omega), if_pos h3])
    generalize ((bs.getD 0 0).toNat : Int) = x0 at *
    clear h3 hrow HBAD
    go_enter Try.func11, Try.ntmps11
    go_wp2
    go_ret2
    exact ⟨_, by rw [HC.out]; rfl, by rw [HO.out]; exact Own.nil _ _, Below.refl _ _⟩
end Go.Proofs.Ytcdobhdbafpkiab
