/-
  Contracts: the frame of bytes, and Decode.
-/
import Derived.Test.YtcdobhdbafpkiadDec4
import Derived.Test.YtcdobhdbafpkiadSeal
import Derived.Deep.RegionWith
namespace Go.Proofs.Ytcdobhdbafpkiad
open Go.RowKit
set_option maxRecDepth 20000

theorem Equal_any (a1 a2 : Option Addr) (l1 c1 l2 c2 : Nat) (x y : List UInt8) (w : World) (h1 : IsBytes w a1 l1 c1 x) (h2 : IsBytes w a2 l2 c2 y) :
    Calls Try.prog 45 #[.slice a1 l1 c1, .slice a2 l2 c2] w fun e w' => e = .returned (.bool (decide (x = y))) ∧ w' = w := by
  have hc1 := conv_any h1
  have hc2 := conv_any h2
  clear h1 h2
  go_enter Try.func45, Try.ntmps45
  go_wp2
  go_ret
  exact ⟨ret_bool (by rw [Bool.eq_iff_iff]; simp), rfl⟩

set_option maxHeartbeats 1000000 in
theorem checkFrame_any (a : Option Addr) (len cap : Nat) (bs : List UInt8) (w : World) (h : IsBytes w a len cap bs) :
    Calls Try.prog 34 #[.slice a len cap] w fun e w' => e = .returned (.int .i64 (Pl.frameC bs)) ∧ Below w.heap.size w w' := by
  have HI := hid h
  obtain ⟨hl, hlc, hm, hrow⟩ := h
  unfold maxLen at hm
  by_cases h1 : 20000 < len
  · have HF : Hid (Pl.frameC bs = 1) := by show _ = _; unfold Pl.frameC; rw [if_pos (by omega)]
    clear hrow
    go_enter Try.func34, Try.ntmps34
    go_wp2
    go_ret
    exact ⟨ret_int (by rw [HF.out]), Below.refl _ _⟩
  by_cases h2 : len < 6
  · have HF : Hid (Pl.frameC bs = 5) := by show _ = _; unfold Pl.frameC; rw [if_neg (by omega), if_pos (by omega)]
    clear hrow
    go_enter Try.func34, Try.ntmps34
    go_wp2
    go_ret
    exact ⟨ret_int (by rw [HF.out]), Below.refl _ _⟩
  obtain ⟨b, off, rfl, hb, hr⟩ : ∃ b off, a = some ⟨b, off, none⟩ ∧ b < w.heap.size ∧ ∀ j u, (bcells bs)[j]? = some u → w.cell? ⟨b, off + j, none⟩ = some u := by
    rcases hrow with h | h
    · rw [h] at hl; simp at hl; omega
    · exact h
  have q0 := hr 0 _ (bcell_at (by omega))
  simp only [Nat.add_zero] at q0
  clear hr
  have hpos : (0 : Int) < (len : Int) := by omega
  by_cases h3 : bs.getD 0 0 = 116
  · have hne : (((bs.getD 0 0).toNat : Int) != 116) = false := by rw [h3]; rfl
    have H3 := hid h3
    clear h3
    generalize ((bs.getD 0 0).toNat : Int) = x0 at *
    obtain ⟨e, he⟩ : ∃ e, len = e + 4 := ⟨len - 4, by omega⟩
    have HEQ := hid he
    have HTO := hid (bytes_to HI.out (show e ≤ len by omega))
    have HEN := hid (fun (hc : len ≤ e) => bytes_end (w := w) (b := b) (off := off) (n := e) hc hl)
    have HON := hid (bytes_on (n := e) HI.out (by omega))
    obtain ⟨q, HQ⟩ : ∃ q, Hid (decide (bs.drop e = Pl.sealL (bs.take e)) = q) := ⟨_, rfl⟩
    have HF : Hid (Pl.frameC bs = if q = true then 0 else 9) := by
      show _ = _
      unfold Pl.frameC
      rw [if_neg (by omega), if_neg (by omega), if_neg (fun h => h H3.out), hl, show len - 4 = e by omega]
      cases q
      · have := of_decide_eq_false HQ.out
        rw [if_pos (fun h => this h.symm)]; rfl
      · have := of_decide_eq_true HQ.out
        rw [if_neg (fun h => h this.symm)]; rfl
    have hsub : (len : Int) - 4 = (e : Int) := by omega
    have hle : (e : Int) ≤ (len : Int) := by omega
    clear he hl hrow
    go_enter Try.func34, Try.ntmps34
    have hce : ¬ (cap = e) := by omega
    have hce2 : ¬ ((cap : Int) = (e : Int)) := by omega
    cases q
    all_goals
      go_wp2_with fail
      go_region_with (first
        | (go_at_call 33; refine (seal_any _ _ _ (bs.take e) _ (HTO.out.below (Below.drew (Below.refl _ _)))).mono ?_; rintro e w1 ⟨v1, rfl, ho1, hb1⟩; obtain ⟨a1, c1, rfl, hI1, _, _⟩ := ho1.shape; have HI1 := hid hI1; have HB1 := hid hb1; clear hI1 ho1 hb1)
        | (go_at_call 45; refine (Equal_any _ _ _ _ _ _ (bs.drop e) (Pl.sealL (bs.take e)) _ (HON.out.below ((Below.drew (Below.refl _ _)).trans HB1.out)) HI1.out).mono ?_; rw [HQ.out]; rintro e w2 ⟨rfl, rfl⟩))
    all_goals
      go_wp2
      go_ret
      exact ⟨ret_int (by rw [HF.out]; rfl), (Below.drew (Below.refl _ _)).trans HB1.out⟩
  · have hne : (((bs.getD 0 0).toNat : Int) != 116) = true := by
      rw [bne_iff_ne]
      intro e
      have e' : (bs.getD 0 0).toNat = (116 : UInt8).toNat := by show _ = 116; omega
      exact h3 (UInt8.toNat_inj.1 e')
    have HF : Hid (Pl.frameC bs = 4) := by show _ = _; unfold Pl.frameC; rw [if_neg (by omega), if_neg (by omega), if_pos h3]
    generalize ((bs.getD 0 0).toNat : Int) = x0 at *
    clear h3 hrow
    go_enter Try.func34, Try.ntmps34
    go_wp2
    go_ret
    exact ⟨ret_int (by rw [HF.out]), Below.refl _ _⟩
end Go.Proofs.Ytcdobhdbafpkiad
