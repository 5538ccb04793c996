/-
  Contract: Decode.
-/
import Derived.Test.YtcdobhdbafpkiadDec5
import Derived.Test.YtcdobhdbafpkiadCheck
namespace Go.Proofs.Ytcdobhdbafpkiad
open Go.RowKit
set_option maxRecDepth 20000

theorem frame_len {bs : List UInt8} (h : Pl.frameC bs = 0) : 6 ≤ bs.length ∧ bs.length ≤ 20000 := by
  unfold Pl.frameC at h
  by_cases h1 : 20000 < bs.length
  · rw [if_pos h1] at h; simp at h
  · by_cases h2 : bs.length < 6
    · rw [if_neg h1, if_pos h2] at h; simp at h
    · omega

set_option maxHeartbeats 1000000 in
theorem Decode_any (a : Option Addr) (len cap : Nat) (bs : List UInt8) (w : World) (h : IsBytes w a len cap bs) :
    Calls Try.prog 20 #[.slice a len cap] w fun e w' => ∃ v, e = .returned (.tuple #[v, .int .i64 (Pl.decC bs)]) ∧ Own w' w.heap.size v (Pl.decO bs) ∧ Below w.heap.size w w' := by
  have HI := hid h
  obtain ⟨hl, hlc, hm, hrow⟩ := h
  unfold maxLen at hm
  have HFR := hid (checkFrame_any _ _ _ _ _ HI.out)
  by_cases hf : Pl.frameC bs = 0
  · have hfl := frame_len hf
    obtain ⟨b, off, rfl, hb, hr⟩ : ∃ b off, a = some ⟨b, off, none⟩ ∧ b < w.heap.size ∧ ∀ j u, (bcells bs)[j]? = some u → w.cell? ⟨b, off + j, none⟩ = some u := by
      rcases hrow with h | h
      · rw [h] at hfl; simp at hfl
      · exact h
    clear hr
    obtain ⟨e, he⟩ : ∃ e, len = e + 4 := ⟨len - 4, by omega⟩
    have HMID := hid (bytes_on (n := 1) (bytes_to HI.out (show e ≤ len by omega)) (by omega))
    have HC : Hid (Pl.decC bs = if (Pl.rdL ((bs.take e).drop 1)).2 = 0 then Pl.fault (Pl.rdL ((bs.take e).drop 1)).1 else (Pl.rdL ((bs.take e).drop 1)).2) := by
      show _ = _
      unfold Pl.decC
      rw [if_pos hf, hl, show len - 4 = e by omega]
    have HO : Hid (Pl.decO bs = if Pl.decC bs = 0 then (Pl.rdL ((bs.take e).drop 1)).1 else []) := by
      show _ = _
      unfold Pl.decO
      rw [hl, show len - 4 = e by omega]
    have HRK := hid (Pl.rdL_ok ((bs.take e).drop 1))
    rw [hf] at HFR
    have hsub : (len : Int) - 4 = (e : Int) := by omega
    have hle : (e : Int) ≤ (len : Int) := by omega
    have hce : ¬ (cap = 1) := by omega
    have hce2 : ¬ ((cap : Int) = 1) := by omega
    have hle1 : (1 : Int) ≤ (e : Int) := by omega
    clear hl hrow hf he
    obtain ⟨rd, HR⟩ : ∃ rd, Hid (Pl.rdL ((bs.take e).drop 1) = rd) := ⟨_, rfl⟩
    obtain ⟨l, c⟩ := rd
    rw [HR.out] at HC HO HRK
    simp only at HC HO HRK
    go_enter Try.func20, Try.ntmps20
    go_wp2_with fail
    refine HFR.out.mono ?_
    rintro x w1 ⟨rfl, hb1⟩
    have HB1 := hid hb1
    clear hb1
    go_wp2_with fail
    refine (readEntries_any _ _ _ _ _ (HMID.out.below HB1.out) (by intro h; cases h)).mono ?_
    rw [HR.out]
    rintro x w2 ⟨v2, rfl, ho2, hb2⟩
    simp only at ho2
    have HOK := HRK
    obtain ⟨a2, c2, rfl, hE2, _, _⟩ := ho2.shape HRK.out
    have HE2 := hid hE2
    have HO2 := hid ho2
    have HB2 := hid hb2
    clear hE2 ho2 hb2
    by_cases hc : c = 0
    · subst hc
      go_wp2_with fail
      refine (Check_any _ _ _ _ _ HE2.out).mono ?_
      rintro x w3 ⟨rfl, hb3⟩
      have HB3 := hid hb3
      clear hb3
      have HC3 : Hid (Pl.decC bs = Pl.fault l) := by show _ = _; rw [HC.out]; simp
      by_cases hz : Pl.fault l = 0
      · rw [hz] at HC3 ⊢
        go_wp2
        go_ret2
        exact ⟨_, by rw [HC3.out]; rfl, by rw [HO.out, if_pos HC3.out]; exact (HO2.out.mono HB1.out.size).below HB3.out, HB1.out.trans ((HB2.out.trans (HB3.out.mono HB2.out.size)).mono HB1.out.size)⟩
      · generalize Pl.fault l = c3 at *
        go_wp2
        go_ret2
        exact ⟨_, by rw [HC3.out]; rfl, by rw [HO.out, if_neg (by rw [HC3.out]; exact hz)]; exact Own.nil _ _, HB1.out.trans ((HB2.out.trans (HB3.out.mono HB2.out.size)).mono HB1.out.size)⟩
    · have HC3 : Hid (Pl.decC bs = c) := by show _ = _; rw [HC.out]; rw [if_neg hc]
      go_wp2
      go_ret2
      exact ⟨_, by rw [HC3.out]; rfl, by rw [HO.out, if_neg (by rw [HC3.out]; exact hc)]; exact Own.nil _ _, HB1.out.trans (HB2.out.mono HB1.out.size)⟩
  · have HC : Hid (Pl.decC bs = Pl.frameC bs) := by show _ = _; unfold Pl.decC; rw [if_neg hf]
    have HO : Hid (Pl.decO bs = []) := by show _ = _; unfold Pl.decO; rw [if_neg (by rw [HC.out]; exact hf)]
    clear hrow
    generalize Pl.frameC bs = c at *
    go_enter Try.func20, Try.ntmps20
    go_wp2_with fail
    refine HFR.out.mono ?_
    rintro x w1 ⟨rfl, hb1⟩
    have HB1 := hid hb1
    clear hb1
    go_wp2
    go_ret2
    exact ⟨_, by rw [HC.out]; rfl, by rw [HO.out]; exact Own.nil _ _, HB1.out⟩
end Go.Proofs.Ytcdobhdbafpkiad
