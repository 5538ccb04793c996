/-
  Contract: the document's dec: a number's digits.
-/
import Derived.Test.YtcdobhdbafpkiabDoorShowP
import Derived.Laws.IdiomStrings
import Derived.Lib.BufferRead
namespace Go.Proofs.YtcdobhdbafpkiabDoor
open Go.RowKit

theorem Pl.dec_small {n : Nat} (h : n < 10) : Pl.dec (n : Int) = ⟨#[UInt8.ofNat (48 + n)]⟩ := by
  unfold Pl.dec
  rw [Lib.itoa_nonneg, Lib.decDigits_one h]
theorem Pl.dec_great {n : Nat} (h : ¬ n < 10) : Pl.dec (n : Int) = Pl.dec ((n / 10 : Nat) : Int) ++ Pl.dec ((n % 10 : Nat) : Int) := by
  have h1 : Pl.dec ((n % 10 : Nat) : Int) = ⟨#[UInt8.ofNat (48 + n % 10)]⟩ := Pl.dec_small (by omega)
  rw [h1]
  unfold Pl.dec
  rw [Lib.itoa_nonneg, Lib.itoa_nonneg, Lib.decDigits, dif_neg h]
  apply ByteArray.ext
  simp [ByteArray.data_append]

set_option maxHeartbeats 1000000 in
theorem dec_any : ∀ (n : Nat) (w : World), n ≤ 100000 →
    Calls Tryd.prog 9 #[.int .i64 (n : Int)] w fun e w' => e = .returned (.string (Pl.dec (n : Int))) ∧ Below w.heap.size w w' := by
  intro n
  induction n using Nat.strongRecOn with
  | _ n ih =>
    intro w hn
    by_cases h10 : n < 10
    · have HD := hid (Pl.dec_small h10)
      obtain ⟨c, hc⟩ : ∃ c, c = UInt8.ofNat (48 + n) := ⟨_, rfl⟩
      rw [← hc] at HD
      have e : (c.toNat : Int) = 48 + (n : Int) := by
        rw [hc, UInt8.toNat_ofNat']; omega
      clear hc
      have hconv : (convert 41 9 (.slice (some ⟨w.heap.size, 0, none⟩) 1 1)).run Tryd.prog (w.alloc (.cells #[.int .u8 (48 + (n : Int))] 5)) = .ok (.string ⟨#[c]⟩) (w.alloc (.cells #[.int .u8 (48 + (n : Int))] 5)) := by
        have := run_convert_bytes_back (P := Tryd.prog) (w.alloc (.cells #[.int .u8 (48 + (n : Int))] 5)) 41 9 5 ⟨w.heap.size, 0, none⟩ 1 [c] Tryd.underlying41 Tryd.underlying5 Tryd.underlying9 ?_
        · simpa using this
        · intro j hj
          obtain rfl : j = 0 := by simpa using hj
          simp [add_none, e]
      clear e
      clear ih
      go_enter Tryd.func9, Tryd.ntmps9
      go_wp2_with fail
      go_ret
      exact ⟨by rw [HD.out]; rfl, (Below.refl _ _).alloc (Nat.le_refl _) _⟩
    · have HD := hid (Pl.dec_great h10)
      have hq : ((n : Int)).tdiv 10 = ((n / 10 : Nat) : Int) := by rw [Int.tdiv_eq_ediv_of_nonneg (by omega)]; omega
      have hr : ((n : Int)).tmod 10 = ((n % 10 : Nat) : Int) := by rw [Int.tmod_eq_emod_of_nonneg (by omega)]; omega
      have HQ := hid (ih (n / 10) (by omega))
      have HR := hid (ih (n % 10) (by omega))
      have hz1 := Pl.dec_size ((n / 10 : Nat) : Int) (by omega) (by omega)
      have hz2 := Pl.dec_size ((n % 10 : Nat) : Int) (by omega) (by omega)
      obtain ⟨s1, HS1⟩ : ∃ s, Hid (Pl.dec ((n / 10 : Nat) : Int) = s) := ⟨_, hid rfl⟩
      obtain ⟨s2, HS2⟩ : ∃ s, Hid (Pl.dec ((n % 10 : Nat) : Int) = s) := ⟨_, hid rfl⟩
      rw [HS1.out] at HQ hz1 HD
      rw [HS2.out] at HR hz2 HD
      have hn10 : ¬ (n : Int) < 10 := by omega
      obtain ⟨nq, hnq⟩ : ∃ c, c = n / 10 := ⟨_, rfl⟩
      obtain ⟨nr, hnr⟩ : ∃ c, c = n % 10 := ⟨_, rfl⟩
      have b1 : nq ≤ 100000 := by omega
      have b2 : nr ≤ 100000 := by omega
      rw [← hnq] at hq HQ
      rw [← hnr] at hr HR
      clear ih hnq hnr
      go_enter Tryd.func9, Tryd.ntmps9
      go_wp2_with fail
      refine (HQ.out _ b1).mono ?_
      rintro e w1 ⟨rfl, hb1⟩
      go_wp2_with fail
      refine (HR.out _ b2).mono ?_
      rintro e w2 ⟨rfl, hb2⟩
      go_wp2_with fail
      go_ret
      exact ⟨by rw [HD.out]; rfl, hb1.trans (hb2.mono hb1.size)⟩
end Go.Proofs.YtcdobhdbafpkiabDoor
