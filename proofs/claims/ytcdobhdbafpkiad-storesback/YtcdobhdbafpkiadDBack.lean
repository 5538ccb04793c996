/-
  Plain: what was read is written as it was.
-/
import Derived.Test.YtcdobhdbafpkiadDPlain
import Derived.Test.YtcdobhdbafpkiadEncode
namespace Go.Proofs.Ytcdobhdbafpkiad.Pl

theorem u8_toNat (x : UInt8) : u8 (x.toNat : Int) = x := by
  unfold u8
  apply UInt8.toNat_inj.1
  rw [UInt8.toNat_ofNat']
  have := x.toNat_lt
  simp
theorem num_back {c : Int} {r : List UInt8} (h : (num c r).2.1 = 0) : c = 0 ∧ r = u8 (num c r).1 :: (num c r).2.2 := by
  by_cases hc : c = 0
  · subst hc
    cases r with
    | nil => rw [num_nil] at h; simp at h
    | cons x t => rw [num_cons]; exact ⟨rfl, by rw [u8_toNat]⟩
  · rw [num_bad hc] at h; exact absurd h hc
theorem txt_back {c : Int} {r : List UInt8} (h : (txt c r).2.1 = 0) : c = 0 ∧ r = encT (txt c r).1 ++ (txt c r).2.2 := by
  unfold txt at h ⊢
  by_cases h1 : (num c r).2.1 = 0
  · rw [if_pos h1] at h ⊢
    by_cases h2 : (num c r).1.toNat ≤ (num c r).2.2.length
    · rw [if_pos h2]
      have hb := num_back h1
      have hr := num_range c r
      refine ⟨hb.1, ?_⟩
      have hs : ((⟨((num c r).2.2.take (num c r).1.toNat).toArray⟩ : ByteArray).size : Int) = (num c r).1 := by
        show ((((num c r).2.2.take (num c r).1.toNat).toArray.size : Nat) : Int) = _
        simp; omega
      unfold encT
      rw [hs]
      simp only [List.cons_append, List.take_append_drop]
      exact hb.2
    · rw [if_neg h2] at h; simp at h
  · rw [if_neg h1] at h; exact absurd h h1
theorem verF_back : ∀ (f k : Nat) (v c : Int) (r : List UInt8), f + k = 8 → k ≤ 7 → (verF f k v c r).2.1 = 0 →
    c = 0 ∧ k ≤ 6 ∧ ∃ m : Int, (verF f k v c r).1 = v + m * 128 ^ k ∧ 0 ≤ m ∧ (0 < k → 1 ≤ m) ∧ r = encV (6 - k) m ++ (verF f k v c r).2.2
  | 0, k, v, c, r => fun h1 h2 => by omega
  | f + 1, k, v, c, r => fun h1 h2 h => by
    rw [verF] at h ⊢
    by_cases hn : (num c r).2.1 = 0
    · rw [if_pos hn] at h ⊢
      have hb := num_back hn
      have hr := num_range c r
      generalize (num c r).1 = x at *
      generalize (num c r).2.2 = t at *
      by_cases hk : k = 7 ∨ (0 < k ∧ x = 0)
      · rw [if_pos hk] at h; simp at h
      · rw [if_neg hk] at h ⊢
        by_cases hx : x < 128
        · rw [if_pos hx]
          refine ⟨hb.1, by omega, x, ?_, by omega, by omega, ?_⟩
          · rw [Int.emod_eq_of_lt hr.1 hx]
          · rw [encV_small hx]; exact hb.2
        · rw [if_neg hx] at h ⊢
          obtain ⟨_, k6, m, e1, e2, e3, e4⟩ := verF_back f (k + 1) _ _ _ (by omega) (by omega) h
          have m1 := e3 (by omega)
          refine ⟨hb.1, by omega, x % 128 + 128 * m, ?_, by omega, by omega, ?_⟩
          · rw [e1, Int.pow_succ, Int.add_mul, Int.add_assoc]
            congr 2
            rw [Int.mul_comm 128 m, Int.mul_assoc, Int.mul_comm (128 ^ k) 128]
          · obtain ⟨g, hg⟩ : ∃ g, 6 - k = g + 1 := ⟨5 - k, by omega⟩
            rw [hg, encV_great (by omega)]
            have ha : (x % 128 + 128 * m) % 128 + 128 = x := by omega
            have hd : (x % 128 + 128 * m) / 128 = m := by omega
            rw [ha, hd, show g = 6 - (k + 1) by omega, List.cons_append, ← e4]
            exact hb.2
    · rw [if_neg hn] at h; exact absurd h hn
theorem ver_back {c : Int} {r : List UInt8} (h : (ver c r).2.1 = 0) : c = 0 ∧ r = encV 6 (ver c r).1 ++ (ver c r).2.2 := by
  unfold ver at h ⊢
  obtain ⟨h0, _, m, e1, _, _, e2⟩ := verF_back 8 0 0 c r rfl (by omega) h
  refine ⟨h0, ?_⟩
  have : (verF 8 0 0 c r).1 = m := by rw [e1]; simp
  rw [this]; exact e2
theorem ent4_back {c : Int} {r : List UInt8} (h : (ent4 c r).2.1 = 0) : c = 0 ∧ r = encE (ent4 c r).1 ++ (ent4 c r).2.2 := by
  unfold ent4 at h ⊢
  simp only at h ⊢
  have h4 := txt_back h
  have h3 := num_back h4.1
  have h2 := ver_back h3.1
  have h1 := txt_back h2.1
  refine ⟨h1.1, ?_⟩
  unfold encE
  simp only [List.append_assoc]
  rw [← h4.2, List.singleton_append, ← h3.2, ← h2.2, ← h1.2]
theorem entsN_back : ∀ (n : Nat) (l : List Ent) (c : Int) (r : List UInt8), (entsN n l c r).2.1 = 0 →
    ∃ m, (entsN n l c r).1 = l ++ m ∧ m.length = n ∧ r = encL m ++ (entsN n l c r).2.2
  | 0, l, c, r => fun _ => ⟨[], by simp [entsN], rfl, by simp [entsN, encL]⟩
  | n + 1, l, c, r => fun h => by
    rw [entsN] at h ⊢
    by_cases h1 : (ent4 c r).2.1 = 0
    · rw [if_pos h1] at h ⊢
      obtain ⟨m, e1, e2, e3⟩ := entsN_back n _ _ _ h
      refine ⟨(ent4 c r).1 :: m, by rw [e1]; simp, by simp [e2], ?_⟩
      rw [encL, List.append_assoc, ← e3]
      exact (ent4_back h1).2
    · rw [if_neg h1] at h; exact absurd h h1
theorem rdL_back {r : List UInt8} (h : (rdL r).2 = 0) : r = u8 ((rdL r).1.length : Int) :: encL (rdL r).1 := by
  unfold rdL at h ⊢
  by_cases h1 : (num 0 r).2.1 = 0
  · rw [if_pos h1] at h ⊢
    by_cases h2 : (entsN (num 0 r).1.toNat [] (num 0 r).2.1 (num 0 r).2.2).2.1 = 0
    · rw [if_pos h2] at h ⊢
      by_cases h3 : (entsN (num 0 r).1.toNat [] (num 0 r).2.1 (num 0 r).2.2).2.2 = []
      · rw [if_pos h3]
        obtain ⟨m, e1, e2, e3⟩ := entsN_back _ _ _ _ h2
        rw [h3, List.append_nil] at e3
        rw [List.nil_append] at e1
        simp only
        rw [e1, e2, ← e3]
        have hr := num_range 0 r
        rw [show (((num 0 r).1.toNat : Nat) : Int) = (num 0 r).1 by omega]
        exact (num_back h1).2
      · rw [if_neg h3] at h; simp at h
    · rw [if_neg h2] at h; exact absurd h h2
  · rw [if_neg h1] at h; exact absurd h h1
theorem dec_back {b : List UInt8} (h : decC b = 0) : fault (decO b) = 0 ∧ encO (decO b) = b := by
  have ho : decO b = (rdL ((b.take (b.length - 4)).drop 1)).1 := by unfold decO; rw [if_pos h]
  unfold decC at h
  by_cases h1 : frameC b = 0
  · rw [if_pos h1] at h
    by_cases h2 : (rdL ((b.take (b.length - 4)).drop 1)).2 = 0
    · rw [if_pos h2, ← ho] at h
      refine ⟨h, ?_⟩
      have hb := rdL_back h2
      rw [← ho] at hb
      unfold frameC at h1
      by_cases g1 : 20000 < b.length
      · rw [if_pos g1] at h1; simp at h1
      rw [if_neg g1] at h1
      by_cases g2 : b.length < 6
      · rw [if_pos g2] at h1; simp at h1
      rw [if_neg g2] at h1
      by_cases g3 : b.getD 0 0 = 116
      · rw [if_neg (fun x => x g3)] at h1
        by_cases g4 : sealL (b.take (b.length - 4)) = b.drop (b.length - 4)
        · have ht : b.take (b.length - 4) = body (decO b) := by
            unfold body
            rw [List.cons_append, List.singleton_append, ← hb]
            match b, g2, g3 with
            | x :: t, g2, g3 =>
              simp only [List.getD_cons_zero] at g3
              subst g3
              simp only [List.length_cons] at g2 ⊢
              obtain ⟨k, hk⟩ : ∃ k, t.length + 1 - 4 = k + 1 := ⟨t.length - 4, by omega⟩
              rw [hk]
              simp
          unfold encO
          rw [h]
          simp only [if_true]
          unfold enc
          rw [← ht, g4, List.take_append_drop]
        · rw [if_pos g4] at h1; simp at h1
      · rw [if_pos g3] at h1; simp at h1
    · rw [if_neg h2] at h; exact absurd h h2
  · rw [if_neg h1] at h; exact absurd h h1
end Go.Proofs.Ytcdobhdbafpkiad.Pl
