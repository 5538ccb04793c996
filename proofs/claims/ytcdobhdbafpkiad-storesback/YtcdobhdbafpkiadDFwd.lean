/-
  Plain: what was written is read as it was; with a byte more, or one byte changed, it is refused.
-/
import Derived.Test.YtcdobhdbafpkiadDBack
namespace Go.Proofs.Ytcdobhdbafpkiad.Pl

theorem num_fwd {x : Int} (h0 : 0 ≤ x) (h1 : x ≤ 255) (t : List UInt8) : num 0 (u8 x :: t) = (x, 0, t) := by
  rw [num_cons, u8_val h0 h1]
theorem txt_fwd {s : ByteArray} (h : s.size ≤ 255) (t : List UInt8) : txt 0 (encT s ++ t) = (s, 0, t) := by
  unfold txt encT
  rw [List.cons_append, num_fwd (by omega) (by omega)]
  have hl : s.data.toList.length = s.size := by simp
  simp only [if_true, Int.toNat_natCast]
  rw [if_pos (by rw [List.length_append, hl]; omega)]
  refine Prod.ext ?_ (Prod.ext rfl ?_)
  · show (⟨((s.data.toList ++ t).take s.size).toArray⟩ : ByteArray) = s
    rw [List.take_left' hl]
  · show (s.data.toList ++ t).drop s.size = t
    rw [List.drop_left' hl]
theorem verF_fwd : ∀ (f k : Nat) (v m : Int) (t : List UInt8), f + k = 8 → k ≤ 6 → 0 ≤ m → m < 128 ^ (7 - k) → (0 < k → 1 ≤ m) → verF f k v 0 (encV (6 - k) m ++ t) = (v + m * 128 ^ k, 0, t)
  | 0, k, v, m, t => fun h1 h2 => by omega
  | f + 1, k, v, m, t => fun h1 h2 h3 h4 h5 => by
    by_cases hx : m < 128
    · rw [encV_small hx, List.singleton_append, verF, num_fwd h3 (by omega)]
      simp only [if_true]
      rw [if_neg (by omega), if_pos hx, Int.emod_eq_of_lt h3 hx]
    · have hk6 : k < 6 := by
        rcases Nat.lt_or_ge k 6 with h | h
        · exact h
        · obtain rfl : k = 6 := by omega
          simp at h4; omega
      obtain ⟨g, hg⟩ : ∃ g, 6 - k = g + 1 := ⟨5 - k, by omega⟩
      rw [hg, encV_great hx, List.cons_append, verF, num_fwd (by omega) (by omega)]
      simp only [if_true]
      rw [if_neg (by omega), if_neg (by omega)]
      have e4 : m / 128 < 128 ^ (7 - (k + 1)) := by
        have e : 7 - k = (7 - (k + 1)) + 1 := by omega
        rw [e, Int.pow_succ] at h4
        generalize (128 : Int) ^ (7 - (k + 1)) = P at *
        omega
      have ih := verF_fwd f (k + 1) (v + (m % 128 + 128) % 128 * 128 ^ k) (m / 128) t (by omega) (by omega) (by omega) e4 (by omega)
      rw [show g = 6 - (k + 1) by omega, ih]
      refine Prod.ext ?_ rfl
      show v + (m % 128 + 128) % 128 * 128 ^ k + m / 128 * 128 ^ (k + 1) = v + m * 128 ^ k
      have e1 : (m % 128 + 128) % 128 = m % 128 := by omega
      rw [e1, Int.pow_succ, Int.add_assoc]
      congr 1
      rw [Int.mul_comm (128 ^ k) 128, ← Int.mul_assoc, ← Int.add_mul]
      congr 1
      omega
theorem ver_fwd {n : Int} (h0 : 0 ≤ n) (h1 : n ≤ 1099511627776) (t : List UInt8) : ver 0 (encV 6 n ++ t) = (n, 0, t) := by
  unfold ver
  have := verF_fwd 8 0 0 n t rfl (by omega) h0 (by show n < (128 : Int) ^ 7; have : (128 : Int) ^ 7 = 562949953421312 := by decide
                                                   omega) (by omega)
  simpa using this
theorem ent4_fwd {e : Ent} (h : e.may = true) (t : List UInt8) : ent4 0 (encE e ++ t) = (e, 0, t) := by
  have hp := may_parts h
  unfold ent4 encE
  simp only [List.append_assoc]
  rw [txt_fwd (by omega)]
  simp only
  rw [ver_fwd (by omega) (by omega)]
  simp only
  rw [List.singleton_append, num_fwd (by omega) (by omega)]
  simp only
  rw [txt_fwd (by omega)]
theorem entsN_fwd : ∀ (es : List Ent) (l : List Ent) (t : List UInt8), (∀ e ∈ es, e.may = true) → entsN es.length l 0 (encL es ++ t) = (l ++ es, 0, t)
  | [], l, t, _ => by simp [entsN, encL]
  | e :: r, l, t, h => by
    rw [List.length_cons, entsN, encL, List.append_assoc, ent4_fwd (h e (by simp))]
    simp only [if_true]
    rw [entsN_fwd r _ t (fun x hx => h x (by simp [hx]))]
    simp
theorem good_may {es : List Ent} (h : fault es = 0) : es.length ≤ 60 ∧ ∀ e ∈ es, e.may = true := by
  obtain ⟨h1, h2, _⟩ := (good_iff es).1 h
  exact ⟨h1, h2⟩
theorem rdL_fwd {es : List Ent} (h : fault es = 0) (t : List UInt8) : rdL (u8 (es.length : Int) :: (encL es ++ t)) = if t = [] then (es, 0) else ([], 4) := by
  obtain ⟨h1, h2⟩ := good_may h
  unfold rdL
  rw [num_fwd (by omega) (by omega)]
  simp only [if_true, Int.toNat_natCast]
  rw [entsN_fwd es [] t h2]
  simp
theorem encL_len : ∀ {es : List Ent}, (∀ e ∈ es, e.may = true) → (encL es).length ≤ es.length * 138
  | [], _ => by simp [encL]
  | e :: r, h => by
    have h1 := encE_len (h e (by simp))
    have h2 := encL_len (es := r) (fun x hx => h x (by simp [hx]))
    simp only [encL, List.length_append, List.length_cons]; omega
theorem enc_len {es : List Ent} (h : fault es = 0) : 6 ≤ (enc es).length ∧ (enc es).length ≤ 8286 ∧ (body es).length + 4 = (enc es).length := by
  obtain ⟨h1, h2⟩ := good_may h
  have h3 := encL_len h2
  have hb : (body es).length = (encL es).length + 2 := by unfold body; simp
  have he : (enc es).length = (body es).length + 4 := by unfold enc; simp [sealL_len]
  omega
theorem enc_take {es : List Ent} (t : List UInt8) (n : Nat) (h : n = (body es).length) : (enc es ++ t).take n = body es := by
  subst h
  unfold enc
  rw [List.append_assoc, List.take_left]
theorem frameC_enc {es : List Ent} (h : fault es = 0) : frameC (enc es) = 0 := by
  obtain ⟨h1, h2, h3⟩ := enc_len h
  have ht : (enc es).take ((enc es).length - 4) = body es := by
    have := enc_take (es := es) [] ((enc es).length - 4) (by omega)
    simpa using this
  have hd : (enc es).drop ((enc es).length - 4) = sealL (body es) := by
    rw [show (enc es).length - 4 = (body es).length by omega]
    unfold enc
    rw [List.drop_left]
  unfold frameC
  rw [if_neg (by omega), if_neg (by omega), if_neg (by show ¬ ¬ (enc es).getD 0 0 = 116; simp [enc, body]), ht, hd, if_neg (by simp)]
theorem dec_fwd {es : List Ent} (h : fault es = 0) : decC (enc es) = 0 ∧ decO (enc es) = es := by
  obtain ⟨h1, h2, h3⟩ := enc_len h
  have ht : (enc es).take ((enc es).length - 4) = body es := by
    have := enc_take (es := es) [] ((enc es).length - 4) (by omega)
    simpa using this
  have hr : rdL ((body es).drop 1) = (es, 0) := by
    have := rdL_fwd h []
    simpa [body] using this
  have hc : decC (enc es) = 0 := by
    unfold decC
    rw [frameC_enc h, ht, hr]
    simpa using h
  refine ⟨hc, ?_⟩
  unfold decO
  rw [if_pos hc, ht, hr]
/-- with a byte more it is refused -/
theorem dec_more {es : List Ent} (h : fault es = 0) (c : UInt8) : decC (enc es ++ [c]) ≠ 0 := by
  obtain ⟨h1, h2, h3⟩ := enc_len h
  unfold decC
  by_cases hf : frameC (enc es ++ [c]) = 0
  · rw [if_pos hf]
    have ht : ((enc es ++ [c]).take ((enc es ++ [c]).length - 4)).drop 1 = u8 (es.length : Int) :: (encL es ++ [u8 ((sxy (body es) 1 0).2 / 256)]) := by
      have e : (enc es ++ [c]).length - 4 = (body es).length + 1 := by simp; omega
      rw [e]
      unfold enc sealL
      rw [List.append_assoc, List.take_append, List.take_of_length_le (by omega), show (body es).length + 1 - (body es).length = 1 by omega]
      simp [body]
    rw [ht, rdL_fwd h]
    simp
  · rw [if_neg hf]; exact hf

def sumB (bs : List UInt8) : Int := (bs.map fun c => (c.toNat : Int)).sum
theorem sxy_sum : ∀ (bs : List UInt8) (x y : Int), 0 ≤ x → x < 65521 → (sxy bs x y).1 = (x + sumB bs) % 65521 ∧ 0 ≤ (sxy bs x y).1 ∧ (sxy bs x y).1 < 65521
  | [], x, y, h0, h1 => by simp [sxy, sumB]; omega
  | c :: r, x, y, h0, h1 => by
    obtain ⟨a, b, d⟩ := sxy_sum r ((x + (c.toNat : Int)) % 65521) ((y + (x + (c.toNat : Int)) % 65521) % 65521) (by omega) (by omega)
    refine ⟨?_, b, d⟩
    show (sxy r _ _).1 = _
    rw [a]
    simp only [sumB, List.map_cons, List.sum_cons]
    omega
theorem sumB_append (a b : List UInt8) : sumB (a ++ b) = sumB a + sumB b := by simp [sumB]
theorem sumB_cons (c : UInt8) (r : List UInt8) : sumB (c :: r) = (c.toNat : Int) + sumB r := by simp [sumB]
theorem sumB_set : ∀ {bs : List UInt8} {i : Nat} (h : i < bs.length) (v : UInt8), sumB (bs.set i v) = sumB bs + (v.toNat : Int) - (bs[i].toNat : Int)
  | [], i, h, _ => by simp at h
  | b :: r, 0, _, v => by simp only [List.set_cons_zero, sumB_cons, List.getElem_cons_zero]; omega
  | b :: r, i + 1, h, v => by
    have ih := sumB_set (bs := r) (i := i) (by simpa using h) v
    simp only [List.set_cons_succ, sumB_cons, List.getElem_cons_succ, ih]; omega
theorem seal_x {a b : List UInt8} (h : sealL a = sealL b) : (sxy a 1 0).1 = (sxy b 1 0).1 := by
  obtain ⟨_, a0, a1⟩ := sxy_sum a 1 0 (by omega) (by omega)
  obtain ⟨_, b0, b1⟩ := sxy_sum b 1 0 (by omega) (by omega)
  unfold sealL at h
  simp only [List.cons.injEq, and_true] at h
  obtain ⟨_, _, h1, h2⟩ := h
  generalize (sxy a 1 0).1 = x at *
  generalize (sxy b 1 0).1 = y at *
  have g1 := congrArg (fun c : UInt8 => (c.toNat : Int)) h1
  have g2 := congrArg (fun c : UInt8 => (c.toNat : Int)) h2
  rw [u8_val (by omega) (by omega), u8_val (by omega) (by omega)] at g1 g2
  omega
/-- with a byte changed it is refused -/
theorem dec_bad {b : List UInt8} (hf : frameC b = 0) {i : Nat} (hi : i < b.length) {v : UInt8} (hv : v ≠ b[i]) : decC (b.set i v) ≠ 0 := by
  have seals : ∀ x : List UInt8, frameC x = 0 → 6 ≤ x.length ∧ sealL (x.take (x.length - 4)) = x.drop (x.length - 4) := by
    intro x hx
    unfold frameC at hx
    by_cases g1 : 20000 < x.length
    · rw [if_pos g1] at hx; simp at hx
    rw [if_neg g1] at hx
    by_cases g2 : x.length < 6
    · rw [if_pos g2] at hx; simp at hx
    rw [if_neg g2] at hx
    by_cases g3 : x.getD 0 0 = 116
    · rw [if_neg (fun k => k g3)] at hx
      by_cases g4 : sealL (x.take (x.length - 4)) = x.drop (x.length - 4)
      · exact ⟨by omega, g4⟩
      · rw [if_pos g4] at hx; simp at hx
    · rw [if_pos g3] at hx; simp at hx
  have hc : frameC (b.set i v) ≠ 0 := by
    intro hg
    obtain ⟨l1, s1⟩ := seals b hf
    obtain ⟨l2, s2⟩ := seals _ hg
    rw [List.length_set] at s2
    rcases Nat.lt_or_ge i (b.length - 4) with hlt | hge
    · have e1 : (b.set i v).drop (b.length - 4) = b.drop (b.length - 4) := by rw [List.drop_set]; simp [hlt]
      have e2 : (b.set i v).take (b.length - 4) = (b.take (b.length - 4)).set i v := by rw [List.take_set]
      rw [e1, e2, ← s1] at s2
      have hx := seal_x s2
      have hlt' : i < (b.take (b.length - 4)).length := by simp; omega
      rw [(sxy_sum _ 1 0 (by omega) (by omega)).1, (sxy_sum _ 1 0 (by omega) (by omega)).1, sumB_set hlt'] at hx
      have hb : (b.take (b.length - 4))[i] = b[i] := by simp
      rw [hb] at hx
      have hn : (v.toNat : Int) ≠ (b[i].toNat : Int) := by
        intro e; apply hv; apply UInt8.toNat_inj.1; omega
      have := v.toNat_lt
      have := (b[i]).toNat_lt
      omega
    · have e1 : (b.set i v).take (b.length - 4) = b.take (b.length - 4) := by
        rw [List.take_set, List.set_eq_of_length_le (by simp; omega)]
      rw [e1, s1] at s2
      have e2 := congrArg (fun l => l[i - (b.length - 4)]?) s2
      simp only [List.getElem?_drop, show b.length - 4 + (i - (b.length - 4)) = i by omega] at e2
      rw [List.getElem?_set_self hi, List.getElem?_eq_getElem hi] at e2
      simp at e2
      exact hv e2.symm
  unfold decC
  rw [if_neg hc]; exact hc
end Go.Proofs.Ytcdobhdbafpkiad.Pl
