/-
  Contracts: the reader's small methods: a number, a refusal, a text.
-/
import Derived.Test.YtcdobhdbafpkiadConv
import Derived.Test.YtcdobhdbafpkiadDPlain
namespace Go.Proofs.Ytcdobhdbafpkiad
open Go.RowKit
set_option maxRecDepth 20000

/-- block R alone is written, of what was there -/
def Only (R : Nat) (w w' : World) : Prop := w.grownBy w' (some R)
theorem Only.refl (R : Nat) (w : World) : Only R w w := World.grownBy.refl _ _
theorem Only.trans {R : Nat} {a b c : World} (h : Only R a b) (k : Only R b c) : Only R a c :=
  ⟨k.os.trans h.os, k.tape.trans h.tape, k.output.trans h.output, Nat.le_trans h.size k.size, fun i hi hne => (k.block i (Nat.lt_of_lt_of_le hi h.size) hne).trans (h.block i hi hne)⟩
theorem Only.set (R o : Nat) (w : World) (v : Value) : Only R w (w.setCell ⟨R, o, none⟩ v) :=
  ⟨rfl, rfl, rfl, by simp [World.setCell], fun k _ hne => Below.heap_setCell _ _ _ _ (fun e => hne (by rw [e]))⟩
theorem Only.of_below {R : Nat} {w w' : World} (h : Below w.heap.size w w') : Only R w w' := ⟨h.os, h.tape, h.output, h.size, fun k hk _ => h.block k hk⟩
theorem Only.below {R B : Nat} {w w' : World} (h : Only R w w') (hB : B ≤ R) (hs : R ≤ w.heap.size) : Below B w w' := ⟨h.os, h.tape, h.output, h.size, fun k hk => h.block k (by omega) (fun e => by cases e; omega)⟩
theorem Only.cell {R b o : Nat} {w w' : World} (h : Only R w w') (hb : b < w.heap.size) (hne : ¬ b = R) : w'.cell? ⟨b, o, none⟩ = w.cell? ⟨b, o, none⟩ :=
  World.cell?_of_block (w := w) (h.block b hb (fun e => hne (by cases e; rfl)))

/-- a reader at block R: what is wrong, and what is left; the bytes lie below block B -/
def RdAt (w : World) (B R : Nat) (c : Int) (rs : List UInt8) : Prop :=
  ∃ a len cap, w.cell? ⟨R, 0, none⟩ = some (.slice a len cap) ∧ w.cell? ⟨R, 1, none⟩ = some (.int .i64 c) ∧ w.frozen? ⟨R, 0, none⟩ = false ∧ w.frozen? ⟨R, 1, none⟩ = false ∧
    IsBytes w a len cap rs ∧ (a = none → cap = 0) ∧ (∀ x, a = some x → ¬ rs = [] → x.block < B) ∧ B ≤ R ∧ R < w.heap.size ∧ (¬ c = 0 → rs = [])

theorem isBytes_only {w w' : World} {R B : Nat} {a : Option Addr} {len cap : Nat} {bs : List UInt8} (h : IsBytes w a len cap bs) (k : Only R w w') (hB : B ≤ R) (hx : ∀ x, a = some x → ¬ bs = [] → x.block < B) : IsBytes w' a len cap bs := by
  obtain ⟨h1, h2, h3, h5⟩ := h
  refine ⟨h1, h2, h3, ?_⟩
  by_cases hn : bs = []
  · exact .inl hn
  · rcases h5 with h5 | ⟨b, off, rfl, hb, hr⟩
    · exact .inl h5
    · have := hx _ rfl hn
      exact .inr ⟨b, off, rfl, Nat.lt_of_lt_of_le hb k.size, fun j u hj => (k.cell hb (by simp at this; omega)).trans (hr j u hj)⟩
theorem bytes_end {w : World} {b off len n : Nat} {bs : List UInt8} (hc : len ≤ n) (hl : bs.length = len) : IsBytes w (some ⟨b, off, none⟩) (len - n) 0 (bs.drop n) := by
  have e : bs.drop n = [] := List.drop_eq_nil_of_le (by omega)
  rw [e, show len - n = 0 by omega]
  exact ⟨rfl, Nat.le_refl _, by simp, .inl rfl⟩
theorem bytes_on {w : World} {b off len cap n : Nat} {bs : List UInt8} (h : IsBytes w (some ⟨b, off, none⟩) len cap bs) (hn : n ≤ len) : IsBytes w (some ⟨b, off + n, none⟩) (len - n) (cap - n) (bs.drop n) := by
  obtain ⟨h1, h2, h3, h5⟩ := h
  refine ⟨by simp; omega, by omega, by omega, ?_⟩
  rcases h5 with rfl | ⟨b', off', hba, hb, hr⟩
  · left; simp
  · cases hba
    refine .inr ⟨b, off + n, rfl, hb, fun j u hj => ?_⟩
    have := hr (n + j) u (by
      have e : bcells (bs.drop n) = (bcells bs).drop n := by simp [bcells]
      rw [e, List.getElem?_drop] at hj
      exact hj)
    rwa [show off + n + j = off + (n + j) by omega]
theorem bytes_to {w : World} {a : Option Addr} {len cap n : Nat} {bs : List UInt8} (h : IsBytes w a len cap bs) (hn : n ≤ len) : IsBytes w a n cap (bs.take n) := by
  obtain ⟨h1, h2, h3, h5⟩ := h
  refine ⟨by simp; omega, by omega, by omega, ?_⟩
  rcases h5 with rfl | ⟨b, off, rfl, hb, hr⟩
  · left; simp
  · refine .inr ⟨b, off, rfl, hb, fun j u hj => hr j u ?_⟩
    have e : bcells (bs.take n) = (bcells bs).take n := by simp [bcells]
    rw [e, List.getElem?_take] at hj
    split at hj
    · exact hj
    · cases hj
theorem isBytes_nil (w : World) : IsBytes w none 0 0 [] := ⟨rfl, Nat.le_refl _, by simp, .inl rfl⟩

/-- the reader with another rest -/
theorem rd_set {w : World} {B R : Nat} {c : Int} {rs ns : List UInt8} {a : Option Addr} {len cap : Nat} (h : RdAt w B R c rs) (hI : IsBytes w a len cap ns) (hN : a = none → cap = 0) (hx : ∀ x, a = some x → ¬ ns = [] → x.block < B) (hc : ¬ c = 0 → ns = []) :
    RdAt (w.setCell ⟨R, 0, none⟩ (.slice a len cap)) B R c ns := by
  obtain ⟨a0, l0, c0, h0, h1, f0, f1, _, _, _, hB, hR, _⟩ := h
  refine ⟨a, len, cap, ?_, ?_, ?_, ?_, isBytes_only hI (Only.set R 0 w _) hB hx, hN, hx, hB, by simpa [World.setCell] using hR, hc⟩
  · go_simp
  · go_simp
  · rw [World.frozen?_setCell]; exact f0
  · rw [World.frozen?_setCell]; exact f1
theorem rd_both {w : World} {B R : Nat} {c n : Int} {rs : List UInt8} (h : RdAt w B R c rs) :
    RdAt ((w.setCell ⟨R, 1, none⟩ (.int .i64 n)).setCell ⟨R, 0, none⟩ (.slice none 0 0)) B R n [] := by
  obtain ⟨a0, l0, c0, h0, h1, f0, f1, _, _, _, hB, hR, _⟩ := h
  refine ⟨none, 0, 0, ?_, ?_, ?_, ?_, isBytes_nil _, (fun _ => rfl), (fun x hx => by cases hx), hB, by simpa [World.setCell] using hR, fun _ => rfl⟩
  · go_simp
  · go_simp
  · rw [World.frozen?_setCell, World.frozen?_setCell]; exact f0
  · rw [World.frozen?_setCell, World.frozen?_setCell]; exact f1

set_option maxHeartbeats 400000 in
theorem refuse_any (B R : Nat) (c : Int) (rs : List UInt8) (n : Int) (w : World) (h : RdAt w B R c rs) (hn : ¬ n = 0) :
    Calls Try.prog 54 #[.pointer (some ⟨R, 0, none⟩), .int .i64 n] w fun e w' => e = .returned (.tuple #[]) ∧ RdAt w' B R (if c = 0 then n else c) [] ∧ Only R w w' := by
  have HD := hid h
  obtain ⟨a, len, cap, h0, h1, f0, f1, _, _, _, _, _, _⟩ := h
  have HN := hid hn
  clear hn
  by_cases hc : c = 0
  · subst hc
    go_enter Try.func54, Try.ntmps54
    go_wp2
    go_end0
    refine ⟨rfl, ?_, (Only.set R 1 w _).trans (Only.set R 0 _ _)⟩
    exact rd_both HD.out
  · have hce : (c == 0) = false := by simp [hc]
    have HC := hid hc
    clear hc
    go_enter Try.func54, Try.ntmps54
    go_wp2
    go_end0
    refine ⟨rfl, ?_, Only.set R 0 w _⟩
    exact rd_set HD.out (isBytes_nil w) (fun _ => rfl) (fun x hx => by cases hx) (fun _ => rfl)

set_option maxHeartbeats 400000 in
theorem number_any (B R : Nat) (c : Int) (rs : List UInt8) (w : World) (h : RdAt w B R c rs) :
    Calls Try.prog 46 #[.pointer (some ⟨R, 0, none⟩)] w fun e w' => e = .returned (.int .i64 (Pl.num c rs).1) ∧ RdAt w' B R (Pl.num c rs).2.1 (Pl.num c rs).2.2 ∧ Only R w w' := by
  have HD := hid h
  obtain ⟨a, len, cap, h0, h1, f0, f1, hI, _, hx, hB, hR, hcn⟩ := h
  obtain ⟨hl, hlc, hm, hrow⟩ := hI
  unfold maxLen at hm
  rcases rs with _ | ⟨x, t⟩
  · simp at hl
    subst hl
    have HE : Hid (Pl.num c [] = (0, if c = 0 then 5 else c, [])) := by
      show _ = _
      unfold Pl.num; split <;> rfl
    clear hrow hx hcn
    go_enter Try.func46, Try.ntmps46
    go_wp2_with fail
    refine (refuse_any B R c [] 5 _ HD.out (by omega)).mono ?_
    rintro e w' ⟨rfl, hr, ho⟩
    go_wp2_with fail
    go_ret
    exact ⟨ret_int (by rw [HE.out]), by rw [HE.out]; exact hr, ho⟩
  · have hc0 : c = 0 := by
      by_cases h : c = 0
      · exact h
      · have := hcn h; cases this
    subst hc0
    obtain ⟨b, off, rfl, hb, hr⟩ := hrow.resolve_left (by simp)
    have q0 := hr 0 (.int .u8 (x.toNat : Int)) (by simp [bcells])
    simp only [Nat.add_zero] at q0
    have hxb := hx _ rfl (by simp)
    simp at hxb
    have hlen : (1 : Int) ≤ (len : Int) := by simp at hl; omega
    have hne : ((len : Int) == 0) = false := by simp; omega
    have hxl := byte_le x
    have HE : Hid (Pl.num 0 (x :: t) = ((x.toNat : Int), 0, t)) := Pl.num_cons x t
    have hbr : ¬ b = R := by omega
    generalize x.toNat = xn at *
    have HI1 := hid (fun (hc : len ≤ 1) => bytes_end (w := w) (b := b) (off := off) (n := 1) hc hl)
    have HI2 := hid (bytes_on (n := 1) ⟨hl, hlc, by unfold maxLen; exact hm, .inr ⟨b, off, rfl, hb, hr⟩⟩ (by omega))
    clear hr hrow
    go_enter Try.func46, Try.ntmps46
    go_wp2
    · go_ret
      refine ⟨ret_int (by rw [HE.out]), ?_, Only.set R 0 w _⟩
      rw [HE.out]
      exact rd_set HD.out (HI1.out (by omega)) (fun h => by cases h) (fun y hy _ => by cases hy; exact hxb) (fun h => absurd rfl h)
    · go_ret
      refine ⟨ret_int (by rw [HE.out]), ?_, Only.set R 0 w _⟩
      rw [HE.out]
      exact rd_set HD.out HI2.out (fun h => by cases h) (fun y hy _ => by cases hy; exact hxb) (fun h => absurd rfl h)

theorem txt_of_num {c n c1 : Int} {rs r1 : List UInt8} (h : Pl.num c rs = (n, c1, r1)) (hn : n.toNat ≤ r1.length) : Pl.txt c rs = (⟨(r1.take n.toNat).toArray⟩, c1, r1.drop n.toNat) := by
  have hl := Pl.num_left c rs
  unfold Pl.txt
  rw [h] at hl ⊢
  simp only at hl ⊢
  by_cases hc : c1 = 0
  · rw [if_pos hc, if_pos hn, hc]
  · obtain ⟨e1, e2⟩ := hl hc
    subst e1 e2
    rw [if_neg hc]; simp
theorem txt_short {c n c1 : Int} {rs r1 : List UInt8} (h : Pl.num c rs = (n, c1, r1)) (hn : r1.length < n.toNat) : Pl.txt c rs = (⟨#[]⟩, 5, []) ∧ c1 = 0 := by
  have hl := Pl.num_left c rs
  unfold Pl.txt
  rw [h] at hl ⊢
  simp only at hl ⊢
  by_cases hc : c1 = 0
  · rw [if_pos hc, if_neg (by omega)]; exact ⟨rfl, hc⟩
  · obtain ⟨e1, e2⟩ := hl hc
    subst e2
    simp at hn

set_option maxHeartbeats 400000 in
theorem text_any (B R : Nat) (c : Int) (rs : List UInt8) (w : World) (h : RdAt w B R c rs) :
    Calls Try.prog 55 #[.pointer (some ⟨R, 0, none⟩)] w fun e w' => e = .returned (.string (Pl.txt c rs).1) ∧ RdAt w' B R (Pl.txt c rs).2.1 (Pl.txt c rs).2.2 ∧ Only R w w' := by
  have HD := hid h
  clear h
  have hnr := Pl.num_range c rs
  have HNU := hid (number_any B R c rs w HD.out)
  obtain ⟨n, c1, r1, HE⟩ : ∃ n c1 r1, Hid (Pl.num c rs = (n, c1, r1)) := ⟨_, _, _, rfl⟩
  rw [HE.out] at hnr HNU
  simp only at hnr HNU
  obtain ⟨hn0, hn1⟩ := hnr
  obtain ⟨m, rfl⟩ := Int.eq_ofNat_of_zero_le hn0
  go_enter Try.func55, Try.ntmps55
  go_wp2_with fail
  refine HNU.out.mono ?_
  rintro e w1 ⟨rfl, hr1, ho1⟩
  have HR1 := hid hr1
  obtain ⟨a, len, cap, h0, h1, f0, f1, hI, hnl, hx, hB, hR, hcn⟩ := hr1
  have hlen : r1.length = len := hI.1
  have hlc := hI.2.1
  have hm := hI.2.2.1
  unfold maxLen at hm
  by_cases hgt : len < m
  · obtain ⟨hT, hc1⟩ := txt_short HE.out (by simp; omega)
    have HT := hid hT
    clear hT hI hx
    subst hc1
    go_wp2_with fail
    refine (refuse_any B R 0 r1 5 _ HR1.out (by omega)).mono ?_
    rintro e w2 ⟨rfl, hr2, ho2⟩
    go_wp2_with fail
    go_ret
    exact ⟨by rw [HT.out]; rfl, by rw [HT.out]; exact hr2, ho1.trans ho2⟩
  · have HT := hid (txt_of_num HE.out (by simp; omega))
    simp only [Int.toNat_natCast] at HT
    have hcv := conv_any (bytes_to hI (show m ≤ len by omega))
    rcases r1 with _ | ⟨x, t⟩
    · simp at hlen
      subst hlen
      obtain rfl : m = 0 := by omega
      rcases a with _ | ad
      · obtain rfl := hnl rfl
        go_wp2
        go_ret
        refine ⟨by rw [HT.out]; rfl, ?_, ho1.trans (Only.set R 0 w1 _)⟩
        rw [HT.out]
        exact rd_set HR1.out (isBytes_nil _) (fun _ => rfl) (fun y hy => by cases hy) (fun _ => rfl)
      · have HI := hid hI
        clear hI hx
        go_wp2
        go_ret
        refine ⟨by rw [HT.out]; rfl, ?_, ho1.trans (Only.set R 0 w1 _)⟩
        rw [HT.out]
        exact rd_set HR1.out HI.out (fun h => by cases h) (fun y _ hy => absurd rfl hy) (fun _ => rfl)
    · obtain ⟨b, off, rfl, hb, hr⟩ := hI.2.2.2.resolve_left (by simp)
      have hxb := hx _ rfl (by simp)
      simp at hxb
      have hc1 : c1 = 0 := by
        by_cases h : c1 = 0
        · exact h
        · have := hcn h; cases this
      subst hc1
      have HI1 := hid (fun (hc : len ≤ m) => bytes_end (w := w1) (b := b) (off := off) (n := m) hc hlen)
      have HI2 := hid (bytes_on (n := m) hI (by omega))
      clear hr hI hx hnl hcn
      have hm' : (m : Int) ≤ (len : Int) := by omega
      go_wp2
      · go_ret
        refine ⟨by rw [HT.out]; rfl, ?_, ho1.trans (Only.set R 0 w1 _)⟩
        rw [HT.out]
        exact rd_set HR1.out (HI1.out (by omega)) (fun h => by cases h) (fun y hy _ => by cases hy; exact hxb) (fun h => absurd rfl h)
      · go_ret
        refine ⟨by rw [HT.out]; rfl, ?_, ho1.trans (Only.set R 0 w1 _)⟩
        rw [HT.out]
        exact rd_set HR1.out HI2.out (fun h => by cases h) (fun y hy _ => by cases hy; exact hxb) (fun h => absurd rfl h)
end Go.Proofs.Ytcdobhdbafpkiad
