/-
  Contracts: the document's reader: one byte, a text.
-/
import Derived.Test.YtcdobhdbafpkiabDec1
namespace Go.Proofs.Ytcdobhdbafpkiab
open Go.RowKit

/-- the document's reader at block R: what is wrong, and (if nothing is) what is left; the bytes lie below block B -/
def SpAt (w : World) (B R : Nat) (c : Int) (rs : List UInt8) : Prop :=
  ∃ a len cap bs i, w.cell? ⟨R, 0, none⟩ = some (.slice a len cap) ∧ w.cell? ⟨R, 1, none⟩ = some (.int .i64 ((i : Nat) : Int)) ∧ w.cell? ⟨R, 2, none⟩ = some (.int .i64 c) ∧
    w.frozen? ⟨R, 0, none⟩ = false ∧ w.frozen? ⟨R, 1, none⟩ = false ∧ w.frozen? ⟨R, 2, none⟩ = false ∧
    IsBytes w a len cap bs ∧ (∀ x, a = some x → ¬ bs = [] → x.block < B) ∧ B ≤ R ∧ R < w.heap.size ∧ i ≤ len ∧ (c = 0 → rs = bs.drop i) ∧ ¬ bs = [] ∧ len ≤ 20000

theorem SpAt.bad {w : World} {B R : Nat} {c : Int} {rs : List UInt8} (h : SpAt w B R c rs) (hc : ¬ c = 0) (rs' : List UInt8) : SpAt w B R c rs' := by
  obtain ⟨a, len, cap, bs, i, h0, h1, h2, f0, f1, f2, hI, hx, hB, hR, hi, _, hne, hll⟩ := h
  exact ⟨a, len, cap, bs, i, h0, h1, h2, f0, f1, f2, hI, hx, hB, hR, hi, (fun h => absurd h hc), hne, hll⟩
theorem SpAt.drewN {w : World} {B R : Nat} {c : Int} {rs : List UInt8} (h : SpAt w B R c rs) (n : Nat) : SpAt (w.drewN n) B R c rs := h
theorem Only.drewN {R : Nat} {a w : World} (h : Only R a w) (n : Nat) : Only R a (w.drewN n) := h.trans (Only.of_below (below_drewN (Below.refl _ _) n))
theorem SpAt.err {w : World} {B R : Nat} {c n : Int} {rs : List UInt8} (h : SpAt w B R c rs) (hn : ¬ n = 0) (rs' : List UInt8) : SpAt (w.setCell ⟨R, 2, none⟩ (.int .i64 n)) B R n rs' := by
  obtain ⟨a, len, cap, bs, i, h0, h1, h2, f0, f1, f2, hI, hx, hB, hR, hi, _, hne, hll⟩ := h
  refine ⟨a, len, cap, bs, i, ?_, ?_, ?_, ?_, ?_, ?_, isBytes_only hI (Only.set R 2 w _) hB hx, hx, hB, by simpa [World.setCell] using hR, hi, (fun h => absurd h hn), hne, hll⟩
  · go_simp
  · go_simp
  · go_simp
  · rw [World.frozen?_setCell]; exact f0
  · rw [World.frozen?_setCell]; exact f1
  · rw [World.frozen?_setCell]; exact f2
theorem SpAt.on {w : World} {B R : Nat} {c : Int} {a : Option Addr} {len cap i j : Nat} {bs : List UInt8} (h0 : w.cell? ⟨R, 0, none⟩ = some (.slice a len cap)) (h1 : w.cell? ⟨R, 1, none⟩ = some (.int .i64 ((i : Nat) : Int))) (h2 : w.cell? ⟨R, 2, none⟩ = some (.int .i64 c))
    (f0 : w.frozen? ⟨R, 0, none⟩ = false) (f1 : w.frozen? ⟨R, 1, none⟩ = false) (f2 : w.frozen? ⟨R, 2, none⟩ = false) (hI : IsBytes w a len cap bs) (hx : ∀ x, a = some x → ¬ bs = [] → x.block < B) (hB : B ≤ R) (hR : R < w.heap.size) (hj : j ≤ len) (hne : ¬ bs = []) (hll : len ≤ 20000) :
    SpAt (w.setCell ⟨R, 1, none⟩ (.int .i64 (j : Int))) B R c (bs.drop j) := by
  refine ⟨a, len, cap, bs, j, ?_, ?_, ?_, ?_, ?_, ?_, isBytes_only hI (Only.set R 1 w _) hB hx, hx, hB, by simpa [World.setCell] using hR, hj, (fun _ => rfl), hne, hll⟩
  · go_simp
  · go_simp
  · go_simp
  · rw [World.frozen?_setCell]; exact f0
  · rw [World.frozen?_setCell]; exact f1
  · rw [World.frozen?_setCell]; exact f2

set_option maxHeartbeats 1000000 in
theorem one_any (B R : Nat) (c : Int) (rs : List UInt8) (w : World) (h : SpAt w B R c rs) :
    Calls Try.prog 27 #[.pointer (some ⟨R, 0, none⟩)] w fun e w' => e = .returned (.int .i64 (Pl.num c rs).1) ∧ SpAt w' B R (Pl.num c rs).2.1 (Pl.num c rs).2.2 ∧ Only R w w' := by
  have HD := hid h
  obtain ⟨a, len, cap, bs, i, h0, h1, h2, f0, f1, f2, hI, hx, hB, hR, hi, hrs, hbs, hll⟩ := h
  have HI := hid hI
  obtain ⟨hl, hlc, hm, hrow⟩ := hI
  unfold maxLen at hm
  by_cases hc : c = 0
  · subst hc
    have hr := hrs rfl
    subst hr
    by_cases hlt : i < len
    · obtain ⟨b, off, rfl, hb, hrw⟩ := hrow.resolve_left hbs
      have hxb := hx _ rfl hbs
      simp at hxb
      have q0 := hrw i _ (bcell_at (by omega))
      have hbr : ¬ b = R := by omega
      have HE : Hid (Pl.num 0 (bs.drop i) = (((bs.getD i 0).toNat : Int), 0, bs.drop (i + 1))) := by
        show _ = _
        rw [List.drop_eq_getElem_cons (by omega), Pl.num_cons]
        rw [List.getD_eq_getElem?_getD, List.getElem?_eq_getElem (by omega)]; rfl
      have hxl := byte_le (bs.getD i 0)
      have HON := hid (fun n => SpAt.on (w := w.drewN n) (j := i + 1) h0 h1 h2 f0 f1 f2 HI.out hx hB hR (by omega) hbs hll)
      generalize (bs.getD i 0).toNat = xn at *
      clear hrw hrow hrs hx hbs
      go_enter Try.func27, Try.ntmps27
      go_wp2
      go_quiet (fail)
      go_wp2
      go_quiet (fail)
      go_wp2
      go_ret
      refine ⟨ret_int (by rw [HE.out]), ?_, ((Only.refl R w).drewN _ |>.trans (Only.set R 1 _ _)).drewN _⟩
      rw [HE.out, show ((i : Int) + 1) = ((i + 1 : Nat) : Int) by omega]
      exact (HON.out _).drewN _
    · have hr : bs.drop i = [] := List.drop_eq_nil_of_le (by omega)
      have HE : Hid (Pl.num 0 (bs.drop i) = (0, 5, [])) := by show _ = _; rw [hr]; rfl
      have HER := hid (fun n => (HD.out.drewN n).err (n := 5) (by omega) [])
      have hge : (len : Int) ≤ (i : Int) := by omega
      clear hrow hrs hx hr hbs
      go_enter Try.func27, Try.ntmps27
      go_wp2
      go_quiet (fail)
      go_wp2
      go_ret
      refine ⟨ret_int (by rw [HE.out]), ?_, (Only.refl R w).drewN _ |>.trans (Only.set R 2 _ _)⟩
      rw [HE.out]
      exact HER.out _
  · have hce : (c == 0) = false := by simp [hc]
    have hcb : (c != 0) = true := by simp [hc]
    have HC := hid hc
    have HE : Hid (Pl.num c rs = (0, c, [])) := Pl.num_bad hc
    clear hrow hrs hx hc hbs
    go_enter Try.func27, Try.ntmps27
    go_wp2
    go_quiet (fail)
    go_wp2
    go_ret
    refine ⟨ret_int (by rw [HE.out]), ?_, (Only.refl R w).drewN _⟩
    rw [HE.out]
    exact (HD.out.bad HC.out _).drewN _
end Go.Proofs.Ytcdobhdbafpkiab
