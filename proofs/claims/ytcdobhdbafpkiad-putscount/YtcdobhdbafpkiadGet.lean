/-
  Contracts: what Get and the document's GotOf answer at every list of entries and every key.
-/
import Derived.Test.YtcdobhdbafpkiadFind
import Derived.Test.YtcdobhdbafpkiadFault
namespace Go.Proofs.Ytcdobhdbafpkiad
open Go.RowKit
set_option maxRecDepth 20000

/-- the entry that is told -/
def Pl.gotE (es : List Pl.Ent) (key : ByteArray) : Pl.Ent := if Pl.fault es = 0 then (if Pl.there es key then Pl.ent es (Pl.pos es key) else Pl.Ent.none) else Pl.Ent.none
def Pl.gotC (es : List Pl.Ent) (key : ByteArray) : Int := if Pl.fault es = 0 then (if Pl.there es key then 0 else 6) else Pl.fault es

set_option maxHeartbeats 400000 in
theorem Get_any (a : Option Addr) (len cap : Nat) (es : List Pl.Ent) (key : ByteArray) (w : World) (h : IsEnts w a len cap es) :
    Calls Try.prog 10 #[.slice a len cap, .string key] w fun e w' =>
      e = .returned (.tuple #[.agg #[.string (Pl.gotE es key).key, .int .i64 (Pl.gotE es key).ver, .int .i64 (Pl.gotE es key).org, .string (Pl.gotE es key).val], .int .i64 (Pl.gotC es key)]) ∧ Below w.heap.size w w' := by
  have HH : Hid (IsEnts w a len cap es) := h
  clear h
  obtain ⟨c, HC⟩ : ∃ c, Hid (Pl.fault es = c) := ⟨_, rfl⟩
  by_cases hc0 : c = 0
  · subst hc0
    obtain ⟨g1, g2, g3⟩ := Pl.good_of_fault HC.out
    have hlen : es.length = len := HH.out.1
    have HL : Hid (len ≤ 60) := by show _ ≤ _; omega
    have HA : Hid (Pl.Asc es) := g3
    clear g1 g2 g3
    obtain ⟨t, HT⟩ : ∃ t, Hid (Pl.there es key = t) := ⟨_, rfl⟩
    cases t
    · have HE : Hid (Pl.gotE es key = Pl.Ent.none ∧ Pl.gotC es key = 6) := by unfold Pl.gotE Pl.gotC; rw [HC.out, HT.out]; exact ⟨rfl, rfl⟩
      go_enter Try.func10, Try.ntmps10
      go_wp2_with fail
      refine (Check_any _ _ _ es _ (HH.out.below ((Below.refl _ _).alloc (Nat.le_refl _) _))).mono ?_
      rw [HC.out]
      rintro e w1 ⟨rfl, hb1⟩
      have hz := hb1.size
      simp at hz
      go_wp2_with fail
      refine (find_any _ _ _ es key _ (HH.out.below (((Below.refl _ _).alloc (Nat.le_refl _) _).trans (hb1.mono (by simp)))) HA.out HL.out).mono ?_
      rw [HT.out]
      rintro e w2 ⟨rfl, hb2⟩
      have hb12 := hb1.trans (hb2.mono (by simp; omega))
      obtain ⟨hcc, hff⟩ := bcell hb12
      go_wp2_with fail
      refine bodyPost_ret (v := .tuple #[.agg #[.string (Pl.gotE es key).key, .int .i64 (Pl.gotE es key).ver, .int .i64 (Pl.gotE es key).org, .string (Pl.gotE es key).val], .int .i64 (Pl.gotC es key)]) (by rw [HE.out.1, HE.out.2]; simp [results, Try.results10, go_sem, hcc, Pl.Ent.none]) rfl ⟨rfl, ((((((Below.refl _ _).alloc (Nat.le_refl _) _).trans (hb12.mono (by simp))).setCell (Nat.le_refl _) _).setCell (Nat.le_refl _) _).setCell (Nat.le_refl _) _).setCell (Nat.le_refl _) _⟩
    · have hlt : Pl.pos es key < len := by
        have := HT.out
        unfold Pl.there at this
        simp only [Bool.and_eq_true, decide_eq_true_eq] at this
        omega
      have HE : Hid (Pl.gotE es key = Pl.ent es (Pl.pos es key) ∧ Pl.gotC es key = 0) := by unfold Pl.gotE Pl.gotC; rw [HC.out, HT.out]; exact ⟨rfl, rfl⟩
      obtain ⟨p, HP⟩ : ∃ p, Hid (Pl.pos es key = p) := ⟨_, rfl⟩
      rw [HP.out] at hlt HE
      obtain ⟨b, off, rfl, hbw, hr⟩ : ∃ b off, a = some ⟨b, off, none⟩ ∧ b < w.heap.size ∧ RowAt w b off es := by
        rcases HH.out.2.2.2.2 with h | h
        · rw [h] at hlen; simp at hlen; omega
        · exact h
      have hcap := HH.out.2.1
      have hm := HH.out.2.2.1
      unfold maxLen at hm
      obtain ⟨q0, q1, q2, q3⟩ := hr p (by omega)
      have hlt' : (p : Int) < (len : Int) := by omega
      go_enter Try.func10, Try.ntmps10
      go_wp2_with fail
      refine (Check_any _ _ _ es _ (HH.out.below ((Below.refl _ _).alloc (Nat.le_refl _) _))).mono ?_
      rw [HC.out]
      rintro e w1 ⟨rfl, hb1⟩
      have hz := hb1.size
      simp at hz
      go_wp2_with fail
      refine (find_any _ _ _ es key _ (HH.out.below (((Below.refl _ _).alloc (Nat.le_refl _) _).trans (hb1.mono (by simp)))) HA.out HL.out).mono ?_
      rw [HT.out, HP.out]
      rintro e w2 ⟨rfl, hb2⟩
      have hb12 := hb1.trans (hb2.mono (by simp; omega))
      obtain ⟨hcc, hff⟩ := bcell hb12
      go_wp2_with fail
      refine bodyPost_ret (v := .tuple #[.agg #[.string (Pl.gotE es key).key, .int .i64 (Pl.gotE es key).ver, .int .i64 (Pl.gotE es key).org, .string (Pl.gotE es key).val], .int .i64 (Pl.gotC es key)]) (by rw [HE.out.1, HE.out.2]; simp [results, Try.results10, go_sem, hcc]) rfl ⟨rfl, ((((((Below.refl _ _).alloc (Nat.le_refl _) _).trans (hb12.mono (by simp))).setCell (Nat.le_refl _) _).setCell (Nat.le_refl _) _).setCell (Nat.le_refl _) _).setCell (Nat.le_refl _) _⟩
  · have hcn : (c != 0) = true := by simp [hc0]
    have HE : Hid (Pl.gotE es key = Pl.Ent.none ∧ Pl.gotC es key = c) := by unfold Pl.gotE Pl.gotC; rw [HC.out, if_neg hc0, if_neg hc0]; exact ⟨rfl, rfl⟩
    clear hc0
    go_enter Try.func10, Try.ntmps10
    go_wp2_with fail
    refine (Check_any _ _ _ es _ (HH.out.below ((Below.refl _ _).alloc (Nat.le_refl _) _))).mono ?_
    rw [HC.out]
    rintro e w1 ⟨rfl, hb12⟩
    obtain ⟨hcc, hff⟩ := bcell hb12
    go_wp2_with fail
    refine bodyPost_ret (v := .tuple #[.agg #[.string (Pl.gotE es key).key, .int .i64 (Pl.gotE es key).ver, .int .i64 (Pl.gotE es key).org, .string (Pl.gotE es key).val], .int .i64 (Pl.gotC es key)]) (by rw [HE.out.1, HE.out.2]; simp [results, Try.results10, go_sem, hcc, Pl.Ent.none]) rfl ⟨rfl, ((((((Below.refl _ _).alloc (Nat.le_refl _) _).trans (hb12.mono (by simp))).setCell (Nat.le_refl _) _).setCell (Nat.le_refl _) _).setCell (Nat.le_refl _) _).setCell (Nat.le_refl _) _⟩

end Go.Proofs.Ytcdobhdbafpkiad
