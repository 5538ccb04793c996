/-
  Contracts: what Check and StoreFault, and what they call, answer at every list of entries.
-/
import Derived.Test.YtcdobhdbafpkiadDoorProg
import Derived.Test.YtcdobhdbafpkiadDoorKey
import Derived.Test.YtcdobhdbafpkiadDoorList
import Derived.WalkLawsBesides
import Derived.WalkSpells
import Derived.Deep.RegionWith
import Derived.Deep.QuietTactic
import Derived.BigQuiet
namespace Go.Proofs.YtcdobhdbafpkiadDoor
open Go.RowKit
set_option maxRecDepth 20000

/-- the cells of entries, one behind the other -/
def RowAt (w : World) (b off : Nat) (es : List Pl.Ent) : Prop := ∀ i, i < es.length →
  w.cell? ⟨b, off + i * 4, none⟩ = some (.string (Pl.ent es i).key) ∧ w.cell? ⟨b, off + i * 4 + 1, none⟩ = some (.int .i64 (Pl.ent es i).ver) ∧
  w.cell? ⟨b, off + i * 4 + 2, none⟩ = some (.int .i64 (Pl.ent es i).org) ∧ w.cell? ⟨b, off + i * 4 + 3, none⟩ = some (.string (Pl.ent es i).val)

/-- a slice of entries -/
def IsEnts (w : World) (a : Option Addr) (len cap : Nat) (es : List Pl.Ent) : Prop :=
  es.length = len ∧ len ≤ cap ∧ cap ≤ maxLen ∧ (∀ e ∈ es, e.ok) ∧ (es = [] ∨ ∃ b off, a = some ⟨b, off, none⟩ ∧ b < w.heap.size ∧ RowAt w b off es)

set_option maxHeartbeats 400000 in
theorem isEntry_any (k : ByteArray) (v o : Int) (x : ByteArray) (w : World) (hk : k.size ≤ maxLen) (_hx : x.size ≤ maxLen) :
    Calls Tryd.prog 45 #[.agg #[.string k, .int .i64 v, .int .i64 o, .string x]] w
      fun e w' => e = .returned (.bool (Pl.entB k v o x)) ∧ Below w.heap.size w w' := by
  unfold maxLen at _hx
  obtain ⟨kk, HB⟩ : ∃ kk, Hid (Pl.keyB k = kk) := ⟨_, rfl⟩
  cases kk
  · have HR : Hid (Pl.entB k v o x = false) := Pl.entB_k HB.out
    go_enter Tryd.func45, Tryd.ntmps45
    go_wp2_with (go_at_call 66; refine (Key_any _ _ hk).mono ?_; rw [HB.out]; rintro e w' ⟨rfl, rfl⟩)
    go_ret
    exact ⟨ret_bool HR.out.symm, (Below.refl _ _).alloc (Nat.le_refl _) _⟩
  · obtain ⟨oo, HO⟩ : ∃ oo, Hid (decide (0 ≤ o ∧ o ≤ 11) = oo) := ⟨_, rfl⟩
    have HR : Hid (Pl.entB k v o x = (decide (1 ≤ v) && decide (v ≤ 1099511627776) && oo && decide ((x.size : Int) ≤ 120))) := by
      show _ = _
      rw [Pl.entB_eq HB.out, HO.out]
    by_cases h1 : 1 ≤ v
    all_goals by_cases h2 : v ≤ 1099511627776
    all_goals first | (exfalso; omega) | skip
    all_goals cases oo
    all_goals
      go_enter Tryd.func45, Tryd.ntmps45
      go_wp2_with (first | (go_at_call 66; refine (Key_any _ _ hk).mono ?_; rw [HB.out]; rintro e w' ⟨rfl, rfl⟩) | (go_at_call 27; refine (isNode_any _ _).mono ?_; rw [HO.out]; rintro e w' ⟨rfl, rfl⟩))
      go_ret
      exact ⟨ret_bool (by rw [HR.out, Bool.eq_iff_iff]; simp <;> omega), (Below.refl _ _).alloc (Nat.le_refl _) _⟩

theorem RowAt.below {w w' : World} {b off : Nat} {es : List Pl.Ent} (h : RowAt w b off es) (hb : b < w.heap.size) (k : Below w.heap.size w w') : RowAt w' b off es := by
  intro i hi
  obtain ⟨c0, c1, c2, c3⟩ := h i hi
  exact ⟨(k.cell (p := ⟨b, _, none⟩) hb).trans c0, (k.cell (p := ⟨b, _, none⟩) hb).trans c1, (k.cell (p := ⟨b, _, none⟩) hb).trans c2, (k.cell (p := ⟨b, _, none⟩) hb).trans c3⟩

theorem IsEnts.below {w w' : World} {a : Option Addr} {len cap : Nat} {es : List Pl.Ent} (h : IsEnts w a len cap es) (k : Below w.heap.size w w') : IsEnts w' a len cap es := by
  obtain ⟨h1, h2, h3, h4, h5⟩ := h
  refine ⟨h1, h2, h3, h4, ?_⟩
  rcases h5 with h5 | ⟨b, off, rfl, hb, hr⟩
  · exact .inl h5
  · exact .inr ⟨b, off, rfl, Nat.lt_of_lt_of_le hb k.size, hr.below hb k⟩

theorem below_drewN {B : Nat} {a w : World} (h : Below B a w) (n : Nat) : Below B a (w.drewN n) := h.trans ⟨rfl, rfl, rfl, Nat.le_refl _, fun _ _ => rfl⟩

set_option maxHeartbeats 400000 in
theorem Check_any (a : Option Addr) (len cap : Nat) (es : List Pl.Ent) (w : World) (h : IsEnts w a len cap es) :
    Calls Tryd.prog 26 #[.slice a len cap] w fun e w' => e = .returned (.int .i64 (Pl.fault es)) ∧ Below w.heap.size w w' := by
  obtain ⟨hl, hc, hm, hok, hrow⟩ := h
  unfold maxLen at hm
  by_cases h60 : 60 < len
  · go_enter Tryd.func26, Tryd.ntmps26
    go_wp2
    go_ret
    exact ⟨ret_int (Pl.fault_size (by omega)).symm, Below.refl _ _⟩
  go_enter Tryd.func26, Tryd.ntmps26
  go_wp2
  go_loopw [10] (fun i wr => ∃ k : Nat, k ≤ len ∧ i = .int .i64 k ∧ Hid (Pl.fault es = Pl.faultN es (len - k) k) ∧ Below w.heap.size w wr) (fun i _ => len - (intOf i).toNat)
  case atStart => exact ⟨0, Nat.zero_le _, rfl, by show _ = _; rw [Pl.fault_from (by omega), hl]; rfl, Below.refl _ _⟩
  case round =>
    obtain ⟨k, hk, rfl, HF, hb⟩ := hrel
    by_cases hlt : k < len
    · obtain ⟨b, off, rfl, hbw, hr⟩ : ∃ b off, a = some ⟨b, off, none⟩ ∧ b < w.heap.size ∧ RowAt w b off es := by
        rcases hrow with rfl | h
        · simp at hl; omega
        · exact h
      clear hrow
      have hr' := hr.below hbw hb
      obtain ⟨c0, c1, c2, c3⟩ := hr' k (by omega)
      have hoke := hok _ (Pl.ent_mem es k (by omega))
      obtain ⟨hok0, _, _, hok3⟩ := hoke
      have hz := hb.size
      obtain ⟨mm, HM⟩ : ∃ mm, Hid (Pl.entB (Pl.ent es k).key (Pl.ent es k).ver (Pl.ent es k).org (Pl.ent es k).val = mm) := ⟨_, rfl⟩
      have HM' : Hid ((Pl.ent es k).may = mm) := HM
      obtain ⟨n, hn⟩ : ∃ n, len - k = n + 1 := ⟨len - k - 1, by omega⟩
      have HN : Hid (len - k = n + 1) := hn
      clear hn
      cases mm
      · go_wp2_with fail
        refine (isEntry_any _ _ _ _ _ hok0 hok3).mono ?_
        rw [HM.out]
        rintro e w1 ⟨rfl, hb1⟩
        go_wp2_with fail
        go_ret
        exact ⟨ret_int (by rw [HF.out, HN.out, Pl.faultN_form HM'.out]), (hb.alloc hz _).trans (hb1.mono (by simp; omega))⟩
      · rcases Nat.eq_zero_or_pos k with hk0 | hk0
        · have hd : decide (0 < k) = false := by simp; omega
          have HK0 : Hid (k = 0) := hk0
          clear hk0
          go_wp2_with fail
          refine (isEntry_any _ _ _ _ _ hok0 hok3).mono ?_
          rw [HM.out]
          rintro e w1 ⟨rfl, hb1⟩
          go_wp2_with fail
          go_quiet (fail)
          go_wp2
          go_roundw
          case rel => exact ⟨k + 1, by omega, by go_num, by show _ = _; rw [HF.out, HN.out, Pl.faultN_on HM'.out (by simp [Pl.lowB, HK0.out])]; congr 1; have := HN.out; omega, below_drewN ((hb.alloc hz _).trans (hb1.mono (by simp; omega))) _⟩
          case measure => simp [intOf]; omega
        · obtain ⟨m, rfl⟩ : ∃ m, k = m + 1 := ⟨k - 1, by omega⟩
          obtain ⟨d0, d1, d2, d3⟩ := hr' m (by omega)
          have hbr : b < wr.heap.size := by omega
          go_wp2_with fail
          refine (isEntry_any _ _ _ _ _ hok0 hok3).mono ?_
          rw [HM.out]
          rintro e w1 ⟨rfl, hb1⟩
          obtain ⟨hcc, hff⟩ := bcell hb1
          clear hff
          go_wp2_with fail
          go_quiet (fail)
          go_wp2
          · go_ret
            exact ⟨ret_int (by rw [HF.out, HN.out, Pl.faultN_low HM'.out (Pl.lowB_true ‹_›)]), below_drewN ((hb.alloc hz _).trans (hb1.mono (by simp; omega))) _⟩
          · go_roundw
            case rel => exact ⟨m + 1 + 1, by omega, by go_num, by show _ = _; rw [HF.out, HN.out, Pl.faultN_on HM'.out (Pl.lowB_false ‹_›)]; congr 1; have := HN.out; omega, below_drewN ((hb.alloc hz _).trans (hb1.mono (by simp; omega))) _⟩
            case measure => simp [intOf]; omega
    · obtain rfl : k = len := by omega
      go_wp2
      go_ret
      exact ⟨ret_int (by rw [HF.out]; simp [Pl.faultN]), hb⟩
end Go.Proofs.YtcdobhdbafpkiadDoor
