/-
  Contracts and facts that the proof rests on, put together out of several texts.
-/
import Derived.Test.YtcdobhdbafpkiaeGreatDoorAll1
import Derived.Test.YtcdobhdbafpkiaeGreatDoorAll2
import Derived.Test.YtcdobhdbafpkiaeGreatDoorAll5
import Derived.Test.YtcdobhdbafpkiaeGreatDoorAll7
import Derived.Test.YtcdobhdbafpkiaeGreatDoorAll6
import Derived.WalkKit
import Derived.Laws.AppendOwnNone
import Derived.OwnWalk
import Derived.Deep.DeepAppendWide
import Derived.Laws.CopyRow
import Derived.Laws.Externs
import Derived.Lib.Overlaps
import Derived.Lib.AppendZerosOnto
import Derived.Deep.RegionLaw
/-
  Contract: what StoreFault, the document's answer to Check, answers at every list of entries.
-/
namespace Go.Proofs.YtcdobhdbafpkiaeGreatDoor
open Go.RowKit
set_option maxRecDepth 20000

set_option maxHeartbeats 1000000 in
theorem StoreFault_any (a : Option Addr) (len cap : Nat) (es : List Pl.Ent) (w : World) (h : IsEnts w a len cap es) :
    Calls Tryz.prog 44 #[.slice a len cap] w fun e w' => e = .returned (.int .i64 (Pl.fault es)) ∧ Below w.heap.size w w' := by
  obtain ⟨hl, hc, hm, hok, hrow⟩ := h
  unfold maxLen at hm
  by_cases h60 : 60 < len
  · go_enter Tryz.func44, Tryz.ntmps44
    go_wp2
    go_ret
    exact ⟨ret_int (Pl.fault_size (by omega)).symm, Below.refl _ _⟩
  go_enter Tryz.func44, Tryz.ntmps44
  go_wp2
  go_loopw [3] (fun i wr => ∃ k : Nat, k ≤ len ∧ i = .int .i64 k ∧ Hid (Pl.fault es = Pl.faultN es (len - k) k) ∧ Below w.heap.size w wr) (fun i _ => len - (intOf i).toNat)
  case atStart => exact ⟨0, Nat.zero_le _, rfl, by show _ = _; rw [Pl.fault_from (by omega), hl]; rfl, Below.refl _ _⟩
  case round =>
    obtain ⟨k, hk, rfl, HF, hb⟩ := hrel
    by_cases hlt : k < len
    · obtain ⟨b, off, rfl, hbw, hr⟩ : ∃ b off, a = some ⟨b, off, none⟩ ∧ b < w.heap.size ∧ RowAt w b off es := by
        rcases hrow with rfl | h
        · simp at hl; omega
        · exact h
      clear hrow
      have hr' := hr.below hbw hb
      obtain ⟨c0, c1, c2, c3⟩ := hr' k (by omega)
      have hoke := hok _ (Pl.ent_mem es k (by omega))
      obtain ⟨hok0, _, _, hok3⟩ := hoke
      have hz := hb.size
      obtain ⟨n, hn⟩ : ∃ n, len - k = n + 1 := ⟨len - k - 1, by omega⟩
      have HN : Hid (len - k = n + 1) := hn
      clear hn
      obtain ⟨kk, HK⟩ : ∃ kk, Hid (Pl.keyB (Pl.ent es k).key = kk) := ⟨_, rfl⟩
      obtain ⟨vv, HV⟩ : ∃ vv, Hid (decide (1 ≤ (Pl.ent es k).ver ∧ (Pl.ent es k).ver ≤ 1099511627776) = vv) := ⟨_, rfl⟩
      obtain ⟨oo, HO⟩ : ∃ oo, Hid (decide (0 ≤ (Pl.ent es k).org ∧ (Pl.ent es k).org ≤ 11) = oo) := ⟨_, rfl⟩
      obtain ⟨xx, HX⟩ : ∃ xx, Hid (decide ((Pl.ent es k).val.size ≤ 120) = xx) := ⟨_, rfl⟩
      have HM : Hid ((Pl.ent es k).may = (kk && vv && oo && xx)) := by
        show _ = _
        unfold Pl.Ent.may Pl.entB
        rw [HK.out, HV.out, HO.out, HX.out]
      have hx120 : ((120 : Int) < ((Pl.ent es k).val.size : Int)) = (xx = false) := by
        have := HX.out
        cases xx
        · simp at this ⊢; omega
        · simp at this ⊢; omega
      by_cases hall : (kk && vv && oo && xx) = true
      · simp only [Bool.and_eq_true] at hall
        obtain ⟨⟨⟨rfl, rfl⟩, rfl⟩, rfl⟩ := hall
        have HM' : Hid ((Pl.ent es k).may = true) := HM.out
        clear HM
        rcases Nat.eq_zero_or_pos k with hk0 | hk0
        · have hd : decide (0 < k) = false := by simp; omega
          have HK0 : Hid (k = 0) := hk0
          clear hk0
          go_wp2_with (first | (go_at_call 73; refine (KeyMay_any _ _ hok0).mono ?_; rw [HK.out]; rintro e w' ⟨rfl, rfl⟩) | (go_at_call 45; refine (In_any _ _ _ _).mono ?_; (first | rw [HV.out] | rw [HO.out]); rintro e w' ⟨rfl, rfl⟩))
          go_quiet (fail)
          go_wp2
          go_roundw
          case rel => exact ⟨k + 1, by omega, by go_num, by show _ = _; rw [HF.out, HN.out, Pl.faultN_on HM'.out (by simp [Pl.lowB, HK0.out])]; congr 1; have := HN.out; omega, below_drewN (hb.alloc hz _) _⟩
          case measure => simp [intOf]; omega
        · obtain ⟨m, rfl⟩ : ∃ m, k = m + 1 := ⟨k - 1, by omega⟩
          obtain ⟨d0, d1, d2, d3⟩ := hr' m (by omega)
          have hbr : b < wr.heap.size := by omega
          go_wp2_with (first | (go_at_call 73; refine (KeyMay_any _ _ hok0).mono ?_; rw [HK.out]; rintro e w' ⟨rfl, rfl⟩) | (go_at_call 45; refine (In_any _ _ _ _).mono ?_; (first | rw [HV.out] | rw [HO.out]); rintro e w' ⟨rfl, rfl⟩))
          go_quiet (fail)
          go_wp2
          · go_ret
            exact ⟨ret_int (by rw [HF.out, HN.out, Pl.faultN_low HM'.out (Pl.lowB_true ‹_›)]), below_drewN (hb.alloc hz _) _⟩
          · go_roundw
            case rel => exact ⟨m + 1 + 1, by omega, by go_num, by show _ = _; rw [HF.out, HN.out, Pl.faultN_on HM'.out (Pl.lowB_false ‹_›)]; congr 1; have := HN.out; omega, below_drewN (hb.alloc hz _) _⟩
            case measure => simp [intOf]; omega
      · have HM' : Hid ((Pl.ent es k).may = false) := by
          show _ = _
          rw [HM.out]; simpa using hall
        have HR : Hid (Pl.fault es = 4) := by
          show _ = _
          rw [HF.out, HN.out, Pl.faultN_form HM'.out]
        cases kk
        all_goals cases vv
        all_goals cases oo
        all_goals cases xx
        all_goals first | (exact absurd rfl hall) | skip
        all_goals
          go_wp2_with (first | (go_at_call 73; refine (KeyMay_any _ _ hok0).mono ?_; rw [HK.out]; rintro e w' ⟨rfl, rfl⟩) | (go_at_call 45; refine (In_any _ _ _ _).mono ?_; (first | rw [HV.out] | rw [HO.out]); rintro e w' ⟨rfl, rfl⟩))
          go_ret
          exact ⟨ret_int HR.out.symm, hb.alloc hz _⟩
    · obtain rfl : k = len := by omega
      go_wp2
      go_ret
      exact ⟨ret_int (by rw [HF.out]; simp [Pl.faultN]), hb⟩
end Go.Proofs.YtcdobhdbafpkiaeGreatDoor
/-
  Contracts: what Get and the document's GotOf answer at every list of entries and every key.
-/
namespace Go.Proofs.YtcdobhdbafpkiaeGreatDoor
open Go.RowKit
set_option maxRecDepth 20000

/-- the entry that is told -/
def Pl.gotE (es : List Pl.Ent) (key : ByteArray) : Pl.Ent := if Pl.fault es = 0 then (if Pl.there es key then Pl.ent es (Pl.pos es key) else Pl.Ent.none) else Pl.Ent.none
def Pl.gotC (es : List Pl.Ent) (key : ByteArray) : Int := if Pl.fault es = 0 then (if Pl.there es key then 0 else 6) else Pl.fault es

set_option maxHeartbeats 400000 in
theorem Get_any (a : Option Addr) (len cap : Nat) (es : List Pl.Ent) (key : ByteArray) (w : World) (h : IsEnts w a len cap es) :
    Calls Tryz.prog 33 #[.slice a len cap, .string key] w fun e w' =>
      e = .returned (.tuple #[.agg #[.string (Pl.gotE es key).key, .int .i64 (Pl.gotE es key).ver, .int .i64 (Pl.gotE es key).org, .string (Pl.gotE es key).val], .int .i64 (Pl.gotC es key)]) ∧ Below w.heap.size w w' := by
  have HH : Hid (IsEnts w a len cap es) := h
  clear h
  obtain ⟨c, HC⟩ : ∃ c, Hid (Pl.fault es = c) := ⟨_, rfl⟩
  by_cases hc0 : c = 0
  · subst hc0
    obtain ⟨g1, g2, g3⟩ := Pl.good_of_fault HC.out
    have hlen : es.length = len := HH.out.1
    have HL : Hid (len ≤ 60) := by show _ ≤ _; omega
    have HA : Hid (Pl.Asc es) := g3
    clear g1 g2 g3
    obtain ⟨t, HT⟩ : ∃ t, Hid (Pl.there es key = t) := ⟨_, rfl⟩
    cases t
    · have HE : Hid (Pl.gotE es key = Pl.Ent.none ∧ Pl.gotC es key = 6) := by unfold Pl.gotE Pl.gotC; rw [HC.out, HT.out]; exact ⟨rfl, rfl⟩
      go_enter Tryz.func33, Tryz.ntmps33
      go_wp2_with fail
      refine (Check_any _ _ _ es _ (HH.out.below ((Below.refl _ _).alloc (Nat.le_refl _) _))).mono ?_
      rw [HC.out]
      rintro e w1 ⟨rfl, hb1⟩
      have hz := hb1.size
      simp at hz
      go_wp2_with fail
      refine (find_any _ _ _ es key _ (HH.out.below (((Below.refl _ _).alloc (Nat.le_refl _) _).trans (hb1.mono (by simp)))) HA.out HL.out).mono ?_
      rw [HT.out]
      rintro e w2 ⟨rfl, hb2⟩
      have hb12 := hb1.trans (hb2.mono (by simp; omega))
      obtain ⟨hcc, hff⟩ := bcell hb12
      go_wp2_with fail
      refine bodyPost_ret (v := .tuple #[.agg #[.string (Pl.gotE es key).key, .int .i64 (Pl.gotE es key).ver, .int .i64 (Pl.gotE es key).org, .string (Pl.gotE es key).val], .int .i64 (Pl.gotC es key)]) (by rw [HE.out.1, HE.out.2]; simp [results, Tryz.results33, go_sem, hcc, Pl.Ent.none]) rfl ⟨rfl, ((((((Below.refl _ _).alloc (Nat.le_refl _) _).trans (hb12.mono (by simp))).setCell (Nat.le_refl _) _).setCell (Nat.le_refl _) _).setCell (Nat.le_refl _) _).setCell (Nat.le_refl _) _⟩
    · have hlt : Pl.pos es key < len := by
        have := HT.out
        unfold Pl.there at this
        simp only [Bool.and_eq_true, decide_eq_true_eq] at this
        omega
      have HE : Hid (Pl.gotE es key = Pl.ent es (Pl.pos es key) ∧ Pl.gotC es key = 0) := by unfold Pl.gotE Pl.gotC; rw [HC.out, HT.out]; exact ⟨rfl, rfl⟩
      obtain ⟨p, HP⟩ : ∃ p, Hid (Pl.pos es key = p) := ⟨_, rfl⟩
      rw [HP.out] at hlt HE
      obtain ⟨b, off, rfl, hbw, hr⟩ : ∃ b off, a = some ⟨b, off, none⟩ ∧ b < w.heap.size ∧ RowAt w b off es := by
        rcases HH.out.2.2.2.2 with h | h
        · rw [h] at hlen; simp at hlen; omega
        · exact h
      have hcap := HH.out.2.1
      have hm := HH.out.2.2.1
      unfold maxLen at hm
      obtain ⟨q0, q1, q2, q3⟩ := hr p (by omega)
      have hlt' : (p : Int) < (len : Int) := by omega
      go_enter Tryz.func33, Tryz.ntmps33
      go_wp2_with fail
      refine (Check_any _ _ _ es _ (HH.out.below ((Below.refl _ _).alloc (Nat.le_refl _) _))).mono ?_
      rw [HC.out]
      rintro e w1 ⟨rfl, hb1⟩
      have hz := hb1.size
      simp at hz
      go_wp2_with fail
      refine (find_any _ _ _ es key _ (HH.out.below (((Below.refl _ _).alloc (Nat.le_refl _) _).trans (hb1.mono (by simp)))) HA.out HL.out).mono ?_
      rw [HT.out, HP.out]
      rintro e w2 ⟨rfl, hb2⟩
      have hb12 := hb1.trans (hb2.mono (by simp; omega))
      obtain ⟨hcc, hff⟩ := bcell hb12
      go_wp2_with fail
      refine bodyPost_ret (v := .tuple #[.agg #[.string (Pl.gotE es key).key, .int .i64 (Pl.gotE es key).ver, .int .i64 (Pl.gotE es key).org, .string (Pl.gotE es key).val], .int .i64 (Pl.gotC es key)]) (by rw [HE.out.1, HE.out.2]; simp [results, Tryz.results33, go_sem, hcc]) rfl ⟨rfl, ((((((Below.refl _ _).alloc (Nat.le_refl _) _).trans (hb12.mono (by simp))).setCell (Nat.le_refl _) _).setCell (Nat.le_refl _) _).setCell (Nat.le_refl _) _).setCell (Nat.le_refl _) _⟩
  · have hcn : (c != 0) = true := by simp [hc0]
    have HE : Hid (Pl.gotE es key = Pl.Ent.none ∧ Pl.gotC es key = c) := by unfold Pl.gotE Pl.gotC; rw [HC.out, if_neg hc0, if_neg hc0]; exact ⟨rfl, rfl⟩
    clear hc0
    go_enter Tryz.func33, Tryz.ntmps33
    go_wp2_with fail
    refine (Check_any _ _ _ es _ (HH.out.below ((Below.refl _ _).alloc (Nat.le_refl _) _))).mono ?_
    rw [HC.out]
    rintro e w1 ⟨rfl, hb12⟩
    obtain ⟨hcc, hff⟩ := bcell hb12
    go_wp2_with fail
    refine bodyPost_ret (v := .tuple #[.agg #[.string (Pl.gotE es key).key, .int .i64 (Pl.gotE es key).ver, .int .i64 (Pl.gotE es key).org, .string (Pl.gotE es key).val], .int .i64 (Pl.gotC es key)]) (by rw [HE.out.1, HE.out.2]; simp [results, Tryz.results33, go_sem, hcc, Pl.Ent.none]) rfl ⟨rfl, ((((((Below.refl _ _).alloc (Nat.le_refl _) _).trans (hb12.mono (by simp))).setCell (Nat.le_refl _) _).setCell (Nat.le_refl _) _).setCell (Nat.le_refl _) _).setCell (Nat.le_refl _) _⟩

end Go.Proofs.YtcdobhdbafpkiaeGreatDoor
/-
  Contracts: where a node tells of its links (AdjKey), and what it tells (toldAdj).
-/
namespace Go.Proofs.YtcdobhdbafpkiaeGreatDoor
open Go.RowKit
set_option maxRecDepth 20000

def Pl.adjKey (n : Int) : ByteArray := ⟨#[97, 58]⟩ ++ Pl.dec n
def Pl.pfxKey (n : Int) : ByteArray := ⟨#[112, 58]⟩ ++ Pl.dec n
theorem Pl.adjKey_size (n : Int) (h0 : 0 ≤ n) (h1 : n ≤ 1000) : (Pl.adjKey n).size ≤ 23 := by
  unfold Pl.adjKey
  rw [ByteArray.size_append]
  have := Pl.dec_le n h0 h1
  show 2 + _ ≤ 23
  omega
/-- what a node's entry says -/
def Pl.toldV (es : List Pl.Ent) (n : Int) : ByteArray := (Pl.gotE es (Pl.adjKey n)).val
theorem Pl.gotE_val (es : List Pl.Ent) (k : ByteArray) : (Pl.gotE es k).val.size ≤ 120 := by
  unfold Pl.gotE
  split
  · rename_i hf
    split
    · rename_i ht
      obtain ⟨h1, h2, h3⟩ := Pl.good_of_fault hf
      have hp : Pl.pos es k < es.length := by unfold Pl.there at ht; simp only [Bool.and_eq_true, decide_eq_true_eq] at ht; exact ht.1
      have := h2 _ hp
      unfold Pl.Ent.may Pl.entB at this
      simp only [Bool.and_eq_true, decide_eq_true_eq] at this
      exact this.2
    · simp [Pl.Ent.none, ByteArray.size]
  · simp [Pl.Ent.none, ByteArray.size]

theorem adjAt_set0 {w : World} {B : Nat} {c0 c1 : Value} {T : TypeId} (h : w.heap[B]? = some (.cells #[c0, c1] T)) (v : Value) : (w.setCell ⟨B, 0, none⟩ v).heap[B]? = some (.cells #[v, c1] T) := by
  have := blockLt h
  simp [World.setCell, Array.getElem?_modify, h]

set_option maxHeartbeats 1000000 in
theorem AdjKey_any (n : Int) (w : World) (h0 : 0 ≤ n) (h1 : n ≤ 1000) (hT : Tab w) :
    Calls Tryz.prog 59 #[.int .i64 n] w fun e w' => e = .returned (.string (Pl.adjKey n)) ∧ Below w.heap.size w w' := by
  have HT := hid hT
  have hz := Pl.dec_le n h0 h1
  clear hT
  have HIT := hid (Itoa_any n w h0 (by omega) HT.out)
  have HK : Hid (Pl.adjKey n = ⟨#[97, 58]⟩ ++ Pl.dec n) := hid rfl
  generalize Pl.dec n = s at *
  go_enter Tryz.func59, Tryz.ntmps59
  go_wp2_with fail
  refine HIT.out.mono ?_
  rintro e w1 ⟨rfl, hb1⟩
  go_wp2_with fail
  go_ret
  exact ⟨by rw [HK.out]; rfl, hb1⟩

set_option maxHeartbeats 1000000 in
theorem toldAdj_any (a : Option Addr) (len cap : Nat) (es : List Pl.Ent) (n : Int) (w : World) (h : IsEnts w a len cap es) (h0 : 0 ≤ n) (h1 : n ≤ 1000) (hT : Tab w) :
    Calls Tryz.prog 29 #[.slice a len cap, .int .i64 n] w fun e w' => ∃ vl : Value, e = .returned (.agg #[.bool (Pl.adjD (Pl.toldV es n).data.toList), vl]) ∧
      OwnP 68 w' w.heap.size vl (Pl.adjS (Pl.toldV es n).data.toList) ∧ Below w.heap.size w w' := by
  have HH := hid h
  have HT := hid hT
  clear h hT
  have hvz : (Pl.toldV es n).size ≤ 120 := Pl.gotE_val _ _
  obtain ⟨g, HG⟩ : ∃ g, Hid (Pl.gotE es (Pl.adjKey n) = g) := ⟨_, hid rfl⟩
  have HV : Hid (Pl.toldV es n = g.val) := hid (by unfold Pl.toldV; rw [HG.out])
  rw [HV.out] at hvz
  rw [HV.out]
  obtain ⟨gk, gv, go, gx⟩ := g
  simp only at hvz ⊢
  obtain ⟨rc, HRC⟩ : ∃ x, Hid (Pl.adjC gx.data.toList = x) := ⟨_, hid rfl⟩
  obtain ⟨rd, HRD⟩ : ∃ x, Hid (Pl.adjD gx.data.toList = x) := ⟨_, hid rfl⟩
  obtain ⟨rs, HRS⟩ : ∃ x, Hid (Pl.adjS gx.data.toList = x) := ⟨_, hid rfl⟩
  rw [HRD.out, HRS.out]
  have b1 : Below w.heap.size w (w.alloc (.cells #[.bool false, .slice none 0 0] 62)) := (Below.refl _ _).alloc (Nat.le_refl _) _
  go_enter Tryz.func29, Tryz.ntmps29
  go_wp2_with fail
  refine (AdjKey_any n _ h0 h1 (HT.out.below b1)).mono ?_
  rintro e w1 ⟨rfl, hb1⟩
  have hbA : Below (w.heap.size + 1) (w.alloc (.cells #[.bool false, .slice none 0 0] 62)) w1 := by simpa using hb1
  have hw1 : Below w.heap.size w w1 := b1.trans (hb1.mono b1.size)
  clear hb1
  go_wp2_with fail
  refine (Get_any _ _ _ es (Pl.adjKey n) _ (HH.out.below hw1)).mono ?_
  rw [HG.out]
  rintro e w2 ⟨rfl, hb2⟩
  have hbA2 := hbA.trans (hb2.mono (by have := hbA.size; simp at this; omega))
  clear hb2
  go_wp2_with fail
  refine (ReadAdj_any gx _ (by omega)).mono ?_
  rw [HRC.out, HRD.out, HRS.out]
  rintro e w3 ⟨v3, rfl, ho3, hb3⟩
  have hz2 := hbA2.size
  simp at hz2
  have hbA3 : Below (w.heap.size + 1) (w.alloc (.cells #[.bool false, .slice none 0 0] 62)) w3 := (hbA2.alloc (by omega) _).trans (hb3.mono (by simp; omega))
  obtain ⟨a3, n3, cap3, rfl⟩ := ho3.slice
  have HO3 := hid ho3
  obtain ⟨x0, x1, xs, hbb⟩ := box2 hbA3
  obtain ⟨f0, f1⟩ := box2f hbA3
  have hz3 := hb3.size
  simp at hz3
  clear ho3 hb3
  go_wp2_with fail
  have hblk : w3.heap[w.heap.size]? = some (.cells #[.bool false, .slice none 0 0] 62) := (hbA3.block _ (Nat.lt_succ_self _)).trans (heapNew w _)
  have hfin := heapOld (adjAt_set (adjAt_set0 hblk (.bool rd)) (.slice a3 n3 cap3)) (.cells #[.bool rd, .slice a3 n3 cap3] 62)
  obtain ⟨z0, z1, _, _⟩ := adjAt_cells hfin
  refine bodyPost_ret (v := .agg #[.bool rd, .slice a3 n3 cap3]) (by simp [results, Tryz.results29, go_sem, z0, z1]) rfl ⟨_, rfl, ?_, ?_⟩
  · exact OwnP.mono (World.ownsRow.alloc (ownsRow_setCell_below (ownsRow_setCell_below HO3.out (by simp; omega) _) (by simp; omega) _) _) (by simp; omega)
  · exact ((hbb.setCell (Nat.le_refl _) _).setCell (Nat.le_refl _) _).alloc (by simp [World.setCell]; omega) _
end Go.Proofs.YtcdobhdbafpkiaeGreatDoor
/-
  Contract: what graph.Ways answers at every list of entries and every number.
-/
namespace Go.Proofs.YtcdobhdbafpkiaeGreatDoor
open Go.RowKit
set_option maxRecDepth 20000

/-- sides, each with a node and a cost, the nodes rising -/
def Pl.sidesUp (ps : List (Int × Int)) : Prop := ∀ j, j < ps.length → (0 ≤ (Pl.pr ps j).1 ∧ (Pl.pr ps j).1 ≤ 11 ∧ 1 ≤ (Pl.pr ps j).2 ∧ (Pl.pr ps j).2 ≤ 1000) ∧ (0 < j → (Pl.pr ps (j - 1)).1 < (Pl.pr ps j).1)
theorem Pl.adjN_up (ps : List (Int × Int)) : ∀ (n i : Nat), i + n = ps.length → Pl.adjN ps n i = 0 → ∀ j, i ≤ j → j < ps.length → Pl.sideB (Pl.pr ps j).1 (Pl.pr ps j).2 = true ∧ (0 < j → (Pl.pr ps (j - 1)).1 < (Pl.pr ps j).1)
  | 0, i, h, _, j, h1, h2 => by omega
  | n + 1, i, h, h0, j, h1, h2 => by
    rw [Pl.adjN] at h0
    by_cases g1 : Pl.sideB (Pl.pr ps i).1 (Pl.pr ps i).2 = true
    · rw [if_pos g1] at h0
      by_cases g2 : 0 < i ∧ (Pl.pr ps i).1 ≤ (Pl.pr ps (i - 1)).1
      · rw [if_pos g2] at h0; cases h0
      · rw [if_neg g2] at h0
        rcases Nat.eq_or_lt_of_le h1 with e | h1
        · subst e
          exact ⟨g1, fun hp => by omega⟩
        · exact Pl.adjN_up ps n (i + 1) (by omega) h0 j h1 h2
    · rw [if_neg g1] at h0; cases h0
theorem Pl.adjF_up {ps : List (Int × Int)} (h : Pl.adjF ps = 0) : Pl.sidesUp ps := by
  intro j hj
  obtain ⟨h1, h2⟩ := Pl.adjN_up ps ps.length 0 (by omega) h j (by omega) hj
  unfold Pl.sideB at h1
  simp at h1
  exact ⟨by omega, h2⟩
theorem Pl.adjS_up (l : List UInt8) : Pl.sidesUp (Pl.adjS l) := by
  unfold Pl.adjS
  by_cases h : Pl.adjC l = 0
  · rw [if_pos h]
    unfold Pl.adjC at h
    cases hs : Pl.sidesL l with
    | none => rw [hs] at h; cases h
    | some ps => rw [hs] at h; exact Pl.adjF_up h
  · rw [if_neg h]
    intro j hj; simp at hj
theorem Pl.sidesUp.ok {ps : List (Int × Int)} (h : Pl.sidesUp ps) : Pl.sidesOk ps := by
  intro p hp
  obtain ⟨i, hi, rfl⟩ := List.getElem_of_mem hp
  have := (h i hi).1
  rw [Pl.pr_eq ps i hi] at this
  exact this
theorem Pl.sidesOk.pairs {ps : List (Int × Int)} (h : Pl.sidesOk ps) : ∀ p ∈ ps, Pl.pairOk p := fun p hp => by
  have := h p hp
  exact Pl.pairOk_of ⟨by omega, by omega, by omega, by omega⟩

theorem IsPairs.but {w w' : World} {A : Nat} {a : Option Addr} {len cap : Nat} {ps : List (Int × Int)} (h : IsPairs w a len cap ps) (hx : ∀ x, a = some x → x.block ≠ A) (k : But A w w') : IsPairs w' a len cap ps := by
  obtain ⟨h1, h2, h3, h4, h5⟩ := h
  refine ⟨h1, h2, h3, h4, ?_⟩
  rcases h5 with h5 | ⟨b, off, rfl, hb, hr⟩
  · exact .inl h5
  · refine .inr ⟨b, off, rfl, Nat.lt_of_lt_of_le hb k.size, fun i hi => ?_⟩
    obtain ⟨c0, c1⟩ := hr i hi
    have e : w'.heap[b]? = w.heap[b]? := k.block b hb (hx _ rfl)
    exact ⟨(World.cell?_of_block (w := w) e).trans c0, (World.cell?_of_block (w := w) e).trans c1⟩
theorem ToldAt.set {w A D ps} (h : ToldAt w A D ps) (k : Nat) (d : Bool) (a : Option Addr) (len cap : Nat) (q : List (Int × Int)) (hx : ∀ x, a = some x → x.block ≠ A) (hp : IsPairs w a len cap q) :
    ToldAt ((w.setCell ⟨A, k * 2, none⟩ (.bool d)).setCell ⟨A, k * 2 + 1, none⟩ (.slice a len cap)) A (Pl.upd D k d) (Pl.upd ps k q) := by
  obtain ⟨V, h1, h2⟩ := h
  have hb : But A w ((w.setCell ⟨A, k * 2, none⟩ (.bool d)).setCell ⟨A, k * 2 + 1, none⟩ (.slice a len cap)) := ((But.refl A w).setCell _ _).setCell _ _
  refine ⟨Pl.upd V k (.slice a len cap), ?_, fun i hi => ?_⟩
  · refine ((h1.set _ _).set _ _).ext fun o ho => ?_
    unfold Pl.upd toldCell
    by_cases g1 : o = k * 2 + 1
    · subst g1; rw [if_pos rfl, if_neg (by omega)]; simp only; rw [if_pos (by omega)]
    · rw [if_neg g1]
      by_cases g2 : o = k * 2
      · subst g2; rw [if_pos rfl, if_pos (by omega)]; simp only; rw [if_pos (by omega)]
      · rw [if_neg g2]
        by_cases g3 : o % 2 = 0
        · rw [if_pos g3, if_pos g3]; simp only; rw [if_neg (by omega)]
        · rw [if_neg g3, if_neg g3]; simp only; rw [if_neg (by omega)]
  · by_cases hik : i = k
    · subst hik
      refine ⟨a, len, cap, Pl.upd_same _ _ _, hx, ?_⟩
      rw [Pl.upd_same]
      exact hp.but hx hb
    · obtain ⟨a', len', cap', e, hx', hp'⟩ := h2 i hi
      refine ⟨a', len', cap', by rw [Pl.upd_ne _ _ hik]; exact e, hx', ?_⟩
      rw [Pl.upd_ne _ _ hik]
      exact hp'.but hx' hb
theorem ToldAt.ext {w A D ps D' ps'} (h : ToldAt w A D ps) (h1 : ∀ i, i < 12 → D i = D' i) (h2 : ∀ i, i < 12 → ps i = ps' i) : ToldAt w A D' ps' := by
  obtain ⟨V, g1, g2⟩ := h
  refine ⟨V, g1.ext fun o ho => ?_, fun i hi => ?_⟩
  · unfold toldCell; split
    · rw [h1 _ (by omega)]
    · rfl
  · rw [← h2 i hi]; exact g2 i hi
theorem ToldAt.new (w : World) (cs : Array Value) (e : cs = Array.ofFn (n := 24) fun i => toldCell (fun _ => false) (fun _ => .slice none 0 0) i.1) : ToldAt (w.alloc (.cells cs 80)) w.heap.size (fun _ => false) (fun _ => []) := by
  refine ⟨fun _ => .slice none 0 0, CellsAt.new w _ _ _ _ (by rw [e]; simp) fun i hi => ?_, fun i hi => ⟨none, 0, 0, rfl, by simp, rfl, Nat.le_refl _, by simp, by simp, .inl rfl⟩⟩
  simp only [e, Array.getElem_ofFn]

/-- what a store tells of each node's links -/
def Pl.tD (es : List Pl.Ent) (i : Nat) : Bool := Pl.adjD (Pl.toldV es i).data.toList
def Pl.tS (es : List Pl.Ent) (i : Nat) : List (Int × Int) := Pl.adjS (Pl.toldV es i).data.toList
def Pl.wayC (es : List Pl.Ent) (f : Int) : Int := if Pl.fault es ≠ 0 then Pl.fault es else if 0 ≤ f ∧ f ≤ 11 then 0 else 2
def Pl.wayA (es : List Pl.Ent) (f : Int) : List (Int × List Int) := if Pl.wayC es f = 0 then Pl.wayL (Pl.dIter (Pl.lnk (Pl.tS es)) (Pl.tD es) f.toNat 12) 12 else []

theorem ret_two {v u : Value} {a b : Int} (h : v = u) (e : a = b) : Ending.returned (.tuple #[v, .int .i64 a]) = .returned (.tuple #[u, .int .i64 b]) := by rw [h, e]
theorem World.ownsRow_mono {w : World} {base base' : Nat} {e : TypeId} {sz : Nat} {v : Value} {n : Nat} {xs : List Value} (h : w.ownsRow base e sz v n xs) (k : base' ≤ base) : w.ownsRow base' e sz v n xs := by
  obtain ⟨h0, h1⟩ := h
  refine ⟨h0, ?_⟩
  rcases h1 with h1 | ⟨g, cap, cur, rfl, hb, hr⟩
  · exact .inl h1
  · exact .inr ⟨g, cap, cur, rfl, by omega, hr⟩

set_option maxHeartbeats 2000000 in
theorem Ways_any (a : Option Addr) (len cap : Nat) (es : List Pl.Ent) (f : Int) (w : World) (h : IsEnts w a len cap es) (hT : Tab w) :
    Calls Tryz.prog 10 #[.slice a len cap, .int .i64 f] w fun e w' => ∃ v ts, e = .returned (.tuple #[v, .int .i64 (Pl.wayC es f)]) ∧ OwnW w' w.heap.size v ts ∧ Pl.flat ts = Pl.wayA es f ∧ Below w.heap.size w w' := by
  have HE := hid h
  have HTab := hid hT
  clear h hT
  obtain ⟨cd, HCD⟩ : ∃ x, Hid (Pl.fault es = x) := ⟨_, rfl⟩
  go_enter Tryz.func10, Tryz.ntmps10
  go_wp2_with fail
  refine (Check_any a len cap es w HE.out).mono ?_
  rw [HCD.out]
  rintro e w1 ⟨rfl, hb1⟩
  have HB1 := hid hb1
  clear hb1
  by_cases hcd : cd = 0
  · subst hcd
    by_cases hfr : 0 ≤ f ∧ f ≤ 11
    · obtain ⟨n, rfl⟩ : ∃ n : Nat, f = n := ⟨f.toNat, by omega⟩
      have hn : n < 12 := by omega
      have hdec : decide (0 ≤ (n : Int) ∧ (n : Int) ≤ 11) = true := by simp; omega
      have HWC : Hid (Pl.wayC es n = 0) := hid (by unfold Pl.wayC; rw [HCD.out, if_neg (by simp), if_pos (by omega)])
      go_wp2_with (go_at_call 28; refine (isNode_any _ _).mono ?_; rw [hdec]; rintro e w' ⟨rfl, hw'⟩; rw [hw']; clear hw' w')
      go_loopw [18] (fun i wr => ∃ k : Nat, k ≤ 12 ∧ i = .int .i64 k ∧ Hid (ToldAt wr w1.heap.size (fun i => decide (i < k) && Pl.tD es i) (fun i => if i < k then Pl.tS es i else [])) ∧ Hid (Below w1.heap.size w1 wr)) (fun i _ => 12 - (intOf i).toNat)
      case atStart => exact ⟨0, by omega, rfl, (ToldAt.new w1 _ (by kernel_rfl)).ext (fun i _ => by simp) (fun i _ => by simp), (Below.refl _ _).alloc (Nat.le_refl _) _⟩
      case round =>
        obtain ⟨k, hk, rfl, HT, HB⟩ := hrel
        have HBW := hid (HB1.out.trans (HB.out.mono HB1.out.size))
        have hAr := HT.out.lt
        by_cases hlt : k < 12
        · go_wp2_with fail
          refine (toldAdj_any a len cap es k wr (HE.out.below HBW.out) (by omega) (by omega) (HTab.out.below HBW.out)).mono ?_
          rintro e w2 ⟨vl, rfl, ho2, hb2⟩
          obtain ⟨a2, cap2, rfl, hp2, _, hx2⟩ := OwnP.shape ho2 (Pl.adjS_up _).ok.pairs
          have HP2 := hid hp2
          have HX2 := hid hx2
          have HB2 := hid hb2
          have HT2 := hid (HT.out.below hb2)
          clear ho2 hp2 hx2 hb2
          obtain ⟨V2, g1, _⟩ := HT2.out
          have c0 := g1.cell (k * 2) (by omega)
          have c1 := g1.cell (k * 2 + 1) (by omega)
          have f0 := g1.soft (k * 2)
          have f1 := g1.soft (k * 2 + 1)
          have hA2 := g1.lt
          clear g1
          go_wp2_with fail
          go_roundw
          case rel =>
            refine ⟨k + 1, by omega, by go_num, (HT2.out.set k _ a2 _ cap2 _ (fun x hx => ?_) HP2.out).ext (fun i hi => ?_) (fun i hi => ?_), hid (((HB.out.trans (HB2.out.mono (by omega))).setCell (Nat.le_refl _) _).setCell (Nat.le_refl _) _)⟩
            · have := HX2.out x hx; omega
            · by_cases hik : i = k
              · subst hik; rw [Pl.upd_same]; simp [Pl.tD]
              · rw [Pl.upd_ne _ _ hik, show decide (i < k + 1) = decide (i < k) from decide_eq_decide.2 (by omega)]
            · by_cases hik : i = k
              · subst hik; rw [Pl.upd_same, if_pos (by omega)]; rfl
              · rw [Pl.upd_ne _ _ hik]
                by_cases h1 : i < k
                · rw [if_pos h1, if_pos (by omega)]
                · rw [if_neg h1, if_neg (by omega)]
          case measure => simp [intOf]; omega
        · obtain rfl : k = 12 := by omega
          have HTA := hid (HT.out.ext (D' := Pl.tD es) (ps' := Pl.tS es) (fun i hi => by simp [hi]) (fun i hi => by rw [if_pos hi]))
          have HOK : Hid (∀ i, i < 12 → Pl.sidesOk (Pl.tS es i)) := hid fun i _ => (Pl.adjS_up _).ok
          have HL : Hid (∀ a b, Pl.lnk (Pl.tS es) a b ≤ 1000) := hid fun x y => by
            unfold Pl.lnk
            split
            · exact (Pl.say_le (Pl.adjS_up _).ok y).2
            · omega
          go_wp2_with fail
          refine (newSearch_any n hn wr).mono ?_
          rintro e w2 ⟨rfl, hs2, hb2⟩
          have HS2 := hid hs2
          have HB2 := hid hb2
          have HT2 := hid (HTA.out.below hb2)
          clear hs2 hb2
          go_wp2_with fail
          refine (run_any wr.heap.size w1.heap.size n (Pl.tD es) (Pl.tS es) w2 HS2.out HT2.out (by omega) hn HOK.out HL.out).mono ?_
          rintro e w3 ⟨rfl, hs3, hu3⟩
          have HS3 := hid hs3
          have HU3 := hid hu3
          clear hs3 hu3
          go_wp2_with fail
          refine (ways_any wr.heap.size n _ w3 HS3.out).mono ?_
          rintro e w4 ⟨v, ts, rfl, ho4, hf4, hb4⟩
          have HO4 := hid ho4
          have HF4 := hid hf4
          have HB4 := hid hb4
          clear ho4 hf4 hb4
          go_wp2_with fail
          have hz := HBW.out.size
          have HBF : Hid (Below w.heap.size w w3) := hid ((HBW.out.trans (HB2.out.mono hz)).trans (HU3.out.below hz (Nat.le_trans hz HB2.out.size)))
          refine bodyPost_ret (results_tmp2 rfl _ _ _) rfl ⟨v, ts, ret_two rfl HWC.out.symm, ?_, ?_, HBF.out.trans (HB4.out.mono HBF.out.size)⟩
          · exact ⟨World.ownsRow_mono HO4.out.1 HBF.out.size, HO4.out.2⟩
          · rw [HF4.out]; unfold Pl.wayA; rw [HWC.out, if_pos rfl, Int.toNat_natCast]
    · have hdec : decide (0 ≤ f ∧ f ≤ 11) = false := by simp; omega
      have HWC : Hid (Pl.wayC es f = 2) := hid (by unfold Pl.wayC; rw [HCD.out, if_neg (by simp), if_neg hfr])
      go_wp2_with (go_at_call 28; refine (isNode_any _ _).mono ?_; rw [hdec]; rintro e w' ⟨rfl, hw'⟩; rw [hw']; clear hw' w')
      refine bodyPost_ret (results_tmp2 rfl _ _ _) rfl ⟨_, [], ret_two rfl HWC.out.symm, OwnW.nil _ _, ?_, HB1.out⟩
      unfold Pl.wayA; rw [HWC.out, if_neg (by decide)]; rfl
  · have HWC : Hid (Pl.wayC es f = cd) := hid (by unfold Pl.wayC; rw [HCD.out, if_pos hcd])
    go_wp2_with fail
    refine bodyPost_ret (results_tmp2 rfl _ _ _) rfl ⟨_, [], ret_two rfl HWC.out.symm, OwnW.nil _ _, ?_, HB1.out⟩
    unfold Pl.wayA; rw [HWC.out, if_neg hcd]; rfl
end Go.Proofs.YtcdobhdbafpkiaeGreatDoor
/-
  What keep.Told answers, in its block: the costs, who is drained, the prefixes.
-/
namespace Go.Proofs.YtcdobhdbafpkiaeGreatDoor
open Go.RowKit
set_option maxRecDepth 20000

def netCell (C : Nat → Nat → Int) (D : Nat → Bool) (V : Nat → Value) (o : Nat) : Value := if o < 144 then .int .i64 (C (o / 12) (o % 12)) else if o < 156 then .bool (D (o - 144)) else V (o - 156)
def NAt (w : World) (B : Nat) (C : Nat → Nat → Int) (D : Nat → Bool) (V : Nat → Value) : Prop := CellsAt w B 41 168 (netCell C D V)
theorem NAt.lt {w B C D V} (h : NAt w B C D V) : B < w.heap.size := CellsAt.lt h
theorem NAt.soft {w B C D V} (h : NAt w B C D V) (o : Nat) : w.frozen? ⟨B, o, none⟩ = false := CellsAt.soft h o
theorem NAt.cost {w B C D V} (h : NAt w B C D V) (a b : Nat) (ha : a < 12) (hb : b < 12) : w.cell? ⟨B, a * 12 + b, none⟩ = some (.int .i64 (C a b)) := by
  rw [CellsAt.cell h _ (by omega)]; unfold netCell
  rw [if_pos (by omega), show (a * 12 + b) / 12 = a by omega, show (a * 12 + b) % 12 = b by omega]
theorem NAt.drained {w B C D V} (h : NAt w B C D V) (a : Nat) (ha : a < 12) : w.cell? ⟨B, 144 + a, none⟩ = some (.bool (D a)) := by
  rw [CellsAt.cell h _ (by omega)]; unfold netCell
  rw [if_neg (by omega), if_pos (by omega), show 144 + a - 144 = a by omega]
theorem NAt.prefixes {w B C D V} (h : NAt w B C D V) (a : Nat) (ha : a < 12) : w.cell? ⟨B, 156 + a, none⟩ = some (V a) := by
  rw [CellsAt.cell h _ (by omega)]; unfold netCell
  rw [if_neg (by omega), if_neg (by omega), show 156 + a - 156 = a by omega]
theorem NAt.ext {w B C D V C' D' V'} (h : NAt w B C D V) (h1 : ∀ a b, a < 12 → b < 12 → C a b = C' a b) (h2 : ∀ a, a < 12 → D a = D' a) (h3 : ∀ a, a < 12 → V a = V' a) : NAt w B C' D' V' := by
  refine CellsAt.ext h fun o ho => ?_
  unfold netCell
  split
  · rw [h1 _ _ (by omega) (by omega)]
  · split
    · rw [h2 _ (by omega)]
    · rw [h3 _ (by omega)]
theorem NAt.setCost {w B C D V} (h : NAt w B C D V) (a b : Nat) (ha : a < 12) (hb : b < 12) (v : Int) : NAt (w.setCell ⟨B, a * 12 + b, none⟩ (.int .i64 v)) B (Pl.upd C a (Pl.upd (C a) b v)) D V := by
  refine (CellsAt.set h _ _).ext fun o ho => ?_
  unfold Pl.upd netCell
  by_cases h1 : o = a * 12 + b
  · subst h1
    rw [if_pos rfl, if_pos (by omega), show (a * 12 + b) / 12 = a by omega, show (a * 12 + b) % 12 = b by omega]
    simp
  · rw [if_neg h1]
    by_cases h0 : o < 144
    · rw [if_pos h0, if_pos h0]
      by_cases h2 : o / 12 = a
      · simp only [if_pos h2]; rw [if_neg (by omega), h2]
      · simp only [if_neg h2]
    · rw [if_neg h0, if_neg h0]
theorem NAt.setDrained {w B C D V} (h : NAt w B C D V) (a : Nat) (ha : a < 12) (v : Bool) : NAt (w.setCell ⟨B, 144 + a, none⟩ (.bool v)) B C (Pl.upd D a v) V := by
  refine (CellsAt.set h _ _).ext fun o ho => ?_
  unfold Pl.upd netCell
  by_cases h1 : o = 144 + a
  · subst h1; rw [if_pos rfl, if_neg (by omega), if_pos (by omega)]; simp
  · rw [if_neg h1]
    by_cases h0 : o < 144
    · rw [if_pos h0, if_pos h0]
    · rw [if_neg h0, if_neg h0]
      by_cases h2 : o < 156
      · rw [if_pos h2, if_pos h2]; simp only; rw [if_neg (by omega)]
      · rw [if_neg h2, if_neg h2]
theorem NAt.setPrefixes {w B C D V} (h : NAt w B C D V) (a : Nat) (ha : a < 12) (v : Value) : NAt (w.setCell ⟨B, 156 + a, none⟩ v) B C D (Pl.upd V a v) := by
  refine (CellsAt.set h _ _).ext fun o ho => ?_
  unfold Pl.upd netCell
  by_cases h1 : o = 156 + a
  · subst h1; rw [if_pos rfl, if_neg (by omega), if_neg (by omega)]; simp
  · rw [if_neg h1]
    by_cases h0 : o < 144
    · rw [if_pos h0, if_pos h0]
    · rw [if_neg h0, if_neg h0]
      by_cases h2 : o < 156
      · rw [if_pos h2, if_pos h2]
      · rw [if_neg h2, if_neg h2]; simp only; rw [if_neg (by omega)]
def cells168 (C : Nat → Nat → Int) (D : Nat → Bool) (V : Nat → Value) : List Value := (List.range 168).map (netCell C D V)
theorem cells168_len (C D V) : (cells168 C D V).length = 168 := by simp [cells168]
theorem NAt.all {w B C D V} (h : NAt w B C D V) : w.rangeAt B 0 (cells168 C D V) := CellsAt.range h _ _ (by simp [cells168]) fun j hj => by
  simp only [cells168, List.length_map, List.length_range] at hj
  simp [cells168]
theorem zeroNet : Tryz.zeroCells41 = Array.ofFn (n := 168) fun i => netCell (fun _ _ => 0) (fun _ => false) (fun _ => .slice none 0 0) i.1 := by kernel_rfl
theorem NAt.new (w : World) : NAt (w.alloc (.cells Tryz.zeroCells41 41)) w.heap.size (fun _ _ => 0) (fun _ => false) (fun _ => .slice none 0 0) := by
  refine CellsAt.new w _ _ _ _ (by rw [zeroNet]; simp) fun i hi => ?_
  simp only [zeroNet, Array.getElem_ofFn]
theorem infoNet : (Tryz.prog.info? 41).map (·.size) = some 168 := by kernel_rfl
end Go.Proofs.YtcdobhdbafpkiaeGreatDoor
/-
  Contracts: where a node tells of its prefixes (PrefixesKey), and what it tells (ToldPrefixes).
-/
namespace Go.Proofs.YtcdobhdbafpkiaeGreatDoor
open Go.RowKit
set_option maxRecDepth 20000

/-- the prefixes that a node tells -/
def Pl.tP (es : List Pl.Ent) (n : Nat) : List (Int × Int) := Pl.rpS (Pl.gotE es (Pl.pfxKey n)).val.data.toList
theorem Pl.tP_none {es : List Pl.Ent} {n : Nat} (h : Pl.gotC es (Pl.pfxKey n) ≠ 0) : Pl.tP es n = [] := by
  have e : Pl.gotE es (Pl.pfxKey n) = Pl.Ent.none := by
    unfold Pl.gotC at h
    unfold Pl.gotE
    by_cases hf : Pl.fault es = 0
    · rw [if_pos hf] at h ⊢
      by_cases ht : Pl.there es (Pl.pfxKey n)
      · rw [if_pos ht] at h; exact absurd rfl h
      · rw [if_neg ht]
    · rw [if_neg hf]
  unfold Pl.tP
  rw [e]
  decide

set_option maxHeartbeats 1000000 in
theorem PrefixesKey_any (n : Int) (w : World) (h0 : 0 ≤ n) (h1 : n ≤ 1000) (hT : Tab w) :
    Calls Tryz.prog 41 #[.int .i64 n] w fun e w' => e = .returned (.string (Pl.pfxKey n)) ∧ Below w.heap.size w w' := by
  have HT := hid hT
  have hz := Pl.dec_le n h0 h1
  clear hT
  have HIT := hid (Itoa_any n w h0 (by omega) HT.out)
  have HK : Hid (Pl.pfxKey n = ⟨#[112, 58]⟩ ++ Pl.dec n) := hid rfl
  generalize Pl.dec n = s at *
  go_enter Tryz.func41, Tryz.ntmps41
  go_wp2_with fail
  refine HIT.out.mono ?_
  rintro e w1 ⟨rfl, hb1⟩
  go_wp2_with fail
  go_ret
  exact ⟨by rw [HK.out]; rfl, hb1⟩

set_option maxHeartbeats 1000000 in
theorem ToldPrefixes_any (a : Option Addr) (len cap : Nat) (es : List Pl.Ent) (n : Nat) (w : World) (h : IsEnts w a len cap es) (h1 : n < 12) (hT : Tab w) :
    Calls Tryz.prog 14 #[.slice a len cap, .int .i64 (n : Int)] w fun e w' => ∃ vl : Value, e = .returned vl ∧
      OwnP 44 w' w.heap.size vl (Pl.tP es n) ∧ Below w.heap.size w w' := by
  have HH := hid h
  have HT := hid hT
  clear h hT
  have hvz : (Pl.gotE es (Pl.pfxKey n)).val.size ≤ 120 := Pl.gotE_val _ _
  obtain ⟨g, HG⟩ : ∃ g, Hid (Pl.gotE es (Pl.pfxKey n) = g) := ⟨_, hid rfl⟩
  have HV : Hid (Pl.tP es n = Pl.rpS g.val.data.toList) := hid (by unfold Pl.tP; rw [HG.out])
  rw [HG.out] at hvz
  rw [HV.out]
  obtain ⟨gk, gv, go, gx⟩ := g
  simp only at hvz ⊢
  have hdec : decide (0 ≤ (n : Int) ∧ (n : Int) ≤ 11) = true := by simp; omega
  obtain ⟨rc, HRC⟩ : ∃ x, Hid (Pl.rpC gx.data.toList = x) := ⟨_, hid rfl⟩
  obtain ⟨rs, HRS⟩ : ∃ x, Hid (Pl.rpS gx.data.toList = x) := ⟨_, hid rfl⟩
  rw [HRS.out]
  go_enter Tryz.func14, Tryz.ntmps14
  go_wp2_with (go_at_call 28; refine (isNode_any _ _).mono ?_; rw [hdec]; rintro e w' ⟨rfl, hw'⟩; rw [hw']; clear hw' w')
  refine (PrefixesKey_any n _ (by omega) (by omega) HT.out).mono ?_
  rintro e w1 ⟨rfl, hb1⟩
  go_wp2_with fail
  refine (Get_any _ _ _ es (Pl.pfxKey n) _ (HH.out.below hb1)).mono ?_
  rw [HG.out]
  rintro e w2 ⟨rfl, hb2⟩
  have HB2 : Hid (Below w.heap.size w w2) := hid (hb1.trans (hb2.mono hb1.size))
  have HBA : Hid (Below w.heap.size w (w2.alloc (.cells #[.string gk, .int .i64 gv, .int .i64 go, .string gx] 74))) := hid (HB2.out.alloc HB2.out.size _)
  clear hb1 hb2
  go_wp2_with fail
  refine (ReadPrefixes_any gx _ (by omega)).mono ?_
  rw [HRC.out, HRS.out]
  rintro e w3 ⟨v3, rfl, ho3, hb3⟩
  go_wp2_with fail
  go_ret
  exact ⟨v3, rfl, ho3.mono HBA.out.size, HBA.out.trans (hb3.mono HBA.out.size)⟩
end Go.Proofs.YtcdobhdbafpkiaeGreatDoor
/-
  Contract: what keep.Told answers.
-/
namespace Go.Proofs.YtcdobhdbafpkiaeGreatDoor
open Go.RowKit
set_option maxRecDepth 20000

def zV : Nat → Value := fun _ => .slice none 0 0
theorem zero168 : Tryz.zeroCells41 = (cells168 (fun _ _ => 0) (fun _ => false) zV).toArray := by kernel_rfl
theorem one168 {C D V} (h : ∀ i, ∃ a l c, V i = Value.slice a l c) : ∀ v ∈ cells168 C D V, v.oneCell' = true := by
  intro v hv
  simp only [cells168, List.mem_map] at hv
  obtain ⟨o, _, rfl⟩ := hv
  unfold netCell
  split
  · rfl
  · split
    · rfl
    · obtain ⟨a, l, c, e⟩ := h (o - 156); rw [e]; rfl
/-- the slices of prefixes of so many nodes, none of them in the block B or ahead of it -/
def PV (w : World) (B k : Nat) (P : Nat → List (Int × Int)) (V : Nat → Value) : Prop := ∀ i, ∃ a l c, V i = .slice a l c ∧ (∀ x, a = some x → B < x.block) ∧ IsPairs w a l c (if i < k then P i else [])
theorem PV.slices {w B k P V} (h : PV w B k P V) : ∀ i, ∃ a l c, V i = Value.slice a l c := fun i => by
  obtain ⟨a, l, c, e, _⟩ := h i; exact ⟨a, l, c, e⟩
theorem PV.but {w w' : World} {B A k P V} (h : PV w B k P V) (hA : A ≤ B) (u : But A w w') : PV w' B k P V := fun i => by
  obtain ⟨a, l, c, e, hx, hp⟩ := h i
  exact ⟨a, l, c, e, hx, hp.but (fun x ha => by have := hx x ha; omega) u⟩
theorem PV.below {w w' : World} {B k P V} (h : PV w B k P V) (u : Below w.heap.size w w') : PV w' B k P V := fun i => by
  obtain ⟨a, l, c, e, hx, hp⟩ := h i
  exact ⟨a, l, c, e, hx, hp.below u⟩
theorem PV.zero (w : World) (B : Nat) (P) : PV w B 0 P zV := fun i => ⟨none, 0, 0, rfl, by simp, by rw [if_neg (by omega)]; exact ⟨rfl, Nat.le_refl _, by simp, by simp, .inl rfl⟩⟩
theorem PV.skip {w B k P V} (h : PV w B k P V) (e : P k = []) : PV w B (k + 1) P V := fun i => by
  obtain ⟨a, l, c, e1, hx, hp⟩ := h i
  refine ⟨a, l, c, e1, hx, ?_⟩
  by_cases g : i = k
  · subst g; rw [if_pos (by omega), e]; rw [if_neg (by omega)] at hp; exact hp
  · by_cases g2 : i < k
    · rw [if_pos (by omega)]; rw [if_pos g2] at hp; exact hp
    · rw [if_neg (by omega)]; rw [if_neg g2] at hp; exact hp
theorem PV.set {w B k P V} (h : PV w B k P V) {a : Option Addr} {l c : Nat} (hx : ∀ x, a = some x → B < x.block) (hp : IsPairs w a l c (P k)) : PV w B (k + 1) P (Pl.upd V k (.slice a l c)) := fun i => by
  by_cases g : i = k
  · subst g; exact ⟨a, l, c, Pl.upd_same _ _ _, hx, by rw [if_pos (by omega)]; exact hp⟩
  · obtain ⟨a', l', c', e1, hx', hp'⟩ := h i
    refine ⟨a', l', c', (Pl.upd_ne _ _ g).trans e1, hx', ?_⟩
    by_cases g2 : i < k
    · rw [if_pos (by omega)]; rw [if_pos g2] at hp'; exact hp'
    · rw [if_neg (by omega)]; rw [if_neg g2] at hp'; exact hp'
theorem net3 {w w3 : World} (h : w3 = ((w.alloc (.cells Tryz.zeroCells41 41)).alloc (.cells Tryz.zeroCells41 41)).setCells (w.heap.size + 1) 0 (cells168 (fun _ _ => 0) (fun _ => false) zV)) :
    NAt w3 (w.heap.size + 1) (fun _ _ => 0) (fun _ => false) zV ∧ NAt w3 w.heap.size (fun _ _ => 0) (fun _ => false) zV ∧ Below w.heap.size w w3 ∧ w.heap.size + 2 ≤ w3.heap.size := by
  have n1 := NAt.new (w.alloc (.cells Tryz.zeroCells41 41))
  rw [show (w.alloc (.cells Tryz.zeroCells41 41)).heap.size = w.heap.size + 1 by simp] at n1
  have n0 := CellsAt.below (NAt.new w) ((Below.refl (w.alloc (.cells Tryz.zeroCells41 41)).heap.size _).alloc (Nat.le_refl _) (.cells Tryz.zeroCells41 41))
  have hb : Below w.heap.size w ((w.alloc (.cells Tryz.zeroCells41 41)).alloc (.cells Tryz.zeroCells41 41)) := ((Below.refl _ _).alloc (Nat.le_refl _) _).alloc (by simp) _
  have hz : w.heap.size + 2 ≤ ((w.alloc (.cells Tryz.zeroCells41 41)).alloc (.cells Tryz.zeroCells41 41)).heap.size := by simp
  generalize ((w.alloc (.cells Tryz.zeroCells41 41)).alloc (.cells Tryz.zeroCells41 41)) = w2 at *
  have hu : But (w.heap.size + 1) w2 w3 := by rw [h]; exact But.setCells _ 0 _ (But.refl _ _)
  refine ⟨?_, CellsAt.but n0 hu (by omega), hb.trans (hu.below (Nat.le_succ _) (by omega)), Nat.le_trans hz hu.size⟩
  rw [h]
  refine (CellsAt.sets (cells168 (fun _ _ => 0) (fun _ => false) zV) 0 w2 _ n1).ext fun o ho => ?_
  rw [if_pos (by rw [cells168_len]; omega)]
  simp [cells168, ho]

/-- what each tells of the others -/
def Pl.c1 (es : List Pl.Ent) (a : Nat) : Nat → Int := fun b => if a = b then 0 else Pl.say (Pl.tS es a) b
/-- .. of its first j sides -/
def Pl.c1N (ps : List (Int × Int)) (a j : Nat) : Nat → Int := fun b => if a = b then 0 else Pl.sayN ps j b
def Pl.c1K (es : List Pl.Ent) (k j : Nat) : Nat → Nat → Int := fun a => if a < k then Pl.c1 es a else if a = k then Pl.c1N (Pl.tS es a) a j else fun _ => 0
theorem Pl.c1K_next (es : List Pl.Ent) (k : Nat) : Pl.c1K es k (Pl.tS es k).length = Pl.c1K es (k + 1) 0 := by
  funext a b
  unfold Pl.c1K
  by_cases h : a < k
  · rw [if_pos h, if_pos (by omega)]
  · rw [if_neg h]
    by_cases h2 : a = k
    · subst h2; rw [if_pos rfl, if_pos (by omega)]; rfl
    · rw [if_neg h2, if_neg (by omega)]
      split
      · unfold Pl.c1N Pl.sayN; split <;> rfl
      · rfl
theorem Pl.c1K_zero (es : List Pl.Ent) : Pl.c1K es 0 0 = fun _ _ => 0 := by
  funext a b
  unfold Pl.c1K
  rw [if_neg (by omega)]
  split
  · unfold Pl.c1N Pl.sayN; split <;> rfl
  · rfl
theorem Pl.c1K_same (es : List Pl.Ent) (k j : Nat) (h : (Pl.pr (Pl.tS es k) j).1.toNat = k) : Pl.c1K es k (j + 1) = Pl.c1K es k j := by
  funext a b
  unfold Pl.c1K
  by_cases h1 : a < k
  · rw [if_pos h1, if_pos h1]
  · rw [if_neg h1, if_neg h1]
    by_cases h2 : a = k
    · subst h2
      rw [if_pos rfl, if_pos rfl]
      unfold Pl.c1N
      by_cases h3 : a = b
      · rw [if_pos h3, if_pos h3]
      · rw [if_neg h3, if_neg h3, Pl.sayN, h]
        unfold Pl.upd; rw [if_neg (by omega)]
    · rw [if_neg h2, if_neg h2]
theorem Pl.c1K_step (es : List Pl.Ent) (k j b : Nat) (v : Int) (hb : (Pl.pr (Pl.tS es k) j).1.toNat = b) (hv : (Pl.pr (Pl.tS es k) j).2 = v) (hn : b ≠ k) : Pl.upd (Pl.c1K es k j) k (Pl.upd (Pl.c1K es k j k) b v) = Pl.c1K es k (j + 1) := by
  funext a c
  by_cases h2 : a = k
  · have e1 : ∀ j, Pl.c1K es k j k = Pl.c1N (Pl.tS es k) k j := fun j => by unfold Pl.c1K; rw [if_neg (Nat.lt_irrefl _), if_pos rfl]
    rw [h2, Pl.upd_same, e1, e1]
    unfold Pl.c1N
    rw [Pl.sayN, hb, hv]
    unfold Pl.upd
    by_cases h3 : c = b
    · rw [if_pos h3, if_neg (by omega), if_pos h3]
    · rw [if_neg h3, if_neg h3]
  · rw [Pl.upd_ne _ _ h2]
    unfold Pl.c1K
    rw [if_neg h2, if_neg h2]
end Go.Proofs.YtcdobhdbafpkiaeGreatDoor
/-
  Contract: what keep.Told answers: the walk.
-/
namespace Go.Proofs.YtcdobhdbafpkiaeGreatDoor
open Go.RowKit
set_option maxRecDepth 20000

/-- where nothing is found nothing is told -/
theorem Pl.told_none {es : List Pl.Ent} {n : Int} (hf : Pl.fault es = 0) (h : Pl.gotC es (Pl.adjKey n) ≠ 0) : Pl.toldV es n = ⟨#[]⟩ := by
  unfold Pl.gotC at h
  rw [if_pos hf] at h
  unfold Pl.toldV Pl.gotE
  rw [if_pos hf]
  by_cases ht : Pl.there es (Pl.adjKey n)
  · rw [if_pos ht] at h; exact absurd rfl h
  · rw [if_neg ht]; rfl
theorem Pl.told_none2 {es : List Pl.Ent} {k : Nat} (hf : Pl.fault es = 0) (h : Pl.gotC es (Pl.adjKey k) ≠ 0) : Pl.tD es k = false ∧ Pl.tS es k = [] := by
  unfold Pl.tD Pl.tS
  rw [Pl.told_none hf h]
  exact ⟨by decide, by decide⟩

/-- of two numbers that are told, none if one is none -/
def Pl.c2 (C : Nat → Nat → Int) (a b : Nat) : Int := if C a b = 0 ∨ C b a = 0 then 0 else C a b
def Pl.c2K (C : Nat → Nat → Int) (k j : Nat) : Nat → Nat → Int := fun a b => if (a < k ∧ b < k) ∨ (a = k ∧ b < j) ∨ (b = k ∧ a < j) then Pl.c2 C a b else C a b
theorem Pl.c2K_zero (C : Nat → Nat → Int) : Pl.c2K C 0 0 = C := by
  funext a b; unfold Pl.c2K; rw [if_neg (by omega)]
theorem Pl.c2K_next (C : Nat → Nat → Int) (k : Nat) (a b : Nat) : Pl.c2K C k k a b = Pl.c2K C (k + 1) 0 a b := by
  unfold Pl.c2K
  by_cases h : a = k ∧ b = k
  · obtain ⟨rfl, rfl⟩ := h
    rw [if_neg (by omega), if_pos (by omega)]
    unfold Pl.c2
    split
    · rename_i h; rcases h with h | h <;> exact h
    · rfl
  · by_cases g : (a < k ∧ b < k) ∨ (a = k ∧ b < k) ∨ (b = k ∧ a < k)
    · rw [if_pos g, if_pos (by omega)]
    · rw [if_neg g, if_neg (by omega)]
theorem Pl.c2K_at (C : Nat → Nat → Int) (k j : Nat) (h : j < k) : Pl.c2K C k j k j = C k j ∧ Pl.c2K C k j j k = C j k := by
  unfold Pl.c2K; rw [if_neg (by omega), if_neg (by omega)]; exact ⟨rfl, rfl⟩
theorem Pl.c2K_keep (C : Nat → Nat → Int) (k j : Nat) (h : j < k) (h1 : C k j ≠ 0) (h2 : C j k ≠ 0) (a b : Nat) : Pl.c2K C k j a b = Pl.c2K C k (j + 1) a b := by
  unfold Pl.c2K
  by_cases g : (a < k ∧ b < k) ∨ (a = k ∧ b < j) ∨ (b = k ∧ a < j)
  · rw [if_pos g, if_pos (by omega)]
  · rw [if_neg g]
    by_cases g2 : (a = k ∧ b = j) ∨ (b = k ∧ a = j)
    · rw [if_pos (by omega)]
      unfold Pl.c2
      rcases g2 with ⟨rfl, rfl⟩ | ⟨rfl, rfl⟩
      · rw [if_neg (by simp [h1, h2])]
      · rw [if_neg (by simp [h1, h2])]
    · rw [if_neg (by omega)]
theorem Pl.c2K_none (C : Nat → Nat → Int) (k j : Nat) (h : j < k) (h1 : C k j = 0 ∨ C j k = 0) (a b : Nat) : Pl.upd (Pl.upd (Pl.c2K C k j) k (Pl.upd (Pl.c2K C k j k) j 0)) j (Pl.upd (Pl.upd (Pl.c2K C k j) k (Pl.upd (Pl.c2K C k j k) j 0) j) k 0) a b = Pl.c2K C k (j + 1) a b := by
  have hjk : j ≠ k := by omega
  by_cases g2 : a = k ∧ b = j
  · obtain ⟨rfl, rfl⟩ := g2
    rw [Pl.upd_ne _ _ (Ne.symm hjk), Pl.upd_same, Pl.upd_same]
    unfold Pl.c2K; rw [if_pos (by omega)]; unfold Pl.c2; rw [if_pos h1]
  · by_cases g3 : a = j ∧ b = k
    · obtain ⟨rfl, rfl⟩ := g3
      rw [Pl.upd_same, Pl.upd_same]
      unfold Pl.c2K; rw [if_pos (by omega)]; unfold Pl.c2; rw [if_pos h1.symm]
    · have e : Pl.upd (Pl.upd (Pl.c2K C k j) k (Pl.upd (Pl.c2K C k j k) j 0)) j (Pl.upd (Pl.upd (Pl.c2K C k j) k (Pl.upd (Pl.c2K C k j k) j 0) j) k 0) a b = Pl.c2K C k j a b := by
        unfold Pl.upd
        by_cases e1 : a = j
        · simp only [if_pos e1]
          rw [if_neg (by omega), if_neg hjk, e1]
        · simp only [if_neg e1]
          by_cases e2 : a = k
          · simp only [if_pos e2]
            rw [if_neg (by omega), e2]
          · simp only [if_neg e2]
      rw [e]
      unfold Pl.c2K
      by_cases g : (a < k ∧ b < k) ∨ (a = k ∧ b < j) ∨ (b = k ∧ a < j)
      · rw [if_pos g, if_pos (by omega)]
      · rw [if_neg g, if_neg (by omega)]

set_option maxHeartbeats 8000000 in
theorem Told_any (a : Option Addr) (len cap : Nat) (es : List Pl.Ent) (w : World) (h : IsEnts w a len cap es) (hf : Pl.fault es = 0) (hT : Tab w) :
    Calls Tryz.prog 11 #[.slice a len cap] w fun e w' => ∃ V, e = .returned (.agg (cells168 (Pl.c2 (Pl.c1 es)) (Pl.tD es) V).toArray) ∧ PV w' (w.heap.size + 1) 12 (Pl.tP es) V ∧ Below w.heap.size w w' := by
  have HH := hid h
  have HT := hid hT
  have HF := hid hf
  clear h hT hf
  obtain ⟨w3, HX⟩ : ∃ x : World, Hid (x = ((w.alloc (.cells Tryz.zeroCells41 41)).alloc (.cells Tryz.zeroCells41 41)).setCells (w.heap.size + 1) 0 (cells168 (fun _ _ => 0) (fun _ => false) zV)) := ⟨_, hid rfl⟩
  have H3 := hid (net3 HX.out)
  have HTH : Hid (((w.alloc (.cells Tryz.zeroCells41 41)).alloc (.cells Tryz.zeroCells41 41)).there (w.heap.size + 1) 0 (cells168 (fun _ _ => 0) (fun _ => false) zV).length) := hid (by
    have n1 := NAt.new (w.alloc (.cells Tryz.zeroCells41 41))
    rw [show (w.alloc (.cells Tryz.zeroCells41 41)).heap.size = w.heap.size + 1 by simp] at n1
    rw [cells168_len]
    exact CellsAt.there n1 0 168 (by omega))
  go_enter Tryz.func11, Tryz.ntmps11
  go_wp2_with (refine wpList_store_as rfl 41 (.tmp 3) (.tmp 15) rfl (w.heap.size + 1) 0 (cells168 (fun _ _ => 0) (fun _ => false) zV) rfl (by show Value.agg Tryz.zeroCells41 = _; rw [zero168]) HTH.out (by rw [cells168_len]; exact infoNet) (one168 (fun _ => ⟨_, _, _, rfl⟩)) HX.out ?_)
  go_loopw [16] (fun i wr => ∃ (k : Nat) (V : Nat → Value), k ≤ 12 ∧ i = .int .i64 k ∧ Hid (NAt wr (w.heap.size + 1) (Pl.c1K es k 0) (fun i => decide (i < k) && Pl.tD es i) V) ∧ Hid (PV wr (w.heap.size + 1) k (Pl.tP es) V) ∧ Hid (But (w.heap.size + 1) w3 wr)) (fun i _ => 12 - (intOf i).toNat)
  case atStart =>
    refine ⟨0, zV, by omega, rfl, hid ?_, hid (PV.zero _ _ _), hid (But.refl _ _)⟩
    rw [Pl.c1K_zero]
    exact H3.out.1.ext (fun _ _ _ _ => rfl) (fun i _ => by simp) (fun _ _ => rfl)
  case round =>
    obtain ⟨k, V, hk, rfl, HN, HVS, HU⟩ := hrel
    have HBW : Hid (Below w.heap.size w wr) := hid (H3.out.2.2.1.trans (HU.out.below (Nat.le_succ _) (by have := H3.out.2.2.2; omega)))
    have hzr : w.heap.size + 2 ≤ wr.heap.size := Nat.le_trans H3.out.2.2.2 HU.out.size
    by_cases hlt : k < 12
    · have hdz := Pl.dec_le k (by omega) (by omega)
      have HIT := hid (fun W hW => Itoa_any k W (by omega) (by omega) hW)
      have HGA := hid (fun W hW => Get_any a len cap es (Pl.adjKey k) W hW)
      have HGP := hid (fun W hW => Get_any a len cap es (Pl.pfxKey k) W hW)
      have HTN := hid (fun h => Pl.told_none2 (es := es) (k := k) HF.out h)
      have HKA : Hid ((⟨#[97, 58]⟩ : ByteArray) ++ Pl.dec k = Pl.adjKey k) := hid rfl
      have HKP : Hid ((⟨#[112, 58]⟩ : ByteArray) ++ Pl.dec k = Pl.pfxKey k) := hid rfl
      have hvz : (Pl.gotE es (Pl.adjKey k)).val.size ≤ 120 := Pl.gotE_val _ _
      have hpz : (Pl.gotE es (Pl.pfxKey k)).val.size ≤ 120 := Pl.gotE_val _ _
      have HDV : Hid (Pl.tD es k = Pl.adjD (Pl.gotE es (Pl.adjKey k)).val.data.toList ∧ Pl.tS es k = Pl.adjS (Pl.gotE es (Pl.adjKey k)).val.data.toList) := hid ⟨rfl, rfl⟩
      have HDP : Hid (Pl.tP es k = Pl.rpS (Pl.gotE es (Pl.pfxKey k)).val.data.toList) := hid rfl
      have HTP := hid (fun h => Pl.tP_none (es := es) (n := k) h)
      generalize Pl.gotE es (Pl.adjKey k) = g1 at *
      generalize Pl.gotE es (Pl.pfxKey k) = g2 at *
      obtain ⟨g1k, g1v, g1o, g1x⟩ := g1
      obtain ⟨g2k, g2v, g2o, g2x⟩ := g2
      generalize Pl.gotC es (Pl.adjKey k) = cA at *
      generalize Pl.gotC es (Pl.pfxKey k) = cP at *
      generalize Pl.adjKey (k : Int) = kA at *
      generalize Pl.pfxKey (k : Int) = kP at *
      generalize Pl.dec (k : Int) = sd at *
      simp only at hvz hpz
      go_wp2_with fail
      refine (HIT.out _ (HT.out.below HBW.out)).mono ?_
      rintro e w4 ⟨rfl, hb4⟩
      have HB4 := hid hb4
      have HBW4 : Hid (Below w.heap.size w w4) := hid (HBW.out.trans (hb4.mono HBW.out.size))
      clear hb4
      go_wp2_with fail
      rw [HKA.out]
      refine (HGA.out _ (HH.out.below HBW4.out)).mono ?_
      rintro e w5 ⟨rfl, hb5⟩
      have HB5 : Hid (Below wr.heap.size wr w5) := hid (HB4.out.trans (hb5.mono HB4.out.size))
      have HBW5 : Hid (Below w.heap.size w w5) := hid (HBW4.out.trans (hb5.mono HBW4.out.size))
      clear hb5
      by_cases hcA : cA = 0
      · subst hcA
        have HDV2 : Hid (Pl.tD es k = Pl.adjD g1x.data.toList ∧ Pl.tS es k = Pl.adjS g1x.data.toList) := HDV
        have HBx : Hid (Below wr.heap.size wr (w5.alloc (.cells #[.string g1k, .int .i64 g1v, .int .i64 g1o, .string g1x] 74))) := hid (HB5.out.alloc HB5.out.size _)
        have HSO := hid (show Pl.sidesOk (Pl.tS es k) from (Pl.adjS_up _).ok)
        go_wp2_with fail
        refine (ReadAdj_any g1x _ (by omega)).mono ?_
        rw [← HDV2.out.1, ← HDV2.out.2]
        generalize Pl.adjC g1x.data.toList = rc
        rintro e w6 ⟨v6, rfl, ho6, hb6⟩
        obtain ⟨a6, c6, rfl, hp6, _, hx6⟩ := OwnP.shape ho6 HSO.out.pairs
        have HB6 : Hid (Below wr.heap.size wr w6) := hid (HBx.out.trans (hb6.mono HBx.out.size))
        have HP6 := hid hp6
        have HX6 : Hid (∀ x, a6 = some x → w.heap.size + 2 ≤ x.block) := hid (fun x hx => Nat.le_trans (Nat.le_trans hzr HBx.out.size) (hx6 x hx))
        obtain ⟨m, HM⟩ : ∃ m, Hid ((Pl.tS es k).length = m) := ⟨_, hid rfl⟩
        obtain ⟨d, HDd⟩ : ∃ d, Hid (Pl.tD es k = d) := ⟨_, hid rfl⟩
        rw [HM.out] at HP6 ⊢
        rw [HDd.out]
        have hmc : m ≤ c6 := HP6.out.2.1
        have hcx := HP6.out.2.2.1
        unfold maxLen at hcx
        have HN6 : Hid (NAt w6 _ _ _ _) := hid (CellsAt.below HN.out HB6.out)
        have d6 := HN6.out.drained k hlt
        have f6 := HN6.out.soft (144 + k)
        have hz6 : w.heap.size + 1 < w6.heap.size := HN6.out.lt
        have HU6 : Hid (But (w.heap.size + 1) w3 (w6.setCell ⟨w.heap.size + 1, 144 + k, none⟩ (.bool d))) := hid ((HU.out.trans (But.of HB6.out)).setCell _ _)
        clear ho6 hb6 hp6 hx6
        go_wp2_with fail
        obtain ⟨w7, HW7⟩ : ∃ x, Hid (x = (w6.setCell ⟨w.heap.size + 1, 144 + k, none⟩ (.bool d)).alloc (.cells #[.bool d, .slice a6 m c6] 62)) := ⟨_, hid rfl⟩
        rw [← HW7.out]
        have HU7 : Hid (But (w.heap.size + 1) w3 w7) := hid (by show But _ _ _; rw [HW7.out]; exact HU6.out.alloc _)
        have HUr7 : Hid (But (w.heap.size + 1) wr w7) := hid (by show But _ _ _; rw [HW7.out]; exact ((But.of HB6.out).setCell _ _).alloc _)
        have HN7 : Hid (NAt w7 (w.heap.size + 1) (Pl.c1K es k 0) (fun i => decide (i < k + 1) && Pl.tD es i) V) := hid (by
          show NAt _ _ _ _ _
          rw [HW7.out]
          refine CellsAt.below (((HN6.out.setDrained k hlt d).ext (fun _ _ _ _ => rfl) (fun i _ => ?_) (fun _ _ => rfl) : NAt _ _ _ _ _)) ((Below.refl _ _).alloc (Nat.le_refl _) _)
          by_cases e : i = k
          · subst e; rw [Pl.upd_same, HDd.out]; simp
          · rw [Pl.upd_ne _ _ e, show decide (i < k + 1) = decide (i < k) from decide_eq_decide.2 (by omega)])
        have HP7 : Hid (IsPairs w7 a6 m c6 (Pl.tS es k)) := hid (by
          show IsPairs _ _ _ _ _
          rw [HW7.out]
          exact (HP6.out.but (fun x hx => by have := HX6.out x hx; omega) ((But.refl (w.heap.size + 1) w6).setCell (144 + k) (.bool d))).below ((Below.refl _ _).alloc (Nat.le_refl _) _))
        clear HN HN6 HU HU6 HP6 HB6 HBx HB5 HBW5 d6 f6 hz6 HBW4 HB4
        go_loopw [43] (fun i wr => ∃ j : Nat, j ≤ m ∧ i = .int .i64 j ∧ Hid (NAt wr (w.heap.size + 1) (Pl.c1K es k j) (fun i => decide (i < k + 1) && Pl.tD es i) V) ∧ Hid (But (w.heap.size + 1) w7 wr)) (fun i _ => m - (intOf i).toNat)
        case atStart => exact ⟨0, Nat.zero_le _, rfl, HN7, hid (But.refl _ _)⟩
        case round =>
          obtain ⟨j, hj, rfl, HNj, HUj⟩ := hrel
          rename World => wj
          by_cases hjm : j < m
          · obtain ⟨b, off, rfl, hbw, hr⟩ : ∃ b off, a6 = some ⟨b, off, none⟩ ∧ b < w7.heap.size ∧ PairsAt w7 b off (Pl.tS es k) := by
              rcases HP7.out.2.2.2.2 with h | h
              · have := HM.out; rw [h] at this; simp at this; omega
              · exact h
            have hne : b ≠ w.heap.size + 1 := by have := HX6.out _ rfl; simp only at this; omega
            obtain ⟨p0, p1⟩ := hr j (by rw [HM.out]; exact hjm)
            have p0 := (HUj.out.cell (p := ⟨b, off + j * 2, none⟩) hbw hne).trans p0
            have p1 := (HUj.out.cell (p := ⟨b, off + j * 2 + 1, none⟩) hbw hne).trans p1
            have hsd := HSO.out.at j (by rw [HM.out]; exact hjm)
            have HST := hid (fun b v hb hv hn => Pl.c1K_step es k j b v hb hv hn)
            have HSM := hid (fun h => Pl.c1K_same es k j h)
            obtain ⟨q1, q2, hpq⟩ : ∃ x y, Pl.pr (Pl.tS es k) j = (x, y) := ⟨_, _, rfl⟩
            rw [hpq] at p0 p1 hsd HST HSM
            simp only at p0 p1 hsd HST HSM
            clear hr hpq
            obtain ⟨x, rfl⟩ : ∃ x : Nat, q1 = x := ⟨q1.toNat, by omega⟩
            have hx12 : x < 12 := by omega
            have hbj : b < wj.heap.size := Nat.lt_of_lt_of_le hbw HUj.out.size
            have hBj : w.heap.size + 1 < wj.heap.size := HNj.out.lt
            have HUn : Hid (But (w.heap.size + 1) w7 (wj.alloc (.cells #[.int .i64 (x : Int), .int .i64 q2] 68))) := hid (HUj.out.alloc _)
            by_cases hxk : (x : Int) = k
            · have hxk' : ((x : Int) != (k : Int)) = false := by simp [hxk]
              have HC : Hid (Pl.c1K es k (j + 1) = Pl.c1K es k j) := hid (HSM.out (by simp; omega))
              clear hxk HST HSM
              go_wp2_with fail
              go_roundw
              case rel => exact ⟨j + 1, by omega, by go_num, hid (by show NAt _ _ _ _ _; rw [HC.out]; exact CellsAt.below HNj.out ((Below.refl _ _).alloc (Nat.le_refl _) _)), HUn⟩
              case measure => simp [intOf]; omega
            · have hxk' : ((x : Int) != (k : Int)) = true := by simp [hxk]
              have HC := hid (HST.out x q2 (by simp) rfl (by omega))
              have ec := HNj.out.cost k x hlt hx12
              have ef := HNj.out.soft (k * 12 + x)
              clear hxk HST HSM
              go_wp2_with fail
              go_region
              go_wp2_with fail
              go_roundw
              case rel => exact ⟨j + 1, by omega, by go_num, hid (by show NAt _ _ _ _ _; rw [← HC.out]; exact CellsAt.below (HNj.out.setCost k x hlt hx12 q2) (((Below.refl _ _).alloc (Nat.le_refl _) _).drew)), hid (((HUj.out.setCell _ _).alloc _).drew)⟩
              case measure => simp [intOf]; omega
          · obtain rfl : j = m := by omega
            have HNW : Hid (NAt wj (w.heap.size + 1) (Pl.c1K es (k + 1) 0) (fun i => decide (i < k + 1) && Pl.tD es i) V) := hid (by show NAt _ _ _ _ _; rw [← Pl.c1K_next, HM.out]; exact HNj.out)
            have HUW : Hid (But (w.heap.size + 1) w3 wj) := hid (HU7.out.trans HUj.out)
            have HVW : Hid (PV wj (w.heap.size + 1) k (Pl.tP es) V) := hid (HVS.out.but (Nat.le_refl _) (HUr7.out.trans HUj.out))
            have hzW : w.heap.size + 2 ≤ wj.heap.size := Nat.le_trans H3.out.2.2.2 HUW.out.size
            have HBWW : Hid (Below w.heap.size w wj) := hid (H3.out.2.2.1.trans (HUW.out.below (Nat.le_succ _) (by have := H3.out.2.2.2; omega)))
            clear HNj HN7 HUj HU7
            go_wp2_with fail
            have HITW := HIT.out _ (HT.out.below HBWW.out)
            refine HITW.mono ?_
            rintro e x4 ⟨rfl, hb4⟩
            have HBx4 : Hid (Below wj.heap.size wj x4) := hid hb4
            have HBWx4 : Hid (Below w.heap.size w x4) := hid (HBWW.out.trans (hb4.mono HBWW.out.size))
            clear hb4 HITW
            go_wp2_with fail
            rw [HKP.out]
            refine (HGP.out _ (HH.out.below HBWx4.out)).mono ?_
            rintro e x5 ⟨rfl, hb5⟩
            have HBx5 : Hid (Below wj.heap.size wj x5) := hid (HBx4.out.trans (hb5.mono HBx4.out.size))
            clear hb5
            have hz5 : w.heap.size + 2 ≤ x5.heap.size := Nat.le_trans hzW HBx5.out.size
            have HBA5 : Hid (Below wj.heap.size wj (x5.alloc (.cells #[.string g2k, .int .i64 g2v, .int .i64 g2o, .string g2x] 74))) := hid (HBx5.out.alloc HBx5.out.size _)
            by_cases hcP : cP = 0
            · subst hcP
              go_wp2_with fail
              refine (ReadPrefixes_any g2x _ (by omega)).mono ?_
              rintro e x6 ⟨vl, rfl, ho6, hb6⟩
              obtain ⟨pa, pc, rfl, hp6, _, hx6⟩ := OwnP.shape ho6 (Pl.rpS_ok _)
              obtain ⟨pn, HPN⟩ : ∃ n, Hid ((Pl.rpS g2x.data.toList).length = n) := ⟨_, hid rfl⟩
              rw [HPN.out] at hp6 ⊢
              have HP6 : Hid (IsPairs x6 pa pn pc (Pl.tP es k)) := hid (by show IsPairs _ _ _ _ _; rw [HDP.out]; exact hp6)
              have HX6 : Hid (∀ x, pa = some x → w.heap.size + 1 < x.block) := hid (fun x hx => by have := hx6 x hx; simp at this; omega)
              clear hp6 hx6
              have HBx6 : Hid (Below wj.heap.size wj x6) := hid (HBA5.out.trans (hb6.mono HBA5.out.size))
              have HN6 : Hid (NAt x6 (w.heap.size + 1) (Pl.c1K es (k + 1) 0) (fun i => decide (i < k + 1) && Pl.tD es i) V) := hid (CellsAt.below HNW.out HBx6.out)
              have c6 := HN6.out.prefixes k hlt
              have f6 := HN6.out.soft (156 + k)
              obtain ⟨va, vl', vc, hva⟩ := HVS.out.slices k
              rw [hva] at c6
              have hz6 : w.heap.size + 1 < x6.heap.size := HN6.out.lt
              have HU6 : Hid (But (w.heap.size + 1) w3 x6) := hid (HUW.out.trans (But.of HBx6.out))
              generalize Pl.rpC g2x.data.toList = rc at *
              have HV6 : Hid (PV x6 (w.heap.size + 1) k (Pl.tP es) V) := hid (HVW.out.below HBx6.out)
              clear ho6 hb6
              go_wp2_with fail
              go_roundw
              case rel =>
                exact ⟨k + 1, _, by omega, by go_num, hid (HN6.out.setPrefixes k hlt _), hid ((HV6.out.set HX6.out HP6.out).but (Nat.le_refl _) ((But.refl _ _).setCell _ _)), hid (HU6.out.setCell _ _)⟩
              case measure => simp [intOf]; omega
            · have hcP' : (cP == 0) = false := by simpa using hcP
              have HTE := hid (HTP.out hcP)
              clear hcP
              go_wp2_with fail
              go_roundw
              case rel => exact ⟨k + 1, V, by omega, by go_num, hid (CellsAt.below HNW.out HBA5.out), hid ((HVW.out.below HBA5.out).skip HTE.out), hid (HUW.out.trans (But.of HBA5.out))⟩
              case measure => simp [intOf]; omega
      · have hcA' : (cA == 0) = false := by simpa using hcA
        have HBx : Hid (Below wr.heap.size wr (w5.alloc (.cells #[.string g1k, .int .i64 g1v, .int .i64 g1o, .string g1x] 74))) := hid (HB5.out.alloc HB5.out.size _)
        obtain ⟨t1, t2⟩ := HTN.out hcA
        have HNW0 : Hid (NAt wr (w.heap.size + 1) (Pl.c1K es (k + 1) 0) (fun i => decide (i < k + 1) && Pl.tD es i) V) := hid (HN.out.ext (fun x y _ _ => by rw [← Pl.c1K_next, t2]; rfl) (fun i _ => by
          by_cases e : i = k
          · subst e; rw [t1]; simp
          · rw [show decide (i < k + 1) = decide (i < k) from decide_eq_decide.2 (by omega)]) (fun _ _ => rfl))
        go_wp2_with fail
        obtain ⟨WW, HWW⟩ : ∃ WW, Hid (WW = w5.alloc (.cells #[.string g1k, .int .i64 g1v, .int .i64 g1o, .string g1x] 74)) := ⟨_, hid rfl⟩
        rw [← HWW.out] at HBx ⊢
        have HNW : Hid (NAt WW (w.heap.size + 1) (Pl.c1K es (k + 1) 0) (fun i => decide (i < k + 1) && Pl.tD es i) V) := hid (CellsAt.below HNW0.out HBx.out)
        have HUW : Hid (But (w.heap.size + 1) w3 WW) := hid (HU.out.trans (But.of HBx.out))
        have HVW : Hid (PV WW (w.heap.size + 1) k (Pl.tP es) V) := hid (HVS.out.below HBx.out)
        have HBWW : Hid (Below w.heap.size w WW) := hid (HBW.out.trans (HBx.out.mono HBW.out.size))
        have hzW : w.heap.size + 2 ≤ WW.heap.size := Nat.le_trans hzr HBx.out.size
        clear HNW0 HN HU HBW t1 t2
        have HITW := HIT.out _ (HT.out.below HBWW.out)
        refine HITW.mono ?_
        rintro e x4 ⟨rfl, hb4⟩
        have HBx4 : Hid (Below WW.heap.size WW x4) := hid hb4
        have HBWx4 : Hid (Below w.heap.size w x4) := hid (HBWW.out.trans (hb4.mono HBWW.out.size))
        clear hb4 HITW
        go_wp2_with fail
        rw [HKP.out]
        refine (HGP.out _ (HH.out.below HBWx4.out)).mono ?_
        rintro e x5 ⟨rfl, hb5⟩
        have HBx5 : Hid (Below WW.heap.size WW x5) := hid (HBx4.out.trans (hb5.mono HBx4.out.size))
        clear hb5
        have hz5 : w.heap.size + 2 ≤ x5.heap.size := Nat.le_trans hzW HBx5.out.size
        have HBA5 : Hid (Below WW.heap.size WW (x5.alloc (.cells #[.string g2k, .int .i64 g2v, .int .i64 g2o, .string g2x] 74))) := hid (HBx5.out.alloc HBx5.out.size _)
        by_cases hcP : cP = 0
        · subst hcP
          go_wp2_with fail
          refine (ReadPrefixes_any g2x _ (by omega)).mono ?_
          rintro e x6 ⟨vl, rfl, ho6, hb6⟩
          obtain ⟨pa, pc, rfl, hp6, _, hx6⟩ := OwnP.shape ho6 (Pl.rpS_ok _)
          obtain ⟨pn, HPN⟩ : ∃ n, Hid ((Pl.rpS g2x.data.toList).length = n) := ⟨_, hid rfl⟩
          rw [HPN.out] at hp6 ⊢
          have HP6 : Hid (IsPairs x6 pa pn pc (Pl.tP es k)) := hid (by show IsPairs _ _ _ _ _; rw [HDP.out]; exact hp6)
          have HX6 : Hid (∀ x, pa = some x → w.heap.size + 1 < x.block) := hid (fun x hx => by have := hx6 x hx; simp at this; omega)
          clear hp6 hx6
          have HBx6 : Hid (Below WW.heap.size WW x6) := hid (HBA5.out.trans (hb6.mono HBA5.out.size))
          have HN6 : Hid (NAt x6 (w.heap.size + 1) (Pl.c1K es (k + 1) 0) (fun i => decide (i < k + 1) && Pl.tD es i) V) := hid (CellsAt.below HNW.out HBx6.out)
          have c6 := HN6.out.prefixes k hlt
          have f6 := HN6.out.soft (156 + k)
          obtain ⟨va, vl', vc, hva⟩ := HVS.out.slices k
          rw [hva] at c6
          have hz6 : w.heap.size + 1 < x6.heap.size := HN6.out.lt
          have HU6 : Hid (But (w.heap.size + 1) w3 x6) := hid (HUW.out.trans (But.of HBx6.out))
          generalize Pl.rpC g2x.data.toList = rc at *
          have HV6 : Hid (PV x6 (w.heap.size + 1) k (Pl.tP es) V) := hid (HVW.out.below HBx6.out)
          clear ho6 hb6
          go_wp2_with fail
          go_roundw
          case rel =>
            exact ⟨k + 1, _, by omega, by go_num, hid (HN6.out.setPrefixes k hlt _), hid ((HV6.out.set HX6.out HP6.out).but (Nat.le_refl _) ((But.refl _ _).setCell _ _)), hid (HU6.out.setCell _ _)⟩
          case measure => simp [intOf]; omega
        · have hcP' : (cP == 0) = false := by simpa using hcP
          have HTE := hid (HTP.out hcP)
          clear hcP
          go_wp2_with fail
          go_roundw
          case rel => exact ⟨k + 1, V, by omega, by go_num, hid (CellsAt.below HNW.out HBA5.out), hid ((HVW.out.below HBA5.out).skip HTE.out), hid (HUW.out.trans (But.of HBA5.out))⟩
          case measure => simp [intOf]; omega
    · have HK12 : Hid (k = 12) := hid (by omega)
      have HNS : Hid (NAt wr (w.heap.size + 1) (Pl.c2K (Pl.c1 es) 0 0) (Pl.tD es) V) := hid (HN.out.ext (fun a b ha _ => by rw [Pl.c2K_zero]; unfold Pl.c1K; rw [if_pos (by have := HK12.out; omega)]) (fun i hi => by simp [show i < k by have := HK12.out; omega]) (fun _ _ => rfl))
      have HV : Hid (PV wr (w.heap.size + 1) 12 (Pl.tP es) V) := hid (by have := HVS.out; rw [HK12.out] at this; exact this)
      clear HN HVS
      go_wp2_with fail
      go_loopw [80] (fun i wr => ∃ k : Nat, k ≤ 12 ∧ i = .int .i64 k ∧ Hid (NAt wr (w.heap.size + 1) (Pl.c2K (Pl.c1 es) k 0) (Pl.tD es) V) ∧ Hid (PV wr (w.heap.size + 1) 12 (Pl.tP es) V) ∧ Hid (But (w.heap.size + 1) w3 wr)) (fun i _ => 12 - (intOf i).toNat)
      case atStart => exact ⟨0, by omega, rfl, HNS, HV, HU⟩
      case round =>
        obtain ⟨k, hk, rfl, HN, HV2, HU2⟩ := hrel
        by_cases hlt : k < 12
        · have hdk : decide ((k : Int) < 12) = true := by simp; omega
          have hdn : decide (k < 12) = true := by simp; omega
          go_wp2_with fail
          (try rw [hdk])
          (try rw [hdn])
          clear hdk hdn
          go_loopw [84] (fun i wr => ∃ j : Nat, j ≤ k ∧ i = .int .i64 j ∧ Hid (NAt wr (w.heap.size + 1) (Pl.c2K (Pl.c1 es) k j) (Pl.tD es) V) ∧ Hid (PV wr (w.heap.size + 1) 12 (Pl.tP es) V) ∧ Hid (But (w.heap.size + 1) w3 wr)) (fun i _ => k - (intOf i).toNat)
          case atStart => exact ⟨0, by omega, rfl, HN, HV2, HU2⟩
          case round =>
            obtain ⟨j, hj, rfl, HNj, HVj, HUj⟩ := hrel
            by_cases hjk : j < k
            · have hj12 : j < 12 := by omega
              have ec := HNj.out.cost k j hlt hj12
              have ed := HNj.out.cost j k hj12 hlt
              have ef := HNj.out.soft (k * 12 + j)
              have eg := HNj.out.soft (j * 12 + k)
              obtain ⟨g1, g2⟩ := Pl.c2K_at (Pl.c1 es) k j hjk
              rw [g1] at ec
              rw [g2] at ed
              have hBj : w.heap.size + 1 < wr.heap.size := HNj.out.lt
              have HK1 := hid (fun h1 h2 => Pl.c2K_keep (Pl.c1 es) k j hjk h1 h2)
              have HK0 := hid (fun h1 => Pl.c2K_none (Pl.c1 es) k j hjk h1)
              have hoff : j * 12 + k ≠ k * 12 + j := by omega
              generalize Pl.c1 es k j = u at *
              generalize Pl.c1 es j k = v at *
              clear g1 g2
              by_cases hu : u = 0
              · have HKK := hid (HK0.out (.inl hu))
                subst hu
                go_wp2_with fail
                go_region
                go_wp2_with fail
                go_roundw
                case rel => exact ⟨j + 1, by omega, by go_num, hid (((HNj.out.setCost k j hlt hj12 0).setCost j k hj12 hlt 0).ext (fun a b _ _ => HKK.out a b) (fun _ _ => rfl) (fun _ _ => rfl)), hid (HVj.out.but (Nat.le_refl _) ((((But.refl _ _).setCell _ _).setCell _ _).drew)), hid (((HUj.out.setCell _ _).setCell _ _).drew)⟩
                case measure => simp [intOf]; omega
              · have hu' : (u == 0) = false := by simpa using hu
                by_cases hv : v = 0
                · have HKK := hid (HK0.out (.inr hv))
                  subst hv
                  clear hu
                  go_wp2_with fail
                  go_region
                  go_wp2_with fail
                  go_roundw
                  case rel => exact ⟨j + 1, by omega, by go_num, hid (((HNj.out.setCost k j hlt hj12 0).setCost j k hj12 hlt 0).ext (fun a b _ _ => HKK.out a b) (fun _ _ => rfl) (fun _ _ => rfl)), hid (HVj.out.but (Nat.le_refl _) ((((But.refl _ _).setCell _ _).setCell _ _).drew)), hid (((HUj.out.setCell _ _).setCell _ _).drew)⟩
                  case measure => simp [intOf]; omega
                · have hv' : (v == 0) = false := by simpa using hv
                  have HKK := hid (HK1.out hu hv)
                  clear hu hv
                  go_wp2_with fail
                  go_roundw
                  case rel => exact ⟨j + 1, by omega, by go_num, hid (HNj.out.ext (fun a b _ _ => HKK.out a b) (fun _ _ => rfl) (fun _ _ => rfl)), HVj, HUj⟩
                  case measure => simp [intOf]; omega
            · obtain rfl : j = k := by omega
              go_wp2_with fail
              go_roundw
              case rel => exact ⟨j + 1, by omega, by go_num, hid (HNj.out.ext (fun a b _ _ => Pl.c2K_next _ _ a b) (fun _ _ => rfl) (fun _ _ => rfl)), HVj, HUj⟩
              case measure => simp [intOf]; omega
        · obtain rfl : k = 12 := by omega
          have HNF : Hid (NAt wr (w.heap.size + 1) (Pl.c2 (Pl.c1 es)) (Pl.tD es) V) := hid (HN.out.ext (fun a b ha hb => by unfold Pl.c2K; rw [if_pos (.inl ⟨ha, hb⟩)]) (fun _ _ => rfl) (fun _ _ => rfl))
          have HRA := hid HNF.out.all
          have HR1 : Hid (NAt wr w.heap.size (fun _ _ => 0) (fun _ => false) zV) := hid (CellsAt.but H3.out.2.1 HU2.out (by omega))
          have HTH2 := hid (CellsAt.there HR1.out 0 168 (by omega))
          rw [← cells168_len (Pl.c2 (Pl.c1 es)) (Pl.tD es) V] at HTH2
          obtain ⟨w5, HX5⟩ : ∃ x, Hid (x = wr.setCells w.heap.size 0 (cells168 (Pl.c2 (Pl.c1 es)) (Pl.tD es) V)) := ⟨_, hid rfl⟩
          have HRL : Hid (w5.rangeAt w.heap.size 0 (cells168 (Pl.c2 (Pl.c1 es)) (Pl.tD es) V)) := hid (by rw [HX5.out]; exact World.rangeAt_setCells_same _ _ _ _ HTH2.out)
          go_wp2_with (first
            | refine wpList_load_mid rfl 41 (.tmp 3) rfl (w.heap.size + 1) 0 rfl (cells168 (Pl.c2 (Pl.c1 es)) (Pl.tD es) V) _ HRA.out Tryz.underlying41 rfl (by rw [cells168_len]; exact infoNet) ?_
            | refine wpList_store_as rfl 41 (.tmp 2) (.tmp 115) rfl w.heap.size 0 (cells168 (Pl.c2 (Pl.c1 es)) (Pl.tD es) V) rfl rfl HTH2.out (by rw [cells168_len]; exact infoNet) (one168 HV2.out.slices) HX5.out ?_)
          refine bodyPost_ret (v := .agg (cells168 (Pl.c2 (Pl.c1 es)) (Pl.tD es) V).toArray) ?_ rfl ⟨V, rfl, ?_, ?_⟩
          · exact results_mid rfl rfl HRL.out Tryz.underlying41 rfl (by rw [cells168_len]; exact infoNet)
          · rw [HX5.out]; exact HV2.out.but (Nat.le_succ _) (But.setCells _ 0 _ (But.refl w.heap.size wr))
          · rw [HX5.out]
            have hb2 := H3.out.2.2.1.trans (HU2.out.below (Nat.le_succ _) (by have := H3.out.2.2.2; omega))
            exact hb2.trans ((But.setCells _ 0 _ (But.refl w.heap.size wr)).below (Nat.le_refl _) hb2.size)
end Go.Proofs.YtcdobhdbafpkiaeGreatDoor
/-
  Plain: a way is a step to a hop, and a way from there.
-/
namespace Go.Proofs.YtcdobhdbafpkiaeGreatDoor
open Go.RowKit
set_option maxRecDepth 20000

/-- a way from a node's neighbor is a way from the node, or there is a cheaper one -/
theorem Pl.way_join {L : Nat → Nat → Int} {D : Nat → Bool} {a k j v : Nat} {c : Int} (hk : k < 12) (hka : k ≠ a) (hd : D k = false) (hl : 0 < L a k) (h : Pl.Way L D k j v c) :
    v = a ∨ ∃ k' c', Pl.Way L D a k' v c' ∧ ((k' = k ∧ c' = L a k + c) ∨ c' < L a k + c) := by
  induction h with
  | base h1 h2 h3 =>
    by_cases e : j = a
    · exact .inl e
    · exact .inr ⟨k, _, (Pl.Way.base hk hka hl).step hd h1 e h3, .inl ⟨rfl, rfl⟩⟩
  | @step u b c h1 h2 h3 h4 h5 ih =>
    by_cases e : b = a
    · exact .inl e
    · right
      rcases ih with rfl | ⟨k', c', hw, hc⟩
      · have hp := h1.pos
        exact ⟨b, _, .base h3 e h5, .inr (by omega)⟩
      · refine ⟨k', _, hw.step h2 h3 e h5, ?_⟩
        rcases hc with ⟨e1, e2⟩ | e2
        · exact .inl ⟨e1, by omega⟩
        · exact .inr (by omega)
/-- and the other way round -/
theorem Pl.way_part {L : Nat → Nat → Int} {D : Nat → Bool} {a k v : Nat} {c : Int} (h : Pl.Way L D a k v c) :
    (v = k ∧ L a k ≤ c) ∨ (v ≠ k ∧ D k = false ∧ ∃ j c', Pl.Way L D k j v c' ∧ L a k + c' ≤ c) := by
  induction h with
  | base h1 h2 h3 => exact .inl ⟨rfl, Int.le_refl _⟩
  | @step u b c h1 h2 h3 h4 h5 ih =>
    by_cases e : b = k
    · left
      refine ⟨e, ?_⟩
      rcases ih with ⟨_, h⟩ | ⟨_, _, j, c', hw, hc⟩
      · omega
      · have := hw.pos; omega
    · right
      rcases ih with ⟨rfl, h⟩ | ⟨_, hd, j, c', hw, hc⟩
      · exact ⟨e, h2, b, _, .base h3 e h5, by omega⟩
      · exact ⟨e, hd, j, _, hw.step h2 h3 e h5, by omega⟩

theorem Pl.way_first {L : Nat → Nat → Int} {D : Nat → Bool} {a k v : Nat} {c : Int} (h : Pl.Way L D a k v c) : 0 < L a k := by
  induction h with
  | base _ _ h => exact h
  | step _ _ _ _ _ ih => exact ih
/-- what it costs to go over a neighbor; -1: no way leads over it -/
def Pl.over (L : Nat → Nat → Int) (D : Nat → Bool) (C : Nat → Nat → Int) (a to k : Nat) : Int :=
  if L a k = 0 then -1 else if k = to then L a k else if C k to < 0 ∨ D k = true then -1 else C k to + L a k
def Pl.ovB (o : Nat → Int) : Nat → Int
  | 0 => -1
  | k + 1 => if o k < 0 then Pl.ovB o k else if Pl.ovB o k < 0 ∨ o k < Pl.ovB o k then o k else Pl.ovB o k
def Pl.ovH (o : Nat → Int) : Nat → List Int
  | 0 => []
  | k + 1 => if o k < 0 then Pl.ovH o k else if Pl.ovB o k < 0 ∨ o k < Pl.ovB o k then [(k : Int)] else if o k = Pl.ovB o k then Pl.ovH o k ++ [(k : Int)] else Pl.ovH o k
theorem Pl.hopsL_none {h : Nat → Bool} (k : Nat) (e : ∀ i, i < k → h i = false) : Pl.hopsL h k = [] := by
  induction k with
  | zero => rfl
  | succ k ih => rw [Pl.hopsL_off (e k (by omega))]; exact ih fun i hi => e i (by omega)
theorem Pl.hopsL_ext {h g : Nat → Bool} (k : Nat) (e : ∀ i, i < k → h i = g i) : Pl.hopsL h k = Pl.hopsL g k := by
  induction k with
  | zero => rfl
  | succ k ih =>
    unfold Pl.hopsL
    rw [e k (by omega), ih fun i hi => e i (by omega)]
theorem Pl.ov_inv (o : Nat → Int) (k : Nat) :
    (Pl.ovB o k = -1 ∧ Pl.ovH o k = [] ∧ ∀ j, j < k → o j < 0) ∨
    (0 ≤ Pl.ovB o k ∧ (∃ j, j < k ∧ o j = Pl.ovB o k) ∧ (∀ j, j < k → 0 ≤ o j → Pl.ovB o k ≤ o j) ∧ Pl.ovH o k = Pl.hopsL (fun j => decide (o j = Pl.ovB o k)) k) := by
  induction k with
  | zero => exact .inl ⟨rfl, rfl, by omega⟩
  | succ k ih =>
    by_cases h0 : o k < 0
    · have eB : Pl.ovB o (k + 1) = Pl.ovB o k := by show (if o k < 0 then _ else _) = _; rw [if_pos h0]
      have eH : Pl.ovH o (k + 1) = Pl.ovH o k := by show (if o k < 0 then _ else _) = _; rw [if_pos h0]
      rw [eB, eH]
      rcases ih with ⟨h1, h2, h3⟩ | ⟨h1, ⟨j, h2, h2'⟩, h3, h4⟩
      · refine .inl ⟨h1, h2, fun j hj => ?_⟩
        by_cases e : j = k
        · subst e; exact h0
        · exact h3 j (by omega)
      · refine .inr ⟨h1, ⟨j, by omega, h2'⟩, fun i hi g => ?_, ?_⟩
        · by_cases e : i = k
          · subst e; omega
          · exact h3 i (by omega) g
        · rw [Pl.hopsL_off (by simp; omega)]; exact h4
    · by_cases h5 : Pl.ovB o k < 0 ∨ o k < Pl.ovB o k
      · have eB : Pl.ovB o (k + 1) = o k := by show (if o k < 0 then _ else _) = _; rw [if_neg h0, if_pos h5]
        have eH : Pl.ovH o (k + 1) = [(k : Int)] := by show (if o k < 0 then _ else _) = _; rw [if_neg h0, if_pos h5]
        rw [eB, eH]
        refine .inr ⟨by omega, ⟨k, by omega, rfl⟩, fun i hi g => ?_, ?_⟩
        · by_cases e : i = k
          · subst e; omega
          · rcases ih with ⟨h1, h2, h3⟩ | ⟨h1, _, h3, h4⟩
            · have := h3 i (by omega); omega
            · have := h3 i (by omega) g; omega
        · rw [Pl.hopsL_on (by simp), Pl.hopsL_none k (fun i hi => ?_)]
          · rfl
          · simp only [decide_eq_false_iff_not]
            intro e
            rcases ih with ⟨h1, h2, h3⟩ | ⟨h1, _, h3, h4⟩
            · have := h3 i hi; omega
            · have := h3 i hi (by omega); omega
      · have eB : Pl.ovB o (k + 1) = Pl.ovB o k := by show (if o k < 0 then _ else _) = _; rw [if_neg h0, if_neg h5]
        rw [eB]
        rcases ih with ⟨h1, h2, h3⟩ | ⟨h1, ⟨j, h2, h2'⟩, h3, h4⟩
        · omega
        · refine .inr ⟨h1, ⟨j, by omega, h2'⟩, fun i hi g => ?_, ?_⟩
          · by_cases e : i = k
            · subst e; omega
            · exact h3 i (by omega) g
          · by_cases e : o k = Pl.ovB o k
            · have eH : Pl.ovH o (k + 1) = Pl.ovH o k ++ [(k : Int)] := by show (if o k < 0 then _ else _) = _; rw [if_neg h0, if_neg h5, if_pos e]
              rw [eH, h4, Pl.hopsL_on (by simpa using e)]
            · have eH : Pl.ovH o (k + 1) = Pl.ovH o k := by show (if o k < 0 then _ else _) = _; rw [if_neg h0, if_neg h5, if_neg e]
              rw [eH, h4, Pl.hopsL_off (by simpa using e)]

/-- A WAY IS A STEP TO A HOP, AND A WAY FROM THERE -/
theorem Pl.step_same {L M : Nat → Nat → Int} {D : Nat → Bool} (hM : ∀ a b, a ≠ b → M a b = L a b) (hL : ∀ a, L a a = 0) (h0 : ∀ a b, 0 ≤ L a b) {a to : Nat} (ha : a < 12) (ht : to < 12) (hta : to ≠ a) :
    Pl.ovB (Pl.over L D (fun k => (Pl.dIter M D k 12).cost) a to) 12 = (Pl.dIter M D a 12).cost to ∧
    Pl.ovH (Pl.over L D (fun k => (Pl.dIter M D k 12).cost) a to) 12 = Pl.hopsL ((Pl.dIter M D a 12).hops to) 12 := by
  have hmin := Pl.found_min (D := D) hM hL ha hta
  have hh := fun k => Pl.found_hops (D := D) hM hL ha to k
  -- what is over k is no less, and as much only if k is a hop
  have one : ∀ k, k < 12 → 0 ≤ Pl.over L D (fun k => (Pl.dIter M D k 12).cost) a to k →
      0 ≤ (Pl.dIter M D a 12).cost to ∧ (Pl.dIter M D a 12).cost to ≤ Pl.over L D (fun k => (Pl.dIter M D k 12).cost) a to k ∧
      (Pl.over L D (fun k => (Pl.dIter M D k 12).cost) a to k = (Pl.dIter M D a 12).cost to → (Pl.dIter M D a 12).hops to k = true) := by
    intro k hk hv
    have key : ∀ c, (∃ k' c', Pl.Way L D a k' to c' ∧ ((k' = k ∧ c' = c) ∨ c' < c)) →
        0 ≤ (Pl.dIter M D a 12).cost to ∧ (Pl.dIter M D a 12).cost to ≤ c ∧ (c = (Pl.dIter M D a 12).cost to → (Pl.dIter M D a 12).hops to k = true) := by
      rintro c ⟨k', c', hw, hc⟩
      rcases hmin with ⟨_, hx⟩ | ⟨m0, _, m2⟩
      · exact absurd ⟨k', hw⟩ (hx c')
      · have hm := m2 c' ⟨k', hw⟩
        refine ⟨m0, ?_, fun e => ?_⟩
        · rcases hc with ⟨_, e⟩ | e <;> omega
        · rcases hc with ⟨e1, e2⟩ | e2
          · subst e1; subst e2; rw [hh]; rw [e] at hw; exact hw
          · omega
    unfold Pl.over at hv ⊢
    by_cases hl : L a k = 0
    · rw [if_pos hl] at hv; omega
    · have hl' : 0 < L a k := by have := h0 a k; omega
      have hka : k ≠ a := fun e => by rw [e, hL] at hl; exact hl rfl
      rw [if_neg hl] at hv ⊢
      by_cases hkt : k = to
      · rw [if_pos hkt] at hv ⊢
        subst hkt
        exact key _ ⟨k, _, .base hk hka hl', .inl ⟨rfl, rfl⟩⟩
      · rw [if_neg hkt] at hv ⊢
        by_cases hx : (Pl.dIter M D k 12).cost to < 0 ∨ D k = true
        · rw [if_pos hx] at hv; omega
        · rw [if_neg hx] at hv ⊢
          have hd : D k = false := Pl.bfalse fun g => hx (.inr g)
          rcases Pl.found_min (D := D) hM hL hk (v := to) (fun e => hkt e.symm) with ⟨h, _⟩ | ⟨_, ⟨j, hw⟩, _⟩
          · omega
          · rcases Pl.way_join hk hka hd hl' hw with e | ⟨k', c', hw', hc⟩
            · exact absurd e hta
            · rw [Int.add_comm]
              exact key _ ⟨k', c', hw', hc⟩
  have two : ∀ k, (Pl.dIter M D a 12).hops to k = true → k < 12 ∧ 0 ≤ Pl.over L D (fun k => (Pl.dIter M D k 12).cost) a to k ∧ Pl.over L D (fun k => (Pl.dIter M D k 12).cost) a to k = (Pl.dIter M D a 12).cost to := by
    intro k hk
    have hw := (hh k).1 hk
    have hkl := hw.klt
    have hp := hw.pos
    have hl' : 0 < L a k := Pl.way_first hw
    have lo : 0 ≤ Pl.over L D (fun k => (Pl.dIter M D k 12).cost) a to k ∧ Pl.over L D (fun k => (Pl.dIter M D k 12).cost) a to k ≤ (Pl.dIter M D a 12).cost to := by
      unfold Pl.over
      rw [if_neg (by omega)]
      rcases Pl.way_part hw with ⟨e, h⟩ | ⟨e, hd, j, c', hw', hc⟩
      · rw [if_pos e.symm]; omega
      · rw [if_neg (Ne.symm e)]
        rcases Pl.found_min (D := D) hM hL hkl.1 (v := to) e with ⟨_, hx⟩ | ⟨m0, _, m2⟩
        · exact absurd ⟨j, hw'⟩ (hx c')
        · have := m2 c' ⟨j, hw'⟩
          have hng : ¬ ((Pl.dIter M D k 12).cost to < 0 ∨ D k = true) := by
            rintro (g | g)
            · omega
            · rw [hd] at g; cases g
          simp only [if_neg hng]
          have := h0 a k
          omega
    have := one k hkl.1 lo.1
    exact ⟨hkl.1, lo.1, by omega⟩
  rcases Pl.ov_inv (Pl.over L D (fun k => (Pl.dIter M D k 12).cost) a to) 12 with ⟨h1, h2, h3⟩ | ⟨h1, ⟨j, h2, h2'⟩, h3, h4⟩
  · have hc : (Pl.dIter M D a 12).cost to = -1 := by
      rcases hmin with ⟨h, _⟩ | ⟨m0, ⟨k, hw⟩, _⟩
      · exact h
      · obtain ⟨g1, g2, _⟩ := two k ((hh k).2 hw)
        have := h3 k g1; omega
    refine ⟨by rw [h1, hc], ?_⟩
    rw [h2, Pl.hopsL_none 12 fun i hi => ?_]
    cases e : (Pl.dIter M D a 12).hops to i with
    | false => rfl
    | true => obtain ⟨g1, g2, _⟩ := two i e; have := h3 i g1; omega
  · have ho := one j h2 (by omega)
    have hc : Pl.ovB (Pl.over L D (fun k => (Pl.dIter M D k 12).cost) a to) 12 = (Pl.dIter M D a 12).cost to := by
      rcases hmin with ⟨h, _⟩ | ⟨m0, ⟨k, hw⟩, _⟩
      · omega
      · obtain ⟨g1, g2, g3⟩ := two k ((hh k).2 hw)
        have := h3 k g1 g2; omega
    refine ⟨hc, ?_⟩
    rw [h4, hc]
    refine Pl.hopsL_ext 12 fun i hi => ?_
    cases e : (Pl.dIter M D a 12).hops to i with
    | false =>
      simp only [decide_eq_false_iff_not]
      intro g
      have := (one i hi (by omega)).2.2 g
      rw [e] at this; cases this
    | true => exact decide_eq_true (two i e).2.2
end Go.Proofs.YtcdobhdbafpkiaeGreatDoor
/-
  Plain: what keep.Told makes of costs is what the ways are sought by.
-/
namespace Go.Proofs.YtcdobhdbafpkiaeGreatDoor
open Go.RowKit
set_option maxRecDepth 20000

theorem Pl.c2_lnk (es : List Pl.Ent) (a b : Nat) : Pl.c2 (Pl.c1 es) a b = if a = b then 0 else Pl.lnk (Pl.tS es) a b := by
  have h1 := (Pl.say_le (ps := Pl.tS es a) (Pl.adjS_up _).ok b).1
  have h2 := (Pl.say_le (ps := Pl.tS es b) (Pl.adjS_up _).ok a).1
  unfold Pl.c2 Pl.c1 Pl.lnk
  by_cases e : a = b
  · subst e; simp
  · rw [if_neg e, if_neg e, if_neg (Ne.symm e)]
    by_cases g : 0 < Pl.say (Pl.tS es b) a
    · rw [if_pos g]
      by_cases g2 : Pl.say (Pl.tS es a) b = 0
      · rw [if_pos (.inl g2), g2]
      · rw [if_neg (by omega)]
    · rw [if_neg g, if_pos (.inr (by omega))]
/-- the loop of WaysStep finds what the search finds -/
theorem Pl.waysStep_same (es : List Pl.Ent) {a to : Nat} (ha : a < 12) (ht : to < 12) (hta : to ≠ a) :
    Pl.ovB (Pl.over (Pl.c2 (Pl.c1 es)) (Pl.tD es) (fun k => (Pl.dIter (Pl.lnk (Pl.tS es)) (Pl.tD es) k 12).cost) a to) 12 = (Pl.dIter (Pl.lnk (Pl.tS es)) (Pl.tD es) a 12).cost to ∧
    Pl.ovH (Pl.over (Pl.c2 (Pl.c1 es)) (Pl.tD es) (fun k => (Pl.dIter (Pl.lnk (Pl.tS es)) (Pl.tD es) k 12).cost) a to) 12 = Pl.hopsL ((Pl.dIter (Pl.lnk (Pl.tS es)) (Pl.tD es) a 12).hops to) 12 := by
  refine Pl.step_same (fun x y h => ?_) (fun x => ?_) (fun x y => ?_) ha ht hta
  · rw [Pl.c2_lnk, if_neg h]
  · rw [Pl.c2_lnk, if_pos rfl]
  · rw [Pl.c2_lnk]
    split
    · omega
    · unfold Pl.lnk
      split
      · exact (Pl.say_le (Pl.adjS_up _).ok y).1
      · omega
end Go.Proofs.YtcdobhdbafpkiaeGreatDoor
/-
  Plain definitions: routes, tables, what is wrong with one, the place of a prefix; no program in sight.
-/
namespace Go.Proofs.YtcdobhdbafpkiaeGreatDoor.Pl

/-- a route: its prefix, is it here, its cost, its hops -/
structure Rt where
  p : Int × Int
  here : Bool
  cost : Int
  hops : List Int
def Rt.none : Rt := ⟨(0, 0), false, 0, []⟩
/-- the route at a place -/
def rt (rs : List Rt) (i : Nat) : Rt := rs.getD i Rt.none
theorem rt_eq (rs : List Rt) (i : Nat) (h : i < rs.length) : rt rs i = rs[i] := by simp [rt, List.getD, h]
theorem rt_mem (rs : List Rt) (i : Nat) (h : i < rs.length) : rt rs i ∈ rs := by rw [rt_eq rs i h]; exact List.getElem_mem h
theorem rt_cons_succ (e : Rt) (es : List Rt) (i : Nat) : rt (e :: es) (i + 1) = rt es i := by simp [rt]
theorem rt_cons_zero (e : Rt) (es : List Rt) : rt (e :: es) 0 = e := by simp [rt]
theorem drop_rt (rs : List Rt) (i : Nat) (h : i < rs.length) : rs.drop i = rt rs i :: rs.drop (i + 1) := by
  rw [rt_eq rs i h]; exact List.drop_eq_getElem_cons h

/-- the number at a place -/
def nm (l : List Int) (i : Nat) : Int := l.getD i 0
theorem nm_eq (l : List Int) (i : Nat) (h : i < l.length) : nm l i = l[i] := by simp [nm, List.getD, h]

/-- may the hop at a place be? -/
def hopB (l : List Int) (i : Nat) : Bool := decide (0 ≤ nm l i ∧ nm l i ≤ 11) && (decide (i = 0) || decide (nm l (i - 1) < nm l i))
def hopsB (l : List Int) : Bool := (List.range l.length).all (hopB l)
theorem hopsB_false {l : List Int} {k : Nat} (hk : k < l.length) (h : hopB l k = false) : hopsB l = false := by
  unfold hopsB
  rw [List.all_eq_false]
  exact ⟨k, List.mem_range.2 hk, by simp [h]⟩
theorem hopsB_true {l : List Int} (h : ∀ k, k < l.length → hopB l k = true) : hopsB l = true := by
  unfold hopsB
  rw [List.all_eq_true]
  intro k hk
  exact h k (List.mem_range.1 hk)
theorem hopsB_at {l : List Int} (h : hopsB l = true) (k : Nat) (hk : k < l.length) : hopB l k = true := by
  unfold hopsB at h
  rw [List.all_eq_true] at h
  exact h k (List.mem_range.2 hk)
theorem hopB_zero (l : List Int) : hopB l 0 = decide (0 ≤ nm l 0 ∧ nm l 0 ≤ 11) := by simp [hopB]
theorem hopB_succ (l : List Int) (m : Nat) : hopB l (m + 1) = (decide (0 ≤ nm l (m + 1) ∧ nm l (m + 1) ≤ 11) && decide (nm l m < nm l (m + 1))) := by simp [hopB]

/-- may a route be? -/
def routeB (r : Rt) : Bool := decide (pfx1 r.p = 0) && decide (0 ≤ r.cost ∧ r.cost ≤ 1048576) && (if r.here then decide (r.cost = 0) && decide (r.hops = []) else decide (r.hops ≠ [])) && hopsB r.hops

/-- does a prefix stand ahead of another one? -/
def pltB (p q : Int × Int) : Bool := decide (p.1 < q.1 ∨ p.1 = q.1 ∧ p.2 < q.2)
theorem pltB_iff {p q : Int × Int} : pltB p q = true ↔ (p.1 < q.1 ∨ p.1 = q.1 ∧ p.2 < q.2) := by simp [pltB]
theorem pltB_not {p q : Int × Int} : pltB p q = false ↔ (q.1 < p.1 ∨ q.1 = p.1 ∧ q.2 ≤ p.2) := by
  rw [Bool.eq_false_iff, Ne, pltB_iff]; omega
theorem pltB_irrefl (p : Int × Int) : pltB p p = false := by rw [pltB_not]; omega
theorem pltB_asymm {p q : Int × Int} (h : pltB p q = true) : pltB q p = false := by rw [pltB_iff] at h; rw [pltB_not]; omega
theorem pltB_trans {p q r : Int × Int} (h : pltB p q = true) (k : pltB q r = true) : pltB p r = true := by rw [pltB_iff] at h k ⊢; omega
theorem pltB_total {p q : Int × Int} (h : pltB p q = false) (k : pltB q p = false) : p = q := by
  rw [pltB_not] at h k
  obtain ⟨a, b⟩ := p; obtain ⟨c, d⟩ := q
  simp only [Prod.mk.injEq] at *
  omega
theorem pltB_ne {p q : Int × Int} (h : pltB p q = true) : ¬ p = q := fun e => by rw [e, pltB_irrefl] at h; cases h
theorem pfxC_ge (p q : Int × Int) : decide (0 ≤ pfxC p q) = !pltB p q := by
  unfold pfxC cmpI pltB
  rw [Bool.eq_iff_iff]
  simp only [decide_eq_true_eq, Bool.not_eq_true', decide_eq_false_iff_not]
  split <;> (try split) <;> (try split) <;> (try split) <;> omega
theorem pair_eq_iff (p q : Int × Int) : p = q ↔ p.1 = q.1 ∧ p.2 = q.2 := by
  obtain ⟨a, b⟩ := p; obtain ⟨c, d⟩ := q; simp

/-- does the prefix at a place not stand behind that of the route ahead? -/
def lowR (rs : List Rt) (i : Nat) : Bool := decide (0 < i) && !pltB (rt rs (i - 1)).p (rt rs i).p
theorem lowR_zero (rs : List Rt) : lowR rs 0 = false := by simp [lowR]
theorem lowR_succ (rs : List Rt) (m : Nat) : lowR rs (m + 1) = !pltB (rt rs m).p (rt rs (m + 1)).p := by simp [lowR]
/-- what is wrong with a table from a place on: so many are still to be looked at -/
def tabN (rs : List Rt) : Nat → Nat → Int
  | 0, _ => 0
  | n + 1, i => if routeB (rt rs i) then (if lowR rs i then 7 else tabN rs n (i + 1)) else 4
def tabF (rs : List Rt) : Int := if rs.length ≤ 200 then tabN rs rs.length 0 else 1
theorem tabF_size {rs : List Rt} (h : 200 < rs.length) : tabF rs = 1 := by unfold tabF; rw [if_neg (by omega)]
theorem tabF_from {rs : List Rt} (h : rs.length ≤ 200) : tabF rs = tabN rs rs.length 0 := by unfold tabF; rw [if_pos h]
theorem tabN_form {rs : List Rt} {n i : Nat} (h : routeB (rt rs i) = false) : tabN rs (n + 1) i = 4 := by simp [tabN, h]
theorem tabN_low {rs : List Rt} {n i : Nat} (h : routeB (rt rs i) = true) (k : lowR rs i = true) : tabN rs (n + 1) i = 7 := by simp [tabN, h, k]
theorem tabN_on {rs : List Rt} {n i : Nat} (h : routeB (rt rs i) = true) (k : lowR rs i = false) : tabN rs (n + 1) i = tabN rs n (i + 1) := by simp [tabN, h, k]

/-- prefixes in their order -/
def AscP (ps : List (Int × Int)) : Prop := ∀ i j, i < j → j < ps.length → pltB (pr ps i) (pr ps j) = true
theorem pr_map (rs : List Rt) (i : Nat) (h : i < rs.length) : pr (rs.map Rt.p) i = (rt rs i).p := by
  rw [pr_eq _ _ (by simpa using h), rt_eq rs i h]; simp
theorem tabN_zero (rs : List Rt) : ∀ n i, tabN rs n i = 0 → ∀ j, i ≤ j → j < i + n → routeB (rt rs j) = true ∧ lowR rs j = false
  | 0, _, _, j, h1, h2 => by omega
  | n + 1, i, h, j, h1, h2 => by
    simp only [tabN] at h
    cases hm : routeB (rt rs i)
    · simp [hm] at h
    · cases hl : lowR rs i
      · simp only [hm, hl] at h
        rcases Nat.lt_or_ge i j with k | k
        · exact tabN_zero rs n (i + 1) (by simpa using h) j (by omega) (by omega)
        · obtain rfl : j = i := by omega
          exact ⟨hm, hl⟩
      · simp [hm, hl] at h
theorem good_of_tabF {rs : List Rt} (h : tabF rs = 0) : rs.length ≤ 200 ∧ (∀ i, i < rs.length → routeB (rt rs i) = true) ∧ AscP (rs.map Rt.p) := by
  unfold tabF at h
  split at h
  · rename_i hl
    have hz := tabN_zero rs rs.length 0 h
    refine ⟨hl, fun i hi => (hz i (by omega) (by omega)).1, ?_⟩
    intro i j hij hj
    simp only [List.length_map] at hj
    rw [pr_map rs i (by omega), pr_map rs j hj]
    induction j with
    | zero => omega
    | succ m ih =>
      have hlow := (hz (m + 1) (by omega) (by omega)).2
      have hstep : pltB (rt rs m).p (rt rs (m + 1)).p = true := by
        rw [lowR_succ] at hlow
        simpa using hlow
      rcases Nat.lt_or_ge i m with k | k
      · exact pltB_trans (ih k (by omega)) hstep
      · obtain rfl : i = m := by omega
        exact hstep
  · cases h
theorem tabN_of_good (rs : List Rt) (h : ∀ j, j < rs.length → routeB (rt rs j) = true ∧ lowR rs j = false) : ∀ n i, i + n ≤ rs.length → tabN rs n i = 0
  | 0, _, _ => rfl
  | n + 1, i, hi => by
    obtain ⟨h1, h2⟩ := h i (by omega)
    rw [tabN_on h1 h2]
    exact tabN_of_good rs h n (i + 1) (by omega)
theorem tabF_of_good {rs : List Rt} (hl : rs.length ≤ 200) (hm : ∀ i, i < rs.length → routeB (rt rs i) = true) (ha : AscP (rs.map Rt.p)) : tabF rs = 0 := by
  rw [tabF_from hl]
  refine tabN_of_good rs (fun j hj => ⟨hm j hj, ?_⟩) _ _ (by omega)
  rcases Nat.eq_zero_or_pos j with rfl | k
  · exact lowR_zero _
  · obtain ⟨m, rfl⟩ : ∃ m, j = m + 1 := ⟨j - 1, by omega⟩
    rw [lowR_succ]
    have := ha m (m + 1) (by omega) (by simpa using hj)
    rw [pr_map rs m (by omega), pr_map rs (m + 1) hj] at this
    rw [this]; rfl

/-- the place of a prefix, or that at which it would come -/
def posP : List (Int × Int) → Int × Int → Nat
  | [], _ => 0
  | e :: r, p => if pltB e p then posP r p + 1 else 0
theorem pr_cons_succ (e : Int × Int) (es : List (Int × Int)) (i : Nat) : pr (e :: es) (i + 1) = pr es i := by simp [pr]
theorem pr_cons_zero (e : Int × Int) (es : List (Int × Int)) : pr (e :: es) 0 = e := by simp [pr]
theorem posP_le : ∀ (ps : List (Int × Int)) (p : Int × Int), posP ps p ≤ ps.length
  | [], _ => Nat.le_refl _
  | e :: r, p => by
    simp only [posP, List.length_cons]
    have := posP_le r p
    split <;> omega
theorem posP_lt : ∀ (ps : List (Int × Int)) (p : Int × Int) (i : Nat), i < posP ps p → pltB (pr ps i) p = true
  | [], _, i, h => by simp [posP] at h
  | e :: r, p, i, h => by
    simp only [posP] at h
    split at h
    · rename_i he
      cases i with
      | zero => simpa [pr] using he
      | succ i => rw [pr_cons_succ]; exact posP_lt r p i (by omega)
    · omega
theorem posP_at : ∀ (ps : List (Int × Int)) (p : Int × Int), posP ps p < ps.length → pltB (pr ps (posP ps p)) p = false
  | [], _, h => by simp at h
  | e :: r, p, h => by
    cases he : pltB e p
    · simp [posP, he, pr]
    · simp only [posP, he, if_true] at h ⊢
      rw [pr_cons_succ]
      exact posP_at r p (by simpa using h)
theorem posP_of {ps : List (Int × Int)} {p : Int × Int} {i : Nat} (hi : i ≤ ps.length) (h1 : ∀ t, t < i → pltB (pr ps t) p = true) (h2 : i < ps.length → pltB (pr ps i) p = false) : posP ps p = i := by
  rcases Nat.lt_trichotomy (posP ps p) i with k | k | k
  · have a := h1 _ k
    rw [posP_at ps p (by omega)] at a; cases a
  · exact k
  · have a := posP_lt ps p i k
    have b := posP_le ps p
    rw [h2 (by omega)] at a; cases a
/-- is the prefix there? -/
def thereP (ps : List (Int × Int)) (p : Int × Int) : Bool := decide (posP ps p < ps.length) && decide (pr ps (posP ps p) = p)
theorem thereP_lt {ps : List (Int × Int)} {p : Int × Int} (h : thereP ps p = true) : posP ps p < ps.length := by
  unfold thereP at h
  simp only [Bool.and_eq_true, decide_eq_true_eq] at h
  exact h.1
theorem thereP_eq {ps : List (Int × Int)} {p : Int × Int} (h : thereP ps p = true) : pr ps (posP ps p) = p := by
  unfold thereP at h
  simp only [Bool.and_eq_true, decide_eq_true_eq] at h
  exact h.2
theorem ascP_lt {ps : List (Int × Int)} (h : AscP ps) {p : Int × Int} {t m : Nat} (hm : m < ps.length) (ht : t ≤ m) (k : pltB (pr ps m) p = true) : pltB (pr ps t) p = true := by
  rcases Nat.lt_or_ge t m with q | q
  · exact pltB_trans (h t m q hm) k
  · obtain rfl : t = m := by omega
    exact k
theorem ascP_ge {ps : List (Int × Int)} (h : AscP ps) {p : Int × Int} {t m : Nat} (ht : t < ps.length) (hm : m ≤ t) (k : pltB (pr ps m) p = false) : pltB (pr ps t) p = false := by
  cases q : pltB (pr ps t) p
  · rfl
  · rw [ascP_lt h ht hm q] at k; cases k
/-- in order, a prefix is there just where it is one of them -/
theorem thereP_mem {ps : List (Int × Int)} (h : AscP ps) {p : Int × Int} {i : Nat} (hi : i < ps.length) (e : pr ps i = p) : posP ps p = i ∧ thereP ps p = true := by
  have hp : posP ps p = i := by
    refine posP_of (by omega) (fun u hu => ?_) (fun _ => by rw [e]; exact pltB_irrefl _)
    have := h u i hu hi
    rwa [e] at this
  refine ⟨hp, ?_⟩
  unfold thereP
  rw [hp, e]
  simp [hi]
theorem thereP_iff {ps : List (Int × Int)} (h : AscP ps) (p : Int × Int) : thereP ps p = true ↔ p ∈ ps := by
  constructor
  · intro ht
    rw [← thereP_eq ht]
    exact pr_mem ps _ (thereP_lt ht)
  · intro hm
    obtain ⟨i, hi, e⟩ := List.getElem_of_mem hm
    exact (thereP_mem h hi (by rw [pr_eq ps i hi]; exact e)).2
end Go.Proofs.YtcdobhdbafpkiaeGreatDoor.Pl
/-
  Plain definitions and facts: what is found in a table, what parts two tables, a table that is patched; no program in sight.
-/
namespace Go.Proofs.YtcdobhdbafpkiaeGreatDoor.Pl

/-- the prefix of so many bits to which an address belongs -/
def pfxAt (addr : Int) (bits : Nat) : Int × Int := (addr - addr % span bits, bits)
/-- the place of what is found, of so many bits and fewer -/
def lookN (ps : List (Int × Int)) (addr : Int) : Nat → Option Nat
  | 0 => none
  | n + 1 => if thereP ps (pfxAt addr n) then some (posP ps (pfxAt addr n)) else lookN ps addr n
theorem lookN_lt {ps : List (Int × Int)} {addr : Int} : ∀ {n i : Nat}, lookN ps addr n = some i → i < ps.length
  | 0, i, h => by simp [lookN] at h
  | n + 1, i, h => by
    unfold lookN at h
    split at h
    · rename_i ht
      cases h
      exact thereP_lt ht
    · exact lookN_lt h
/-- what is wrong with looking up -/
def lookC (rs : List Rt) (addr : Int) : Int :=
  if tabF rs = 0 then (if 0 ≤ addr ∧ addr ≤ 255 then (match lookN (rs.map Rt.p) addr 9 with | some _ => 0 | none => 6) else 2) else tabF rs
def lookR (rs : List Rt) (addr : Int) : Rt :=
  if tabF rs = 0 then (if 0 ≤ addr ∧ addr ≤ 255 then (match lookN (rs.map Rt.p) addr 9 with | some i => rt rs i | none => Rt.none) else Rt.none) else Rt.none

/-- are two routes of a prefix the same? -/
def sameR (a b : Rt) : Bool := decide (a.here = b.here) && decide (a.cost = b.cost) && decide (a.hops = b.hops)
/-- is a route there, and the same? -/
def keptB (a : List Rt) (r : Rt) : Bool := thereP (a.map Rt.p) r.p && sameR (rt a (posP (a.map Rt.p) r.p)) r
/-- what is to be set, what is to go -/
def setL (a b : List Rt) : List Rt := b.filter fun r => !keptB a r
def goneL (a b : List Rt) : List (Int × Int) := (a.filter fun r => !thereP (b.map Rt.p) r.p).map Rt.p

/-- without the route of a prefix -/
def delR (rs : List Rt) (p : Int × Int) : List Rt := if thereP (rs.map Rt.p) p then rs.take (posP (rs.map Rt.p) p) ++ rs.drop (posP (rs.map Rt.p) p + 1) else rs
def delsR (rs : List Rt) (ps : List (Int × Int)) : List Rt := ps.foldl delR rs
/-- a route comes to its place, instead of that with its prefix -/
def insR : List Rt → Rt → List Rt
  | [], x => [x]
  | e :: r, x => if pltB e.p x.p then e :: insR r x else if e.p = x.p then x :: r else x :: e :: r
def inssR (rs : List Rt) (set : List Rt) : List Rt := set.foldl insR rs
/-- what is laid at a place -/
def layR (rs : List Rt) (i : Nat) (instead : Bool) (x : Rt) : List Rt := rs.take i ++ x :: rs.drop (if instead then i + 1 else i)

/-- in order, as pairs -/
def SrtR (rs : List Rt) : Prop := rs.Pairwise fun a b => pltB a.p b.p = true
theorem ascP_srt (rs : List Rt) : AscP (rs.map Rt.p) ↔ SrtR rs := by
  unfold AscP SrtR
  rw [List.pairwise_iff_getElem]
  constructor
  · intro h i j hi hj hij
    have := h i j hij (by simpa using hj)
    rwa [pr_map rs i hi, pr_map rs j hj, rt_eq rs i hi, rt_eq rs j hj] at this
  · intro h i j hij hj
    simp only [List.length_map] at hj
    have := h i j (by omega) hj hij
    rwa [pr_map rs i (by omega), pr_map rs j hj, rt_eq rs i (by omega), rt_eq rs j hj]
/-- a table that may be -/
def GoodT (rs : List Rt) : Prop := rs.length ≤ 200 ∧ (∀ r ∈ rs, routeB r = true) ∧ SrtR rs
theorem goodT_iff (rs : List Rt) : tabF rs = 0 ↔ GoodT rs := by
  constructor
  · intro h
    obtain ⟨h1, h2, h3⟩ := good_of_tabF h
    refine ⟨h1, fun r hr => ?_, (ascP_srt rs).1 h3⟩
    obtain ⟨i, hi, rfl⟩ := List.getElem_of_mem hr
    rw [← rt_eq rs i hi]; exact h2 i hi
  · rintro ⟨h1, h2, h3⟩
    exact tabF_of_good h1 (fun i hi => h2 _ (rt_mem rs i hi)) ((ascP_srt rs).2 h3)

theorem thereP_cons_lt {e : Int × Int} {r : List (Int × Int)} {p : Int × Int} (h : pltB e p = true) : thereP (e :: r) p = thereP r p := by
  unfold thereP
  simp only [posP, h, if_true, pr_cons_succ, List.length_cons]
  simp
theorem thereP_cons_ge {e : Int × Int} {r : List (Int × Int)} {p : Int × Int} (h : pltB e p = false) : thereP (e :: r) p = decide (e = p) := by
  unfold thereP
  simp [posP, h, pr]
theorem lay_insR : ∀ (rs : List Rt) (x : Rt), layR rs (posP (rs.map Rt.p) x.p) (thereP (rs.map Rt.p) x.p) x = insR rs x
  | [], x => by simp [layR, insR, posP, thereP]
  | e :: r, x => by
    cases h : pltB e.p x.p
    · rw [List.map_cons, thereP_cons_ge h]
      simp only [posP, h, insR, layR]
      by_cases k : e.p = x.p
      · simp [k]
      · simp [k]
    · rw [List.map_cons, thereP_cons_lt h]
      have ih := lay_insR r x
      unfold layR at ih ⊢
      simp only [posP, h, if_true, insR, List.take_succ_cons, List.cons_append]
      rw [← ih]
      cases thereP (r.map Rt.p) x.p <;> simp
theorem mem_insR {rs : List Rt} {x e : Rt} (h : e ∈ insR rs x) : e = x ∨ e ∈ rs := by
  induction rs with
  | nil => simp [insR] at h; exact .inl h
  | cons a r ih =>
    unfold insR at h
    split at h
    · rcases List.mem_cons.1 h with rfl | h
      · exact .inr (by simp)
      · rcases ih h with h | h
        · exact .inl h
        · exact .inr (by simp [h])
    · split at h
      · rcases List.mem_cons.1 h with rfl | h
        · exact .inl rfl
        · exact .inr (by simp [h])
      · rcases List.mem_cons.1 h with rfl | h
        · exact .inl rfl
        · exact .inr h
theorem insR_srt {rs : List Rt} {x : Rt} (h : SrtR rs) : SrtR (insR rs x) := by
  induction rs with
  | nil => simp [SrtR, insR]
  | cons a r ih =>
    unfold SrtR at h ih ⊢
    rw [List.pairwise_cons] at h
    obtain ⟨h1, h2⟩ := h
    unfold insR
    split
    · rename_i hl
      refine List.pairwise_cons.2 ⟨fun e he => ?_, ih h2⟩
      rcases mem_insR he with rfl | he
      · exact hl
      · exact h1 e he
    · rename_i hl
      split
      · rename_i he
        refine List.pairwise_cons.2 ⟨fun e hm => ?_, h2⟩
        rw [← he]; exact h1 e hm
      · rename_i he
        have hlt : pltB x.p a.p = true := by
          cases k : pltB x.p a.p
          · exact absurd (pltB_total (by simpa using hl) k) he
          · rfl
        refine List.pairwise_cons.2 ⟨fun e hm => ?_, List.pairwise_cons.2 ⟨h1, h2⟩⟩
        rcases List.mem_cons.1 hm with rfl | hm
        · exact hlt
        · exact pltB_trans hlt (h1 e hm)
theorem insR_len : ∀ (rs : List Rt) (x : Rt), (insR rs x).length = if thereP (rs.map Rt.p) x.p then rs.length else rs.length + 1
  | [], x => by simp [insR, thereP]
  | e :: r, x => by
    have ih := insR_len r x
    cases h : pltB e.p x.p
    · rw [List.map_cons, thereP_cons_ge h]
      simp only [insR, h]
      by_cases k : e.p = x.p <;> simp [k]
    · rw [List.map_cons, thereP_cons_lt h]
      simp only [insR, h, if_true, List.length_cons, ih]
      cases thereP (r.map Rt.p) x.p <;> simp
theorem insR_len_ge (rs : List Rt) (x : Rt) : rs.length ≤ (insR rs x).length := by
  rw [insR_len]; split <;> omega
theorem inssR_len_ge : ∀ (set rs : List Rt), rs.length ≤ (inssR rs set).length
  | [], _ => Nat.le_refl _
  | x :: r, rs => Nat.le_trans (insR_len_ge rs x) (inssR_len_ge r (insR rs x))
theorem inssR_len_le : ∀ (set rs : List Rt), (inssR rs set).length ≤ rs.length + set.length
  | [], rs => by simp [inssR]
  | x :: r, rs => by
    have h1 := inssR_len_le r (insR rs x)
    have h2 : (insR rs x).length ≤ rs.length + 1 := by rw [insR_len]; split <;> omega
    show (inssR (insR rs x) r).length ≤ _
    simp only [List.length_cons]
    omega
theorem inssR_srt : ∀ (set rs : List Rt), SrtR rs → SrtR (inssR rs set)
  | [], _, h => h
  | _ :: r, _, h => inssR_srt r _ (insR_srt h)

/-- the document's way to lay a route -/
def wR : List Rt → Bool → Rt → List Rt
  | [], done, x => if done then [] else [x]
  | e :: r, done, x => (if !done && !pltB e.p x.p then [x] else []) ++ ((if e.p = x.p then [] else [e]) ++ wR r (done || !pltB e.p x.p) x)
theorem wR_done : ∀ (rs : List Rt) (x : Rt), (∀ e ∈ rs, ¬ e.p = x.p) → wR rs true x = rs
  | [], _, _ => rfl
  | e :: r, x, h => by
    have h0 := h e (by simp)
    simp [wR, h0, wR_done r x (fun e he => h e (by simp [he]))]
theorem wR_insR : ∀ (rs : List Rt) (x : Rt), SrtR rs → wR rs false x = insR rs x
  | [], x, _ => rfl
  | e :: r, x, h => by
    unfold SrtR at h
    rw [List.pairwise_cons] at h
    obtain ⟨h1, h2⟩ := h
    cases hl : pltB e.p x.p
    · have hrest : ∀ a ∈ r, ¬ a.p = x.p := by
        intro a ha he
        have := h1 a ha
        rw [he, hl] at this; cases this
      simp only [wR, insR, hl, Bool.not_false, Bool.and_self, if_true, Bool.or_true]
      rw [wR_done r x hrest]
      by_cases k : e.p = x.p <;> simp [k]
    · have k : ¬ e.p = x.p := pltB_ne hl
      simp [wR, insR, hl, k, wR_insR r x h2]

theorem delR_filter : ∀ (rs : List Rt) (p : Int × Int), SrtR rs → delR rs p = rs.filter fun r => decide (¬ r.p = p)
  | [], p, _ => by simp [delR, thereP]
  | e :: r, p, h => by
    unfold SrtR at h
    rw [List.pairwise_cons] at h
    obtain ⟨h1, h2⟩ := h
    have ih := delR_filter r p h2
    cases hl : pltB e.p p
    · have hrest : ∀ a ∈ r, ¬ a.p = p := by
        intro a ha he
        have := h1 a ha
        rw [he, hl] at this; cases this
      have hall : (r.filter fun r => decide (¬ r.p = p)) = r := List.filter_eq_self.2 fun a ha => by simpa using hrest a ha
      unfold delR
      rw [List.map_cons, thereP_cons_ge hl]
      simp only [posP, hl]
      by_cases k : e.p = p
      · simp only [k, decide_true, if_true]
        rw [List.filter_cons_of_neg (by simp [k]), hall]
        simp
      · simp only [k, decide_false]
        rw [List.filter_cons_of_pos (by simp [k]), hall]
        simp
    · have k : ¬ e.p = p := pltB_ne hl
      rw [List.filter_cons_of_pos (by simp [k]), ← ih]
      unfold delR
      rw [List.map_cons, thereP_cons_lt hl]
      simp only [posP, hl, if_true, List.take_succ_cons, List.drop_succ_cons]
      split <;> simp
theorem filter_srt {rs : List Rt} (f : Rt → Bool) (h : SrtR rs) : SrtR (rs.filter f) := List.Pairwise.filter _ h
theorem delsR_filter : ∀ (ps : List (Int × Int)) (rs : List Rt), SrtR rs → delsR rs ps = rs.filter fun r => decide (¬ r.p ∈ ps)
  | [], rs, _ => by
    simp only [delsR, List.foldl_nil, List.not_mem_nil, not_false_eq_true, decide_true]
    exact (List.filter_eq_self.2 fun _ _ => rfl).symm
  | p :: ps, rs, h => by
    show delsR (delR rs p) ps = _
    rw [delR_filter rs p h, delsR_filter ps _ (filter_srt _ h), List.filter_filter]
    congr 1
    funext r
    rw [Bool.eq_iff_iff]
    simp
    exact And.comm
theorem delsR_srt {rs : List Rt} {ps : List (Int × Int)} (h : SrtR rs) : SrtR (delsR rs ps) := by rw [delsR_filter ps rs h]; exact filter_srt _ h
theorem delsR_len {rs : List Rt} {ps : List (Int × Int)} (h : SrtR rs) : (delsR rs ps).length ≤ rs.length := by rw [delsR_filter ps rs h]; exact List.length_filter_le _ _

/-- what comes of a patch, and what is wrong with it -/
def patR (a set : List Rt) (gone : List (Int × Int)) : List Rt := inssR (delsR a gone) set
def patC (a set : List Rt) (gone : List (Int × Int)) : Int := if tabF a = 0 then tabF (patR a set gone) else tabF a
def patL (a set : List Rt) (gone : List (Int × Int)) : List Rt := if tabF a = 0 then (if tabF (patR a set gone) = 0 then patR a set gone else []) else []
end Go.Proofs.YtcdobhdbafpkiaeGreatDoor.Pl
/-
  Plain: a table that is made route by route; what stands at each prefix of it; no program in sight.
-/
namespace Go.Proofs.YtcdobhdbafpkiaeGreatDoor
open Go.RowKit
set_option maxRecDepth 20000

theorem Pl.mem_hopsL {h : Nat → Bool} {k : Nat} {x : Int} : x ∈ Pl.hopsL h k ↔ ∃ j, j < k ∧ x = (j : Int) ∧ h j = true := by
  induction k with
  | zero => simp [Pl.hopsL]
  | succ k ih =>
    cases e : h k
    · rw [Pl.hopsL_off e, ih]
      constructor
      · rintro ⟨j, h1, h2, h3⟩; exact ⟨j, by omega, h2, h3⟩
      · rintro ⟨j, h1, h2, h3⟩
        refine ⟨j, ?_, h2, h3⟩
        rcases Nat.lt_or_ge j k with g | g
        · exact g
        · obtain rfl : j = k := by omega
          rw [e] at h3; cases h3
    · rw [Pl.hopsL_on e, List.mem_append, List.mem_singleton, ih]
      constructor
      · rintro (⟨j, h1, h2, h3⟩ | rfl)
        · exact ⟨j, by omega, h2, h3⟩
        · exact ⟨k, by omega, rfl, e⟩
      · rintro ⟨j, h1, h2, h3⟩
        rcases Nat.lt_or_ge j k with g | g
        · exact .inl ⟨j, g, h2, h3⟩
        · obtain rfl : j = k := by omega
          exact .inr h2
theorem Pl.hopsL_up (h : Nat → Bool) (k : Nat) : (Pl.hopsL h k).Pairwise (· < ·) := by
  induction k with
  | zero => exact List.Pairwise.nil
  | succ k ih =>
    cases e : h k
    · rw [Pl.hopsL_off e]; exact ih
    · rw [Pl.hopsL_on e, List.pairwise_append]
      refine ⟨ih, by simp, fun x hx y hy => ?_⟩
      obtain ⟨j, h1, h2, _⟩ := Pl.mem_hopsL.1 hx
      simp at hy
      omega
theorem Pl.hopsB_of {l : List Int} (h1 : ∀ x ∈ l, 0 ≤ x ∧ x ≤ 11) (h2 : l.Pairwise (· < ·)) : Pl.hopsB l = true := by
  refine Pl.hopsB_true fun k hk => ?_
  have g := h1 _ (List.getElem_mem hk)
  rw [← Pl.nm_eq l k hk] at g
  cases k with
  | zero => rw [Pl.hopB_zero]; simpa using g
  | succ m =>
    rw [Pl.hopB_succ]
    have := List.pairwise_iff_getElem.1 h2 m (m + 1) (by omega) hk (by omega)
    rw [← Pl.nm_eq l m (by omega), ← Pl.nm_eq l (m + 1) hk] at this
    simp only [Bool.and_eq_true, decide_eq_true_eq]
    exact ⟨g, this⟩
theorem Pl.hopsB_range {l : List Int} (h : Pl.hopsB l = true) : ∀ x ∈ l, 0 ≤ x ∧ x ≤ 11 := by
  intro x hx
  obtain ⟨i, hi, rfl⟩ := List.getElem_of_mem hx
  have := Pl.hopsB_at h i hi
  unfold Pl.hopB at this
  simp only [Bool.and_eq_true, decide_eq_true_eq] at this
  rw [← Pl.nm_eq l i hi]
  exact this.1
theorem Pl.hopsL_B (h : Nat → Bool) {k : Nat} (hk : k ≤ 12) : Pl.hopsB (Pl.hopsL h k) = true :=
  Pl.hopsB_of (fun x hx => by obtain ⟨j, h1, h2, _⟩ := Pl.mem_hopsL.1 hx; omega) (Pl.hopsL_up h k)
/-- rising lists with the same members are the same -/
theorem Pl.up_ext : ∀ {a b : List Int}, a.Pairwise (· < ·) → b.Pairwise (· < ·) → (∀ x, x ∈ a ↔ x ∈ b) → a = b
  | [], [], _, _, _ => rfl
  | [], y :: b, _, _, h => absurd ((h y).2 (by simp)) (by simp)
  | x :: a, [], _, _, h => absurd ((h x).1 (by simp)) (by simp)
  | x :: a, y :: b, ha, hb, h => by
    rw [List.pairwise_cons] at ha hb
    have e : x = y := by
      have h1 := (h x).1 (by simp)
      have h2 := (h y).2 (by simp)
      rcases List.mem_cons.1 h1 with h1 | h1
      · exact h1
      · rcases List.mem_cons.1 h2 with h2 | h2
        · exact h2.symm
        · have := hb.1 x h1; have := ha.1 y h2; omega
    subst e
    rw [Pl.up_ext ha.2 hb.2 fun z => ?_]
    constructor
    · intro hz
      rcases List.mem_cons.1 ((h z).1 (by simp [hz])) with g | g
      · have := ha.1 z hz; omega
      · exact g
    · intro hz
      rcases List.mem_cons.1 ((h z).2 (by simp [hz])) with g | g
      · have := hb.1 z hz; omega
      · exact g

/-- hops of both -/
def Pl.unite (a b : List Int) : List Int := Pl.hopsL (fun k => decide ((k : Int) ∈ a) || decide ((k : Int) ∈ b)) 12
theorem Pl.mem_unite {a b : List Int} {x : Int} (ha : ∀ x ∈ a, 0 ≤ x ∧ x ≤ 11) (hb : ∀ x ∈ b, 0 ≤ x ∧ x ≤ 11) : x ∈ Pl.unite a b ↔ x ∈ a ∨ x ∈ b := by
  unfold Pl.unite
  rw [Pl.mem_hopsL]
  constructor
  · rintro ⟨j, _, rfl, h⟩; simpa using h
  · intro h
    have hx : 0 ≤ x ∧ x ≤ 11 := h.elim (ha x) (hb x)
    refine ⟨x.toNat, by omega, by omega, ?_⟩
    rw [show ((x.toNat : Nat) : Int) = x by omega]
    simpa using h
/-- the best of two routes -/
def Pl.bestR (a b : Pl.Rt) : Pl.Rt := if b.cost < a.cost then b else if b.cost = a.cost then ⟨a.p, a.here, a.cost, Pl.unite a.hops b.hops⟩ else a
def Pl.offX (rs : List Pl.Rt) (r : Pl.Rt) : Pl.Rt := if Pl.thereP (rs.map Pl.Rt.p) r.p then Pl.bestR (Pl.rt rs (Pl.posP (rs.map Pl.Rt.p) r.p)) r else r
/-- a route is offered -/
def Pl.offR (rs : List Pl.Rt) (r : Pl.Rt) : List Pl.Rt := Pl.insR rs (Pl.offX rs r)
/-- the route at a prefix -/
def Pl.getR : List Pl.Rt → Int × Int → Option Pl.Rt
  | [], _ => none
  | e :: r, q => if e.p = q then some e else Pl.getR r q
theorem Pl.getR_none {rs : List Pl.Rt} {q : Int × Int} (h : ∀ r ∈ rs, ¬ r.p = q) : Pl.getR rs q = none := by
  induction rs with
  | nil => rfl
  | cons e r ih => unfold Pl.getR; rw [if_neg (h e (by simp))]; exact ih fun x hx => h x (by simp [hx])
theorem Pl.getR_some {rs : List Pl.Rt} {q : Int × Int} {x : Pl.Rt} (h : Pl.getR rs q = some x) : x ∈ rs ∧ x.p = q := by
  induction rs with
  | nil => cases h
  | cons e r ih =>
    unfold Pl.getR at h
    split at h
    · rename_i g; cases h; exact ⟨by simp, g⟩
    · obtain ⟨h1, h2⟩ := ih h; exact ⟨by simp [h1], h2⟩
theorem Pl.getR_mem {rs : List Pl.Rt} (hs : Pl.SrtR rs) {x : Pl.Rt} (h : x ∈ rs) : Pl.getR rs x.p = some x := by
  induction rs with
  | nil => simp at h
  | cons e r ih =>
    unfold Pl.SrtR at hs ih
    rw [List.pairwise_cons] at hs
    unfold Pl.getR
    rcases List.mem_cons.1 h with rfl | h
    · rw [if_pos rfl]
    · rw [if_neg (Pl.pltB_ne (hs.1 x h))]; exact ih hs.2 h
theorem Pl.getR_there {rs : List Pl.Rt} (hs : Pl.SrtR rs) (q : Int × Int) : Pl.getR rs q = if Pl.thereP (rs.map Pl.Rt.p) q then some (Pl.rt rs (Pl.posP (rs.map Pl.Rt.p) q)) else none := by
  induction rs with
  | nil => simp [Pl.getR, Pl.thereP]
  | cons e r ih =>
    unfold Pl.SrtR at hs ih
    rw [List.pairwise_cons] at hs
    unfold Pl.getR
    cases h : Pl.pltB e.p q
    · rw [List.map_cons, Pl.thereP_cons_ge h]
      by_cases g : e.p = q
      · simp [g, Pl.posP, Pl.pltB_irrefl, Pl.rt]
      · rw [if_neg g, if_neg (by simpa using g)]
        refine Pl.getR_none fun x hx e' => ?_
        have := hs.1 x hx
        rw [e', h] at this; cases this
    · rw [if_neg (Pl.pltB_ne h), List.map_cons, Pl.thereP_cons_lt h, ih hs.2]
      simp [Pl.posP, h, Pl.rt_cons_succ]
theorem Pl.getR_ins {rs : List Pl.Rt} (hs : Pl.SrtR rs) (x : Pl.Rt) (q : Int × Int) : Pl.getR (Pl.insR rs x) q = if x.p = q then some x else Pl.getR rs q := by
  induction rs with
  | nil => simp [Pl.insR, Pl.getR]
  | cons e r ih =>
    unfold Pl.SrtR at hs ih
    rw [List.pairwise_cons] at hs
    unfold Pl.insR
    split
    · rename_i h
      unfold Pl.getR
      rw [ih hs.2]
      by_cases g : e.p = q
      · rw [if_pos g, if_pos g, if_neg (by intro e'; exact Pl.pltB_ne h (g.trans e'.symm))]
      · rw [if_neg g, if_neg g]
    · split
      · rename_i h1 h2
        unfold Pl.getR
        rw [h2]
        by_cases g : x.p = q
        · rw [if_pos g, if_pos g]
        · rw [if_neg g, if_neg g, if_neg g]
      · rfl
/-- tables in order with the same route at each prefix are the same -/
theorem Pl.srtR_ext : ∀ {a b : List Pl.Rt}, Pl.SrtR a → Pl.SrtR b → (∀ q, Pl.getR a q = Pl.getR b q) → a = b
  | [], [], _, _, _ => rfl
  | [], y :: b, _, _, h => by have := h y.p; simp [Pl.getR] at this
  | x :: a, [], _, _, h => by have := h x.p; simp [Pl.getR] at this
  | x :: a, y :: b, ha, hb, h => by
    have hx := h x.p
    have hy := h y.p
    have hx1 : Pl.getR (x :: a) x.p = some x := by simp [Pl.getR]
    have hy1 : Pl.getR (y :: b) y.p = some y := by simp [Pl.getR]
    have hxb := Pl.getR_some (hx.symm.trans hx1)
    have hya := Pl.getR_some (hy.trans hy1)
    unfold Pl.SrtR at ha hb
    rw [List.pairwise_cons] at ha hb
    have e : x = y := by
      rcases List.mem_cons.1 hxb.1 with g | g
      · exact g
      · rcases List.mem_cons.1 hya.1 with g2 | g2
        · exact g2.symm
        · have h1 := hb.1 x g
          have h2 := ha.1 y g2
          rw [Pl.pltB_asymm h1] at h2; cases h2
    subst e
    rw [Pl.srtR_ext ha.2 hb.2 fun q => ?_]
    by_cases g : x.p = q
    · subst g
      rw [Pl.getR_none fun r hr e => ?_, Pl.getR_none fun r hr e => ?_]
      · have := hb.1 r hr; rw [e, Pl.pltB_irrefl] at this; cases this
      · have := ha.1 r hr; rw [e, Pl.pltB_irrefl] at this; cases this
    · have := h q
      unfold Pl.getR at this
      rwa [if_neg g, if_neg g] at this

theorem Pl.bestR_p {a b : Pl.Rt} (h : a.p = b.p) : (Pl.bestR a b).p = b.p := by
  unfold Pl.bestR
  split
  · rfl
  · split
    · exact h
    · exact h
theorem Pl.offX_p (rs : List Pl.Rt) (r : Pl.Rt) : (Pl.offX rs r).p = r.p := by
  unfold Pl.offX
  split
  · rename_i h
    refine Pl.bestR_p ?_
    have h1 := Pl.thereP_eq h
    have h2 := Pl.thereP_lt h
    rw [Pl.pr_map rs _ (by simpa using h2)] at h1
    exact h1
  · rfl
/-- what comes of one more route at a prefix -/
def Pl.more (o : Option Pl.Rt) (r : Pl.Rt) : Pl.Rt := match o with | none => r | some a => Pl.bestR a r
theorem Pl.offX_more {rs : List Pl.Rt} (hs : Pl.SrtR rs) (r : Pl.Rt) : Pl.offX rs r = Pl.more (Pl.getR rs r.p) r := by
  unfold Pl.offX Pl.more
  rw [Pl.getR_there hs]
  split
  · rfl
  · rfl
theorem Pl.offR_srt {rs : List Pl.Rt} (hs : Pl.SrtR rs) (r : Pl.Rt) : Pl.SrtR (Pl.offR rs r) := Pl.insR_srt hs
theorem Pl.getR_off {rs : List Pl.Rt} (hs : Pl.SrtR rs) (r : Pl.Rt) (q : Int × Int) : Pl.getR (Pl.offR rs r) q = if r.p = q then some (Pl.more (Pl.getR rs q) r) else Pl.getR rs q := by
  unfold Pl.offR
  rw [Pl.getR_ins hs, Pl.offX_p]
  split
  · rename_i h; rw [Pl.offX_more hs, h]
  · rfl
theorem Pl.offR_len (rs : List Pl.Rt) (r : Pl.Rt) : (Pl.offR rs r).length ≤ rs.length + 1 := by
  unfold Pl.offR
  rw [Pl.insR_len]; split <;> omega

/-- the route to a node's prefix -/
def Pl.mkR (C : Nat → Int) (H : Nat → List Int) (node n : Nat) (p : Int × Int) : Pl.Rt := ⟨p, decide ((n : Int) = (node : Int)), C n, H n⟩
/-- the prefixes of a node are offered, one by one -/
def Pl.offs (C : Nat → Int) (H : Nat → List Int) (node n : Nat) (rs : List Pl.Rt) (ps : List (Int × Int)) : List Pl.Rt := ps.foldl (fun rs p => Pl.offR rs (Pl.mkR C H node n p)) rs
/-- the table of so many nodes -/
def Pl.tabK (C : Nat → Int) (H : Nat → List Int) (P : Nat → List (Int × Int)) (node : Nat) : Nat → List Pl.Rt
  | 0 => []
  | k + 1 => if C k < 0 then Pl.tabK C H P node k else Pl.offs C H node k (Pl.tabK C H P node k) (P k)
def Pl.getT (C : Nat → Int) (H : Nat → List Int) (P : Nat → List (Int × Int)) (node : Nat) (q : Int × Int) : Nat → Option Pl.Rt
  | 0 => none
  | k + 1 => if C k < 0 ∨ ¬ q ∈ P k then Pl.getT C H P node q k else some (Pl.more (Pl.getT C H P node q k) (Pl.mkR C H node k q))
theorem Pl.offs_srt (C H node n) : ∀ (ps : List (Int × Int)) (rs : List Pl.Rt), Pl.SrtR rs → Pl.SrtR (Pl.offs C H node n rs ps)
  | [], _, h => h
  | _ :: ps, _, h => Pl.offs_srt C H node n ps _ (Pl.offR_srt h _)
theorem Pl.offs_len (C H node n) : ∀ (ps : List (Int × Int)) (rs : List Pl.Rt), (Pl.offs C H node n rs ps).length ≤ rs.length + ps.length
  | [], _ => by simp [Pl.offs]
  | p :: ps, rs => by
    have h1 := Pl.offs_len C H node n ps (Pl.offR rs (Pl.mkR C H node n p))
    have h2 := Pl.offR_len rs (Pl.mkR C H node n p)
    show (Pl.offs C H node n (Pl.offR rs (Pl.mkR C H node n p)) ps).length ≤ _
    simp only [List.length_cons]; omega
theorem Pl.offs_get (C H node n) (q : Int × Int) : ∀ (ps : List (Int × Int)) (rs : List Pl.Rt), Pl.SrtR rs → ps.Nodup → Pl.getR (Pl.offs C H node n rs ps) q = if q ∈ ps then some (Pl.more (Pl.getR rs q) (Pl.mkR C H node n q)) else Pl.getR rs q
  | [], rs, _, _ => by simp [Pl.offs]
  | p :: ps, rs, h, hn => by
    rw [List.nodup_cons] at hn
    show Pl.getR (Pl.offs C H node n (Pl.offR rs (Pl.mkR C H node n p)) ps) q = _
    rw [Pl.offs_get C H node n q ps _ (Pl.offR_srt h _) hn.2, Pl.getR_off h]
    show (if q ∈ ps then some (Pl.more (if p = q then _ else _) _) else if p = q then _ else _) = _
    by_cases g : p = q
    · subst g
      rw [if_neg hn.1, if_pos rfl, if_pos (by simp)]
    · simp only [if_neg g]
      by_cases g2 : q ∈ ps
      · rw [if_pos g2, if_pos (by simp [g2])]
      · rw [if_neg g2, if_neg (by simp [g2, Ne.symm g])]
theorem Pl.tabK_srt (C H P node) : ∀ k, Pl.SrtR (Pl.tabK C H P node k)
  | 0 => List.Pairwise.nil
  | k + 1 => by
    unfold Pl.tabK
    split
    · exact Pl.tabK_srt C H P node k
    · exact Pl.offs_srt _ _ _ _ _ _ (Pl.tabK_srt C H P node k)
theorem Pl.tabK_len {C H P node} (hP : ∀ i, (P i).length ≤ 6) : ∀ k, (Pl.tabK C H P node k).length ≤ k * 6
  | 0 => by simp [Pl.tabK]
  | k + 1 => by
    have h1 := Pl.tabK_len (C := C) (H := H) (node := node) hP k
    unfold Pl.tabK
    split
    · omega
    · have := Pl.offs_len C H node k (P k) (Pl.tabK C H P node k)
      have := hP k
      omega
theorem Pl.tabK_get {C H P node} (hP : ∀ i, (P i).Nodup) (q : Int × Int) : ∀ k, Pl.getR (Pl.tabK C H P node k) q = Pl.getT C H P node q k
  | 0 => rfl
  | k + 1 => by
    have h1 := Pl.tabK_get (C := C) (H := H) (node := node) hP q k
    unfold Pl.tabK Pl.getT
    by_cases g : C k < 0
    · rw [if_pos g, if_pos (.inl g)]; exact h1
    · rw [if_neg g, Pl.offs_get C H node k q _ _ (Pl.tabK_srt C H P node k) (hP k), h1]
      by_cases g2 : q ∈ P k
      · rw [if_pos g2, if_neg (by simp [g2]; omega)]
      · rw [if_neg g2, if_pos (.inr g2)]

/-- a route as ways make one -/
def Pl.okR (r : Pl.Rt) : Prop := Pl.routeB r = true ∧ r.here = decide (r.cost = 0)
theorem Pl.routeB_iff (r : Pl.Rt) : Pl.routeB r = true ↔ Pl.pfx1 r.p = 0 ∧ (0 ≤ r.cost ∧ r.cost ≤ 1048576) ∧ (if r.here then r.cost = 0 ∧ r.hops = [] else r.hops ≠ []) ∧ Pl.hopsB r.hops = true := by
  unfold Pl.routeB
  cases r.here <;> simp [and_assoc]
theorem Pl.bestR_ok {a b : Pl.Rt} (ha : Pl.okR a) (hb : Pl.okR b) : Pl.okR (Pl.bestR a b) := by
  unfold Pl.bestR
  split
  · exact hb
  · split
    · rename_i h1 h2
      obtain ⟨ha1, ha2⟩ := ha
      obtain ⟨hb1, hb2⟩ := hb
      rw [Pl.routeB_iff] at ha1 hb1
      obtain ⟨a1, a2, a3, a4⟩ := ha1
      obtain ⟨b1, b2, b3, b4⟩ := hb1
      refine ⟨(Pl.routeB_iff _).2 ⟨a1, a2, ?_, Pl.hopsL_B _ (Nat.le_refl _)⟩, ha2⟩
      show if a.here then a.cost = 0 ∧ Pl.unite a.hops b.hops = [] else Pl.unite a.hops b.hops ≠ []
      cases hh : a.here
      · rw [hh] at a3
        simp only [Bool.false_eq_true, if_false] at a3 ⊢
        intro e
        obtain ⟨x, xs, hx⟩ : ∃ x xs, a.hops = x :: xs := by
          cases hq : a.hops with
          | nil => exact absurd hq a3
          | cons x xs => exact ⟨x, xs, rfl⟩
        have : x ∈ Pl.unite a.hops b.hops := (Pl.mem_unite (Pl.hopsB_range a4) (Pl.hopsB_range b4)).2 (.inl (by rw [hx]; simp))
        rw [e] at this; simp at this
      · rw [hh] at a3
        simp only [if_true] at a3 ⊢
        have hbh : b.here = true := by rw [hb2, h2, ← ha2, hh]
        rw [hbh] at b3
        simp only [if_true] at b3
        refine ⟨a3.1, ?_⟩
        rw [a3.2, b3.2]; decide
    · exact ha
theorem Pl.more_ok {o : Option Pl.Rt} {r : Pl.Rt} (ho : ∀ a, o = some a → Pl.okR a) (hr : Pl.okR r) : Pl.okR (Pl.more o r) := by
  cases o with
  | none => exact hr
  | some a => exact Pl.bestR_ok (ho a rfl) hr
/-- ways, and what nodes tell: each route to a told prefix is one that may be -/
def Pl.WP (C : Nat → Int) (H : Nat → List Int) (P : Nat → List (Int × Int)) (node : Nat) : Prop := ∀ n, n < 12 → 0 ≤ C n → ∀ p ∈ P n, Pl.okR (Pl.mkR C H node n p)
theorem Pl.getT_ok {C H P node} (h : Pl.WP C H P node) (q : Int × Int) : ∀ k, k ≤ 12 → ∀ a, Pl.getT C H P node q k = some a → Pl.okR a ∧ a.p = q
  | 0, _, a, e => by cases e
  | k + 1, hk, a, e => by
    have ih := Pl.getT_ok h q k (by omega)
    unfold Pl.getT at e
    split at e
    · exact ih a e
    · rename_i g
      cases e
      have g1 : 0 ≤ C k := by omega
      have g2 : q ∈ P k := Decidable.byContradiction fun h => g (.inr h)
      refine ⟨Pl.more_ok (fun a ha => (ih a ha).1) (h k (by omega) g1 q g2), ?_⟩
      cases ho : Pl.getT C H P node q k with
      | none => rfl
      | some b => exact Pl.bestR_p ((ih b ho).2)
theorem Pl.tabK_good {C H P node} (h : Pl.WP C H P node) (hn : ∀ i, (P i).Nodup) (hl : ∀ i, (P i).length ≤ 6) (k : Nat) (hk : k ≤ 12) : Pl.GoodT (Pl.tabK C H P node k) ∧ ∀ r ∈ Pl.tabK C H P node k, Pl.okR r := by
  have hok : ∀ r ∈ Pl.tabK C H P node k, Pl.okR r := by
    intro r hr
    have h1 := Pl.getR_mem (Pl.tabK_srt C H P node k) hr
    rw [Pl.tabK_get hn] at h1
    exact (Pl.getT_ok h r.p k hk r h1).1
  exact ⟨⟨by have := Pl.tabK_len (C := C) (H := H) (node := node) hl k; omega, fun r hr => (hok r hr).1, Pl.tabK_srt C H P node k⟩, hok⟩
end Go.Proofs.YtcdobhdbafpkiaeGreatDoor
/-
  Slices of numbers and of routes in memory.
-/
namespace Go.Proofs.YtcdobhdbafpkiaeGreatDoor
open Go.RowKit
set_option maxRecDepth 20000

/-- the cells of numbers, one behind the other -/
def IntsAt (w : World) (b off : Nat) (zs : List Int) : Prop := ∀ i, i < zs.length → w.cell? ⟨b, off + i, none⟩ = some (.int .i64 (Pl.nm zs i))
/-- a slice of numbers -/
def IsInts (w : World) (a : Option Addr) (len cap : Nat) (zs : List Int) : Prop :=
  zs.length = len ∧ len ≤ cap ∧ cap ≤ maxLen ∧ (a = none → cap = 0) ∧ (zs = [] ∨ ∃ b off, a = some ⟨b, off, none⟩ ∧ b < w.heap.size ∧ IntsAt w b off zs)
theorem IntsAt.below {w w' : World} {b off : Nat} {zs : List Int} (h : IntsAt w b off zs) (hb : b < w.heap.size) (k : Below w.heap.size w w') : IntsAt w' b off zs :=
  fun i hi => (k.cell (p := ⟨b, _, none⟩) hb).trans (h i hi)
theorem IsInts.below {w w' : World} {a : Option Addr} {len cap : Nat} {zs : List Int} (h : IsInts w a len cap zs) (k : Below w.heap.size w w') : IsInts w' a len cap zs := by
  obtain ⟨h1, h2, h3, h4, h5⟩ := h
  refine ⟨h1, h2, h3, h4, ?_⟩
  rcases h5 with h5 | ⟨b, off, rfl, hb, hr⟩
  · exact .inl h5
  · exact .inr ⟨b, off, rfl, Nat.lt_of_lt_of_le hb k.size, hr.below hb k⟩
theorem IsInts.nil (w : World) : IsInts w none 0 0 [] := ⟨rfl, Nat.le_refl _, by simp, fun _ => rfl, .inl rfl⟩

/-- a route as it lies in memory: its hops are a slice -/
structure Pl.RH where
  p : Int × Int
  here : Bool
  cost : Int
  ha : Option Addr
  hl : Nat
  hc : Nat
def Pl.RH.none : Pl.RH := ⟨(0, 0), false, 0, Option.none, 0, 0⟩
def Pl.rh (hs : List Pl.RH) (i : Nat) : Pl.RH := hs.getD i Pl.RH.none
theorem Pl.rh_eq (hs : List Pl.RH) (i : Nat) (h : i < hs.length) : Pl.rh hs i = hs[i] := by simp [Pl.rh, List.getD, h]
theorem Pl.rh_mem (hs : List Pl.RH) (i : Nat) (h : i < hs.length) : Pl.rh hs i ∈ hs := by rw [Pl.rh_eq hs i h]; exact List.getElem_mem h
theorem Pl.rh_cons_succ (e : Pl.RH) (es : List Pl.RH) (i : Nat) : Pl.rh (e :: es) (i + 1) = Pl.rh es i := by simp [Pl.rh]
theorem Pl.rh_cons_zero (e : Pl.RH) (es : List Pl.RH) : Pl.rh (e :: es) 0 = e := by simp [Pl.rh]

/-- the cells of routes, one behind the other -/
def RowsAt (w : World) (b off : Nat) (hs : List Pl.RH) : Prop := ∀ i, i < hs.length →
  w.cell? ⟨b, off + i * 5, none⟩ = some (.int .i64 (Pl.rh hs i).p.1) ∧ w.cell? ⟨b, off + i * 5 + 1, none⟩ = some (.int .i64 (Pl.rh hs i).p.2) ∧
  w.cell? ⟨b, off + i * 5 + 2, none⟩ = some (.bool (Pl.rh hs i).here) ∧ w.cell? ⟨b, off + i * 5 + 3, none⟩ = some (.int .i64 (Pl.rh hs i).cost) ∧
  w.cell? ⟨b, off + i * 5 + 4, none⟩ = some (.slice (Pl.rh hs i).ha (Pl.rh hs i).hl (Pl.rh hs i).hc)
/-- a slice of routes -/
def IsRows (w : World) (a : Option Addr) (len cap : Nat) (hs : List Pl.RH) : Prop :=
  hs.length = len ∧ len ≤ cap ∧ cap ≤ maxLen ∧ (a = none → cap = 0) ∧ (hs = [] ∨ ∃ b off, a = some ⟨b, off, none⟩ ∧ b < w.heap.size ∧ RowsAt w b off hs)
theorem RowsAt.below {w w' : World} {b off : Nat} {hs : List Pl.RH} (h : RowsAt w b off hs) (hb : b < w.heap.size) (k : Below w.heap.size w w') : RowsAt w' b off hs := by
  intro i hi
  obtain ⟨c0, c1, c2, c3, c4⟩ := h i hi
  exact ⟨(k.cell (p := ⟨b, _, none⟩) hb).trans c0, (k.cell (p := ⟨b, _, none⟩) hb).trans c1, (k.cell (p := ⟨b, _, none⟩) hb).trans c2, (k.cell (p := ⟨b, _, none⟩) hb).trans c3, (k.cell (p := ⟨b, _, none⟩) hb).trans c4⟩
theorem IsRows.below {w w' : World} {a : Option Addr} {len cap : Nat} {hs : List Pl.RH} (h : IsRows w a len cap hs) (k : Below w.heap.size w w') : IsRows w' a len cap hs := by
  obtain ⟨h1, h2, h3, h4, h5⟩ := h
  refine ⟨h1, h2, h3, h4, ?_⟩
  rcases h5 with h5 | ⟨b, off, rfl, hb, hr⟩
  · exact .inl h5
  · exact .inr ⟨b, off, rfl, Nat.lt_of_lt_of_le hb k.size, hr.below hb k⟩
/-- what a route in memory is -/
def Reads (w : World) (h : Pl.RH) (r : Pl.Rt) : Prop := h.p = r.p ∧ h.here = r.here ∧ h.cost = r.cost ∧ IsInts w h.ha h.hl h.hc r.hops ∧ Pl.pairOk r.p
theorem Reads.below {w w' : World} {h : Pl.RH} {r : Pl.Rt} (hh : Reads w h r) (k : Below w.heap.size w w') : Reads w' h r := ⟨hh.1, hh.2.1, hh.2.2.1, hh.2.2.2.1.below k, hh.2.2.2.2⟩
def ReadsAll (w : World) (hs : List Pl.RH) (rs : List Pl.Rt) : Prop := hs.length = rs.length ∧ ∀ i, i < hs.length → Reads w (Pl.rh hs i) (Pl.rt rs i)
theorem ReadsAll.below {w w' : World} {hs : List Pl.RH} {rs : List Pl.Rt} (h : ReadsAll w hs rs) (k : Below w.heap.size w w') : ReadsAll w' hs rs := ⟨h.1, fun i hi => (h.2 i hi).below k⟩
theorem ReadsAll.map_p {w : World} {hs : List Pl.RH} {rs : List Pl.Rt} (h : ReadsAll w hs rs) : hs.map Pl.RH.p = rs.map Pl.Rt.p := by
  refine List.ext_getElem (by simpa using h.1) fun i h1 h2 => ?_
  simp only [List.length_map] at h1 h2
  have := (h.2 i h1).1
  rw [Pl.rh_eq hs i h1, Pl.rt_eq rs i h2] at this
  simpa using this
theorem ReadsAll.nil (w : World) : ReadsAll w [] [] := ⟨rfl, fun i h => by simp at h⟩
theorem IsRows.at {w : World} {a : Option Addr} {len cap : Nat} {hs : List Pl.RH} (h : IsRows w a len cap hs) {k : Nat} (hk : k < len) : ∃ b off, a = some ⟨b, off, none⟩ ∧ b < w.heap.size ∧ RowsAt w b off hs := by
  rcases h.2.2.2.2 with e | h'
  · have := h.1; rw [e] at this; simp at this; omega
  · exact h'
theorem IsInts.at {w : World} {a : Option Addr} {len cap : Nat} {zs : List Int} (h : IsInts w a len cap zs) {k : Nat} (hk : k < len) : ∃ b off, a = some ⟨b, off, none⟩ ∧ b < w.heap.size ∧ IntsAt w b off zs := by
  rcases h.2.2.2.2 with e | h'
  · have := h.1; rw [e] at this; simp at this; omega
  · exact h'
end Go.Proofs.YtcdobhdbafpkiaeGreatDoor
/-
  Contracts: a copy of a list of numbers; fresh: the same route with hops of its own.
-/
namespace Go.Proofs.YtcdobhdbafpkiaeGreatDoor
open Go.RowKit
set_option maxRecDepth 20000

theorem IsInts.but {B : Nat} {w w' : World} {a : Option Addr} {len cap : Nat} {zs : List Int} (h : IsInts w a len cap zs) (k : But B w w') (hne : ∀ x, a = some x → x.block ≠ B) : IsInts w' a len cap zs := by
  obtain ⟨h1, h2, h3, h4, h5⟩ := h
  refine ⟨h1, h2, h3, h4, ?_⟩
  rcases h5 with h5 | ⟨b, off, rfl, hb, hr⟩
  · exact .inl h5
  · exact .inr ⟨b, off, rfl, Nat.lt_of_lt_of_le hb k.size, fun i hi => (k.cell (p := ⟨b, off + i, none⟩) hb (hne ⟨b, off, none⟩ rfl)).trans (hr i hi)⟩
theorem Reads.but {B : Nat} {w w' : World} {h : Pl.RH} {r : Pl.Rt} (hh : Reads w h r) (k : But B w w') (hne : ∀ x, h.ha = some x → x.block ≠ B) : Reads w' h r := ⟨hh.1, hh.2.1, hh.2.2.1, hh.2.2.2.1.but k hne, hh.2.2.2.2⟩

def cellsZ (xs : List Int) : List Value := xs.map fun x => .int .i64 x
/-- a slice value over a row of numbers of the call's own -/
def OwnZ (w : World) (base : Nat) (v : Value) (xs : List Int) : Prop := w.ownsRow base 3 1 v xs.length (cellsZ xs)
theorem infoZ : (Tryz.prog.info? 3).map (fun i => (i.zero, i.size, i.bytes)) = some (some (.int .i64 0), 1, 8) := by kernel_rfl
theorem OwnZ.nil (w : World) (base : Nat) : OwnZ w base (.slice none 0 0) [] := World.ownsRow_nil _ _ _ _
theorem cellsZ_one (xs : List Int) : ∀ u ∈ cellsZ xs, u.oneCell' = true := by
  intro u hu
  simp [cellsZ] at hu
  obtain ⟨x, _, rfl⟩ := hu
  rfl
theorem cellsZ_get {xs : List Int} {j : Nat} {u : Value} (h : (cellsZ xs)[j]? = some u) : j < xs.length ∧ u = .int .i64 (Pl.nm xs j) := by
  unfold cellsZ at h
  rw [List.getElem?_map] at h
  cases hx : xs[j]? with
  | none => rw [hx] at h; simp at h
  | some x =>
    rw [hx] at h
    simp at h
    obtain ⟨hj, e⟩ := List.getElem?_eq_some_iff.1 hx
    exact ⟨hj, by rw [Pl.nm_eq xs j hj, e, h]⟩
theorem OwnZ.ints {w : World} {base : Nat} {v : Value} {xs : List Int} (h : OwnZ w base v xs) :
    ∃ a cap, v = .slice a xs.length cap ∧ IsInts w a xs.length cap xs ∧ (∀ x, a = some x → base ≤ x.block) := by
  obtain ⟨_, ⟨h, h1⟩ | ⟨g, cap, cur, rfl, hb, hh, hn, hm, hs, hx⟩⟩ := h
  · have e : xs = [] := List.length_eq_zero_iff.1 h1
    subst e
    exact ⟨none, 0, h, IsInts.nil w, by simp⟩
  · refine ⟨_, cap, rfl, ⟨rfl, hn, hm, by simp, .inr ⟨g, 0, rfl, lt_of_block hh, fun i hi => ?_⟩⟩, by rintro x ⟨⟩; exact hb⟩
    have hj : (cellsZ xs)[i]? = some (.int .i64 (Pl.nm xs i)) := by
      simp [cellsZ, Pl.nm, List.getD_eq_getElem?_getD, List.getElem?_eq_getElem hi]
    rw [← hx] at hj
    have hj' : cur[i]? = some (.int .i64 (Pl.nm xs i)) := by
      rw [List.getElem?_take] at hj
      split at hj
      · rw [← Array.getElem?_toList]; exact hj
      · cases hj
    simp [World.cell?, hh, hj']

theorem OwnZ.but {B : Nat} {w w' : World} {base : Nat} {v : Value} {xs : List Int} (h : OwnZ w base v xs) (k : But B w w') (hne : B < base ∨ v.ownBlock ≠ some B) : OwnZ w' base v xs := by
  obtain ⟨h0, h1⟩ := h
  refine ⟨h0, ?_⟩
  rcases h1 with h1 | ⟨g, cap, cur, rfl, hb, hh, hr⟩
  · exact .inl h1
  · refine .inr ⟨g, cap, cur, rfl, hb, (k.block g (lt_of_block hh) ?_).trans hh, hr⟩
    rcases hne with h | h
    · omega
    · intro e; apply h; simp [Value.ownBlock, e]
theorem OwnZ.mono {w : World} {base base' : Nat} {v : Value} {xs : List Int} (h : OwnZ w base v xs) (k : base' ≤ base) : OwnZ w base' v xs := by
  obtain ⟨h0, h1⟩ := h
  refine ⟨h0, ?_⟩
  rcases h1 with h1 | ⟨g, cap, cur, rfl, hb, hr⟩
  · exact .inl h1
  · exact .inr ⟨g, cap, cur, rfl, by omega, hr⟩
theorem OwnZ.below {w w' : World} {base : Nat} {v : Value} {xs : List Int} (h : OwnZ w base v xs) (k : Below w.heap.size w w') : OwnZ w' base v xs := by
  obtain ⟨h0, h1⟩ := h
  refine ⟨h0, ?_⟩
  rcases h1 with h1 | ⟨g, cap, cur, rfl, hb, hh, hr⟩
  · exact .inl h1
  · exact .inr ⟨g, cap, cur, rfl, hb, (k.block g (lt_of_block hh)).trans hh, hr⟩
/-- what a route in memory is, its hops a row of their own from block 'base' on -/
def ReadsZ (w : World) (base : Nat) (h : Pl.RH) (r : Pl.Rt) : Prop := h.p = r.p ∧ h.here = r.here ∧ h.cost = r.cost ∧ OwnZ w base (.slice h.ha h.hl h.hc) r.hops ∧ Pl.pairOk r.p
theorem ReadsZ.reads {w : World} {base : Nat} {h : Pl.RH} {r : Pl.Rt} (hz : ReadsZ w base h r) : Reads w h r ∧ (∀ x, h.ha = some x → base ≤ x.block) := by
  obtain ⟨h1, h2, h3, h4, h5⟩ := hz
  obtain ⟨a, cap, e, hi, hb⟩ := h4.ints
  simp only [Value.slice.injEq] at e
  obtain ⟨e1, e2, e3⟩ := e
  refine ⟨⟨h1, h2, h3, ?_, h5⟩, fun x hx => hb x (by rw [← e1]; exact hx)⟩
  rw [e1, e2, e3]
  exact hi
theorem ReadsZ.below {w w' : World} {base : Nat} {h : Pl.RH} {r : Pl.Rt} (hz : ReadsZ w base h r) (k : Below w.heap.size w w') : ReadsZ w' base h r := ⟨hz.1, hz.2.1, hz.2.2.1, hz.2.2.2.1.below k, hz.2.2.2.2⟩
theorem ReadsZ.mono {w : World} {base base' : Nat} {h : Pl.RH} {r : Pl.Rt} (hz : ReadsZ w base h r) (k : base' ≤ base) : ReadsZ w base' h r := ⟨hz.1, hz.2.1, hz.2.2.1, hz.2.2.2.1.mono k, hz.2.2.2.2⟩

theorem append_copyI {w : World} {ops : Array Oper} {rest : List Oper} {o : Oper} {a : Act} {Q : Exit → Act → World → Prop} (hgd : o.guard = none) (s x : Operand)
    (ho : o.op = .call { callee := .builtin .append, args := #[s, x], argTypes := #[45, 45] })
    (ao : Option Addr) (len cap : Nat) (zs : List Int) (hs : a.eval s = .slice none 0 0) (hx : a.eval x = .slice ao len cap) (hE : IsInts w ao len cap zs) (hb : len * 8 ≤ 140737488351232)
    (h : ∀ v' w', OwnZ w' w.heap.size v' zs → Below w.heap.size w w' → wpList Tryz.prog ops Q rest (a.put o.dst v') w') : wpList Tryz.prog ops Q (o :: rest) a w := by
  obtain ⟨i0, hi0, hz0, hz1, hz2⟩ := info_parts infoZ
  obtain ⟨hl, hc, hm, hnil, hrow⟩ := hE
  rcases ao with _ | ad
  · obtain rfl := hnil rfl
    obtain rfl : len = 0 := by omega
    obtain rfl : zs = [] := List.length_eq_zero_iff.1 hl
    exact wpList_append_own_none hgd s x 45 ho w.heap.size 3 i0 1 Tryz.underlying45 hi0 _ 0 [] hs (World.ownsRow_nil _ _ _ _) hx (h _ _ (OwnZ.nil _ _) (Below.refl _ _))
  · refine wpList_append_own (w := w) hgd s x 45 ho w.heap.size 3 i0 _ 1 8 Tryz.underlying45 hi0 hz0 hz1 hz2 rfl (by decide) _ 0 [] hs (World.ownsRow_nil _ _ _ _) ad len cap (cellsZ zs) hx (by simp [cellsZ, hl]) ?_ (cellsZ_one _) (by unfold maxLen; omega) (by omega) (Nat.le_refl _) ?_
    · intro j u hj
      obtain ⟨hj1, rfl⟩ := cellsZ_get hj
      rcases hrow with rfl | ⟨b, off, hba, _, hr⟩
      · simp at hj1
      · cases hba
        rw [add_none]
        exact hr j hj1
    · intro v' w' hown hg _
      rw [List.nil_append] at hown
      refine h v' w' ?_ ((Below.refl _ _).grown hg (Nat.le_refl _) (by intro k hk; cases hk))
      unfold OwnZ
      rw [hl]
      simpa using hown

theorem heapNewZ (w : World) (o : Obj) : (w.alloc o).heap[w.heap.size]? = some o := by
  show (w.heap.push o)[w.heap.size]? = _
  simp
theorem freshBox {w w3 : World} {c0 c1 c2 c3 c4 d0 d1 d2 d3 d4 : Value} {T : TypeId} (hb : Below ((w.alloc (.cells #[c0, c1, c2, c3, c4] T)).alloc (.cells #[d0, d1, d2, d3, d4] T)).heap.size ((w.alloc (.cells #[c0, c1, c2, c3, c4] T)).alloc (.cells #[d0, d1, d2, d3, d4] T)) w3) :
    (w3.cell? ⟨w.heap.size, 0, none⟩ = some c0 ∧ w3.cell? ⟨w.heap.size, 1, none⟩ = some c1 ∧ w3.cell? ⟨w.heap.size, 2, none⟩ = some c2 ∧ w3.cell? ⟨w.heap.size, 3, none⟩ = some c3 ∧ w3.cell? ⟨w.heap.size, 4, none⟩ = some c4) ∧
    (w3.cell? ⟨w.heap.size + 1, 0, none⟩ = some d0 ∧ w3.cell? ⟨w.heap.size + 1, 1, none⟩ = some d1 ∧ w3.cell? ⟨w.heap.size + 1, 2, none⟩ = some d2 ∧ w3.cell? ⟨w.heap.size + 1, 3, none⟩ = some d3 ∧ w3.cell? ⟨w.heap.size + 1, 4, none⟩ = some d4) ∧
    (∀ o, w3.frozen? ⟨w.heap.size, o, none⟩ = false) ∧ (∀ o, w3.frozen? ⟨w.heap.size + 1, o, none⟩ = false) := by
  have hs : ((w.alloc (.cells #[c0, c1, c2, c3, c4] T)).alloc (.cells #[d0, d1, d2, d3, d4] T)).heap.size = w.heap.size + 2 := by simp
  have hc : ∀ (b o : Nat) (v : Value), b < w.heap.size + 2 → ((w.alloc (.cells #[c0, c1, c2, c3, c4] T)).alloc (.cells #[d0, d1, d2, d3, d4] T)).cell? ⟨b, o, none⟩ = some v → w3.cell? ⟨b, o, none⟩ = some v := fun b o v hlt hv => (hb.cell (p := ⟨b, o, none⟩) (by rw [hs]; exact hlt)).trans hv
  refine ⟨⟨hc _ _ _ (by omega) (by simp), hc _ _ _ (by omega) (by simp), hc _ _ _ (by omega) (by simp), hc _ _ _ (by omega) (by simp), hc _ _ _ (by omega) (by simp)⟩, ⟨hc _ _ _ (by omega) ?_, hc _ _ _ (by omega) ?_, hc _ _ _ (by omega) ?_, hc _ _ _ (by omega) ?_, hc _ _ _ (by omega) ?_⟩, ?_, ?_⟩
  iterate 5
    have e := World.size_alloc w (.cells #[c0, c1, c2, c3, c4] T)
    rw [← e]; simp
  · intro o
    rw [hb.frozen (p := ⟨w.heap.size, o, none⟩) (by rw [hs]; show w.heap.size < _; omega)]
    have e : ((w.alloc (.cells #[c0, c1, c2, c3, c4] T)).alloc (.cells #[d0, d1, d2, d3, d4] T)).heap[w.heap.size]? = some (.cells #[c0, c1, c2, c3, c4] T) := by
      rw [Below.heap_alloc _ _ _ (by simp)]; exact heapNewZ w _
    simp only [World.frozen?, e]
    simp
  · intro o
    rw [hb.frozen (p := ⟨w.heap.size + 1, o, none⟩) (by rw [hs]; show w.heap.size + 1 < _; omega)]
    have e : ((w.alloc (.cells #[c0, c1, c2, c3, c4] T)).alloc (.cells #[d0, d1, d2, d3, d4] T)).heap[w.heap.size + 1]? = some (.cells #[d0, d1, d2, d3, d4] T) := by
      have h := heapNewZ (w.alloc (.cells #[c0, c1, c2, c3, c4] T)) (.cells #[d0, d1, d2, d3, d4] T)
      rwa [World.size_alloc] at h
    simp only [World.frozen?, e]
    simp

set_option maxHeartbeats 1000000 in
theorem fresh_own (h : Pl.RH) (r : Pl.Rt) (w : World) (hr : Reads w h r) (hl : h.hl ≤ 1000) :
    Calls Tryz.prog 38 #[.agg #[.int .i64 h.p.1, .int .i64 h.p.2, .bool h.here, .int .i64 h.cost, .slice h.ha h.hl h.hc]] w fun e w' =>
      ∃ g : Pl.RH, e = .returned (.agg #[.int .i64 g.p.1, .int .i64 g.p.2, .bool g.here, .int .i64 g.cost, .slice g.ha g.hl g.hc]) ∧ ReadsZ w' w.heap.size g r ∧ Below w.heap.size w w' := by
  obtain ⟨h1, h2, h3, h4, h5⟩ := hr
  have HI := hid h4
  have HX := hid (And.intro h1 (And.intro h2 (And.intro h3 h5)))
  clear h1 h2 h3 h4 h5
  obtain ⟨⟨p1, p2⟩, here, cost, ha, hln, hc⟩ := h
  simp only at HI HX hl
  simp only
  have HB : Hid (Below w.heap.size w ((w.alloc (.cells #[.int .i64 p1, .int .i64 p2, .bool here, .int .i64 cost, .slice ha hln hc] 47)).alloc (.cells #[.int .i64 0, .int .i64 0, .bool false, .int .i64 0, .slice none 0 0] 47))) := hid (((Below.refl _ _).alloc (Nat.le_refl _) _).alloc (by simp) _)
  go_enter Tryz.func38, Tryz.ntmps38
  go_wp2_with (at_builtin; refine append_copyI rfl _ _ rfl ha hln hc r.hops rfl rfl (HI.out.below HB.out) (by omega) ?_; intro v' w3 hown3 hb3; obtain ⟨a3, cap3, rfl, _, _⟩ := hown3.ints; have HI3 := hid hown3; clear hown3; have x0 := freshBox hb3; obtain ⟨⟨x0, x1, x2, x3, x4⟩, ⟨y0, y1, y2, y3, y4⟩, xf, yf⟩ := x0)
  have HB3 := hid hb3
  clear hb3
  have HK : Hid (Below w.heap.size w w3) := hid (HB.out.trans (HB3.out.mono (by simp; omega)))
  refine bodyPost_ret (v := .agg #[.int .i64 p1, .int .i64 p2, .bool here, .int .i64 cost, .slice a3 r.hops.length cap3]) (by simp [results, Tryz.results38, go_sem, y0, y1, y2, y3, y4]) rfl ?_
  have hu1 : But w.heap.size w3 (w3.setCell ⟨w.heap.size, 4, none⟩ (.slice a3 r.hops.length cap3)) := (But.refl _ _).setCell _ _
  refine ⟨⟨(p1, p2), here, cost, a3, r.hops.length, cap3⟩, rfl, ⟨HX.out.1, HX.out.2.1, HX.out.2.2.1, ?_, HX.out.2.2.2⟩, ?_⟩
  · refine OwnZ.mono (base := w.heap.size + 2) ?_ (by omega)
    refine OwnZ.but (B := w.heap.size + 1) (w := w3.setCell ⟨w.heap.size, 4, none⟩ (.slice a3 r.hops.length cap3)) (OwnZ.but (OwnZ.mono HI3.out (by simp)) hu1 (.inl (by omega))) ?_ (.inl (by omega))
    exact (((((But.refl _ _).setCell _ _).setCell _ _).setCell _ _).setCell _ _).setCell _ _
  · exact ((((((HK.out.setCell (Nat.le_refl _) _).setCell (by simp) _).setCell (by simp) _).setCell (by simp) _).setCell (by simp) _).setCell (by simp) _)
theorem fresh_any (h : Pl.RH) (r : Pl.Rt) (w : World) (hr : Reads w h r) (hl : h.hl ≤ 1000) :
    Calls Tryz.prog 38 #[.agg #[.int .i64 h.p.1, .int .i64 h.p.2, .bool h.here, .int .i64 h.cost, .slice h.ha h.hl h.hc]] w fun e w' =>
      ∃ g : Pl.RH, e = .returned (.agg #[.int .i64 g.p.1, .int .i64 g.p.2, .bool g.here, .int .i64 g.cost, .slice g.ha g.hl g.hc]) ∧ Reads w' g r ∧ (∀ x, g.ha = some x → w.heap.size ≤ x.block) ∧ Below w.heap.size w w' :=
  (fresh_own h r w hr hl).mono fun _ _ ⟨g, h1, h2, h3⟩ => ⟨g, h1, h2.reads.1, h2.reads.2, h3⟩
end Go.Proofs.YtcdobhdbafpkiaeGreatDoor
/-
  Rows of routes that a call itself has made: what they hold, and how one more is appended.
-/
namespace Go.Proofs.YtcdobhdbafpkiaeGreatDoor
open Go.RowKit
set_option maxRecDepth 20000

def cellsH (h : Pl.RH) : List Value := [.int .i64 h.p.1, .int .i64 h.p.2, .bool h.here, .int .i64 h.cost, .slice h.ha h.hl h.hc]
def cellsR : List Pl.RH → List Value
  | [] => []
  | h :: r => cellsH h ++ cellsR r
theorem cellsR_len : ∀ hs : List Pl.RH, (cellsR hs).length = hs.length * 5
  | [] => rfl
  | h :: r => by simp [cellsR, cellsH, cellsR_len r]; omega
theorem cellsR_append : ∀ (a b : List Pl.RH), cellsR (a ++ b) = cellsR a ++ cellsR b
  | [], _ => rfl
  | h :: r, b => by simp [cellsR, cellsR_append r b]
theorem cellsR_one : ∀ hs : List Pl.RH, ∀ u ∈ cellsR hs, u.oneCell' = true
  | [], u, h => by simp [cellsR] at h
  | e :: r, u, h => by
    simp only [cellsR, List.mem_append] at h
    rcases h with h | h
    · simp [cellsH] at h
      rcases h with rfl | rfl | rfl | rfl | rfl <;> rfl
    · exact cellsR_one r u h
theorem rowsAt_cons {w : World} {b off : Nat} {h : Pl.RH} {r : List Pl.RH} :
    RowsAt w b off (h :: r) ↔ (w.cell? ⟨b, off, none⟩ = some (.int .i64 h.p.1) ∧ w.cell? ⟨b, off + 1, none⟩ = some (.int .i64 h.p.2) ∧ w.cell? ⟨b, off + 2, none⟩ = some (.bool h.here) ∧ w.cell? ⟨b, off + 3, none⟩ = some (.int .i64 h.cost) ∧ w.cell? ⟨b, off + 4, none⟩ = some (.slice h.ha h.hl h.hc)) ∧ RowsAt w b (off + 5) r := by
  constructor
  · intro k
    refine ⟨?_, fun i hi => ?_⟩
    · have := k 0 (by simp)
      simpa [Pl.rh_cons_zero] using this
    · have := k (i + 1) (by simpa using hi)
      rw [Pl.rh_cons_succ, show off + (i + 1) * 5 = off + 5 + i * 5 by omega] at this
      exact this
  · rintro ⟨h0, h1⟩ i hi
    cases i with
    | zero => simpa [Pl.rh_cons_zero] using h0
    | succ i =>
      rw [Pl.rh_cons_succ, show off + (i + 1) * 5 = off + 5 + i * 5 by omega]
      exact h1 i (by simpa using hi)
theorem rowsAt_cells {w : World} {b : Nat} : ∀ (hs : List Pl.RH) (off : Nat), RowsAt w b off hs ↔ ∀ j u, (cellsR hs)[j]? = some u → w.cell? ⟨b, off + j, none⟩ = some u
  | [], off => by
    constructor
    · intro _ j u h; simp [cellsR] at h
    · intro _ i hi; simp at hi
  | e :: r, off => by
    rw [rowsAt_cons, rowsAt_cells r (off + 5)]
    constructor
    · rintro ⟨⟨h0, h1, h2, h3, h4⟩, h5⟩ j u hj
      match j, hj with
      | 0, hj => simp [cellsR, cellsH] at hj; subst hj; exact h0
      | 1, hj => simp [cellsR, cellsH] at hj; subst hj; exact h1
      | 2, hj => simp [cellsR, cellsH] at hj; subst hj; exact h2
      | 3, hj => simp [cellsR, cellsH] at hj; subst hj; exact h3
      | 4, hj => simp [cellsR, cellsH] at hj; subst hj; exact h4
      | j + 5, hj =>
        have := h5 j u (by simpa [cellsR, cellsH] using hj)
        rwa [show off + (j + 5) = off + 5 + j by omega]
    · intro h
      refine ⟨⟨?_, ?_, ?_, ?_, ?_⟩, fun j u hj => ?_⟩
      · exact h 0 _ (by simp [cellsR, cellsH])
      · exact h 1 _ (by simp [cellsR, cellsH])
      · exact h 2 _ (by simp [cellsR, cellsH])
      · exact h 3 _ (by simp [cellsR, cellsH])
      · exact h 4 _ (by simp [cellsR, cellsH])
      · have := h (j + 5) u (by simpa [cellsR, cellsH] using hj)
        rwa [show off + 5 + j = off + (j + 5) by omega]
theorem Pl.rh_take (hs : List Pl.RH) (n i : Nat) (h : i < n) (hi : i < hs.length) : Pl.rh (hs.take n) i = Pl.rh hs i := by
  rw [Pl.rh_eq _ _ (by simp; omega), Pl.rh_eq _ _ hi]; simp
theorem Pl.rh_drop (hs : List Pl.RH) (n i : Nat) (hi : n + i < hs.length) : Pl.rh (hs.drop n) i = Pl.rh hs (n + i) := by
  rw [Pl.rh_eq _ _ (by simp; omega), Pl.rh_eq _ _ hi]; simp
theorem RowsAt.take {w : World} {b off : Nat} {hs : List Pl.RH} (h : RowsAt w b off hs) (n : Nat) : RowsAt w b off (hs.take n) := by
  intro i hi
  simp only [List.length_take] at hi
  rw [Pl.rh_take hs n i (by omega) (by omega)]
  exact h i (by omega)
theorem RowsAt.drop {w : World} {b off : Nat} {hs : List Pl.RH} (h : RowsAt w b off hs) (n : Nat) : RowsAt w b (off + n * 5) (hs.drop n) := by
  intro i hi
  simp only [List.length_drop] at hi
  rw [Pl.rh_drop hs n i (by omega), show off + n * 5 + i * 5 = off + (n + i) * 5 by omega]
  exact h (n + i) (by omega)
theorem Pl.rh_app_lt (a b : List Pl.RH) (i : Nat) (h : i < a.length) : Pl.rh (a ++ b) i = Pl.rh a i := by
  rw [Pl.rh_eq a i h, Pl.rh_eq _ i (by simp; omega), List.getElem_append_left h]
theorem Pl.rh_app_at (a : List Pl.RH) (x : Pl.RH) : Pl.rh (a ++ [x]) a.length = x := by
  rw [Pl.rh_eq _ _ (by simp)]; simp
theorem Pl.rt_app_lt (a b : List Pl.Rt) (i : Nat) (h : i < a.length) : Pl.rt (a ++ b) i = Pl.rt a i := by
  rw [Pl.rt_eq a i h, Pl.rt_eq _ i (by simp; omega), List.getElem_append_left h]
theorem Pl.rt_app_at (a : List Pl.Rt) (x : Pl.Rt) : Pl.rt (a ++ [x]) a.length = x := by
  rw [Pl.rt_eq _ _ (by simp)]; simp

/-- a slice value over a row of routes of the call's own -/
def OwnR (w : World) (base : Nat) (v : Value) (hs : List Pl.RH) : Prop := w.ownsRow base 47 5 v hs.length (cellsR hs)
theorem infoRoute : (Tryz.prog.info? 47).map (fun i => (i.zero, i.size, i.bytes)) = some (some (.agg #[.int .i64 0, .int .i64 0, .bool false, .int .i64 0, .slice none 0 0]), 5, 56) := by kernel_rfl
theorem OwnR.nil (w : World) (base : Nat) : OwnR w base (.slice none 0 0) [] := World.ownsRow_nil _ _ _ _
theorem OwnR.below {w w' : World} {base : Nat} {v : Value} {hs : List Pl.RH} (h : OwnR w base v hs) (k : Below w.heap.size w w') : OwnR w' base v hs := ownsRow_under h k
theorem OwnR.mono {w : World} {base base' : Nat} {v : Value} {hs : List Pl.RH} (h : OwnR w base v hs) (k : base' ≤ base) : OwnR w base' v hs := by
  obtain ⟨h0, h1⟩ := h
  refine ⟨h0, ?_⟩
  rcases h1 with h1 | ⟨g, cap, cur, rfl, hb, hr⟩
  · exact .inl h1
  · exact .inr ⟨g, cap, cur, rfl, by omega, hr⟩
theorem OwnR.rows {w : World} {base : Nat} {v : Value} {hs : List Pl.RH} (h : OwnR w base v hs) :
    ∃ a cap, v = .slice a hs.length cap ∧ IsRows w a hs.length cap hs ∧ (∀ x, a = some x → base ≤ x.block) := by
  obtain ⟨_, ⟨h, h1⟩ | ⟨g, cap, cur, rfl, hb, hh, hn, hm, hs', hx⟩⟩ := h
  · have e : hs = [] := List.length_eq_zero_iff.1 h1
    subst e
    exact ⟨none, 0, h, ⟨rfl, Nat.le_refl _, by simp, fun _ => rfl, .inl rfl⟩, by simp⟩
  · refine ⟨_, cap, rfl, ⟨rfl, hn, hm, by simp, .inr ⟨g, 0, rfl, blockLt hh, ?_⟩⟩, by rintro x ⟨⟩; exact hb⟩
    rw [rowsAt_cells]
    intro j u hj
    rw [← hx] at hj
    have hj' : cur[j]? = some u := by
      rw [List.getElem?_take] at hj
      split at hj
      · rw [← Array.getElem?_toList]; exact hj
      · cases hj
    simp [World.cell?, hh, hj']
theorem ownR_of {w : World} {base n : Nat} {v : Value} {xs : List Value} {hs : List Pl.RH} (h : w.ownsRow base 47 5 v n xs) (e : xs = cellsR hs) : OwnR w base v hs := by
  subst e
  have hn : n = hs.length := by
    have := h.1
    rw [cellsR_len] at this
    omega
  subst hn
  exact h
/-- a row of numbers and a row of routes are two blocks -/
theorem apartZR {w : World} {b1 b2 : Nat} {u v : Value} {xs : List Int} {hs : List Pl.RH} (h1 : OwnZ w b1 u xs) (h2 : OwnR w b2 v hs) : u.ownBlock = none ∨ u.ownBlock ≠ v.ownBlock := by
  obtain ⟨_, ⟨rfl, _⟩ | ⟨g, cap, cur, rfl, _, hh, _⟩⟩ := h1
  · exact .inl rfl
  · right
    obtain ⟨_, ⟨rfl, _⟩ | ⟨g2, cap2, cur2, rfl, _, hh2, _⟩⟩ := h2
    · simp [Value.ownBlock]
    · simp only [Value.ownBlock, ne_eq, Option.some.injEq]
      intro e
      subst e
      rw [hh] at hh2
      simp at hh2

theorem append_rt {w : World} {ops : Array Oper} {rest : List Oper} {o : Oper} {a : Act} {Q : Exit → Act → World → Prop} (hgd : o.guard = none) (s x : Operand)
    (ho : o.op = .call { callee := .builtin .append, args := #[s, x], argTypes := #[23, 23] })
    (base : Nat) (v : Value) (hs : List Pl.RH) (e : Pl.RH) (hs' : a.eval s = v) (hown : OwnR w base v hs) (hbase : base ≤ w.heap.size) (hx : a.eval x = .slice (some ⟨w.heap.size, 0, none⟩) 1 1) (hb : hs.length ≤ 4000000000000)
    (h : ∀ v' w', OwnR w' base v' (hs ++ [e]) → (w.alloc (.cells #[.int .i64 e.p.1, .int .i64 e.p.2, .bool e.here, .int .i64 e.cost, .slice e.ha e.hl e.hc] 47)).grownBy w' v.ownBlock → Below base w w' → wpList Tryz.prog ops Q rest (a.put o.dst v') w') :
    wpList Tryz.prog ops Q (o :: rest) a (w.alloc (.cells #[.int .i64 e.p.1, .int .i64 e.p.2, .bool e.here, .int .i64 e.cost, .slice e.ha e.hl e.hc] 47)) := by
  obtain ⟨i0, hi0, hz0, hz1, hz2⟩ := partsOf infoRoute
  refine wpList_append_own_wide (w := _) hgd s x 23 ho base 47 i0 _ 5 56 Tryz.underlying23 hi0 hz0 hz1 hz2 rfl (by decide) _ hs.length (cellsR hs) hs' (World.ownsRow.alloc hown _) ⟨w.heap.size, 0, none⟩ 1 1 (cellsH e) hx rfl ?_ ?_ (by unfold maxLen; omega) (by omega) (by simp; omega) ?_
  · intro j u hj
    rw [add_none]
    match j, hj with
    | 0, hj => simp [cellsH] at hj; subst hj; simp
    | 1, hj => simp [cellsH] at hj; subst hj; simp
    | 2, hj => simp [cellsH] at hj; subst hj; simp
    | 3, hj => simp [cellsH] at hj; subst hj; simp
    | 4, hj => simp [cellsH] at hj; subst hj; simp
    | j + 5, hj => simp [cellsH] at hj
  · have := cellsR_one [e]
    simpa [cellsR] using this
  · intro v' w' hown' hg _
    have hlt := World.ownsRow.lt hown
    exact h v' w' (ownR_of hown' (by rw [cellsR_append]; simp [cellsR])) hg (((Below.refl _ _).alloc hbase _).grown hg (by simp; omega) (fun k hk => (hlt k hk).1))

/-- routes of the call's own: the row, and the hops of each one -/
def OwnTb (w : World) (base : Nat) (v : Value) (hs : List Pl.RH) (rs : List Pl.Rt) : Prop := OwnR w base v hs ∧ hs.length = rs.length ∧ ∀ i, i < hs.length → ReadsZ w base (Pl.rh hs i) (Pl.rt rs i)
theorem OwnTb.nil (w : World) (base : Nat) : OwnTb w base (.slice none 0 0) [] [] := ⟨OwnR.nil _ _, rfl, fun i h => by simp at h⟩
theorem OwnTb.below {w w' : World} {base : Nat} {v : Value} {hs : List Pl.RH} {rs : List Pl.Rt} (h : OwnTb w base v hs rs) (k : Below w.heap.size w w') : OwnTb w' base v hs rs := ⟨h.1.below k, h.2.1, fun i hi => (h.2.2 i hi).below k⟩
theorem OwnTb.mono {w : World} {base base' : Nat} {v : Value} {hs : List Pl.RH} {rs : List Pl.Rt} (h : OwnTb w base v hs rs) (k : base' ≤ base) : OwnTb w base' v hs rs := ⟨h.1.mono k, h.2.1, fun i hi => (h.2.2 i hi).mono k⟩
theorem OwnTb.reads {w : World} {base : Nat} {v : Value} {hs : List Pl.RH} {rs : List Pl.Rt} (h : OwnTb w base v hs rs) : ReadsAll w hs rs := ⟨h.2.1, fun i hi => (h.2.2 i hi).reads.1⟩
theorem OwnTb.snoc {w w' : World} {base : Nat} {v v' : Value} {hs : List Pl.RH} {rs : List Pl.Rt} {e : Pl.RH} {r : Pl.Rt} {o : Obj} (h : OwnTb w base v hs rs) (hr : ReadsZ w base e r) (h' : OwnR w' base v' (hs ++ [e])) (hg : (w.alloc o).grownBy w' v.ownBlock) : OwnTb w' base v' (hs ++ [e]) (rs ++ [r]) := by
  have key : ∀ x y, ReadsZ w base x y → ReadsZ w' base x y := by
    intro x y ⟨q1, q2, q3, q4, q5⟩
    exact ⟨q1, q2, q3, World.ownsRow.kept (World.ownsRow.alloc q4 o) hg (apartZR q4 h.1), q5⟩
  refine ⟨h', by simp [h.2.1], fun i hi => ?_⟩
  simp only [List.length_append, List.length_cons, List.length_nil] at hi
  rcases Nat.lt_or_ge i hs.length with q | q
  · rw [Pl.rh_app_lt _ _ _ q, Pl.rt_app_lt _ _ _ (by rw [← h.2.1]; exact q)]
    exact key _ _ (h.2.2 i q)
  · obtain rfl : i = hs.length := by omega
    rw [Pl.rh_app_at]
    have : Pl.rt (rs ++ [r]) hs.length = r := by rw [h.2.1]; exact Pl.rt_app_at rs r
    rw [this]
    exact key _ _ hr
theorem ReadsAll.snoc {w : World} {hs : List Pl.RH} {rs : List Pl.Rt} {e : Pl.RH} {r : Pl.Rt} (h : ReadsAll w hs rs) (hr : Reads w e r) : ReadsAll w (hs ++ [e]) (rs ++ [r]) := by
  refine ⟨by simp [h.1], fun i hi => ?_⟩
  simp only [List.length_append, List.length_cons, List.length_nil] at hi
  rcases Nat.lt_or_ge i hs.length with q | q
  · rw [Pl.rh_app_lt _ _ _ q, Pl.rt_app_lt _ _ _ (by rw [← h.1]; exact q)]
    exact h.2 i q
  · obtain rfl : i = hs.length := by omega
    rw [Pl.rh_app_at]
    have : Pl.rt (rs ++ [r]) hs.length = r := by rw [h.1]; exact Pl.rt_app_at rs r
    rw [this]
    exact hr
end Go.Proofs.YtcdobhdbafpkiaeGreatDoor
/-
  Rows of routes: one laid over a part of another (copy), and slices.Insert of one route.
-/
namespace Go.Proofs.YtcdobhdbafpkiaeGreatDoor
open Go.RowKit
set_option maxRecDepth 20000

/-- what a row holds where some cells are laid over it from a place on -/
def laid (L : List Value) (o : Nat) (cs : List Value) : List Value := L.take o ++ cs ++ L.drop (o + cs.length)
theorem laid_len (L : List Value) (o : Nat) (cs : List Value) (h : o + cs.length ≤ L.length) : (laid L o cs).length = L.length := by simp [laid]; omega

theorem run_copyR (w : World) (ty : TypeId) (g o dLen dCap : Nat) (ad : Addr) (sLen sCap : Nat) (L cs : List Value) (hg : w.heap[g]? = some (.cells L.toArray 47 (0, 0))) (hn : cs.length = Nat.min sLen dLen * 5)
    (hsrc : ∀ j v, cs[j]? = some v → w.cell? (ad.add j) = some v) (hfit : o + cs.length ≤ L.length) (h1 : ∀ v ∈ cs, v.oneCell' = true) :
    (Builtin.copy_ #[23, 23] ty #[.slice (some ⟨g, o, none⟩) dLen dCap, .slice (some ad) sLen sCap]).run Tryz.prog w = .ok (goInt (Nat.min sLen dLen)) (w.setRow g (laid L o cs).toArray) := by
  obtain ⟨i0, hi0, hz0, hz1, hz2⟩ := partsOf infoRoute
  have hl := run_loadCells_list (P := Tryz.prog) w ad cs hsrc
  have hst := run_storeCells_at Tryz.prog g o 47 cs 0 L.toArray w hg (by simpa using hfit) h1
  simp only [Nat.add_zero] at hst
  simp [Builtin.copy_, run_underlying Tryz.underlying23, Builtin.lenOf, Builtin.firstCells, sizeOf, typeInfo, hi0, hz1, ← hn, hl, hst, laid]
theorem But.row (w : World) (g : Nat) (cs : Array Value) : But g w (w.setRow g cs) := ⟨rfl, rfl, rfl, by simp [World.setRow], fun k _ hk => setRow_other w g k cs hk⟩

theorem wpList_copyR {w : World} {ops : Array Oper} {rest : List Oper} {o : Oper} {a : Act} {Q : Exit → Act → World → Prop} (hgd : o.guard = none) (d s : Operand)
    (ho : o.op = .call { callee := .builtin .copy, args := #[d, s], argTypes := #[23, 23] })
    (g off dLen dCap : Nat) (ad : Addr) (sLen sCap : Nat) (hd : a.eval d = .slice (some ⟨g, off, none⟩) dLen dCap) (hs : a.eval s = .slice (some ad) sLen sCap) (L cs : List Value) (hg : w.heap[g]? = some (.cells L.toArray 47 (0, 0))) (hn : cs.length = Nat.min sLen dLen * 5)
    (hsrc : ∀ j v, cs[j]? = some v → w.cell? (ad.add j) = some v) (hfit : off + cs.length ≤ L.length) (h1 : ∀ v ∈ cs, v.oneCell' = true)
    (h : ∀ w' v', w'.heap[g]? = some (.cells (laid L off cs).toArray 47 (0, 0)) → But g w w' → wpList Tryz.prog ops Q rest (a.put o.dst v') w') : wpList Tryz.prog ops Q (o :: rest) a w := by
  refine wpList_plain hgd fun K hK => ?_
  have hrun := run_copyR w o.type g off dLen dCap ad sLen sCap L cs hg hn hsrc hfit h1
  unfold Oper.wp
  simp [execOp, ho, resolve, invoke, builtin, hd, hs, hrun, Result.andThen]
  exact hK _ _ (h _ _ (setRow_heap w g _ _ _ _ hg) (But.row w g _))
theorem step_copyR {w : World} {ops : Array Oper} {o : Oper} {a : Act} {K : Act → World → Prop} {Q : Exit → Act → World → Prop} {E : Prop} (hgd : o.guard = none) (d s : Operand)
    (ho : o.op = .call { callee := .builtin .copy, args := #[d, s], argTypes := #[23, 23] })
    (g off dLen dCap : Nat) (ad : Addr) (sLen sCap : Nat) (hd : a.eval d = .slice (some ⟨g, off, none⟩) dLen dCap) (hs : a.eval s = .slice (some ad) sLen sCap) (L cs : List Value) (hg : w.heap[g]? = some (.cells L.toArray 47 (0, 0))) (hn : cs.length = Nat.min sLen dLen * 5)
    (hsrc : ∀ j v, cs[j]? = some v → w.cell? (ad.add j) = some v) (hfit : off + cs.length ≤ L.length) (h1 : ∀ v ∈ cs, v.oneCell' = true)
    (h : ∀ w' v', w'.heap[g]? = some (.cells (laid L off cs).toArray 47 (0, 0)) → But g w w' → K (a.put o.dst v') w') : if Region.wanted o (yielded ops a.tmps) = true then Oper.wp Tryz.prog o a w K Q else E := by
  have hw : Region.wanted o (yielded ops a.tmps) = true := by simp [Region.wanted, hgd]
  rw [if_pos hw]
  have hrun := run_copyR w o.type g off dLen dCap ad sLen sCap L cs hg hn hsrc hfit h1
  unfold Oper.wp
  simp [execOp, ho, resolve, invoke, builtin, hd, hs, hrun, Result.andThen]
  exact h _ _ (setRow_heap w g _ _ _ _ hg) (But.row w g _)

theorem But.grown {g : Nat} {w w' : World} (h : But g w w') : w.grownBy w' (some g) := ⟨h.os, h.tape, h.output, h.size, fun k hk hne => h.block k hk (by intro e; exact hne (by rw [e]))⟩
theorem grown_below {row : Option Nat} {w w' : World} (h : Below w.heap.size w w') : w.grownBy w' row := ⟨h.os, h.tape, h.output, h.size, fun k hk _ => h.block k hk⟩
theorem grown_trans {row : Option Nat} {a b c : World} (h : a.grownBy b row) (k : b.grownBy c row) : a.grownBy c row :=
  ⟨k.os.trans h.os, k.tape.trans h.tape, k.output.trans h.output, Nat.le_trans h.size k.size, fun i hi hne => (k.block i (Nat.lt_of_lt_of_le hi h.size) hne).trans (h.block i hi hne)⟩
theorem below_of_grown {B : Nat} {row : Option Nat} {w w' : World} (h : w.grownBy w' row) (hB : B ≤ w.heap.size) (hr : ∀ k, row = some k → B ≤ k) : Below B w w' := (Below.refl _ _).grown h hB hr

/-- a row that is known whole is a row of one's own -/
theorem ownR_row {w : World} {base g n cap : Nat} {L : List Value} {hs : List Pl.RH} (hb : base ≤ g) (hg : w.heap[g]? = some (.cells L.toArray 47 (0, 0))) (hn : hs.length = n) (hc : n ≤ cap) (hm : cap ≤ maxLen) (hs' : L.length = cap * 5) (hx : L.take (n * 5) = cellsR hs) : OwnR w base (.slice (some ⟨g, 0, none⟩) n cap) hs := by
  subst hn
  exact ⟨cellsR_len hs, .inr ⟨g, cap, L.toArray, rfl, hb, hg, hc, hm, by simpa using hs', by simpa using hx⟩⟩
theorem OwnR.row {w : World} {base : Nat} {v : Value} {hs : List Pl.RH} (h : OwnR w base v hs) (hne : 0 < hs.length) :
    ∃ g cap L, v = .slice (some ⟨g, 0, none⟩) hs.length cap ∧ base ≤ g ∧ w.heap[g]? = some (.cells (List.toArray L) 47 (0, 0)) ∧ hs.length ≤ cap ∧ cap ≤ maxLen ∧ L.length = cap * 5 ∧ L.take (hs.length * 5) = cellsR hs := by
  obtain ⟨_, h | ⟨g, cap, cur, rfl, hb, hh, hn, hm, hs', hx⟩⟩ := h
  · omega
  · exact ⟨g, cap, cur.toList, rfl, hb, by simpa using hh, hn, hm, by simpa using hs', hx⟩
theorem row_cell {w : World} {g : Nat} {L : List Value} {T : TypeId} (hg : w.heap[g]? = some (.cells L.toArray T (0, 0))) {j : Nat} {u : Value} (h : L[j]? = some u) : w.cell? ⟨g, j, none⟩ = some u := by
  simp [World.cell?, hg, h]
theorem laid_twice (L A B X : List Value) (n i : Nat) (hA : A.length = i * 5) (hB : B.length = (n - i) * 5) (hX : X.length = 5) (hi : i < n) (hL : (n + 1) * 5 ≤ L.length) (h : L.take (n * 5) = A ++ B) :
    (laid (laid L ((i + 1) * 5) B) (i * 5) X).take ((n + 1) * 5) = A ++ (X ++ B) := by
  have hAL : L.take (i * 5) = A := by
    have : L.take (i * 5) = (L.take (n * 5)).take (i * 5) := by rw [List.take_take]; congr 1; omega
    rw [this, h, List.take_append_of_le_length (by omega), List.take_of_length_le (by omega)]
  have h1 : (laid L ((i + 1) * 5) B).take (i * 5) = A := by
    unfold laid
    rw [List.append_assoc, List.take_append_of_le_length (by simp; omega), List.take_take, show min (i * 5) ((i + 1) * 5) = i * 5 by omega, hAL]
  have h2 : (laid L ((i + 1) * 5) B).drop (i * 5 + X.length) = B ++ L.drop ((i + 1) * 5 + B.length) := by
    unfold laid
    rw [List.append_assoc, show i * 5 + X.length = (L.take ((i + 1) * 5)).length by simp; omega, List.drop_left]
  rw [show laid (laid L ((i + 1) * 5) B) (i * 5) X = (laid L ((i + 1) * 5) B).take (i * 5) ++ X ++ (laid L ((i + 1) * 5) B).drop (i * 5 + X.length) from rfl, h1, h2]
  rw [show A ++ X ++ (B ++ L.drop ((i + 1) * 5 + B.length)) = (A ++ (X ++ B)) ++ L.drop ((i + 1) * 5 + B.length) by simp, List.take_append_of_le_length (by simp; omega), List.take_of_length_le (by simp; omega)]
theorem laid_new (Z A B X : List Value) (n i : Nat) (hA : A.length = i * 5) (hB : B.length = (n - i) * 5) (hX : X.length = 5) (hi : i < n) :
    (laid (laid (A ++ Z) (i * 5) X) ((i + 1) * 5) B).take ((n + 1) * 5) = A ++ (X ++ B) := by
  have h1 : laid (A ++ Z) (i * 5) X = A ++ X ++ Z.drop 5 := by
    unfold laid
    rw [List.take_append_of_le_length (by omega), List.take_of_length_le (by omega), show i * 5 + X.length = A.length + 5 by omega, List.drop_append]
    simp
  rw [h1]
  unfold laid
  rw [show (i + 1) * 5 = (A ++ X).length by simp; omega, List.take_left, show A ++ X ++ B ++ (A ++ X ++ Z.drop 5).drop ((A ++ X).length + B.length) = (A ++ (X ++ B)) ++ (A ++ X ++ Z.drop 5).drop ((A ++ X).length + B.length) by simp, List.take_append_of_le_length (by simp; omega), List.take_of_length_le (by simp; omega)]
end Go.Proofs.YtcdobhdbafpkiaeGreatDoor
/-
  Contract: slices.Insert of one route into a row of one's own.
-/
namespace Go.Proofs.YtcdobhdbafpkiaeGreatDoor
open Go.RowKit
set_option maxRecDepth 20000

def rtObj (x : Pl.RH) : Obj := .cells #[.int .i64 x.p.1, .int .i64 x.p.2, .bool x.here, .int .i64 x.cost, .slice x.ha x.hl x.hc] 47

theorem overlapsNo (w : World) (g o lb cb : Nat) (L : List Value) (x : Pl.RH) (hg : w.heap[g]? = some (.cells L.toArray 47 (0, 0))) (hL : L.length ≠ 0) :
    (callFunc 70 #[.slice (some ⟨w.heap.size, 0, none⟩) 1 1, .slice (some ⟨g, o, none⟩) lb cb]).run Tryz.prog (w.alloc (rtObj x)) = .ok (.value (.bool false)) (w.alloc (rtObj x)) := by
  have hlt := blockLt hg
  have hnew : (w.alloc (rtObj x)).heap[w.heap.size]? = some (rtObj x) := heapNewZ w _
  have hgA : (w.alloc (rtObj x)).heap[g]? = some (.cells L.toArray 47 (0, 0)) := by rw [Below.heap_alloc _ _ _ hlt]; exact hg
  rw [run_callFunc_extern Tryz.func70 (by kernel_rfl) (by kernel_rfl) (by kernel_rfl) (e := Extern.SlicesOverlaps.overlaps #[23, 23] #[4]) (by kernel_rfl),
    Lib.run_overlaps_apart (w.alloc (rtObj x)) 23 4 47 Tryz.underlying23 5 Tryz.sizeOf47 ⟨w.heap.size, 0, none⟩ ⟨g, o, none⟩ 1 1 lb cb (by show w.heap.size ≠ g; omega) 47 47 5 L.length
      (by simp only [World.shape?, hnew]; rfl) (by simp only [World.shape?, hgA]; simp) hL (by simp only [World.frozen?, hnew]; rfl) (by simp only [World.frozen?, hnew]; rfl)]
  rfl

set_option maxHeartbeats 2000000 in
theorem Insert_end (base : Nat) (v : Value) (hs : List Pl.RH) (x : Pl.RH) (w : World) (hown : OwnR w base v hs) (hbase : base ≤ w.heap.size) (hb : hs.length ≤ 2000000) :
    Calls Tryz.prog 42 #[v, .int .i64 hs.length, .slice (some ⟨w.heap.size, 0, none⟩) 1 1] (w.alloc (rtObj x)) fun e w' =>
      ∃ v', e = .returned v' ∧ OwnR w' base v' (hs ++ [x]) ∧ (w.alloc (rtObj x)).grownBy w' v.ownBlock ∧ Below base w w' := by
  have HO := hid hown
  obtain ⟨a, cap, rfl, hrow, _⟩ := hown.rows
  have hc := hrow.2.1
  have hm := hrow.2.2.1
  have hnil := hrow.2.2.2.1
  unfold maxLen at hm
  clear hrow hown
  obtain ⟨n, HN⟩ : ∃ n, Hid (hs.length = n) := ⟨_, rfl⟩
  rw [HN.out] at hc hb HO ⊢
  have HD : Hid (rtObj x = .cells #[.int .i64 x.p.1, .int .i64 x.p.2, .bool x.here, .int .i64 x.cost, .slice x.ha x.hl x.hc] 47) := hid rfl
  rw [HD.out]
  obtain ⟨row, HRW⟩ : ∃ row, Hid ((Value.slice a n cap).ownBlock = row) := ⟨_, rfl⟩
  rw [HRW.out]
  go_enter Tryz.func42, Tryz.ntmps42
  go_wp2_with (at_builtin; refine append_rt rfl (.tmp 23) (.tmp 24) rfl base (.slice a n cap) hs x rfl HO.out hbase rfl (by rw [HN.out]; omega) ?_; intro v' w' hown' hg' hb'; have HG := hid hg'; rw [HRW.out] at HG; clear hg')
  all_goals
    go_ret
    exact ⟨_, rfl, hown', HG.out, hb'⟩

theorem wpList_zeros {w : World} {ops : Array Oper} {rest : List Oper} {o : Oper} {a : Act} {Q : Exit → Act → World → Prop} (hgd : o.guard = none) (s x : Operand)
    (ho : o.op = .call { callee := .builtin .append, args := #[s, x], argTypes := #[23, 3] })
    (g i cap k : Nat) (hs : a.eval s = .slice (some ⟨g, 0, none⟩) i cap) (kv : Int) (hx : a.eval x = .int .i64 kv) (hkv : kv = (k : Int)) (A : List Value) (hA : A.length = i * 5) (hsrc : ∀ j u, A[j]? = some u → w.cell? ⟨g, j, none⟩ = some u) (h0 : 0 < k) (hroom : cap < i + k) (hbig : i + k ≤ 3000000)
    (h : ∀ w' G Z, w'.heap[w.heap.size]? = some (.cells (A ++ Z).toArray 47 (0, 0)) → A.length + Z.length = G * 5 → i + k ≤ G → G ≤ maxLen → Below w.heap.size w w' → wpList Tryz.prog ops Q rest (a.put o.dst (.slice (some ⟨w.heap.size, 0, none⟩) (i + k) G)) w') : wpList Tryz.prog ops Q (o :: rest) a w := by
  obtain ⟨i0, hi0, hz0, hz1, hz2⟩ := partsOf infoRoute
  have hold : (Builtin.firstCells i0.size i (.slice (some ⟨g, 0, none⟩) i cap)).run Tryz.prog w.drew = .ok A.toArray w.drew := by
    rw [hz1]
    exact run_firstCells_some w.drew 5 i ⟨g, 0, none⟩ i cap A hA (fun j u hj => by rw [add_none, Nat.zero_add]; exact hsrc j u hj)
  have hr := Lib.run_append_grow_zeros w 23 3 o.type 47 i0 _ .i64 .i64 Tryz.underlying23 Tryz.underlying3 hi0 hz0 (some ⟨g, 0, none⟩) i cap A hold k h0 (by omega) hroom (by omega) (by rw [hz2]; omega) (by rw [hz2]; exact growslice_fits hroom (by omega))
  subst hkv
  have hGn := grownCap_ge w (i + k) cap 47
  have hGm := grownCap_le_maxLen w (i + k) cap 47 (by unfold maxLen; omega)
  generalize grownCap w (i + k) cap 47 = G at *
  refine Lib.wpList_append_run _ hgd s x _ _ ho _ _ hs hx _ _ hr ?_
  refine h _ G (Builtin.zeroCells (Value.agg #[.int .i64 0, .int .i64 0, .bool false, .int .i64 0, .slice none 0 0]).cells k ++ Builtin.zeroCells (Value.agg #[.int .i64 0, .int .i64 0, .bool false, .int .i64 0, .slice none 0 0]).cells (G - (i + k))).toList ?_ ?_ hGn hGm ?_
  · have := heapNewZ w.drew (.cells (A.toArray ++ Builtin.zeroCells (Value.agg #[.int .i64 0, .int .i64 0, .bool false, .int .i64 0, .slice none 0 0]).cells k ++ Builtin.zeroCells (Value.agg #[.int .i64 0, .int .i64 0, .bool false, .int .i64 0, .slice none 0 0]).cells (G - (i + k))) 47)
    rw [show w.drew.heap.size = w.heap.size from rfl] at this
    rw [this]
    congr 2
    apply Array.ext'
    simp
  · simp [Builtin.zeroCells, Value.cells, hA]
    omega
  · exact (Below.refl _ _).drew.alloc (Nat.le_refl _) _
end Go.Proofs.YtcdobhdbafpkiaeGreatDoor
