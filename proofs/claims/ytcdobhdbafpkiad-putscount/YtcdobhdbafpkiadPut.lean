/-
  Contracts: what Put and the document's PutOf answer at every list of entries, node, key and value.
-/
import Derived.Test.YtcdobhdbafpkiadFind
import Derived.Test.YtcdobhdbafpkiadFault
import Derived.Test.YtcdobhdbafpkiadWith
namespace Go.Proofs.Ytcdobhdbafpkiad
open Go.RowKit
set_option maxRecDepth 20000

/-- the version that comes -/
def Pl.putV (es : List Pl.Ent) (key : ByteArray) : Int := if Pl.there es key then (Pl.ent es (Pl.pos es key)).ver + 1 else 1
def Pl.putC (es : List Pl.Ent) (node : Int) (key val : ByteArray) : Int :=
  if ¬ Pl.fault es = 0 then Pl.fault es else if decide (0 ≤ node ∧ node ≤ 11) = false then 2 else if Pl.keyB key = false then 4 else if 120 < val.size then 1
  else if Pl.there es key = false ∧ 60 ≤ es.length then 1 else if 1099511627776 < Pl.putV es key then 2 else 0
def Pl.putO (es : List Pl.Ent) (node : Int) (key val : ByteArray) : List Pl.Ent := if Pl.putC es node key val = 0 then Pl.ins es ⟨key, Pl.putV es key, node, val⟩ else []

theorem Pl.putO_err {es : List Pl.Ent} {node : Int} {key val : ByteArray} {c : Int} (h : Pl.putC es node key val = c) (hc : ¬ c = 0) : Pl.putO es node key val = [] := by
  unfold Pl.putO; rw [h, if_neg hc]

set_option maxHeartbeats 1000000 in
theorem Put_any (a : Option Addr) (len cap : Nat) (es : List Pl.Ent) (node : Int) (key val : ByteArray) (w : World) (h : IsEnts w a len cap es) (hnil : a = none → cap = 0) (hk : key.size ≤ maxLen) (hv : val.size ≤ maxLen) :
    Calls Try.prog 9 #[.slice a len cap, .int .i64 node, .string key, .string val] w fun e w' => ∃ v, e = .returned (.tuple #[v, .int .i64 (Pl.putC es node key val)]) ∧ Own w' w.heap.size v (Pl.putO es node key val) ∧ Below w.heap.size w w' := by
  have HH : Hid (IsEnts w a len cap es) := h
  have HN : Hid (a = none → cap = 0) := hnil
  have hlen : es.length = len := h.1
  have hcap := h.2.1
  have hm := h.2.2.1
  have HK : Hid (key.size ≤ maxLen) := hk
  unfold maxLen at hm hv hk
  clear h hnil
  obtain ⟨c, HC⟩ : ∃ c, Hid (Pl.fault es = c) := ⟨_, rfl⟩
  obtain ⟨nn, HD⟩ : ∃ c, Hid (decide (0 ≤ node ∧ node ≤ 11) = c) := ⟨_, rfl⟩
  obtain ⟨kk, HY⟩ : ∃ c, Hid (Pl.keyB key = c) := ⟨_, rfl⟩
  obtain ⟨t, HT⟩ : ∃ t, Hid (Pl.there es key = t) := ⟨_, rfl⟩
  by_cases hc0 : c = 0
  case neg =>
    have hcn : (c != 0) = true := by simp [hc0]
    have hce : (c == 0) = false := by simp [hc0]
    have HP : Hid (Pl.putC es node key val = c ∧ ¬ c = 0) := by
      refine ⟨?_, hc0⟩
      unfold Pl.putC; rw [HC.out, if_pos hc0]
    clear hc0
    go_enter Try.func9, Try.ntmps9
    go_wp2_with fail
    refine (Check_any _ _ _ es _ HH.out).mono ?_
    rw [HC.out]
    rintro e w1 ⟨rfl, hb1⟩
    go_wp2_with (first | (go_at_call 26; refine (isNode_any _ _).mono ?_; rw [HD.out]; rintro e w' ⟨rfl, rfl⟩) | (go_at_call 27; refine (Key_any _ _ HK.out).mono ?_; rw [HY.out]; rintro e w' ⟨rfl, rfl⟩))
    go_ret2
    exact ⟨_, by rw [HP.out.1]; rfl, by rw [Pl.putO_err HP.out.1 HP.out.2]; exact Own.nil _ _, hb1⟩
  case pos =>
  subst hc0
  have hng : ¬ ¬ Pl.fault es = 0 := fun h => h HC.out
  have HNG : Hid (¬ ¬ Pl.fault es = 0) := hng
  clear hng
  cases nn
  case false =>
    have HP : Hid (Pl.putC es node key val = 2) := by
      show _ = _
      unfold Pl.putC; rw [if_neg HNG.out, if_pos HD.out]
    go_enter Try.func9, Try.ntmps9
    go_wp2_with fail
    refine (Check_any _ _ _ es _ HH.out).mono ?_
    rw [HC.out]
    rintro e w1 ⟨rfl, hb1⟩
    go_wp2_with (first | (go_at_call 26; refine (isNode_any _ _).mono ?_; rw [HD.out]; rintro e w' ⟨rfl, rfl⟩) | (go_at_call 27; refine (Key_any _ _ HK.out).mono ?_; rw [HY.out]; rintro e w' ⟨rfl, rfl⟩))
    go_ret2
    exact ⟨_, by rw [HP.out]; rfl, by rw [Pl.putO_err HP.out (by decide)]; exact Own.nil _ _, hb1⟩
  case true =>
  have HDN : Hid (¬ decide (0 ≤ node ∧ node ≤ 11) = false) := by rw [HD.out]; exact fun h => by cases h
  cases kk
  case false =>
    have HP : Hid (Pl.putC es node key val = 4) := by
      show _ = _
      unfold Pl.putC; rw [if_neg HNG.out, if_neg HDN.out, if_pos HY.out]
    go_enter Try.func9, Try.ntmps9
    go_wp2_with fail
    refine (Check_any _ _ _ es _ HH.out).mono ?_
    rw [HC.out]
    rintro e w1 ⟨rfl, hb1⟩
    go_wp2_with (first | (go_at_call 26; refine (isNode_any _ _).mono ?_; rw [HD.out]; rintro e w' ⟨rfl, rfl⟩) | (go_at_call 27; refine (Key_any _ _ HK.out).mono ?_; rw [HY.out]; rintro e w' ⟨rfl, rfl⟩))
    go_ret2
    exact ⟨_, by rw [HP.out]; rfl, by rw [Pl.putO_err HP.out (by decide)]; exact Own.nil _ _, hb1⟩
  case true =>
  have HYN : Hid (¬ Pl.keyB key = false) := by rw [HY.out]; exact fun h => by cases h
  by_cases hx : 120 < val.size
  case pos =>
    have HP : Hid (Pl.putC es node key val = 1) := by
      show _ = _
      unfold Pl.putC; rw [if_neg HNG.out, if_neg HDN.out, if_neg HYN.out, if_pos hx]
    go_enter Try.func9, Try.ntmps9
    go_wp2_with fail
    refine (Check_any _ _ _ es _ HH.out).mono ?_
    rw [HC.out]
    rintro e w1 ⟨rfl, hb1⟩
    go_wp2_with (first | (go_at_call 26; refine (isNode_any _ _).mono ?_; rw [HD.out]; rintro e w' ⟨rfl, rfl⟩) | (go_at_call 27; refine (Key_any _ _ HK.out).mono ?_; rw [HY.out]; rintro e w' ⟨rfl, rfl⟩))
    go_ret2
    exact ⟨_, by rw [HP.out]; rfl, by rw [Pl.putO_err HP.out (by decide)]; exact Own.nil _ _, hb1⟩
  case neg =>
  have HXN : Hid (¬ 120 < val.size) := hx
  have HG : Hid (Pl.Good es) := (Pl.good_iff es).1 HC.out
  have HA : Hid (Pl.Asc es) := (Pl.asc_iff es).2 HG.out.2.2
  have HL : Hid (len ≤ 60) := by have := HG.out.1; show _ ≤ _; omega
  cases t
  case false =>
    by_cases h60 : 60 ≤ len
    case pos =>
      have HP : Hid (Pl.putC es node key val = 1) := by
        show _ = _
        unfold Pl.putC; rw [if_neg HNG.out, if_neg HDN.out, if_neg HYN.out, if_neg HXN.out, if_pos ⟨HT.out, by omega⟩]
      go_enter Try.func9, Try.ntmps9
      go_wp2_with fail
      refine (Check_any _ _ _ es _ HH.out).mono ?_
      rw [HC.out]
      rintro e w1 ⟨rfl, hb1⟩
      go_wp2_with (first | (go_at_call 26; refine (isNode_any _ _).mono ?_; rw [HD.out]; rintro e w' ⟨rfl, rfl⟩) | (go_at_call 27; refine (Key_any _ _ HK.out).mono ?_; rw [HY.out]; rintro e w' ⟨rfl, rfl⟩))
      refine (find_any _ _ _ es key _ (HH.out.below hb1) HA.out HL.out).mono ?_
      rw [HT.out]
      rintro e w2 ⟨rfl, hb2⟩
      have hb12 := hb1.trans (hb2.mono hb1.size)
      have hz := hb12.size
      go_wp2_with fail
      go_ret2
      exact ⟨_, by rw [HP.out]; rfl, by rw [Pl.putO_err HP.out (by decide)]; exact Own.nil _ _, hb12⟩
    case neg =>
      have HV : Hid (Pl.putV es key = 1) := by show _ = _; unfold Pl.putV; rw [HT.out]; rfl
      have HP : Hid (Pl.putC es node key val = 0) := by
        show _ = _
        unfold Pl.putC; rw [if_neg HNG.out, if_neg HDN.out, if_neg HYN.out, if_neg HXN.out, if_neg (fun h => by omega), HV.out, if_neg (by omega)]
      have HO : Hid (Pl.putO es node key val = Pl.ins es ⟨key, 1, node, val⟩) := by show _ = _; unfold Pl.putO; rw [if_pos HP.out, HV.out]
      go_enter Try.func9, Try.ntmps9
      go_wp2_with fail
      refine (Check_any _ _ _ es _ HH.out).mono ?_
      rw [HC.out]
      rintro e w1 ⟨rfl, hb1⟩
      go_wp2_with (first | (go_at_call 26; refine (isNode_any _ _).mono ?_; rw [HD.out]; rintro e w' ⟨rfl, rfl⟩) | (go_at_call 27; refine (Key_any _ _ HK.out).mono ?_; rw [HY.out]; rintro e w' ⟨rfl, rfl⟩))
      refine (find_any _ _ _ es key _ (HH.out.below hb1) HA.out HL.out).mono ?_
      rw [HT.out]
      rintro e w2 ⟨rfl, hb2⟩
      have hb12 := hb1.trans (hb2.mono hb1.size)
      have hz := hb12.size
      go_wp2_with fail
      refine (lay_any _ _ _ es (Pl.pos es key) false ⟨key, 1, node, val⟩ _ (HH.out.below (hb12.alloc hz _)) HN.out HL.out (by have := Pl.pos_le es key; omega) (fun h => by cases h)).mono ?_
      rintro e w3 ⟨v3, rfl, ho3, hb3⟩
      have ho3' : Own w3 w.heap.size v3 (Pl.ins es ⟨key, 1, node, val⟩) := by
        have e1 := Pl.lay_ins es ⟨key, 1, node, val⟩
        simp only [HT.out] at e1
        rw [e1] at ho3
        exact ho3.mono (by simp; omega)
      have HO3 := hid ho3'
      clear ho3 ho3'
      go_wp2_with fail
      go_ret2
      exact ⟨_, by rw [HP.out]; rfl, by rw [HO.out]; exact HO3.out, (hb12.alloc hz _).trans (hb3.mono (by simp; omega))⟩
  case true =>
    have hpos : Pl.pos es key < len := by
      have := HT.out
      unfold Pl.there at this
      simp only [Bool.and_eq_true, decide_eq_true_eq] at this
      omega
    obtain ⟨b, off, rfl, hbw, hr⟩ : ∃ b off, a = some ⟨b, off, none⟩ ∧ b < w.heap.size ∧ RowAt w b off es := by
      rcases HH.out.2.2.2.2 with h | h
      · rw [h] at hlen; simp at hlen; omega
      · exact h
    have HRW : Hid (RowAt w b off es) := hr
    clear hr
    have hvb : 1 ≤ (Pl.ent es (Pl.pos es key)).ver ∧ (Pl.ent es (Pl.pos es key)).ver ≤ 1099511627776 := by
      have := HG.out.2.1 _ (Pl.ent_mem es (Pl.pos es key) (by omega))
      unfold Pl.Ent.may Pl.entB at this
      simp only [Bool.and_eq_true, decide_eq_true_eq] at this
      exact this.1.1.2
    have HV : Hid (Pl.putV es key = (Pl.ent es (Pl.pos es key)).ver + 1) := by show _ = _; unfold Pl.putV; rw [HT.out]; rfl
    have HLT : Hid (Pl.pos es key < es.length) := by show _ < _; omega
    have HNF : Hid (¬ (Pl.there es key = false ∧ 60 ≤ es.length)) := by
      intro h
      rw [HT.out] at h
      cases h.1
    obtain ⟨p, HPP⟩ : ∃ p, Hid (Pl.pos es key = p) := ⟨_, rfl⟩
    rw [HPP.out] at hpos hvb HV HLT
    obtain ⟨y, HYY⟩ : ∃ y, Hid (Pl.ent es p = y) := ⟨_, rfl⟩
    rw [HYY.out] at hvb HV
    obtain ⟨yk, yv, yo, yx⟩ := y
    simp only at hvb HV
    have hp1 : (p : Int) < (len : Int) := by omega
    have hpd : decide ((p : Int) < 0) = false := decide_eq_false (by omega)
    have hpe : decide ((0 : Int) ≤ (p : Int)) = true := decide_eq_true (by omega)
    obtain ⟨hv1, hv2⟩ := hvb
    by_cases hmax : 1099511627776 < yv + 1
    case pos =>
      have HP : Hid (Pl.putC es node key val = 2) := by
        show _ = _
        unfold Pl.putC; rw [if_neg HNG.out, if_neg HDN.out, if_neg HYN.out, if_neg HXN.out, if_neg HNF.out, HV.out, if_pos hmax]
      go_enter Try.func9, Try.ntmps9
      go_wp2_with fail
      refine (Check_any _ _ _ es _ HH.out).mono ?_
      rw [HC.out]
      rintro e w1 ⟨rfl, hb1⟩
      go_wp2_with (first | (go_at_call 26; refine (isNode_any _ _).mono ?_; rw [HD.out]; rintro e w' ⟨rfl, rfl⟩) | (go_at_call 27; refine (Key_any _ _ HK.out).mono ?_; rw [HY.out]; rintro e w' ⟨rfl, rfl⟩))
      refine (find_any _ _ _ es key _ (HH.out.below hb1) HA.out HL.out).mono ?_
      rw [HT.out, HPP.out]
      rintro e w2 ⟨rfl, hb2⟩
      have hb12 := hb1.trans (hb2.mono hb1.size)
      have hz := hb12.size
      have hbw2 : b < w2.heap.size := by omega
      obtain ⟨j0, j1, j2, j3⟩ := row_at HRW.out hbw hb12 HYY.out HLT.out
      go_wp2_with fail
      go_ret2
      exact ⟨_, by rw [HP.out]; rfl, by rw [Pl.putO_err HP.out (by decide)]; exact Own.nil _ _, (hb12.alloc hz _)⟩
    case neg =>
      have HP : Hid (Pl.putC es node key val = 0) := by
        show _ = _
        unfold Pl.putC; rw [if_neg HNG.out, if_neg HDN.out, if_neg HYN.out, if_neg HXN.out, if_neg HNF.out, HV.out, if_neg hmax]
      have HO : Hid (Pl.putO es node key val = Pl.ins es ⟨key, yv + 1, node, val⟩) := by show _ = _; unfold Pl.putO; rw [if_pos HP.out, HV.out]
      go_enter Try.func9, Try.ntmps9
      go_wp2_with fail
      refine (Check_any _ _ _ es _ HH.out).mono ?_
      rw [HC.out]
      rintro e w1 ⟨rfl, hb1⟩
      go_wp2_with (first | (go_at_call 26; refine (isNode_any _ _).mono ?_; rw [HD.out]; rintro e w' ⟨rfl, rfl⟩) | (go_at_call 27; refine (Key_any _ _ HK.out).mono ?_; rw [HY.out]; rintro e w' ⟨rfl, rfl⟩))
      refine (find_any _ _ _ es key _ (HH.out.below hb1) HA.out HL.out).mono ?_
      rw [HT.out, HPP.out]
      rintro e w2 ⟨rfl, hb2⟩
      have hb12 := hb1.trans (hb2.mono hb1.size)
      have hz := hb12.size
      have hbw2 : b < w2.heap.size := by omega
      obtain ⟨j0, j1, j2, j3⟩ := row_at HRW.out hbw hb12 HYY.out HLT.out
      go_wp2_with fail
      refine (lay_any _ _ _ es p true ⟨key, yv + 1, node, val⟩ _ (HH.out.below (hb12.alloc hz _)) HN.out HL.out (by omega) (fun _ => hpos)).mono ?_
      rintro e w3 ⟨v3, rfl, ho3, hb3⟩
      have ho3' : Own w3 w.heap.size v3 (Pl.ins es ⟨key, yv + 1, node, val⟩) := by
        have e1 := Pl.lay_ins es ⟨key, yv + 1, node, val⟩
        simp only [HT.out, HPP.out] at e1
        rw [e1] at ho3
        exact ho3.mono (by simp; omega)
      have HO3 := hid ho3'
      clear ho3 ho3'
      go_wp2_with fail
      go_ret2
      exact ⟨_, by rw [HP.out]; rfl, by rw [HO.out]; exact HO3.out, (hb12.alloc hz _).trans (hb3.mono (by simp; omega))⟩

end Go.Proofs.Ytcdobhdbafpkiad
