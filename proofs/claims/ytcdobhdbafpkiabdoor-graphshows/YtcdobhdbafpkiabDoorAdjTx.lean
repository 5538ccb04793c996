/-
  Plain: sides that may be told are few and small; contract: the document's AdjText.
-/
import Derived.Test.YtcdobhdbafpkiabDoorShow2
import Derived.Test.YtcdobhdbafpkiabDoorDecR
import Derived.Test.YtcdobhdbafpkiabDoorAdj
import Derived.Test.YtcdobhdbafpkiabDoorQuiet
namespace Go.Proofs.YtcdobhdbafpkiabDoor
open Go.RowKit

theorem Pl.adjN_ok (ps : List (Int × Int)) : ∀ (n i : Nat), i + n = ps.length → Pl.adjN ps n i = 0 → ∀ j, i ≤ j → j < ps.length → Pl.sideB (Pl.pr ps j).1 (Pl.pr ps j).2 = true ∧ (0 < j → (Pl.pr ps (j - 1)).1 < (Pl.pr ps j).1)
  | 0, i, h, _, j, h1, h2 => by omega
  | n + 1, i, h, h0, j, h1, h2 => by
    rw [Pl.adjN] at h0
    by_cases g1 : Pl.sideB (Pl.pr ps i).1 (Pl.pr ps i).2 = true
    · rw [if_pos g1] at h0
      by_cases g2 : 0 < i ∧ (Pl.pr ps i).1 ≤ (Pl.pr ps (i - 1)).1
      · rw [if_pos g2] at h0; cases h0
      · rw [if_neg g2] at h0
        rcases Nat.eq_or_lt_of_le h1 with e | h1
        · subst e
          exact ⟨g1, fun hp => by omega⟩
        · exact Pl.adjN_ok ps n (i + 1) (by omega) h0 j h1 h2
    · rw [if_neg g1] at h0; cases h0
theorem Pl.adjF_ok {ps : List (Int × Int)} (h : Pl.adjF ps = 0) : ps.length ≤ 12 ∧ ∀ p ∈ ps, Pl.small p := by
  have hk := Pl.adjN_ok ps ps.length 0 (by omega) h
  have hs : ∀ j, j < ps.length → 0 ≤ (Pl.pr ps j).1 ∧ (Pl.pr ps j).1 ≤ 11 ∧ 1 ≤ (Pl.pr ps j).2 ∧ (Pl.pr ps j).2 ≤ 1000 := by
    intro j hj
    have := (hk j (by omega) hj).1
    unfold Pl.sideB at this
    simp at this
    omega
  have hj : ∀ j, j < ps.length → (j : Int) ≤ (Pl.pr ps j).1 := by
    intro j
    induction j with
    | zero => intro h; have := hs 0 h; omega
    | succ j ih =>
      intro h
      have h1 := ih (by omega)
      have h2 := (hk (j + 1) (by omega) h).2 (by omega)
      simp at h2
      omega
  refine ⟨?_, ?_⟩
  · rcases Nat.lt_or_ge 12 ps.length with h | h
    · have h1 := hj 12 h
      have h2 := hs 12 h
      omega
    · exact h
  · intro p hp
    obtain ⟨i, hi, rfl⟩ := List.getElem_of_mem hp
    have := hs i hi
    rw [Pl.pr_eq ps i hi] at this
    exact ⟨this.1, by omega, by omega, by omega⟩

theorem Pl.join_snoc (xs : List (List UInt8)) (y sep : List UInt8) (h : xs ≠ []) : Lib.join (xs ++ [y]) sep = Lib.join xs sep ++ sep ++ y := by
  cases xs with
  | nil => exact absurd rfl h
  | cons x r =>
    rw [List.cons_append, Lib.join_cons, Lib.join_cons]
    simp [Lib.joinTail, List.append_assoc]
theorem Pl.ba_eq {a b : ByteArray} (h : a.data.toList = b.data.toList) : a = b := by
  apply ByteArray.ext; apply Array.toList_inj.1; exact h
theorem Pl.showT_list (m : ByteArray) (ps : List (Int × Int)) : (Pl.showT m ps).data.toList = Lib.join ((ps.map (Pl.sideT m)).map (·.data.toList)) [44] := by simp [Pl.showT]
theorem Pl.showT_nil (m : ByteArray) : Pl.showT m [] = ⟨#[]⟩ := rfl
theorem Pl.showT_one (m : ByteArray) (p : Int × Int) : Pl.showT m [p] = Pl.sideT m p := by
  apply Pl.ba_eq
  rw [Pl.showT_list]
  simp [Lib.join_one]
theorem Pl.showT_snoc (m : ByteArray) (ps : List (Int × Int)) (p : Int × Int) (h : ps ≠ []) : Pl.showT m (ps ++ [p]) = Pl.showT m ps ++ ⟨#[44]⟩ ++ Pl.sideT m p := by
  apply Pl.ba_eq
  rw [Pl.showT_list, List.map_append, List.map_append]
  rw [show List.map (fun x : ByteArray => x.data.toList) (List.map (Pl.sideT m) [p]) = [(Pl.sideT m p).data.toList] from rfl, Pl.join_snoc _ _ _ (by simpa using h), ← Pl.showT_list]
  simp [ByteArray.data_append]
theorem Pl.showT_size (m : ByteArray) (ps : List (Int × Int)) (hs : ∀ p ∈ ps, Pl.small p) (hm : m.size ≤ 100) : (Pl.showT m ps).size ≤ ps.length * 143 := by
  have h : (Pl.showT m ps).size = (Pl.showT m ps).data.toList.length := by simp
  rw [h, Pl.showT_list]
  refine Nat.le_trans (Pl.join_le 142 _ _ ?_) (by simp)
  intro x hx
  simp only [List.mem_map] at hx
  obtain ⟨y, ⟨p, hp, rfl⟩, rfl⟩ := hx
  have := Pl.sideT_size m p (hs p hp)
  have e : (Pl.sideT m p).data.toList.length = (Pl.sideT m p).size := by simp
  omega
/-- what ShowAdj answers -/
def Pl.adjText (d : Bool) (ps : List (Int × Int)) : ByteArray := if Pl.adjF ps = 0 then (if d then ⟨#[33]⟩ ++ Pl.showT ⟨#[61]⟩ ps else Pl.showT ⟨#[61]⟩ ps) else ⟨#[]⟩

set_option maxHeartbeats 2000000 in
theorem AdjText_any (d : Bool) (a : Option Addr) (len cap : Nat) (ps : List (Int × Int)) (w : World) (h : IsPairs w a len cap ps) :
    Calls Tryd.prog 5 #[.agg #[.bool d, .slice a len cap]] w fun e w' => e = .returned (.tuple #[.string (Pl.adjText d ps), .int .i64 (Pl.adjF ps)]) ∧ Below w.heap.size w w' := by
  have HH := hid h
  have hlen := h.1
  have hcap := h.2.1
  have hmax := h.2.2.1
  unfold maxLen at hmax
  clear h
  obtain ⟨cc, HCC⟩ : ∃ c, Hid (Pl.adjF ps = c) := ⟨_, hid rfl⟩
  rw [HCC.out]
  have b1 : Below w.heap.size w (w.alloc (.cells #[.bool d, .slice a len cap] 24)) := (Below.refl _ _).alloc (Nat.le_refl _) _
  have HI1 := hid (HH.out.below b1)
  by_cases hc0 : cc = 0
  · subst hc0
    have HOK := hid (Pl.adjF_ok HCC.out)
    have hl12 : len ≤ 12 := by have := HOK.out.1; omega
    go_enter Tryd.func5, Tryd.ntmps5
    go_wp2_with fail
    refine (AdjFault_any _ _ _ _ ps _ HI1.out).mono ?_
    rw [HCC.out]
    rintro e w1 ⟨rfl, hb1⟩
    have hbA : Below (w.heap.size + 1) (w.alloc (.cells #[.bool d, .slice a len cap] 24)) w1 := by simpa using hb1
    clear hb1 b1
    go_wp2_with fail
    go_loopw [5, 6] (fun s i wr => ∃ (k : Nat) (t : ByteArray), k ≤ len ∧ i = .int .i64 k ∧ s = .string t ∧ t.size ≤ 2000 ∧ Hid (t = Pl.showT ⟨#[61]⟩ (ps.take k)) ∧ Below (w.heap.size + 1) (w.alloc (.cells #[.bool d, .slice a len cap] 24)) wr) (fun _ i _ => len - (intOf i).toNat)
    case atStart => exact ⟨0, ⟨#[]⟩, Nat.zero_le _, rfl, rfl, by decide, hid (by rw [List.take_zero, Pl.showT_nil]), hbA⟩
    case round =>
      obtain ⟨k, t, hk, rfl, rfl, htz, HT, hb⟩ := hrel
      obtain ⟨x0, x1, xs, hbb⟩ := box2 hb
      by_cases hlt : k < len
      · obtain ⟨b, off, rfl, hbw, hr⟩ : ∃ b off, a = some ⟨b, off, none⟩ ∧ b < w.heap.size ∧ PairsAt w b off ps := by
          rcases HH.out.2.2.2.2 with rfl | h
          · simp at hlen; omega
          · exact h
        obtain ⟨c0, c1⟩ := (hr.below hbw hbb) k (by omega)
        have hbr : b < wr.heap.size := by omega
        clear hr
        obtain ⟨pp, hpp⟩ : ∃ pp, Hid (Pl.pr ps k = pp) := ⟨_, rfl⟩
        rw [hpp.out] at c0 c1
        obtain ⟨p1, p2⟩ := pp
        simp only at c0 c1
        have hsm : Pl.small (p1, p2) := by rw [← hpp.out]; exact HOK.out.2 _ (Pl.pr_mem ps k (by omega))
        obtain ⟨hs1, hs2, hs3, hs4⟩ := hsm
        simp only at hs1 hs2 hs3 hs4
        have hz1 := Pl.dec_le p1 hs1 hs2
        have hz2 := Pl.dec_le p2 hs3 hs4
        obtain ⟨s1, HS1⟩ : ∃ s, Hid (Pl.dec p1 = s) := ⟨_, hid rfl⟩
        obtain ⟨s2, HS2⟩ : ∃ s, Hid (Pl.dec p2 = s) := ⟨_, hid rfl⟩
        rw [HS1.out] at hz1
        rw [HS2.out] at hz2
        have HD1 : Hid (∀ W, Calls Tryd.prog 9 #[.int .i64 p1] W fun e w' => e = .returned (.string s1) ∧ Below W.heap.size W w') := by
          refine hid fun W => ?_
          obtain ⟨n, rfl⟩ := Int.eq_ofNat_of_zero_le hs1
          rw [← HS1.out]; exact dec_any n W (by omega)
        have HD2 : Hid (∀ W, Calls Tryd.prog 9 #[.int .i64 p2] W fun e w' => e = .returned (.string s2) ∧ Below W.heap.size W w') := by
          refine hid fun W => ?_
          obtain ⟨n, rfl⟩ := Int.eq_ofNat_of_zero_le hs3
          rw [← HS2.out]; exact dec_any n W (by omega)
        have HSZ : Hid ((Pl.showT ⟨#[61]⟩ (ps.take (k + 1))).size ≤ 2000) := by
          refine hid ?_
          have := Pl.showT_size ⟨#[61]⟩ (ps.take (k + 1)) (fun p hp => HOK.out.2 p (List.mem_of_mem_take hp)) (by simp [ByteArray.size])
          simp at this; omega
        have HNX : Hid (∀ t' : ByteArray, (k = 0 → t' = t) → (0 < k → t' = t ++ ⟨#[44]⟩) → t' ++ s1 ++ ⟨#[61]⟩ ++ s2 = Pl.showT ⟨#[61]⟩ (ps.take (k + 1))) := by
          refine hid fun t' h0 h1 => ?_
          have hst : Pl.sideT ⟨#[61]⟩ (p1, p2) = s1 ++ ⟨#[61]⟩ ++ s2 := by unfold Pl.sideT; rw [HS1.out, HS2.out]
          rw [Pl.take_prS ps k (by omega), hpp.out]
          rcases Nat.eq_zero_or_pos k with hk0 | hk0
          · rw [h0 hk0, HT.out]
            subst hk0
            rw [List.take_zero, List.nil_append, Pl.showT_one, Pl.showT_nil, hst]
            apply Pl.ba_eq; simp [ByteArray.data_append]
          · rw [h1 hk0, HT.out, Pl.showT_snoc _ _ _ (by intro e; rw [List.take_eq_nil_iff] at e; rcases e with e | e; exact absurd e (by omega); rw [e] at hlen; simp at hlen; omega), hst]
            apply Pl.ba_eq; simp [ByteArray.data_append]
        rcases Nat.eq_zero_or_pos k with hk0 | hk0
        · have hnx := HNX.out t (fun _ => rfl) (by omega)
          have HNX' := hid hnx
          have hd : decide (0 < k) = false := by simp; omega
          have HK0 := hid hk0
          clear hk0 hnx
          go_wp2_with fail
          have i0 := in_cell xs x1
          have i1 := in_cell hbr c0
          have i2 := in_cell hbr c1
          have hne := in_some wr
          refine wp_region_in (by kernel_rfl) (by kernel_rfl) ?_
          repeat (go_big_quiet_step ((first | (go_at_call_of 9 (Value.int IntKind.i64 p1); exact in_call (HD1.out _)) | (go_at_call_of 9 (Value.int IntKind.i64 p2); exact in_call (HD2.out _)))))
          refine wpQuiet_nil ?_
          intro w5 hw'
          have hb5 := in_out hw'
          clear hw' i0 i1 i2 hne x0 x1 c0 c1
          go_wp2_with fail
          go_roundw
          case rel => exact ⟨k + 1, _, by omega, by go_num, rfl, by rw [HNX'.out]; exact HSZ.out, HNX', hb.trans (hb5.mono (by omega))⟩
          case measure => simp [intOf]; omega
        · have hnx := HNX.out (t ++ ⟨#[44]⟩) (by omega) (fun _ => rfl)
          have HNX' := hid hnx
          have h44 : (t ++ (⟨#[44]⟩ : ByteArray)).size ≤ 2001 := by rw [ByteArray.size_append]; show t.size + 1 ≤ 2001; omega
          clear hnx
          obtain ⟨t', HT'⟩ : ∃ t', Hid (t ++ ⟨#[44]⟩ = t') := ⟨_, hid rfl⟩
          go_wp2_with fail
          rw [HT'.out]
          rw [HT'.out] at HNX' h44
          have i0 := in_cell xs x1
          have i1 := in_cell hbr c0
          have i2 := in_cell hbr c1
          have hne := in_some wr
          refine wp_region_in (by kernel_rfl) (by kernel_rfl) ?_
          repeat (go_big_quiet_step ((first | (go_at_call_of 9 (Value.int IntKind.i64 p1); exact in_call (HD1.out _)) | (go_at_call_of 9 (Value.int IntKind.i64 p2); exact in_call (HD2.out _)))))
          refine wpQuiet_nil ?_
          intro w5 hw'
          have hb5 := in_out hw'
          clear hw' i0 i1 i2 hne x0 x1 c0 c1
          go_wp2_with fail
          go_roundw
          case rel => exact ⟨k + 1, _, by omega, by go_num, rfl, by rw [HNX'.out]; exact HSZ.out, HNX', hb.trans (hb5.mono (by omega))⟩
          case measure => simp [intOf]; omega
      · obtain rfl : k = len := by omega
        have HT' : Hid (t = Pl.showT ⟨#[61]⟩ ps) := hid (by have h := HT.out; rw [List.take_of_length_le (by omega)] at h; exact h)
        have HAT : Hid (Pl.adjText d ps = if d then ⟨#[33]⟩ ++ t else t) := hid (by unfold Pl.adjText; rw [if_pos HCC.out, HT'.out])
        clear HT HT'
        cases d
        · go_wp2_with fail
          go_ret2
          exact ⟨by rw [HAT.out]; rfl, hbb⟩
        · go_wp2_with fail
          go_ret2
          exact ⟨by rw [HAT.out]; rfl, hbb⟩
  · have HAT : Hid (Pl.adjText d ps = ⟨#[]⟩) := hid (by unfold Pl.adjText; rw [if_neg (by rw [HCC.out]; exact hc0)])
    have hd0 : (cc == 0) = false := by simpa using hc0
    go_enter Tryd.func5, Tryd.ntmps5
    go_wp2_with fail
    refine (AdjFault_any _ _ _ _ ps _ HI1.out).mono ?_
    rw [HCC.out]
    rintro e w1 ⟨rfl, hb1⟩
    go_wp2_with fail
    go_ret2
    exact ⟨by rw [HAT.out]; rfl, b1.trans (hb1.mono b1.size)⟩
end Go.Proofs.YtcdobhdbafpkiabDoor
