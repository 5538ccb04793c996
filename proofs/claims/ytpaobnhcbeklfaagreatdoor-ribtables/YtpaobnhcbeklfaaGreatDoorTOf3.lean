/-
  Contract: the document's table (TableOf).
-/
import Derived.Test.YtpaobnhcbeklfaaGreatDoorAll8
import Derived.Test.YtpaobnhcbeklfaaGreatDoorAll10
import Derived.Test.YtpaobnhcbeklfaaGreatDoorAll12
namespace Go.Proofs.YtpaobnhcbeklfaaGreatDoor
open Go.RowKit
set_option maxRecDepth 20000

theorem Pl.pairOk_small {x y : Int} (h1 : 0 ≤ x) (h2 : x ≤ 1000) (h3 : 0 ≤ y) (h4 : y ≤ 1000) : Pl.pairOk (x, y) := by
  exact Pl.pairOk_of ⟨by simpa using h1, by simp; omega, by simpa using h3, by simp; omega⟩
theorem bx5_set3 {w : World} {B : Nat} {c0 c1 c2 c3 c4 : Value} {T : TypeId} (h : w.heap[B]? = some (.cells #[c0, c1, c2, c3, c4] T)) (v : Value) : (w.setCell ⟨B, 3, none⟩ v).heap[B]? = some (.cells #[c0, c1, c2, v, c4] T) := by
  have := blockLt h
  simp [World.setCell, Array.getElem?_modify, h]
theorem bx5_set4 {w : World} {B : Nat} {c0 c1 c2 c3 c4 : Value} {T : TypeId} (h : w.heap[B]? = some (.cells #[c0, c1, c2, c3, c4] T)) (v : Value) : (w.setCell ⟨B, 4, none⟩ v).heap[B]? = some (.cells #[c0, c1, c2, c3, v] T) := by
  have := blockLt h
  simp [World.setCell, Array.getElem?_modify, h]
theorem consL {n : Nat} {xs : List Value} (h : xs.length = n + 1) : ∃ x ys, xs = x :: ys ∧ ys.length = n := by
  cases xs with
  | nil => simp at h
  | cons x r => exact ⟨x, r, rfl, by simpa using h⟩
theorem listT5 (xs : List Value) (h : xs.length = 5) : ∃ x0 x1 x2 x3 x4, xs = [x0, x1, x2, x3, x4] := by
  obtain ⟨x0, y0, rfl, h0⟩ := consL h
  obtain ⟨x1, y1, rfl, h1⟩ := consL h0
  obtain ⟨x2, y2, rfl, h2⟩ := consL h1
  obtain ⟨x3, y3, rfl, h3⟩ := consL h2
  obtain ⟨x4, y4, rfl, h4⟩ := consL h3
  obtain rfl := List.length_eq_zero_iff.1 h4
  exact ⟨x0, x1, x2, x3, x4, rfl⟩
theorem listT32 (xs : List Value) (h : xs.length = 32) : ∃ x0 x1 x2 x3 x4 x5 x6 x7 x8 x9 x10 x11 x12 x13 x14 x15 x16 x17 x18 x19 x20 x21 x22 x23 x24 x25 x26 x27 x28 x29 x30 x31, xs = [x0, x1, x2, x3, x4, x5, x6, x7, x8, x9, x10, x11, x12, x13, x14, x15, x16, x17, x18, x19, x20, x21, x22, x23, x24, x25, x26, x27, x28, x29, x30, x31] := by
  obtain ⟨x0, y0, rfl, h0⟩ := consL h
  obtain ⟨x1, y1, rfl, h1⟩ := consL h0
  obtain ⟨x2, y2, rfl, h2⟩ := consL h1
  obtain ⟨x3, y3, rfl, h3⟩ := consL h2
  obtain ⟨x4, y4, rfl, h4⟩ := consL h3
  obtain ⟨x5, y5, rfl, h5⟩ := consL h4
  obtain ⟨x6, y6, rfl, h6⟩ := consL h5
  obtain ⟨x7, y7, rfl, h7⟩ := consL h6
  obtain ⟨x8, y8, rfl, h8⟩ := consL h7
  obtain ⟨x9, y9, rfl, h9⟩ := consL h8
  obtain ⟨x10, y10, rfl, h10⟩ := consL h9
  obtain ⟨x11, y11, rfl, h11⟩ := consL h10
  obtain ⟨x12, y12, rfl, h12⟩ := consL h11
  obtain ⟨x13, y13, rfl, h13⟩ := consL h12
  obtain ⟨x14, y14, rfl, h14⟩ := consL h13
  obtain ⟨x15, y15, rfl, h15⟩ := consL h14
  obtain ⟨x16, y16, rfl, h16⟩ := consL h15
  obtain ⟨x17, y17, rfl, h17⟩ := consL h16
  obtain ⟨x18, y18, rfl, h18⟩ := consL h17
  obtain ⟨x19, y19, rfl, h19⟩ := consL h18
  obtain ⟨x20, y20, rfl, h20⟩ := consL h19
  obtain ⟨x21, y21, rfl, h21⟩ := consL h20
  obtain ⟨x22, y22, rfl, h22⟩ := consL h21
  obtain ⟨x23, y23, rfl, h23⟩ := consL h22
  obtain ⟨x24, y24, rfl, h24⟩ := consL h23
  obtain ⟨x25, y25, rfl, h25⟩ := consL h24
  obtain ⟨x26, y26, rfl, h26⟩ := consL h25
  obtain ⟨x27, y27, rfl, h27⟩ := consL h26
  obtain ⟨x28, y28, rfl, h28⟩ := consL h27
  obtain ⟨x29, y29, rfl, h29⟩ := consL h28
  obtain ⟨x30, y30, rfl, h30⟩ := consL h29
  obtain ⟨x31, y31, rfl, h31⟩ := consL h30
  obtain rfl := List.length_eq_zero_iff.1 h31
  exact ⟨x0, x1, x2, x3, x4, x5, x6, x7, x8, x9, x10, x11, x12, x13, x14, x15, x16, x17, x18, x19, x20, x21, x22, x23, x24, x25, x26, x27, x28, x29, x30, x31, rfl⟩
theorem listT33 (xs : List Value) (h : xs.length = 33) : ∃ x0 x1 x2 x3 x4 x5 x6 x7 x8 x9 x10 x11 x12 x13 x14 x15 x16 x17 x18 x19 x20 x21 x22 x23 x24 x25 x26 x27 x28 x29 x30 x31 x32, xs = [x0, x1, x2, x3, x4, x5, x6, x7, x8, x9, x10, x11, x12, x13, x14, x15, x16, x17, x18, x19, x20, x21, x22, x23, x24, x25, x26, x27, x28, x29, x30, x31, x32] := by
  obtain ⟨x0, y0, rfl, h0⟩ := consL h
  obtain ⟨x1, y1, rfl, h1⟩ := consL h0
  obtain ⟨x2, y2, rfl, h2⟩ := consL h1
  obtain ⟨x3, y3, rfl, h3⟩ := consL h2
  obtain ⟨x4, y4, rfl, h4⟩ := consL h3
  obtain ⟨x5, y5, rfl, h5⟩ := consL h4
  obtain ⟨x6, y6, rfl, h6⟩ := consL h5
  obtain ⟨x7, y7, rfl, h7⟩ := consL h6
  obtain ⟨x8, y8, rfl, h8⟩ := consL h7
  obtain ⟨x9, y9, rfl, h9⟩ := consL h8
  obtain ⟨x10, y10, rfl, h10⟩ := consL h9
  obtain ⟨x11, y11, rfl, h11⟩ := consL h10
  obtain ⟨x12, y12, rfl, h12⟩ := consL h11
  obtain ⟨x13, y13, rfl, h13⟩ := consL h12
  obtain ⟨x14, y14, rfl, h14⟩ := consL h13
  obtain ⟨x15, y15, rfl, h15⟩ := consL h14
  obtain ⟨x16, y16, rfl, h16⟩ := consL h15
  obtain ⟨x17, y17, rfl, h17⟩ := consL h16
  obtain ⟨x18, y18, rfl, h18⟩ := consL h17
  obtain ⟨x19, y19, rfl, h19⟩ := consL h18
  obtain ⟨x20, y20, rfl, h20⟩ := consL h19
  obtain ⟨x21, y21, rfl, h21⟩ := consL h20
  obtain ⟨x22, y22, rfl, h22⟩ := consL h21
  obtain ⟨x23, y23, rfl, h23⟩ := consL h22
  obtain ⟨x24, y24, rfl, h24⟩ := consL h23
  obtain ⟨x25, y25, rfl, h25⟩ := consL h24
  obtain ⟨x26, y26, rfl, h26⟩ := consL h25
  obtain ⟨x27, y27, rfl, h27⟩ := consL h26
  obtain ⟨x28, y28, rfl, h28⟩ := consL h27
  obtain ⟨x29, y29, rfl, h29⟩ := consL h28
  obtain ⟨x30, y30, rfl, h30⟩ := consL h29
  obtain ⟨x31, y31, rfl, h31⟩ := consL h30
  obtain ⟨x32, y32, rfl, h32⟩ := consL h31
  obtain rfl := List.length_eq_zero_iff.1 h32
  exact ⟨x0, x1, x2, x3, x4, x5, x6, x7, x8, x9, x10, x11, x12, x13, x14, x15, x16, x17, x18, x19, x20, x21, x22, x23, x24, x25, x26, x27, x28, x29, x30, x31, x32, rfl⟩

set_option maxHeartbeats 16000000 in
theorem TableOf_any (a : Option Addr) (len cap : Nat) (es : List Pl.Ent) (f : Int) (w : World) (h : IsEnts w a len cap es) :
    Calls Tryz.prog 5 #[.slice a len cap, .int .i64 f] w fun e w' => ∃ v hs, e = .returned (.tuple #[v, .int .i64 (Pl.wayC es f)]) ∧ OwnTb w' w.heap.size v hs (Pl.tabA es f) ∧ Below w.heap.size w w' := by
  have HE := hid h
  clear h
  obtain ⟨cd, HCD⟩ : ∃ x, Hid (Pl.wayC es f = x) := ⟨_, hid rfl⟩
  rw [HCD.out]
  go_enter Tryz.func5, Tryz.ntmps5
  go_wp2_with fail
  refine (WaysOf_any a len cap es f w HE.out).mono ?_
  rw [HCD.out]
  rintro e w2 ⟨v2, ts, rfl, ho2, hf2, hb2⟩
  have HB2 := hid hb2
  by_cases hcd : cd = 0
  · subst hcd
    have HFT : Hid (Pl.fault es = 0) := hid (by
      have := HCD.out
      unfold Pl.wayC at this
      split at this
      · rename_i h; exact absurd this h
      · rename_i h; exact Classical.not_not.1 h)
    have hfr : 0 ≤ f ∧ f ≤ 11 := by
      have := HCD.out
      unfold Pl.wayC at this
      split at this
      · rename_i h; exact absurd this h
      · split at this
        · assumption
        · cases this
    obtain ⟨n, rfl⟩ : ∃ n : Nat, f = n := ⟨f.toNat, by omega⟩
    have hn : n < 12 := by omega
    have HTA : Hid (Pl.tabA es (n : Int) = Pl.rA es n 256) := hid (by unfold Pl.tabA; rw [HCD.out, if_pos rfl, Int.toNat_natCast, Pl.rA_all es hn])
    obtain ⟨g2, c2, rfl, hc2, hm2, ha2⟩ := ho2.at12 (hf2.trans (Pl.ways_same es _).symm) HCD.out
    unfold maxLen at hm2
    have HW2 := hid ha2
    have HE2 := hid (HE.out.below hb2)
    have hg2 := ha2.1
    clear ho2 hf2 hb2 ha2 hfr
    go_wp2_with fail
    go_loopw [8, 9] (fun v i wr => ∃ (k : Nat) (hs : List Pl.RH), k ≤ 256 ∧ i = .int .i64 k ∧ Hid (OwnTb wr w2.heap.size v hs (Pl.rA es n k)) ∧ Hid (Below w2.heap.size w2 wr)) (fun _ i _ => 256 - (intOf i).toNat)
    case atStart => exact ⟨0, [], by omega, rfl, hid (OwnTb.nil _ _), hid (Below.refl _ _)⟩
    case round =>
      obtain ⟨k, hs, hk, rfl, HO, HB⟩ := hrel
      by_cases hlt : k < 256
      · have hltd : decide ((k : Int) ≤ 255) = true := by simp; omega
        go_wp2_with fail
        go_loopw [8, 10] (fun vl i wr => ∃ (b : Nat) (v : Value) (hs : List Pl.RH), v = vl ∧ b ≤ 9 ∧ i = .int .i64 b ∧ Hid (OwnTb wr w2.heap.size v hs (Pl.rA es n k ++ Pl.rB es n k b)) ∧ Hid (Below w2.heap.size w2 wr)) (fun _ i _ => 9 - (intOf i).toNat)
        case atStart => exact ⟨0, _, hs, rfl, by omega, rfl, hid (by rw [show Pl.rB es n k 0 = [] from rfl, List.append_nil]; exact HO.out), HB⟩
        case round =>
          clear HO HB hs
          obtain ⟨b, v, hs, hvl, hbk, rfl, HO, HB⟩ := hrel
          subst hvl
          have hzr := HB.out.size
          by_cases hblt : b < 9
          · have hbd : decide ((b : Int) ≤ 8) = true := by simp; omega
            obtain ⟨sp, HSP⟩ : ∃ s, Hid (Pl.span (b : Int) = s) := ⟨_, hid rfl⟩
            have hsp := Pl.span_pos (b := (b : Int)) (by omega)
            have HCS := hid (fun W => spanOf_any (b : Int) W (by omega))
            rw [HSP.out] at hsp HCS
            have htm : (k : Int).tmod sp = (k : Int) % sp := Int.tmod_eq_emod_of_nonneg (by omega)
            have hs0 : (sp == 0) = false := by simp; omega
            obtain ⟨rm, HRM⟩ : ∃ c, Hid ((k : Int) % sp = c) := ⟨_, hid rfl⟩
            rw [HRM.out] at htm
            have HRX : Hid (Pl.rX es n k b = if rm = 0 then (Pl.rRt (Pl.wC es n) (Pl.wH es n) (Pl.tP es) n ((k : Int), (b : Int))).toList else []) := hid (by unfold Pl.rX; rw [HSP.out, HRM.out])
            have HST : Hid (Pl.rA es n k ++ Pl.rB es n k (b + 1) = (Pl.rA es n k ++ Pl.rB es n k b) ++ Pl.rX es n k b) := hid (by rw [List.append_assoc]; rfl)
            obtain ⟨W1, HW1⟩ : ∃ W1, Hid (W1 = wr.alloc (.cells #[.int .i64 k, .int .i64 b] 38)) := ⟨_, hid rfl⟩
            have HBX : Hid (W1.heap[wr.heap.size]? = some (.cells #[.int .i64 k, .int .i64 b] 38)) := hid (by rw [HW1.out]; exact heapNewZ wr _)
            have HB1 : Hid (Below wr.heap.size wr W1) := hid (by rw [HW1.out]; exact (Below.refl _ _).alloc (Nat.le_refl _) _)
            have HB21 : Hid (Below w2.heap.size w2 W1) := hid (HB.out.trans (HB1.out.mono hzr))
            by_cases hrm : rm = 0
            · have hrmb : (rm != 0) = false := by simp [hrm]
              go_wp2_with (go_at_call 11; refine (HCS.out _).mono ?_; rintro e w' ⟨rfl, hw'⟩; rw [hw']; clear hw' w')
              rw [← HW1.out]
              obtain ⟨P0, P1, hpl⟩ : Hid (W1.cell? ⟨wr.heap.size, 0, none⟩ = some (.int .i64 k)) ∧ Hid (W1.cell? ⟨wr.heap.size, 1, none⟩ = some (.int .i64 b)) ∧ wr.heap.size < W1.heap.size := by
                have := adjAt_cells HBX.out
                exact ⟨hid this.1, hid this.2.1, this.2.2.2.2⟩
              obtain ⟨R, HR⟩ : ∃ R, Hid (decide (((k : Int), (b : Int)) ∈ Pl.tP es n) = R) := ⟨_, hid rfl⟩
              refine tof13 (n := n) (k := k) (b := b) (pb := wr.heap.size) (R := R) rfl rfl rfl rfl (HE2.out.below HB21.out) HFT.out hn hpl P0.out P1.out HR.out ?_ _ (by kernel_rfl)
              · intro xs Wq hxl hx hbq
                rename_i K hK
                obtain ⟨x0, x1, x2, x3, x4, rfl⟩ := listT5 xs hxl
                have hx : x4 = .bool R := hx
                subst hx
                have HBq := hid hbq
                clear hbq hxl
                rw [setFrom_spl]; dsimp only [spl]
                refine hK _ Wq ?_
                have HB2q : Hid (Below w2.heap.size w2 Wq) := hid (HB21.out.trans (HBq.out.mono HB21.out.size))
                have HOq := hid ((HO.out.below HB1.out).below HBq.out)
                have p0 := (HBq.out.cell (p := ⟨wr.heap.size, 0, none⟩) hpl).trans P0.out
                have p1 := (HBq.out.cell (p := ⟨wr.heap.size, 1, none⟩) hpl).trans P1.out
                have hplq : wr.heap.size < Wq.heap.size := Nat.lt_of_lt_of_le hpl HBq.out.size
                have hsq := HB2q.out.size
                have HPOK : Hid (Pl.pairOk ((k : Int), (b : Int))) := hid (Pl.pairOk_small (by omega) (by omega) (by omega) (by omega))
                have HLEN : Hid (hs.length ≤ 4000) := hid (by
                  rw [HO.out.2.1, List.length_append]
                  have := (Pl.rA_srt (es := es) hn k).2
                  have := (Pl.rB_srt (es := es) hn k b).2
                  omega)
                cases R with
                | true =>
                  have HXX : Hid (Pl.rX es n k b = [⟨((k : Int), (b : Int)), true, 0, []⟩]) := hid (by
                    rw [HRX.out, if_pos hrm]
                    unfold Pl.rRt
                    rw [if_pos (of_decide_eq_true HR.out)]
                    rfl)
                  go_wp2_with (at_builtin; refine append_rt rfl (.tmp 47) (.tmp 50) rfl w2.heap.size v hs ⟨((k : Int), (b : Int)), true, 0, none, 0, 0⟩ rfl HOq.out.1 hsq rfl (by have := HLEN.out; omega) ?_; intro v5 w5 ho5 hg5 hb5; have HO5 := hid (HOq.out.snoc (r := ⟨((k : Int), (b : Int)), true, 0, []⟩) ⟨rfl, rfl, rfl, OwnZ.nil _ _, HPOK.out⟩ ho5 hg5); have HB5 := hid hb5; clear ho5 hg5 hb5)
                  go_roundw
                  case rel => exact ⟨b + 1, _, _, rfl, by omega, by go_num, hid (by rw [HST.out, HXX.out]; exact HO5.out), hid (HB2q.out.trans HB5.out)⟩
                  case measure => simp [intOf]; omega
                | false =>
                  have HRRT : Hid (Pl.rX es n k b = if Pl.rMin (Pl.wC es n) (Pl.tP es) n ((k : Int), (b : Int)) 12 < 0 then [] else [⟨((k : Int), (b : Int)), false, Pl.rMin (Pl.wC es n) (Pl.tP es) n ((k : Int), (b : Int)) 12, Pl.hopsL (fun h => Pl.rThere (Pl.wC es n) (Pl.wH es n) (Pl.tP es) n ((k : Int), (b : Int)) (Pl.rMin (Pl.wC es n) (Pl.tP es) n ((k : Int), (b : Int)) 12) (h : Int) 12) 12⟩]) := hid (by
                    rw [HRX.out, if_pos hrm]
                    unfold Pl.rRt
                    rw [if_neg (of_decide_eq_false HR.out)]
                    split
                    · rfl
                    · rfl)
                  go_wp2_with fail
                  generalize wr.heap.size = pb at *
                  go_loopw [13] (fun i wj => ∃ j : Nat, j ≤ 12 ∧ i = .int .i64 j ∧ Hid (wj.heap[Wq.heap.size]? = some (.cells #[.int .i64 k, .int .i64 b, .bool false, .int .i64 (Pl.rMin (Pl.wC es n) (Pl.tP es) n ((k : Int), (b : Int)) j), .slice none 0 0] 41)) ∧ Hid (Below Wq.heap.size Wq wj)) (fun i _ => 12 - (intOf i).toNat)
                  case atStart => exact ⟨0, by omega, rfl, hid (heapNewZ _ _), hid ((Below.refl _ _).alloc (Nat.le_refl _) _)⟩
                  case round =>
                    obtain ⟨j, hj, rfl, HX, HBj⟩ := hrel
                    rename World => wj
                    have HBj2 : Hid (Below w2.heap.size w2 wj) := hid (HB2q.out.trans (HBj.out.mono hsq))
                    obtain ⟨mm, HMM⟩ : ∃ m, Hid (Pl.rMin (Pl.wC es n) (Pl.tP es) n ((k : Int), (b : Int)) j = m) := ⟨_, hid rfl⟩
                    rw [HMM.out] at HX
                    obtain ⟨⟨_, _, _, r3, _⟩, rf, hrbj⟩ := bx5 HX.out
                    have R3 := hid r3
                    have RF := hid rf
                    have hg2j : g2 < wj.heap.size := Nat.lt_of_lt_of_le hg2 HBj2.out.size
                    have hplj : pb < wj.heap.size := Nat.lt_of_lt_of_le hplq HBj.out.size
                    have P0j := hid ((HBj.out.cell (p := ⟨pb, 0, none⟩) hplq).trans p0)
                    have P1j := hid ((HBj.out.cell (p := ⟨pb, 1, none⟩) hplq).trans p1)
                    by_cases hj12n : j < 12
                    · have hj12 : (j : Int) < 12 := by omega
                      obtain ⟨c, HC⟩ : ∃ c, Hid (Pl.wC es n j = c) := ⟨_, hid rfl⟩
                      have Z0 : Hid (wj.cell? ⟨g2, j * 2, none⟩ = some (.int .i64 c)) := hid (by rw [← HC.out]; exact (HBj2.out.cell (p := ⟨g2, j * 2, none⟩) hg2).trans (HW2.out.2 j hj12n).1)
                      have HNX : Hid (Pl.rMin (Pl.wC es n) (Pl.tP es) n ((k : Int), (b : Int)) (j + 1) = if j ≠ n ∧ 0 ≤ c ∧ ((k : Int), (b : Int)) ∈ Pl.tP es j ∧ (mm < 0 ∨ c < mm) then c else mm) := hid (by rw [← HMM.out, ← HC.out]; rfl)
                      clear r3 rf
                      by_cases hjn : j = n
                      · have hjnb : ((j : Int) != (n : Int)) = false := by simp [hjn]
                        have HS : Hid (Pl.rMin (Pl.wC es n) (Pl.tP es) n ((k : Int), (b : Int)) (j + 1) = mm) := hid (by rw [HNX.out, if_neg (fun h => h.1 hjn)])
                        clear hjn
                        go_wp2_with fail
                        go_quiet (fail)
                        go_wp2_with fail
                        go_roundw
                        case rel => exact ⟨j + 1, by omega, by go_num, hid (by rw [HS.out]; exact HX.out), hid (below_drew HBj.out _)⟩
                        case measure => simp [intOf]; omega
                      · by_cases hc0 : 0 ≤ c
                        · obtain ⟨b3, HB3⟩ : ∃ x, Hid (decide (((k : Int), (b : Int)) ∈ Pl.tP es j) = x) := ⟨_, hid rfl⟩
                          obtain ⟨b4, hb4⟩ : ∃ x, decide (mm < 0) = x := ⟨_, rfl⟩
                          obtain ⟨b5, hb5⟩ : ∃ x, decide (c < mm) = x := ⟨_, rfl⟩
                          have HS : Hid (Pl.rMin (Pl.wC es n) (Pl.tP es) n ((k : Int), (b : Int)) (j + 1) = if (b3 && (b4 || b5)) = true then c else mm) := hid (by
                            rw [HNX.out, ← HB3.out, ← hb4, ← hb5]
                            congr 1
                            simp [hjn, hc0])
                          go_wp2_with fail
                          refine tof19 (n := n) (k := k) (b := b) (pb := pb) (j := j) (g2 := g2) (c2 := c2) (rb := Wq.heap.size) (c := c) (mm := mm) (b3 := b3) (b4 := b4) (b5 := b5) rfl rfl rfl rfl rfl rfl rfl (HE2.out.below HBj2.out) HFT.out hplj hg2j hrbj P0j.out P1j.out R3.out hj12 (by simp; omega) Z0.out hc0 HB3.out hb4 hb5 ?_ _ (by kernel_rfl)
                          · intro xs W hxl hx hbw
                            rename_i K hK
                            obtain ⟨x0, x1, x2, x3, x4, x5, x6, x7, x8, x9, x10, x11, x12, x13, x14, x15, x16, x17, x18, x19, x20, x21, x22, x23, x24, x25, x26, x27, x28, x29, x30, x31, x32, rfl⟩ := listT33 xs hxl
                            have hx : x32 = .bool (b3 && (b4 || b5)) := hx
                            subst hx
                            have HBW := hid hbw
                            clear hbw hxl
                            rw [setFrom_spl]; dsimp only [spl]
                            refine hK _ W ?_
                            have HXW := hid ((HBW.out.block _ hrbj).trans HX.out)
                            have HBW2 := hid (HBj.out.trans (HBW.out.mono HBj.out.size))
                            generalize (b3 && (b4 || b5)) = res at *
                            cases res with
                            | true =>
                              have z0 := (HBW.out.cell (p := ⟨g2, j * 2, none⟩) hg2j).trans Z0.out
                              obtain ⟨⟨_, _, _, r3, _⟩, rf, hrbw⟩ := bx5 HXW.out
                              clear hb4 hb5 hc0
                              go_wp2_with fail
                              go_roundw
                              case rel => exact ⟨j + 1, by omega, by go_num, hid (by rw [HS.out]; exact bx5_set3 HXW.out _), hid (HBW2.out.setCell (p := ⟨Wq.heap.size, 3, none⟩) (Nat.le_refl _) _)⟩
                              case measure => simp [intOf]; omega
                            | false =>
                              clear hb4 hb5 hc0
                              go_wp2_with fail
                              go_roundw
                              case rel => exact ⟨j + 1, by omega, by go_num, hid (by rw [HS.out]; exact HXW.out), HBW2⟩
                              case measure => simp [intOf]; omega
                        · have hc0b : decide (0 ≤ c) = false := by simpa using hc0
                          have hjnb : ((j : Int) != (n : Int)) = true := by simp; omega
                          have z0 := Z0.out
                          have HS : Hid (Pl.rMin (Pl.wC es n) (Pl.tP es) n ((k : Int), (b : Int)) (j + 1) = mm) := hid (by rw [HNX.out, if_neg (fun h => hc0 h.2.1)])
                          clear hc0 hjn
                          go_wp2_with fail
                          go_quiet (fail)
                          go_wp2_with fail
                          go_roundw
                          case rel => exact ⟨j + 1, by omega, by go_num, hid (by rw [HS.out]; exact HX.out), hid (below_drew HBj.out _)⟩
                          case measure => simp [intOf]; omega
                    · obtain rfl : j = 12 := by omega
                      obtain ⟨HF, HHF⟩ : ∃ g : Nat → Bool, Hid (∀ h : Nat, Pl.rThere (Pl.wC es n) (Pl.wH es n) (Pl.tP es) n ((k : Int), (b : Int)) mm (h : Int) 12 = g h) := ⟨fun h => Pl.rThere (Pl.wC es n) (Pl.wH es n) (Pl.tP es) n ((k : Int), (b : Int)) mm (h : Int) 12, hid fun _ => rfl⟩
                      have HEQ : Hid (Pl.rX es n k b = if mm < 0 then [] else [⟨((k : Int), (b : Int)), false, mm, Pl.hopsL HF 12⟩]) := hid (by rw [HRRT.out, HMM.out, show (fun h : Nat => Pl.rThere (Pl.wC es n) (Pl.wH es n) (Pl.tP es) n ((k : Int), (b : Int)) mm (h : Int) 12) = HF from funext HHF.out])
                      clear r3 rf
                      go_wp2_with fail
                      go_loopw [14] (fun i wh => ∃ (hh : Nat) (hv : Value), hh ≤ 12 ∧ i = .int .i64 hh ∧ Hid (mm < 0 → hh = 0) ∧ Hid (wh.heap[Wq.heap.size]? = some (.cells #[.int .i64 k, .int .i64 b, .bool false, .int .i64 mm, hv] 41)) ∧ Hid (OwnI wh (Wq.heap.size + 1) hv (Pl.hopsL HF hh)) ∧ Hid (Below Wq.heap.size Wq wh)) (fun i _ => 12 - (intOf i).toNat)
                      case atStart => exact ⟨0, _, by omega, rfl, hid (fun _ => rfl), HX, hid (OwnI.nil _ _), HBj⟩
                      case round =>
                        clear HX HBj HBj2 R3 RF P0j P1j hg2j hplj hrbj HMM HRRT
                        obtain ⟨hh, hv, hhl, rfl, HNEG, HXh, HI, HBh⟩ := hrel
                        rename World => wh
                        have HBh2 : Hid (Below w2.heap.size w2 wh) := hid (HB2q.out.trans (HBh.out.mono hsq))
                        have hlen := Pl.hopsL_len HF hh
                        obtain ⟨a3, cap3, rfl⟩ := HI.out.slice
                        obtain ⟨n3, HN3⟩ : ∃ n, Hid ((Pl.hopsL HF hh).length = n) := ⟨_, hid rfl⟩
                        rw [HN3.out] at HXh HI hlen
                        obtain ⟨⟨y0, y1, y2, y3, y4⟩, yf, hyl⟩ := bx5 HXh.out
                        have hsh := HBh.out.size
                        by_cases hmm : mm < 0
                        · obtain rfl : hh = 0 := HNEG.out hmm
                          have hmmb : decide (0 ≤ mm) = false := by simp; omega
                          have HEQ0 : Hid (Pl.rX es n k b = []) := hid (by rw [HEQ.out, if_pos hmm])
                          clear hmm
                          go_wp2_with fail
                          go_roundw
                          case rel => exact ⟨b + 1, _, hs, rfl, by omega, by go_num, hid (by rw [HST.out, HEQ0.out, List.append_nil]; exact HOq.out.below HBh.out), HBh2⟩
                          case measure => simp [intOf]; omega
                        · have hmmb : decide (0 ≤ mm) = true := by simp; omega
                          by_cases hh12 : hh < 12
                          · have hh12' : (hh : Int) < 12 := by omega
                            clear y0 y1 y2 y4
                            go_wp2_with fail
                            go_loopw [15, 16] (fun t i wj => ∃ (j : Nat) (tb : Bool), j ≤ 12 ∧ t = .bool tb ∧ i = .int .i64 j ∧ Hid (Pl.rThere (Pl.wC es n) (Pl.wH es n) (Pl.tP es) n ((k : Int), (b : Int)) mm (hh : Int) j = tb) ∧ Hid (Below wh.heap.size wh wj)) (fun _ i _ => 12 - (intOf i).toNat)
                            case atStart => exact ⟨0, false, by omega, rfl, rfl, hid rfl, hid (Below.refl _ _)⟩
                            case round =>
                              obtain ⟨j, tb, hj, rfl, rfl, HTB, HBz⟩ := hrel
                              rename World => wj
                              have HBjq : Hid (Below Wq.heap.size Wq wj) := hid (HBh.out.trans (HBz.out.mono hsh))
                              have HBj2 : Hid (Below w2.heap.size w2 wj) := hid (HBh2.out.trans (HBz.out.mono HBh2.out.size))
                              have HXj := hid ((HBz.out.block _ hyl).trans HXh.out)
                              obtain ⟨⟨_, _, _, r3, r4⟩, rf, hrbj⟩ := bx5 HXj.out
                              have R3 := hid r3
                              have hg2j : g2 < wj.heap.size := Nat.lt_of_lt_of_le hg2 HBj2.out.size
                              have hplj : pb < wj.heap.size := Nat.lt_of_lt_of_le hplq HBjq.out.size
                              have P0j := hid ((HBjq.out.cell (p := ⟨pb, 0, none⟩) hplq).trans p0)
                              have P1j := hid ((HBjq.out.cell (p := ⟨pb, 1, none⟩) hplq).trans p1)
                              by_cases hj12n : j < 12
                              · have hj12 : (j : Int) < 12 := by omega
                                obtain ⟨c, HC⟩ : ∃ c, Hid (Pl.wC es n j = c) := ⟨_, hid rfl⟩
                                have Z0 : Hid (wj.cell? ⟨g2, j * 2, none⟩ = some (.int .i64 c)) := hid (by rw [← HC.out]; exact (HBj2.out.cell (p := ⟨g2, j * 2, none⟩) hg2).trans (HW2.out.2 j hj12n).1)
                                have HNX : Hid (Pl.rThere (Pl.wC es n) (Pl.wH es n) (Pl.tP es) n ((k : Int), (b : Int)) mm (hh : Int) (j + 1) = (tb || (decide (j ≠ n) && decide (c = mm) && decide (((k : Int), (b : Int)) ∈ Pl.tP es j) && decide ((hh : Int) ∈ Pl.wH es n j)))) := hid (by rw [← HTB.out, ← HC.out]; rfl)
                                clear r4 rf
                                cases tb with
                                | true =>
                                  have HS : Hid (Pl.rThere (Pl.wC es n) (Pl.wH es n) (Pl.tP es) n ((k : Int), (b : Int)) mm (hh : Int) (j + 1) = true) := hid (by rw [HNX.out]; rfl)
                                  go_wp2_with fail
                                  go_quiet (fail)
                                  go_wp2_with fail
                                  go_roundw
                                  case rel => exact ⟨j + 1, true, by omega, rfl, by go_num, HS, hid (below_drew HBz.out _)⟩
                                  case measure => simp [intOf]; omega
                                | false =>
                                  by_cases hjn : j = n
                                  · have hjnb : ((j : Int) != (n : Int)) = false := by simp [hjn]
                                    have HS : Hid (Pl.rThere (Pl.wC es n) (Pl.wH es n) (Pl.tP es) n ((k : Int), (b : Int)) mm (hh : Int) (j + 1) = false) := hid (by rw [HNX.out]; simp [hjn])
                                    clear hjn
                                    go_wp2_with fail
                                    go_quiet (fail)
                                    go_wp2_with fail
                                    go_roundw
                                    case rel => exact ⟨j + 1, false, by omega, rfl, by go_num, HS, hid (below_drew HBz.out _)⟩
                                    case measure => simp [intOf]; omega
                                  · by_cases hcm : mm = c
                                    · subst hcm
                                      obtain ⟨b3, HB3⟩ : ∃ x, Hid (decide (((k : Int), (b : Int)) ∈ Pl.tP es j) = x) := ⟨_, hid rfl⟩
                                      obtain ⟨b4, HB4⟩ : ∃ x, Hid (decide ((hh : Int) ∈ Pl.wH es n j) = x) := ⟨_, hid rfl⟩
                                      have HS : Hid (Pl.rThere (Pl.wC es n) (Pl.wH es n) (Pl.tP es) n ((k : Int), (b : Int)) mm (hh : Int) (j + 1) = (b3 && b4)) := hid (by rw [HNX.out, HB3.out, HB4.out]; simp [hjn])
                                      obtain ⟨ah, ch, Z1', HZI'⟩ := (HW2.out.2 j hj12n).2
                                      obtain ⟨hl, HHL⟩ : ∃ m, Hid ((Pl.wH es n j).length = m) := ⟨_, hid rfl⟩
                                      rw [HHL.out] at Z1' HZI'
                                      have Z1 := hid ((HBj2.out.cell (p := ⟨g2, j * 2 + 1, none⟩) hg2).trans Z1')
                                      have HHI := hid (HZI'.below HBj2.out)
                                      clear Z1' HZI'
                                      go_wp2_with fail
                                      refine tof28 (n := n) (k := k) (b := b) (pb := pb) (j := j) (g2 := g2) (c2 := c2) (rb := Wq.heap.size) (hh := hh) (hl := hl) (ch := ch) (ah := ah) (mm := mm) (b3 := b3) (b4 := b4) rfl rfl rfl rfl rfl rfl rfl rfl rfl (HE2.out.below HBj2.out) HFT.out hplj hg2j hrbj P0j.out P1j.out R3.out hj12 (by simp; omega) Z0.out Z1.out HHI.out HB3.out HB4.out ?_ _ (by kernel_rfl)
                                      · intro xs W hxl hTr hbw
                                        rename_i K hK
                                        obtain ⟨x0, x1, x2, x3, x4, x5, x6, x7, x8, x9, x10, x11, x12, x13, x14, x15, x16, x17, x18, x19, x20, x21, x22, x23, x24, x25, x26, x27, x28, x29, x30, x31, rfl⟩ := listT32 xs hxl
                                        have HBW := hid hbw
                                        clear hbw hxl hTr
                                        simp only [List.setIfInBounds_toArray, List.set_cons_succ, List.set_cons_zero]; rw [setFrom_spl]; dsimp only [spl]
                                        refine hK _ W ?_
                                        go_wp2_with fail
                                        go_roundw
                                        case rel => exact ⟨j + 1, _, by omega, rfl, by go_num, HS, hid (HBz.out.trans (HBW.out.mono HBz.out.size))⟩
                                        case measure => simp [intOf]; omega
                                    · have hcmb : (c == mm) = false := by simp; omega
                                      have hjnb : ((j : Int) != (n : Int)) = true := by simp; omega
                                      have z0 := Z0.out
                                      have HS : Hid (Pl.rThere (Pl.wC es n) (Pl.wH es n) (Pl.tP es) n ((k : Int), (b : Int)) mm (hh : Int) (j + 1) = false) := hid (by rw [HNX.out, show decide (c = mm) = false by simp; omega]; simp)
                                      clear hcm hjn
                                      go_wp2_with fail
                                      go_quiet (fail)
                                      go_wp2_with fail
                                      go_roundw
                                      case rel => exact ⟨j + 1, false, by omega, rfl, by go_num, HS, hid (below_drew HBz.out _)⟩
                                      case measure => simp [intOf]; omega
                              · obtain rfl : j = 12 := by omega
                                have HFB : Hid (HF hh = tb) := hid (by rw [← HHF.out, HTB.out])
                                have HIj := hid (HI.out.below HBz.out)
                                have hszj := HBz.out.size
                                cases tb with
                                | true =>
                                  have HNXT := hid (Pl.hopsL_on HFB.out)
                                  clear r3
                                  go_wp2_with (at_builtin; refine append_intT Tryz.underlying32 rfl (.tmp 144) (.tmp 146) rfl (Wq.heap.size + 1) (.slice a3 n3 cap3) (Pl.hopsL HF hh) hh rfl HIj.out (by omega) rfl (by have := HN3.out; omega) ?_; intro v5 w5 ho5 hb5; obtain ⟨a5, cap5, rfl⟩ := ho5.slice; obtain ⟨n5, HN5⟩ : ∃ n, Hid ((Pl.hopsL HF hh ++ [(hh : Int)]).length = n) := ⟨_, hid rfl⟩; rw [HN5.out] at ho5; have HO5 := hid ho5; have HB5 := hid hb5; have h5 := (hb5.block Wq.heap.size (Nat.lt_succ_self _)).trans HXj.out; obtain ⟨⟨_, _, _, _, k4⟩, kf, hkl⟩ := bx5 h5; have H5 := hid h5; rw [HN5.out]; clear ho5 hb5 h5)
                                  go_roundw
                                  case rel =>
                                    repeat apply Exists.intro
                                    refine ⟨⟨hh + 1, .slice a5 n5 cap5, by omega, by go_num, hid (fun h => absurd h (by omega)), hid (bx5_set4 H5.out _), hid ?_, hid ((HBjq.out.trans (HB5.out.mono (Nat.le_succ _))).setCell (p := ⟨Wq.heap.size, 4, none⟩) (Nat.le_refl _) _)⟩, rfl⟩
                                    rw [HNXT.out]
                                    exact ownsRow_setCell_below HO5.out (Nat.lt_succ_self _) _
                                  case measure => simp [intOf]; omega
                                | false =>
                                  have HNXT := hid (Pl.hopsL_off HFB.out)
                                  go_wp2_with fail
                                  go_roundw
                                  case rel =>
                                    repeat apply Exists.intro
                                    exact ⟨⟨hh + 1, .slice a3 n3 cap3, by omega, by go_num, hid (fun h => absurd h (by omega)), HXj, hid (by rw [HNXT.out]; exact HIj.out), HBjq⟩, rfl⟩
                                  case measure => simp [intOf]; omega
                          · obtain rfl : hh = 12 := by omega
                            have HEQ1 : Hid (Pl.rX es n k b = [⟨((k : Int), (b : Int)), false, mm, Pl.hopsL HF 12⟩]) := hid (by rw [HEQ.out, if_neg hmm])
                            have HOh := hid (HOq.out.below HBh.out)
                            have hs2h := HBh2.out.size
                            have HIZ : Hid (OwnZ wh w2.heap.size (.slice a3 n3 cap3) (Pl.hopsL HF 12)) := hid (OwnZ.mono (show OwnZ wh (Wq.heap.size + 1) _ _ from HI.out) (by omega))
                            clear hmm
                            go_wp2_with (at_builtin; refine append_rt rfl (.tmp 152) (.tmp 154) rfl w2.heap.size v hs ⟨((k : Int), (b : Int)), false, mm, a3, n3, cap3⟩ rfl HOh.out.1 hs2h rfl (by have := HLEN.out; omega) ?_; intro v5 w5 ho5 hg5 hb5; have HO5 := hid (HOh.out.snoc (r := ⟨((k : Int), (b : Int)), false, mm, Pl.hopsL HF 12⟩) ⟨rfl, rfl, rfl, HIZ.out, HPOK.out⟩ ho5 hg5); have HB5 := hid hb5; clear ho5 hg5 hb5)
                            go_roundw
                            case rel => exact ⟨b + 1, _, _, rfl, by omega, by go_num, hid (by rw [HST.out, HEQ1.out]; exact HO5.out), hid (HBh2.out.trans HB5.out)⟩
                            case measure => simp [intOf]; omega
            · have hrmb : (rm != 0) = true := by simpa using hrm
              go_wp2_with (go_at_call 11; refine (HCS.out _).mono ?_; rintro e w' ⟨rfl, hw'⟩; rw [hw']; clear hw' w')
              rw [← HW1.out]
              go_roundw
              case rel => exact ⟨b + 1, _, hs, rfl, by omega, by go_num, hid (by rw [HST.out, HRX.out, if_neg hrm, List.append_nil]; exact HO.out.below HB1.out), HB21⟩
              case measure => simp [intOf]; omega
          · obtain rfl : b = 9 := by omega
            go_wp2_with fail
            go_roundw
            case rel => exact ⟨k + 1, hs, by omega, by go_num, HO, HB⟩
            case measure => simp [intOf]; omega
      · obtain rfl : k = 256 := by omega
        go_wp2_with fail
        refine bodyPost_ret (results_tmp2 rfl _ _ _) rfl ⟨_, hs, ret_two rfl rfl, by rw [HTA.out]; exact HO.out.mono HB2.out.size, HB2.out.trans (HB.out.mono HB2.out.size)⟩
  · have HTA : Hid (Pl.tabA es f = []) := hid (by unfold Pl.tabA; rw [HCD.out, if_neg hcd])
    have hcdb : (cd != 0) = true := by simpa using hcd
    go_wp2_with fail
    refine bodyPost_ret (results_tmp2 rfl _ _ _) rfl ⟨_, [], ret_two rfl rfl, by rw [HTA.out]; exact OwnTb.nil _ _, HB2.out⟩
end Go.Proofs.YtpaobnhcbeklfaaGreatDoor
