/-
  Contracts: the place of a prefix in a table in order: the closure, the search, find.
-/
import Derived.Test.YtcdobhdbafpkiaeRibM
import Derived.Test.YtcdobhdbafpkiaeRibQ
import Derived.Test.YtcdobhdbafpkiaePfx4
namespace Go.Proofs.Ytcdobhdbafpkiae
open Go.RowKit

/-- prefixes of routes in memory -/
def Pl.hp (hs : List Pl.RH) : List (Int × Int) := hs.map Pl.RH.p
theorem Pl.pr_hp (hs : List Pl.RH) (i : Nat) (h : i < hs.length) : Pl.pr (Pl.hp hs) i = (Pl.rh hs i).p := by
  unfold Pl.hp
  rw [Pl.pr_eq _ _ (by simpa using h), Pl.rh_eq hs i h]; simp
theorem Pl.hp_len (hs : List Pl.RH) : (Pl.hp hs).length = hs.length := by simp [Pl.hp]
theorem RowsAt.drewN {w : World} {b off : Nat} {hs : List Pl.RH} (h : RowsAt w b off hs) (n : Nat) : RowsAt (w.drewN n) b off hs := fun i hi => h i hi

set_option maxHeartbeats 400000 in
theorem cloR_any (hs : List Pl.RH) (p1 p2 : Int) (b off len cap bl bk i : Nat) (w : World) (hl : hs.length = len) (_hc : len ≤ cap) (_hm : cap ≤ maxLen) (hbw : b < w.heap.size) (hblw : bl < w.heap.size) (hbkw : bk < w.heap.size)
    (hrow : RowsAt w b off hs) (h1 : w.cell? ⟨bl, 0, none⟩ = some (.slice (some ⟨b, off, none⟩) len cap)) (h2 : w.cell? ⟨bk, 0, none⟩ = some (.int .i64 p1)) (h3 : w.cell? ⟨bk, 1, none⟩ = some (.int .i64 p2)) (hi : i < len) :
    Calls Try.prog 39 #[.int .i64 i, .pointer (some ⟨bl, 0, none⟩), .pointer (some ⟨bk, 0, none⟩)] w fun e w' => e = .returned (.bool (!Pl.pltB (Pl.pr (Pl.hp hs) i) (p1, p2))) ∧ Below w.heap.size w w' := by
  unfold maxLen at _hm
  obtain ⟨c0, c1, _, _, _⟩ := hrow i (by omega)
  rw [Pl.pr_hp hs i (by omega)]
  obtain ⟨gg, HG⟩ : ∃ x, Hid ((Pl.rh hs i).p = x) := ⟨_, rfl⟩
  rw [HG.out] at c0 c1 ⊢
  obtain ⟨q1, q2⟩ := gg
  simp only at c0 c1
  have hi' : (i : Int) < (len : Int) := by omega
  obtain ⟨cq, HCQ⟩ : ∃ c, Hid (Pl.pfxC (q1, q2) (p1, p2) = c) := ⟨_, rfl⟩
  have HLW : Hid ((!Pl.pltB (q1, q2) (p1, p2)) = decide (0 ≤ cq)) := hid (by rw [← HCQ.out, Pl.pfxC_ge])
  have HCP : Hid (∀ W, Calls Try.prog 19 #[.agg #[.int .i64 q1, .int .i64 q2], .agg #[.int .i64 p1, .int .i64 p2]] W fun e w' => e = .returned (.int .i64 cq) ∧ Below W.heap.size W w') := by
    refine hid fun W => ?_
    have := comparePrefixes_any (q1, q2) (p1, p2) W
    rwa [HCQ.out] at this
  rw [HLW.out]
  clear hrow
  go_enter Try.func39, Try.ntmps39
  go_wp2_with fail
  have i0 := in_cell hblw h1
  have i1 := in_cell hbkw h2
  have i2 := in_cell hbkw h3
  have i3 := in_cell hbw c0
  have i4 := in_cell hbw c1
  have hne := in_some w
  refine wp_region_in (by kernel_rfl) (by kernel_rfl) ?_
  repeat (go_big_quiet_step ((go_at_call 19; exact in_call (HCP.out _))))
  refine wpQuiet_nil ?_
  intro w5 hw'
  have hb5 := in_out hw'
  clear hw' i0 i1 i2 i3 i4 hne
  go_wp2_with fail
  go_ret
  exact ⟨rfl, hb5⟩

set_option maxHeartbeats 400000 in
theorem SearchR_any (hs : List Pl.RH) (p1 p2 : Int) (a : Option Addr) (len cap bl bk : Nat) (w : World) (hl : hs.length = len) (hc : len ≤ cap) (hm : cap ≤ maxLen) (hblw : bl < w.heap.size) (hbkw : bk < w.heap.size)
    (hrow : hs = [] ∨ ∃ b off, a = some ⟨b, off, none⟩ ∧ b < w.heap.size ∧ RowsAt w b off hs) (h1 : w.cell? ⟨bl, 0, none⟩ = some (.slice a len cap)) (h2 : w.cell? ⟨bk, 0, none⟩ = some (.int .i64 p1)) (h3 : w.cell? ⟨bk, 1, none⟩ = some (.int .i64 p2)) (has : Pl.AscP (Pl.hp hs)) (hbig : len ≤ 2000000) :
    Calls Try.prog 38 #[.int .i64 len, .func (.func 39) #[] #[.pointer (some ⟨bl, 0, none⟩), .pointer (some ⟨bk, 0, none⟩)]] w fun e w' => e = .returned (.int .i64 (Pl.posP (Pl.hp hs) (p1, p2))) ∧ Below w.heap.size w w' := by
  have HM := hid hm
  unfold maxLen at hm
  have HR := hid hrow
  have H1 := hid h1
  have H2 := hid h2
  have H3 := hid h3
  have HA := hid has
  have HLP : Hid ((Pl.hp hs).length = len) := hid (by rw [Pl.hp_len, hl])
  clear hrow h1 h2 h3 has
  go_enter Try.func38, Try.ntmps38
  go_wp2
  go_loopw [5, 6] (fun i j wr => ∃ x y : Nat, x ≤ y ∧ y ≤ len ∧ i = .int .i64 x ∧ j = .int .i64 y ∧ Hid (Below w.heap.size w wr) ∧ Hid (∀ t, t < x → Pl.pltB (Pl.pr (Pl.hp hs) t) (p1, p2) = true) ∧ Hid (∀ t, y ≤ t → t < len → Pl.pltB (Pl.pr (Pl.hp hs) t) (p1, p2) = false)) (fun i j _ => (intOf j).toNat - (intOf i).toNat)
  case atStart => exact ⟨0, len, Nat.zero_le _, Nat.le_refl _, rfl, rfl, Below.refl _ _, fun t h => by omega, fun t h h' => by omega⟩
  case round =>
    obtain ⟨x, y, hxy, hy, rfl, rfl, HW, HX, HY⟩ := hrel
    by_cases hlt : x < y
    · obtain ⟨b, off, rfl, hbw, hrow⟩ : ∃ b off, a = some ⟨b, off, none⟩ ∧ b < w.heap.size ∧ RowsAt w b off hs := by
        rcases HR.out with h | h
        · rw [h] at hl; simp at hl; omega
        · exact h
      have hz := HW.out.size
      have hr : RowsAt wr b off hs := hrow.below hbw HW.out
      have h1 := (HW.out.cell (p := ⟨bl, 0, none⟩) hblw).trans H1.out
      have h2 := (HW.out.cell (p := ⟨bk, 0, none⟩) hbkw).trans H2.out
      have h3 := (HW.out.cell (p := ⟨bk, 1, none⟩) hbkw).trans H3.out
      have HC := hid fun m => cloR_any hs p1 p2 b off len cap bl bk m wr hl hc HM.out (by omega) (by omega) (by omega) hr h1 h2 h3
      clear hr h1 h2 h3 hrow
      go_wp2_with fail
      obtain ⟨m, hm2, hxm, hmy⟩ : ∃ m : Nat, ((x : Int) + (y : Int)) / 2 = (m : Int) ∧ x ≤ m ∧ m < y := ⟨(x + y) / 2, by omega, by omega, by omega⟩
      rw [hm2]
      clear hm2
      refine (HC.out m (by omega)).mono ?_
      rintro e w' ⟨rfl, hbq⟩
      have HQ := hid (HW.out.trans (hbq.mono hz))
      clear hbq
      obtain ⟨ll, HL⟩ : ∃ ll, Hid (Pl.pltB (Pl.pr (Pl.hp hs) m) (p1, p2) = ll) := ⟨_, rfl⟩
      rw [HL.out]
      cases ll
      · go_wp2
        go_roundw
        case rel => exact ⟨x, m, by omega, by omega, rfl, rfl, HQ, HX, fun t h h' => Pl.ascP_ge HA.out (by rw [HLP.out]; omega) h HL.out⟩
        case measure => simp [intOf]; omega
      · go_wp2
        go_roundw
        case rel => exact ⟨m + 1, y, by omega, by omega, by go_num, rfl, HQ, fun t h => Pl.ascP_lt HA.out (by rw [HLP.out]; omega) (by omega) HL.out, HY⟩
        case measure => simp [intOf]; omega
    · obtain rfl : x = y := by omega
      go_wp2
      go_ret
      exact ⟨ret_int (by rw [Pl.posP_of (by rw [HLP.out]; omega) HX.out (fun h => HY.out x (Nat.le_refl _) (by rw [HLP.out] at h; exact h))]), HW.out⟩

theorem new1 (w : World) (v : Value) (T : TypeId) (o : Obj) : ((w.alloc (.cells #[v] T)).alloc o).cell? ⟨w.heap.size, 0, none⟩ = some v := by simp
theorem new2 (w : World) (v0 v1 : Value) (T : TypeId) (o : Obj) : ((w.alloc o).alloc (.cells #[v0, v1] T)).cell? ⟨w.heap.size + 1, 0, none⟩ = some v0 ∧ ((w.alloc o).alloc (.cells #[v0, v1] T)).cell? ⟨w.heap.size + 1, 1, none⟩ = some v1 := by
  have h := World.size_alloc w o
  rw [← h]
  simp

set_option maxHeartbeats 400000 in
theorem find_rib (a : Option Addr) (len cap : Nat) (hs : List Pl.RH) (p1 p2 : Int) (w : World) (h : IsRows w a len cap hs) (has : Pl.AscP (Pl.hp hs)) (hbig : len ≤ 2000000) :
    Calls Try.prog 23 #[.slice a len cap, .agg #[.int .i64 p1, .int .i64 p2]] w fun e w' => e = .returned (.tuple #[.int .i64 (Pl.posP (Pl.hp hs) (p1, p2)), .bool (Pl.thereP (Pl.hp hs) (p1, p2))]) ∧ Below w.heap.size w w' := by
  obtain ⟨hl, hc, hm, _, hrow⟩ := h
  have hmf : ∀ (fn : Fn) (first cap : Array Value) (w : World), (Instr.makeFunc fn first cap).run Try.prog w = .ok (.func fn first cap) w := fun _ _ _ _ => rfl
  have HLP : Hid ((Pl.hp hs).length = len) := hid (by rw [Pl.hp_len, hl])
  have HB : Hid (Below w.heap.size w ((w.alloc (.cells #[.slice a len cap] 22)).alloc (.cells #[.int .i64 p1, .int .i64 p2] 27))) := ((Below.refl _ _).alloc (Nat.le_refl _) _).alloc (by simp) _
  have HS : Hid (Calls Try.prog 38 #[.int .i64 len, .func (.func 39) #[] #[.pointer (some ⟨w.heap.size, 0, none⟩), .pointer (some ⟨w.heap.size + 1, 0, none⟩)]] ((w.alloc (.cells #[.slice a len cap] 22)).alloc (.cells #[.int .i64 p1, .int .i64 p2] 27)) fun e w' => e = .returned (.int .i64 (Pl.posP (Pl.hp hs) (p1, p2))) ∧ Below (w.heap.size + 2) ((w.alloc (.cells #[.slice a len cap] 22)).alloc (.cells #[.int .i64 p1, .int .i64 p2] 27)) w') := by
    refine hid ?_
    have := SearchR_any hs p1 p2 a len cap w.heap.size (w.heap.size + 1) ((w.alloc (.cells #[.slice a len cap] 22)).alloc (.cells #[.int .i64 p1, .int .i64 p2] 27)) hl hc hm (by simp; omega) (by simp) ?_ (new1 _ _ _ _) (new2 _ _ _ _ _).1 (new2 _ _ _ _ _).2 has hbig
    · simpa using this
    · rcases hrow with h | ⟨b, off, rfl, hb, hr⟩
      · exact .inl h
      · exact .inr ⟨b, off, rfl, by simp; omega, hr.below hb HB.out⟩
  have hp := Pl.posP_le (Pl.hp hs) (p1, p2)
  rw [HLP.out] at hp
  unfold maxLen at hm
  rcases Nat.lt_or_ge (Pl.posP (Pl.hp hs) (p1, p2)) len with hlt | hge
  · obtain ⟨b, off, rfl, hb, hr⟩ : ∃ b off, a = some ⟨b, off, none⟩ ∧ b < w.heap.size ∧ RowsAt w b off hs := by
      rcases hrow with h | h
      · rw [h] at hl; simp at hl; omega
      · exact h
    obtain ⟨c0, c1, _, _, _⟩ := hr (Pl.posP (Pl.hp hs) (p1, p2)) (by omega)
    obtain ⟨gg, HG⟩ : ∃ x, Hid ((Pl.rh hs (Pl.posP (Pl.hp hs) (p1, p2))).p = x) := ⟨_, rfl⟩
    rw [HG.out] at c0 c1
    have HT : Hid (Pl.thereP (Pl.hp hs) (p1, p2) = decide (gg = (p1, p2))) := by
      refine hid ?_
      unfold Pl.thereP
      rw [HLP.out, decide_eq_true hlt, Pl.pr_hp hs _ (by omega), HG.out]; rfl
    obtain ⟨q1, q2⟩ := gg
    simp only at c0 c1
    obtain ⟨tt, HTT⟩ : ∃ t, Hid (Pl.thereP (Pl.hp hs) (p1, p2) = t) := ⟨_, rfl⟩
    rw [HTT.out] at HT ⊢
    generalize Pl.posP (Pl.hp hs) (p1, p2) = p at *
    clear hrow hr
    have hlt' : (p : Int) < (len : Int) := by omega
    obtain ⟨e1, g1⟩ : ∃ c, (q1 == p1) = c := ⟨_, rfl⟩
    obtain ⟨e2, g2⟩ : ∃ c, (q2 == p2) = c := ⟨_, rfl⟩
    have HT2 : Hid (tt = (e1 && e2)) := hid (by rw [HT.out, ← g1, ← g2, Bool.eq_iff_iff]; simp)
    cases e1
    all_goals cases e2
    all_goals
      go_enter Try.func23, Try.ntmps23
      go_wp2_with fail
      refine HS.out.mono ?_
      rintro e w1 ⟨rfl, hb1⟩
      have x0 : w1.cell? ⟨w.heap.size, 0, none⟩ = some (.slice (some ⟨b, off, none⟩) len cap) := (hb1.cell (show w.heap.size < w.heap.size + 2 by omega)).trans (new1 _ _ _ _)
      have x1 : w1.cell? ⟨w.heap.size + 1, 0, none⟩ = some (.int .i64 p1) := (hb1.cell (show w.heap.size + 1 < w.heap.size + 2 by omega)).trans (new2 _ _ _ _ _).1
      have x2 : w1.cell? ⟨w.heap.size + 1, 1, none⟩ = some (.int .i64 p2) := (hb1.cell (show w.heap.size + 1 < w.heap.size + 2 by omega)).trans (new2 _ _ _ _ _).2
      have HBW := hid (HB.out.trans (hb1.mono (by omega)))
      have d0 := (HBW.out.cell (p := ⟨b, off + p * 5, none⟩) hb).trans c0
      have d1 := (HBW.out.cell (p := ⟨b, off + p * 5 + 1, none⟩) hb).trans c1
      clear c0 c1 hb1
      go_wp2_with fail
      go_quiet (fail)
      go_wp2
      go_ret2
      exact ⟨by rw [HT2.out]; rfl, below_drew HBW.out _⟩
  · have HT : Hid (Pl.thereP (Pl.hp hs) (p1, p2) = false) := by
      refine hid ?_
      unfold Pl.thereP
      rw [HLP.out, decide_eq_false (by omega)]; rfl
    obtain ⟨tt, HTT⟩ : ∃ t, Hid (Pl.thereP (Pl.hp hs) (p1, p2) = t) := ⟨_, rfl⟩
    rw [HTT.out] at HT ⊢
    generalize Pl.posP (Pl.hp hs) (p1, p2) = p at *
    have hd : decide ((p : Int) < (len : Int)) = false := by simp; omega
    have hd' : decide (p < len) = false := by simp; omega
    go_enter Try.func23, Try.ntmps23
    go_wp2_with fail
    refine HS.out.mono ?_
    rintro e w1 ⟨rfl, hb1⟩
    have x0 : w1.cell? ⟨w.heap.size, 0, none⟩ = some (.slice a len cap) := (hb1.cell (show w.heap.size < w.heap.size + 2 by omega)).trans (new1 _ _ _ _)
    have HBW := hid (HB.out.trans (hb1.mono (by omega)))
    clear hb1
    go_wp2_with fail
    go_quiet (fail)
    go_wp2
    go_ret2
    exact ⟨by rw [HT.out]; rfl, below_drew HBW.out _⟩
end Go.Proofs.Ytcdobhdbafpkiae
