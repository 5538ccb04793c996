/-
  Contracts: the prefix of so many bits of an address; Lookup.
-/
import Derived.Test.YtcdobhdbafpkiaeRib2
import Derived.Test.YtcdobhdbafpkiaeRib5
import Derived.Test.YtcdobhdbafpkiaeRib6
namespace Go.Proofs.Ytcdobhdbafpkiae
open Go.RowKit

theorem Pl.pfxAt_eq (addr : Int) (n : Nat) (K : Int) (h : Pl.span (n : Int) = K) : Pl.pfxAt addr n = (addr / K * K, (n : Int)) := by
  unfold Pl.pfxAt
  rw [h]
  have e := Int.ediv_mul_add_emod addr K
  generalize addr / K * K = x at *
  generalize addr % K = y at *
  simp only [Prod.mk.injEq, and_true]
  omega

set_option maxHeartbeats 1000000 in
theorem prefixOf_any (addr : Int) (n : Nat) (w : World) (h0 : 0 ≤ addr) (h1 : addr ≤ 255) (hn : n ≤ 8) :
    Calls Try.prog 24 #[.int .i64 addr, .int .i64 n] w fun e w' => e = .returned (.agg #[.int .i64 (Pl.pfxAt addr n).1, .int .i64 (Pl.pfxAt addr n).2]) ∧ Below w.heap.size w w' := by
  obtain rfl | rfl | rfl | rfl | rfl | rfl | rfl | rfl | rfl : n = 0 ∨ n = 1 ∨ n = 2 ∨ n = 3 ∨ n = 4 ∨ n = 5 ∨ n = 6 ∨ n = 7 ∨ n = 8 := by omega
  all_goals
    go_enter Try.func24, Try.ntmps24
    go_wp2
    rw [Pl.pfxAt_eq addr _ _ rfl]
    exact bodyPost_ret (by simp [results, Try.results24, go_sem, Pl.span_table]) rfl ⟨rfl, (Below.refl _ _).alloc (Nat.le_refl _) _⟩

theorem Pl.hopsB_len {l : List Int} (h : Pl.hopsB l = true) : l.length ≤ 12 := by
  have key : ∀ i, i < l.length → (i : Int) ≤ Pl.nm l i := by
    intro i
    induction i with
    | zero =>
      intro hi
      have := Pl.hopsB_at h 0 hi
      rw [Pl.hopB_zero] at this
      simp at this
      simpa using this.1
    | succ m ih =>
      intro hi
      have h1 := Pl.hopsB_at h (m + 1) hi
      rw [Pl.hopB_succ] at h1
      simp only [Bool.and_eq_true, decide_eq_true_eq] at h1
      have := ih (by omega)
      omega
  rcases Nat.eq_zero_or_pos l.length with h0 | hp
  · omega
  · have a := key (l.length - 1) (by omega)
    have b := Pl.hopsB_at h (l.length - 1) (by omega)
    unfold Pl.hopB at b
    simp only [Bool.and_eq_true, decide_eq_true_eq] at b
    omega
theorem Pl.routeB_hops {r : Pl.Rt} (h : Pl.routeB r = true) : r.hops.length ≤ 12 := by
  unfold Pl.routeB at h
  simp only [Bool.and_eq_true] at h
  exact Pl.hopsB_len h.2
theorem Pl.look_some {rs : List Pl.Rt} {addr : Int} {i : Nat} (h : Pl.tabF rs = 0) (ha : 0 ≤ addr ∧ addr ≤ 255) (hi : Pl.lookN (rs.map Pl.Rt.p) addr 9 = some i) : Pl.lookC rs addr = 0 ∧ Pl.lookR rs addr = Pl.rt rs i := by
  unfold Pl.lookC Pl.lookR
  rw [h, if_pos rfl, if_pos ha, if_pos rfl, if_pos ha, hi]
  exact ⟨rfl, rfl⟩
theorem Pl.look_none {rs : List Pl.Rt} {addr : Int} (h : Pl.tabF rs = 0) (ha : 0 ≤ addr ∧ addr ≤ 255) (hi : Pl.lookN (rs.map Pl.Rt.p) addr 9 = none) : Pl.lookC rs addr = 6 ∧ Pl.lookR rs addr = Pl.Rt.none := by
  unfold Pl.lookC Pl.lookR
  rw [h, if_pos rfl, if_pos ha, if_pos rfl, if_pos ha, hi]
  exact ⟨rfl, rfl⟩
theorem Pl.look_range {rs : List Pl.Rt} {addr : Int} (h : Pl.tabF rs = 0) (ha : ¬ (0 ≤ addr ∧ addr ≤ 255)) : Pl.lookC rs addr = 2 ∧ Pl.lookR rs addr = Pl.Rt.none := by
  unfold Pl.lookC Pl.lookR
  rw [h, if_pos rfl, if_neg ha, if_pos rfl, if_neg ha]
  exact ⟨rfl, rfl⟩
theorem Pl.look_bad {rs : List Pl.Rt} {addr : Int} (h : ¬ Pl.tabF rs = 0) : Pl.lookC rs addr = Pl.tabF rs ∧ Pl.lookR rs addr = Pl.Rt.none := by
  unfold Pl.lookC Pl.lookR
  rw [if_neg h, if_neg h]
  exact ⟨rfl, rfl⟩
theorem boxSoft {w w3 : World} {cs : Array Value} {T : TypeId} (hb : Below (w.heap.size + 1) (w.alloc (.cells cs T)) w3) (o : Nat) : w3.frozen? ⟨w.heap.size, o, none⟩ = false := by
  rw [hb.frozen (p := ⟨w.heap.size, o, none⟩) (show w.heap.size < w.heap.size + 1 by omega)]
  simp only [World.frozen?, heapNewZ]
  simp
theorem readsNone (w : World) : Reads w Pl.RH.none Pl.Rt.none := ⟨rfl, rfl, rfl, IsInts.nil w, by decide, by decide⟩

set_option maxHeartbeats 2000000 in
theorem Lookup_any (a : Option Addr) (len cap : Nat) (hs : List Pl.RH) (rs : List Pl.Rt) (addr : Int) (w : World) (h : IsRows w a len cap hs) (hrd : ReadsAll w hs rs) :
    Calls Try.prog 9 #[.slice a len cap, .int .i64 addr] w fun e w' =>
      ∃ g : Pl.RH, e = .returned (.tuple #[.agg #[.int .i64 g.p.1, .int .i64 g.p.2, .bool g.here, .int .i64 g.cost, .slice g.ha g.hl g.hc], .int .i64 (Pl.lookC rs addr)]) ∧ Reads w' g (Pl.lookR rs addr) ∧ Below w.heap.size w w' := by
  have HH := hid h
  have HD := hid hrd
  have HLH : Hid (hs.length = len) := hid h.1
  have hc := h.2.1
  have hm := h.2.2.1
  unfold maxLen at hm
  clear h hrd
  obtain ⟨LC, HLC⟩ : ∃ x, Hid (Pl.lookC rs addr = x) := ⟨_, rfl⟩
  obtain ⟨LR, HLR⟩ : ∃ x, Hid (Pl.lookR rs addr = x) := ⟨_, rfl⟩
  rw [HLC.out, HLR.out]
  obtain ⟨c, HC⟩ : ∃ c, Hid (Pl.tabF rs = c) := ⟨_, rfl⟩
  by_cases hc0 : c = 0
  · subst hc0
    by_cases hin : 0 ≤ addr ∧ addr ≤ 255
    · obtain ⟨ha0, ha1⟩ := hin
      have hg := Pl.good_of_tabF HC.out
      have HAS : Hid (Pl.AscP (Pl.hp hs)) := hid (by unfold Pl.hp; rw [HD.out.map_p]; exact hg.2.2)
      have hbig : len ≤ 2000000 := by have := hg.1; rw [← HD.out.1, HLH.out] at this; omega
      have HRB : Hid (∀ i, i < len → Pl.routeB (Pl.rt rs i) = true) := hid fun i hi => hg.2.1 i (by rw [← HD.out.1, HLH.out]; exact hi)
      have HQS : Hid (∀ i, Pl.lookN (Pl.hp hs) addr 9 = some i → LC = 0 ∧ LR = Pl.rt rs i) := hid fun i hi => by
        unfold Pl.hp at hi; rw [HD.out.map_p] at hi
        have := Pl.look_some HC.out ⟨ha0, ha1⟩ hi
        rwa [HLC.out, HLR.out] at this
      have HQN : Hid (Pl.lookN (Pl.hp hs) addr 9 = none → LC = 6 ∧ LR = Pl.Rt.none) := hid fun hi => by
        unfold Pl.hp at hi; rw [HD.out.map_p] at hi
        have := Pl.look_none HC.out ⟨ha0, ha1⟩ hi
        rwa [HLC.out, HLR.out] at this
      have HLP : Hid ((Pl.hp hs).length = len) := hid (by rw [Pl.hp_len, HLH.out])
      clear hg
      go_enter Try.func9, Try.ntmps9
      go_wp2_with fail
      refine (Check_rib _ _ _ hs rs _ (HH.out.below ((Below.refl _ _).alloc (Nat.le_refl _) _)) (HD.out.below ((Below.refl _ _).alloc (Nat.le_refl _) _))).mono ?_
      rw [HC.out]
      rintro e w1 ⟨rfl, hb1⟩
      have HB1 : Hid (Below (w.heap.size + 1) (w.alloc (.cells #[.int .i64 0, .int .i64 0, .bool false, .int .i64 0, .slice none 0 0] 30)) w1) := hid (by simpa using hb1)
      clear hb1
      go_wp2_with fail
      go_loopw [7] (fun i wr => ∃ n : Nat, n ≤ 9 ∧ i = .int .i64 ((n : Int) - 1) ∧ Hid (Pl.lookN (Pl.hp hs) addr 9 = Pl.lookN (Pl.hp hs) addr n) ∧ Hid (Below (w.heap.size + 1) (w.alloc (.cells #[.int .i64 0, .int .i64 0, .bool false, .int .i64 0, .slice none 0 0] 30)) wr)) (fun i _ => (intOf i + 1).toNat)
      case atStart => exact ⟨9, Nat.le_refl _, rfl, hid rfl, HB1⟩
      case round =>
        obtain ⟨n, hn, rfl, HN, HB⟩ := hrel
        obtain ⟨⟨y0, y1, y2, y3, y4⟩, hbx, hbw⟩ := box5 HB.out
        have HBW := hid hbw
        clear hbw
        rcases Nat.eq_zero_or_pos n with hn0 | hn0
        · subst hn0
          have HE := hid (HQN.out (by rw [HN.out]; rfl))
          have yf : ∀ o, wr.frozen? ⟨w.heap.size, o, none⟩ = false := fun o => boxSoft HB.out o
          go_wp2_with fail
          refine bodyPost_ret (v := .tuple #[.agg #[.int .i64 0, .int .i64 0, .bool false, .int .i64 0, .slice none 0 0], .int .i64 6]) (by simp [results, Try.results9, go_sem, y0, y1, y2, y3, y4]) rfl ⟨Pl.RH.none, by rw [HE.out.1]; rfl, by rw [HE.out.2]; exact readsNone _, ?_⟩
          exact (((((HBW.out.setCell (Nat.le_refl _) _).setCell (Nat.le_refl _) _).setCell (Nat.le_refl _) _).setCell (Nat.le_refl _) _).setCell (Nat.le_refl _) _)
        · obtain ⟨m, rfl⟩ : ∃ m, n = m + 1 := ⟨n - 1, by omega⟩
          have e1 : ((m + 1 : Nat) : Int) - 1 = (m : Int) := by omega
          rw [e1]
          clear e1 hn0
          have hm9 : m ≤ 8 := by omega
          obtain ⟨pp, HPP⟩ : ∃ x, Hid (Pl.pfxAt addr m = x) := ⟨_, rfl⟩
          have HPO : Hid (∀ W, Calls Try.prog 24 #[.int .i64 addr, .int .i64 m] W fun e w' => e = .returned (.agg #[.int .i64 pp.1, .int .i64 pp.2]) ∧ Below W.heap.size W w') := hid fun W => by
            have := prefixOf_any addr m W ha0 ha1 hm9
            rwa [HPP.out] at this
          have HST : Hid (Pl.lookN (Pl.hp hs) addr (m + 1) = if Pl.thereP (Pl.hp hs) pp then some (Pl.posP (Pl.hp hs) pp) else Pl.lookN (Pl.hp hs) addr m) := hid (by rw [← HPP.out]; rfl)
          obtain ⟨p1, p2⟩ := pp
          simp only at HPO
          obtain ⟨tt, HT⟩ : ∃ x, Hid (Pl.thereP (Pl.hp hs) (p1, p2) = x) := ⟨_, rfl⟩
          have HZ := hid HBW.out.size
          have HFI : Hid (∀ W, Below w.heap.size w W → Calls Try.prog 23 #[.slice a len cap, .agg #[.int .i64 p1, .int .i64 p2]] W fun e w' => e = .returned (.tuple #[.int .i64 (Pl.posP (Pl.hp hs) (p1, p2)), .bool tt]) ∧ Below W.heap.size W w') := hid fun W hW => by
            have := find_rib a len cap hs p1 p2 W (HH.out.below hW) HAS.out hbig
            rwa [HT.out] at this
          have HPL : Hid (tt = true → Pl.posP (Pl.hp hs) (p1, p2) < len) := hid fun e => by
            have := Pl.thereP_lt (by rw [HT.out]; exact e : Pl.thereP (Pl.hp hs) (p1, p2) = true)
            rwa [HLP.out] at this
          rw [HT.out] at HST
          generalize Pl.posP (Pl.hp hs) (p1, p2) = ix at *
          cases tt
          · go_wp2_with fail
            refine (HPO.out _).mono ?_
            rintro e w2 ⟨rfl, hb2⟩
            have HB2 := hid (HBW.out.trans (hb2.mono HZ.out))
            have HB2' := hid (HB.out.trans (hb2.mono (by omega)))
            clear hb2
            go_wp2_with fail
            refine (HFI.out _ HB2.out).mono ?_
            rintro e w3 ⟨rfl, hb3⟩
            have HB3' := hid (HB2'.out.trans (hb3.mono (by have := HB2'.out.size; simpa using this)))
            clear hb3
            go_wp2_with fail
            go_roundw
            case rel => exact ⟨m, by omega, by go_num, hid (by rw [HN.out, HST.out]; rfl), HB3'⟩
            case measure => simp [intOf]
          · have hix := HPL.out rfl
            have HE := hid (HQS.out ix (by rw [HN.out, HST.out]; rfl))
            obtain ⟨b, off, rfl, hbw, hr⟩ := HH.out.at hix
            have HRD := hid (HD.out.2 ix (by rw [HLH.out]; exact hix))
            have hhl : (Pl.rh hs ix).hl ≤ 1000 := by
              have h1 := HRD.out.2.2.2.1.1
              have h2 := Pl.routeB_hops (HRB.out ix hix)
              omega
            obtain ⟨c0, c1, c2, c3, c4⟩ := hr ix (by rw [HLH.out]; exact hix)
            have hix' : (ix : Int) < (len : Int) := by omega
            go_wp2_with fail
            refine (HPO.out _).mono ?_
            rintro e w2 ⟨rfl, hb2⟩
            have HB2 := hid (HBW.out.trans (hb2.mono HZ.out))
            have HB2' := hid (HB.out.trans (hb2.mono (by omega)))
            clear hb2
            go_wp2_with fail
            refine (HFI.out _ HB2.out).mono ?_
            rintro e w3 ⟨rfl, hb3⟩
            have HB3' := hid (HB2'.out.trans (hb3.mono (by have := HB2'.out.size; simpa using this)))
            have HB3 := hid (HB2.out.trans (hb3.mono HB2.out.size))
            clear hb3
            have d0 := (HB3.out.cell (p := ⟨b, off + ix * 5, none⟩) hbw).trans c0
            have d1 := (HB3.out.cell (p := ⟨b, off + ix * 5 + 1, none⟩) hbw).trans c1
            have d2 := (HB3.out.cell (p := ⟨b, off + ix * 5 + 2, none⟩) hbw).trans c2
            have d3 := (HB3.out.cell (p := ⟨b, off + ix * 5 + 3, none⟩) hbw).trans c3
            have d4 := (HB3.out.cell (p := ⟨b, off + ix * 5 + 4, none⟩) hbw).trans c4
            clear c0 c1 c2 c3 c4 y0 y1 y2 y3 y4
            have HFR := hid (fresh_any (Pl.rh hs ix) (Pl.rt rs ix) w3 (HRD.out.below HB3.out) hhl)
            generalize Pl.rh hs ix = hh at *
            go_wp2_with fail
            refine HFR.out.mono ?_
            rintro e w4 ⟨g, rfl, hg4, hn4, hb4⟩
            have HB4' := hid (HB3'.out.trans (hb4.mono (by have := HB3'.out.size; simpa using this)))
            obtain ⟨⟨y0, y1, y2, y3, y4⟩, hbx4, hbw4⟩ := box5 HB4'.out
            have HG := hid hg4
            have HN4 := hid hn4
            have HBW4 := hid hbw4
            have hz3 := HB3'.out.size
            simp only [World.size_alloc] at hz3
            have yf : ∀ o, w4.frozen? ⟨w.heap.size, o, none⟩ = false := fun o => boxSoft HB4'.out o
            clear hg4 hn4 hb4 hbw4
            go_wp2_with fail
            refine bodyPost_ret (v := .tuple #[.agg #[.int .i64 g.p.1, .int .i64 g.p.2, .bool g.here, .int .i64 g.cost, .slice g.ha g.hl g.hc], .int .i64 0]) (by simp [results, Try.results9, go_sem, y0, y1, y2, y3, y4]) rfl ⟨g, by rw [HE.out.1], ?_, ?_⟩
            · rw [HE.out.2]
              exact HG.out.but (B := w.heap.size) ((((((But.refl _ _).setCell _ _).setCell _ _).setCell _ _).setCell _ _).setCell _ _) (fun x hx => by have := HN4.out x hx; omega)
            · exact (((((HBW4.out.setCell (Nat.le_refl _) _).setCell (Nat.le_refl _) _).setCell (Nat.le_refl _) _).setCell (Nat.le_refl _) _).setCell (Nat.le_refl _) _)
    · have HE : Hid (LC = 2 ∧ LR = Pl.Rt.none) := hid (by have := Pl.look_range HC.out hin; rwa [HLC.out, HLR.out] at this)
      have hin2 : addr < 0 ∨ (0 ≤ addr ∧ 255 < addr) := by omega
      clear hin
      rcases hin2 with hin | ⟨hin1, hin⟩
      all_goals
        go_enter Try.func9, Try.ntmps9
        go_wp2_with fail
        refine (Check_rib _ _ _ hs rs _ (HH.out.below ((Below.refl _ _).alloc (Nat.le_refl _) _)) (HD.out.below ((Below.refl _ _).alloc (Nat.le_refl _) _))).mono ?_
        rw [HC.out]
        rintro e w1 ⟨rfl, hb1⟩
        have HB1 : Hid (Below (w.heap.size + 1) (w.alloc (.cells #[.int .i64 0, .int .i64 0, .bool false, .int .i64 0, .slice none 0 0] 30)) w1) := hid (by simpa using hb1)
        clear hb1
        obtain ⟨⟨y0, y1, y2, y3, y4⟩, hbx, hbw⟩ := box5 HB1.out
        have HBW := hid hbw
        clear hbw
        have yf : ∀ o, w1.frozen? ⟨w.heap.size, o, none⟩ = false := fun o => boxSoft HB1.out o
        go_wp2_with fail
        refine bodyPost_ret (v := .tuple #[.agg #[.int .i64 0, .int .i64 0, .bool false, .int .i64 0, .slice none 0 0], .int .i64 2]) (by simp [results, Try.results9, go_sem, y0, y1, y2, y3, y4]) rfl ⟨Pl.RH.none, by rw [HE.out.1]; rfl, by rw [HE.out.2]; exact readsNone _, ?_⟩
        exact (((((HBW.out.setCell (Nat.le_refl _) _).setCell (Nat.le_refl _) _).setCell (Nat.le_refl _) _).setCell (Nat.le_refl _) _).setCell (Nat.le_refl _) _)
  · have HE : Hid (LC = c ∧ LR = Pl.Rt.none) := hid (by have := Pl.look_bad (addr := addr) (by rw [HC.out]; exact hc0 : ¬ Pl.tabF rs = 0); rwa [HLC.out, HLR.out, HC.out] at this)
    have hd0 : (c != 0) = true := by simpa using hc0
    clear hc0
    go_enter Try.func9, Try.ntmps9
    go_wp2_with fail
    refine (Check_rib _ _ _ hs rs _ (HH.out.below ((Below.refl _ _).alloc (Nat.le_refl _) _)) (HD.out.below ((Below.refl _ _).alloc (Nat.le_refl _) _))).mono ?_
    rw [HC.out]
    rintro e w1 ⟨rfl, hb1⟩
    have HB1 : Hid (Below (w.heap.size + 1) (w.alloc (.cells #[.int .i64 0, .int .i64 0, .bool false, .int .i64 0, .slice none 0 0] 30)) w1) := hid (by simpa using hb1)
    clear hb1
    obtain ⟨⟨y0, y1, y2, y3, y4⟩, hbx, hbw⟩ := box5 HB1.out
    have HBW := hid hbw
    clear hbw
    have yf : ∀ o, w1.frozen? ⟨w.heap.size, o, none⟩ = false := fun o => boxSoft HB1.out o
    go_wp2_with fail
    refine bodyPost_ret (v := .tuple #[.agg #[.int .i64 0, .int .i64 0, .bool false, .int .i64 0, .slice none 0 0], .int .i64 c]) (by simp [results, Try.results9, go_sem, y0, y1, y2, y3, y4]) rfl ⟨Pl.RH.none, by rw [HE.out.1]; rfl, by rw [HE.out.2]; exact readsNone _, ?_⟩
    exact (((((HBW.out.setCell (Nat.le_refl _) _).setCell (Nat.le_refl _) _).setCell (Nat.le_refl _) _).setCell (Nat.le_refl _) _).setCell (Nat.le_refl _) _)
end Go.Proofs.Ytcdobhdbafpkiae
