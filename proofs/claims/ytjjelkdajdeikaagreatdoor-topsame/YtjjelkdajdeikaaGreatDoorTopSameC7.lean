/-
  Contracts and facts that the proof rests on, put together out of several texts.
-/
import Derived.Test.YtjjelkdajdeikaaGreatDoorTopSameC6
import Derived.Laws.IdiomStrings
import Derived.Lib.BufferRead
import Derived.Test.YtjjelkdajdeikaaGreatDoorTopSameC2
import Derived.Test.YtjjelkdajdeikaaGreatDoorTopSameC3
import Derived.Test.YtjjelkdajdeikaaGreatDoorTopSameC1
import Derived.Test.YtjjelkdajdeikaaGreatDoorTopSameC4
import Derived.Laws.CopyRow
import Derived.Laws.Externs
import Derived.Lib.Overlaps
import Derived.Lib.AppendZerosOnto
import Derived.Deep.RegionLaw
namespace Go.Proofs.YtjjelkdajdeikaaGreatDoor
open Go.RowKit
set_option maxRecDepth 20000
theorem Pl.adjN_ok (ps : List (Int × Int)) : ∀ (n i : Nat), i + n = ps.length → Pl.adjN ps n i = 0 → ∀ j, i ≤ j → j < ps.length → Pl.sideB (Pl.pr ps j).1 (Pl.pr ps j).2 = true ∧ (0 < j → (Pl.pr ps (j - 1)).1 < (Pl.pr ps j).1)
 | 0, i, h, _, j, h1, h2 => by omega
 | n + 1, i, h, h0, j, h1, h2 => by
  rw [Pl.adjN] at h0
  by_cases g1 : Pl.sideB (Pl.pr ps i).1 (Pl.pr ps i).2 = true
  ·rw [if_pos g1] at h0
   by_cases g2 : 0 < i ∧ (Pl.pr ps i).1 ≤ (Pl.pr ps (i - 1)).1
   ·rw [if_pos g2] at h0; cases h0
   ·rw [if_neg g2] at h0
    rcases Nat.eq_or_lt_of_le h1 with e | h1
    ·subst e
     exact ⟨g1, fun hp => by omega⟩
    ·exact Pl.adjN_ok ps n (i + 1) (by omega) h0 j h1 h2
  ·rw [if_neg g1] at h0; cases h0
theorem Pl.adjF_ok {ps : List (Int × Int)} (h : Pl.adjF ps = 0) : ps.length ≤ 12 ∧ ∀ p ∈ ps, Pl.small p := by
 have hk := Pl.adjN_ok ps ps.length 0 (by omega) h
 have hs : ∀ j, j < ps.length → 0 ≤ (Pl.pr ps j).1 ∧ (Pl.pr ps j).1 ≤ 11 ∧ 1 ≤ (Pl.pr ps j).2 ∧ (Pl.pr ps j).2 ≤ 1000 := by
  intro j hj
  have := (hk j (by omega) hj).1
  unfold Pl.sideB at this
  simp at this
  omega
 have hj : ∀ j, j < ps.length → (j : Int) ≤ (Pl.pr ps j).1 := by
  intro j
  induction j with
  | zero => intro h; have := hs 0 h; omega
  | succ j ih =>
   intro h
   have h1 := ih (by omega)
   have h2 := (hk (j + 1) (by omega) h).2 (by omega)
   simp at h2
   omega
 refine ⟨?_, ?_⟩
 ·rcases Nat.lt_or_ge 12 ps.length with h | h
  ·have h1 := hj 12 h
   have h2 := hs 12 h
   omega
  ·exact h
 ·intro p hp
  obtain ⟨i, hi, rfl⟩ := List.getElem_of_mem hp
  have := hs i hi
  rw [Pl.pr_eq ps i hi] at this
  exact ⟨this.1, by omega, by omega, by omega⟩
theorem Pl.showT_list (m : ByteArray) (ps : List (Int × Int)) : (Pl.showT m ps).data.toList = Lib.join ((ps.map (Pl.sideT m)).map (·.data.toList)) [44] := by simp [Pl.showT]
theorem Pl.showT_size (m : ByteArray) (ps : List (Int × Int)) (hs : ∀ p ∈ ps, Pl.small p) (hm : m.size ≤ 100) : (Pl.showT m ps).size ≤ ps.length * 143 := by
 have h : (Pl.showT m ps).size = (Pl.showT m ps).data.toList.length := by simp
 rw [h, Pl.showT_list]
 refine Nat.le_trans (Pl.join_le 142 _ _ ?_) (by simp)
 intro x hx
 simp only [List.mem_map] at hx
 obtain ⟨y, ⟨p, hp, rfl⟩, rfl⟩ := hx
 have := Pl.sideT_size m p (hs p hp)
 have e : (Pl.sideT m p).data.toList.length = (Pl.sideT m p).size := by simp
 omega
def Pl.adjText (d : Bool) (ps : List (Int × Int)) : ByteArray := if Pl.adjF ps = 0 then (if d then ⟨#[33]⟩ ++ Pl.showT ⟨#[61]⟩ ps else Pl.showT ⟨#[61]⟩ ps) else ⟨#[]⟩
theorem Pl.pfxN_ok (ps : List (Int × Int)) : ∀ (n i : Nat), i + n = ps.length → Pl.pfxN ps n i = 0 → ∀ j, i ≤ j → j < ps.length → Pl.pfx1 (Pl.pr ps j) = 0
 | 0, i, h, _, j, h1, h2 => by omega
 | n + 1, i, h, h0, j, h1, h2 => by
  rw [Pl.pfxN] at h0
  by_cases g1 : Pl.pfx1 (Pl.pr ps i) = 0
  ·rw [if_pos g1] at h0
   split at h0
   ·cases h0
   ·rcases Nat.eq_or_lt_of_le h1 with e | h1
    ·subst e; exact g1
    ·exact Pl.pfxN_ok ps n (i + 1) (by omega) h0 j h1 h2
  ·rw [if_neg g1] at h0; exact absurd h0 g1
theorem Pl.pfxF_ok {ps : List (Int × Int)} (h : Pl.pfxF ps = 0) : ps.length ≤ 6 ∧ ∀ p ∈ ps, Pl.small p := by
 unfold Pl.pfxF at h
 split at h
 ·rename_i hl
  refine ⟨hl, fun p hp => ?_⟩
  obtain ⟨i, hi, rfl⟩ := List.getElem_of_mem hp
  have := Pl.pfx1_zero (Pl.pfxN_ok ps ps.length 0 (by omega) h i (by omega) hi)
  rw [Pl.pr_eq ps i hi] at this
  exact ⟨by omega, by omega, by omega, by omega⟩
 ·cases h
def Pl.pfxText (ps : List (Int × Int)) : ByteArray := if Pl.pfxF ps = 0 then Pl.showT ⟨#[47]⟩ ps else ⟨#[]⟩
theorem infoPairX : (Tryz.prog.info? 118).map (fun i => (i.zero, i.size, i.bytes)) = some (some (.agg #[.int .i64 0, .int .i64 0]), 2, 16) := by kernel_rfl
theorem Pl.small_okX {p : Int × Int} (h : Pl.small p) : Pl.pairOk p := Pl.pairOk_of ⟨h.1, by have := h.2.1; omega, h.2.2.1, by have := h.2.2.2; omega⟩
set_option maxHeartbeats 2000000 in
theorem ShowPrefixes_any (a : Option Addr) (len cap : Nat) (ps : List (Int × Int)) (w : World) (h : IsPairs w a len cap ps) (hT : Tab w) :
  Calls Tryz.prog 163 #[.slice a len cap] w fun e w' => e = .returned (.tuple #[.string (Pl.pfxText ps), .int .i64 (Pl.pfxF ps)]) ∧ Below w.heap.size w w' := by
 have HH := hid h
 have HTB := hid hT
 have hlen := h.1
 have hcap := h.2.1
 have hmax := h.2.2.1
 unfold maxLen at hmax
 clear h hT
 obtain ⟨cc, HCC⟩ : ∃ c, Hid (Pl.pfxF ps = c) := ⟨_, hid rfl⟩
 rw [HCC.out]
 by_cases hc0 : cc = 0
 ·subst hc0
  have HOK := hid (Pl.pfxF_ok HCC.out)
  have hl12 : len ≤ 6 := by have := HOK.out.1; omega
  go_enter Tryz.func163, Tryz.ntmps163
  go_wp2_with fail
  refine (CheckPrefixes_any _ _ _ ps _ HH.out).mono ?_
  rw [HCC.out]
  rintro e w1 ⟨rfl, hq1⟩
  go_wp2_with fail
  go_loopw [5, 15] (fun vl i wr => ∃ (k : Nat) (vv : Value), vv = vl ∧ k ≤ len ∧ i = .int .i64 k ∧ Hid (OwnP 118 wr w1.heap.size vv (ps.take k)) ∧ Below w1.heap.size w1 wr) (fun _ i _ => len - (intOf i).toNat)
  case atStart => exact ⟨0, _, rfl, Nat.zero_le _, rfl, hid (OwnP.nil _ _ _), Below.refl _ _⟩
  case round =>
   obtain ⟨k, vl, rfl, hk, rfl, HO, hb⟩ := hrel
   have hz := hb.size
   have hzq := hq1.size
   by_cases hlt : k < len
   ·obtain ⟨b, off, rfl, hbw, hr⟩ : ∃ b off, a = some ⟨b, off, none⟩ ∧ b < w.heap.size ∧ PairsAt w b off ps := by
     rcases HH.out.2.2.2.2 with rfl | h
     ·simp at hlen; omega
     ·exact h
    obtain ⟨c0, c1⟩ := (hr.below hbw (hq1.trans (hb.mono hq1.size))) k (by omega)
    have hbr : b < wr.heap.size := by omega
    clear hr
    obtain ⟨pp, hpp⟩ : ∃ pp, Hid (Pl.pr ps k = pp) := ⟨_, rfl⟩
    rw [hpp.out] at c0 c1
    have HO4 := hid (HO.out.below ((Below.refl wr.heap.size wr).alloc (Nat.le_refl _) (.cells #[.int .i64 pp.1, .int .i64 pp.2] 49)))
    have htk : (ps.take k).length = k := by simp; omega
    go_wp2_with (at_builtin; refine append_pairT Tryz.underlying114 infoPairX rfl (.tmp 19) (.tmp 25) rfl w1.heap.size vl (ps.take k) pp rfl HO4.out (by simp; omega) (by show Value.slice (some ⟨wr.heap.size + 1, 0, none⟩) 1 1 = _; simp) (by rw [htk]; omega) ?_; intro v5 w5 ho5 hb5 _; have HO5 := hid ho5; clear ho5)
    go_roundw
    case rel => exact ⟨k + 1, _, rfl, by omega, by go_num, hid (by show OwnP _ _ _ _ _; rw [Pl.take_prS ps k (by omega), hpp.out]; exact HO5.out), (hb.alloc hz _).trans hb5⟩
    case measure => simp [intOf]; omega
   ·obtain rfl : k = len := by omega
    have HO' : Hid (OwnP 118 wr w1.heap.size vl ps) := by have h := HO.out; rw [List.take_of_length_le (by omega)] at h; exact hid h
    obtain ⟨a3, cap3, rfl, hp3, _, _⟩ := OwnP.shape HO'.out (fun p hp => Pl.small_okX (HOK.out.2 p hp))
    rw [hlen] at hp3 ⊢
    have HP3 := hid hp3
    have hbb : Below w.heap.size w wr := hq1.trans (hb.mono hzq)
    have HTW := hid (HTB.out.below hbb)
    have HSP := hid (showPairs_any a3 k cap3 ps ⟨#[47]⟩ wr HP3.out HOK.out.2 (by omega) (by decide) HTW.out)
    have HAT : Hid (Pl.pfxText ps = Pl.showT ⟨#[47]⟩ ps) := hid (by unfold Pl.pfxText; rw [if_pos HCC.out])
    generalize Pl.showT ⟨#[47]⟩ ps = t at *
    clear hp3 HO hlen
    go_wp2_with fail
    refine HSP.out.mono ?_
    rintro e w4 ⟨rfl, hb4⟩
    go_wp2_with fail
    go_ret2
    exact ⟨by rw [HAT.out]; rfl, hbb.trans (hb4.mono hbb.size)⟩
 ·have HAT : Hid (Pl.pfxText ps = ⟨#[]⟩) := hid (by unfold Pl.pfxText; rw [if_neg (by rw [HCC.out]; exact hc0)])
  have hd0 : (cc == 0) = false := by simpa using hc0
  go_enter Tryz.func163, Tryz.ntmps163
  go_wp2_with fail
  refine (CheckPrefixes_any _ _ _ ps _ HH.out).mono ?_
  rw [HCC.out]
  rintro e w1 ⟨rfl, hb1⟩
  go_wp2_with fail
  go_ret2
  exact ⟨by rw [HAT.out]; rfl, hb1⟩
set_option maxHeartbeats 8000000 in
theorem netTell4 {Q : Exit → Act → World → Prop} {a0 : Act} {w0 : World} {B xb a pl pc : Nat} {pa : Option Addr} {ps : List (Int × Int)}
  (hsize : a0.tmps.size = 51)
  (q0 : a0.tmps[0]?.getD undef = .pointer (some ⟨B, 0, none⟩))
  (q3 : a0.tmps[3]?.getD undef = .pointer (some ⟨xb, 0, none⟩))
  (hB : B < w0.heap.size)
  (hx : xb < w0.heap.size)
  (X1 : w0.cell? ⟨xb, 1, none⟩ = some (.int .i64 a))
  (PN : w0.cell? ⟨B, a * 4 + 1, none⟩ = some (.slice pa pl pc))
  (ha : (a : Int) < 12)
  (HP : IsPairs w0 pa pl pc ps)
  (hT : Tab w0)
  (hQ : ∀ xs W, xs.length = 26 → (xs.getD 1 undef) = .string (Pl.pfxText ps) → (xs.getD 0 undef) = .int .i64 (Pl.pfxF ps) → Below w0.heap.size w0 W → Q .normal { a0 with tmps := setFrom a0.tmps 6 xs } W) :
  ∀ ops, regIn Tryz.f115 4 = some ops → (Code.region 4 ops true).wp Tryz.prog Q a0 w0 := by
 intro ops hops
 have eo := Option.some.inj (hops.symm.trans (rfl : regIn Tryz.f115 4 = some _))
 subst eo
 clear hops
 have hsz : 6 + 26 ≤ a0.tmps.size := by omega
 refine wp_region_any (by kernel_rfl) ?_
 refine wpAny_inv2 (RInv a0 6 26 14 (fun k => some (([15, 16, 17, 18, 19, 20, 21, 22, 23, 14, 24, 25, 1, 0] : List Nat).getD k 0)) (SV.V [SV.eq (.int .i64 (Pl.pfxF ps)), SV.eq (.string (Pl.pfxText ps)), SV.any, SV.any, SV.any, SV.any, SV.any, SV.any, SV.any, SV.any, SV.any, SV.any, SV.any, SV.any, SV.two (SV.eq (.string (Pl.pfxText ps))) (Pl.pfxF ps), SV.eq (.pointer (some ⟨B, 0, none⟩)), SV.eq (.pointer (some ⟨xb, 1, none⟩)), SV.eq (.int .i64 a), SV.eq (.pointer (some ⟨B, 0, none⟩)), SV.eq (.pointer (some ⟨B, 0, none⟩)), SV.eq (.pointer (some ⟨B, a * 4, none⟩)), SV.eq (.pointer (some ⟨B, a * 4 + 1, none⟩)), SV.eq (.slice pa pl pc), SV.two (SV.eq (.string (Pl.pfxText ps))) (Pl.pfxF ps), SV.eq (.string (Pl.pfxText ps)), SV.eq (.int .i64 (Pl.pfxF ps))]) (fun W => Below w0.heap.size w0 W)) ?_ ?_ _ _ _ _ (by decide +kernel) ?_ (closed_start _ _ _)
 ·rintro i listed a' W hi hCl hI
  rw [mem_ready] at hi
  obtain ⟨hl0, o, ho, hall⟩ := hi
  have hlti : i < 14 := (Array.getElem?_eq_some_iff.1 ho).1
  have o0 := (hI.out (k := 0) (by omega)).trans q0
  have o3 := (hI.out (k := 3) (by omega)).trans q3
  have x1 := (hI.cw.cell (p := ⟨xb, 1, none⟩) hx).trans X1
  have pn := (hI.cw.cell (p := ⟨B, a * 4 + 1, none⟩) hB).trans PN
  have hcs : i = 0 ∨ i = 1 ∨ i = 2 ∨ i = 3 ∨ i = 4 ∨ i = 5 ∨ i = 6 ∨ i = 7 ∨ i = 8 ∨ i = 9 ∨ i = 10 ∨ i = 11 ∨ i = 12 ∨ i = 13 := by omega
  rcases hcs with rfl | rfl | rfl | rfl | rfl | rfl | rfl | rfl | rfl | rfl | rfl | rfl | rfl | rfl
  all_goals
   simp at ho
   subst ho
  ·refine wpOp_of rfl rfl ?_
   simp [Oper.wp, go_sem, o0]
   exact hI.put (i := 0) (j := 15) rfl (by omega) (fun _ _ h => h) rfl hI.cw
  ·refine wpOp_of rfl rfl ?_
   simp [Oper.wp, go_sem, o3]
   exact hI.put (i := 1) (j := 16) rfl (by omega) (fun _ _ h => h) rfl hI.cw
  ·refine wpOp_of rfl rfl ?_
   have e22 : a'.tmps[22]?.getD undef = .pointer (some ⟨xb, 1, none⟩) := hI.at (k := 1) (j := 16) hsz rfl (by omega) (hall ⟨1, .data⟩ (by simp) rfl)
   simp [Oper.wp, go_sem, e22, x1]
   exact hI.put (i := 2) (j := 17) rfl (by omega) (fun _ _ h => h) rfl hI.cw
  ·refine wpOp_of rfl rfl ?_
   have e21 : a'.tmps[21]?.getD undef = .pointer (some ⟨B, 0, none⟩) := hI.at (k := 0) (j := 15) hsz rfl (by omega) (hall ⟨0, .data⟩ (by simp) rfl)
   simp [Oper.wp, go_sem, e21]
   exact hI.put (i := 3) (j := 18) rfl (by omega) (fun _ _ h => h) rfl hI.cw
  ·refine wpOp_of rfl rfl ?_
   have e24 : a'.tmps[24]?.getD undef = .pointer (some ⟨B, 0, none⟩) := hI.at (k := 3) (j := 18) hsz rfl (by omega) (hall ⟨3, .data⟩ (by simp) rfl)
   simp [Oper.wp, go_sem, e24]
   exact hI.put (i := 4) (j := 19) rfl (by omega) (fun _ _ h => h) rfl hI.cw
  ·refine wpOp_of rfl rfl ?_
   have e25 : a'.tmps[25]?.getD undef = .pointer (some ⟨B, 0, none⟩) := hI.at (k := 4) (j := 19) hsz rfl (by omega) (hall ⟨4, .data⟩ (by simp) rfl)
   have e23 : a'.tmps[23]?.getD undef = .int .i64 a := hI.at (k := 2) (j := 17) hsz rfl (by omega) (hall ⟨2, .data⟩ (by simp) rfl)
   simp [Oper.wp, go_sem, e25, e23, ha]
   exact hI.put (i := 5) (j := 20) rfl (by omega) (fun _ _ h => h) rfl hI.cw
  ·refine wpOp_of rfl rfl ?_
   have e26 : a'.tmps[26]?.getD undef = .pointer (some ⟨B, a * 4, none⟩) := hI.at (k := 5) (j := 20) hsz rfl (by omega) (hall ⟨5, .data⟩ (by simp) rfl)
   simp [Oper.wp, go_sem, e26]
   exact hI.put (i := 6) (j := 21) rfl (by omega) (fun _ _ h => h) rfl hI.cw
  ·refine wpOp_of rfl rfl ?_
   have e27 : a'.tmps[27]?.getD undef = .pointer (some ⟨B, a * 4 + 1, none⟩) := hI.at (k := 6) (j := 21) hsz rfl (by omega) (hall ⟨6, .data⟩ (by simp) rfl)
   simp [Oper.wp, go_sem, e27, pn]
   exact hI.put (i := 7) (j := 22) rfl (by omega) (fun _ _ h => h) rfl hI.cw
  ·refine wpOp_of rfl rfl ?_
   have e28 : a'.tmps[28]?.getD undef = .slice pa pl pc := hI.at (k := 7) (j := 22) hsz rfl (by omega) (hall ⟨7, .data⟩ (by simp) rfl)
   simp [Oper.wp, go_sem, e28]
   refine (ShowPrefixes_any pa pl pc ps W (HP.below hI.cw) (hT.below hI.cw)).mono ?_
   rintro e W' ⟨rfl, hb'⟩
   exact hI.put (i := 8) (j := 23) rfl (by omega) (SV.grow hb') ⟨_, rfl, rfl⟩ (hI.cw.trans (hb'.mono hI.cw.size))
  ·refine wpOp_of rfl rfl ?_
   obtain ⟨l, hl, hp⟩ := hI.at (k := 8) (j := 23) hsz rfl (by omega) (hall ⟨8, .data⟩ (by simp) rfl)
   have hl : a'.tmps[29]?.getD undef = _ := hl
   simp [Oper.wp, go_sem, hl]
   exact hI.put (i := 9) (j := 14) rfl (by omega) (fun _ _ h => h) ⟨l, rfl, hp⟩ hI.cw
  ·refine wpOp_of rfl rfl ?_
   obtain ⟨l, hl, hp⟩ := hI.at (k := 9) (j := 14) hsz rfl (by omega) (hall ⟨9, .data⟩ (by simp) rfl)
   have hl : a'.tmps[20]?.getD undef = _ := hl
   simp [Oper.wp, go_sem, hl]
   exact hI.put (i := 10) (j := 24) rfl (by omega) (fun _ _ h => h) hp hI.cw
  ·refine wpOp_of rfl rfl ?_
   obtain ⟨l, hl, hp⟩ := hI.at (k := 9) (j := 14) hsz rfl (by omega) (hall ⟨9, .data⟩ (by simp) rfl)
   have hl : a'.tmps[20]?.getD undef = _ := hl
   simp [Oper.wp, go_sem, hl]
   exact hI.put (i := 11) (j := 25) rfl (by omega) (fun _ _ h => h) rfl hI.cw
  ·refine wpOp_of rfl rfl ?_
   have h0 := hI.at (k := 10) (j := 24) hsz rfl (by omega) (hall ⟨10, .data⟩ (by simp) rfl)
   simp [Oper.wp, go_sem]
   exact hI.put (i := 12) (j := 1) rfl (by omega) (fun _ _ h => h) h0 hI.cw
  ·refine wpOp_of rfl rfl ?_
   have e31 : a'.tmps[31]?.getD undef = .int .i64 (Pl.pfxF ps) := hI.at (k := 11) (j := 25) hsz rfl (by omega) (hall ⟨11, .data⟩ (by simp) rfl)
   simp [Oper.wp, go_sem, e31]
   exact hI.put (i := 13) (j := 0) rfl (by omega) (fun _ _ h => h) rfl hI.cw
 ·rintro listed a' W hr hI
  have hal := all_listed2 (by decide +kernel) hI.ls hr
  obtain ⟨xs, hxl, rfl, hf⟩ := hI.fr
  exact hQ xs W hxl (hf 12 1 rfl (hal 12 (by decide))) (hf 13 0 rfl (hal 13 (by decide))) hI.cw
 ·exact RInv.start hsz (Below.refl _ _).drew
def Pl.sidesK (L : Nat → Int) : Nat → List (Int × Int)
 | 0 => []
 | k + 1 => if 0 < L k then Pl.sidesK L k ++ [((k : Int), L k)] else Pl.sidesK L k
theorem Pl.sidesK_len (L : Nat → Int) : ∀ k, (Pl.sidesK L k).length ≤ k
 | 0 => Nat.le_refl _
 | k + 1 => by
  have := Pl.sidesK_len L k
  unfold Pl.sidesK
  split
  ·simp; omega
  ·omega
theorem NwAt.row {w B D P K T L} (h : NwAt w B D P K T L) (a : Nat) (ha : a < 12) : w.rangeAt B (48 + a * 12) (ints12 (L a)) := CellsAt.range h _ _ (by simp [ints12]; omega) fun j hj => by
 simp only [ints12, List.length_map, List.length_range] at hj
 unfold nwCell
 rw [if_neg (by omega), show (48 + a * 12 + j - 48) / 12 = a by omega, show (48 + a * 12 + j - 48) % 12 = j by omega]
 simp [ints12]
theorem infoSideN : (Tryz.prog.info? 143).map (fun i => (i.zero, i.size, i.bytes)) = some (some (.agg #[.int .i64 0, .int .i64 0]), 2, 16) := by kernel_rfl
set_option maxHeartbeats 4000000 in
theorem netAdj_any (B : Nat) (D : Nat → Bool) (P K T : Nat → Value) (L : Nat → Nat → Int) (a : Nat) (w : World) (h : NwAt w B D P K T L) (ha : a < 12) :
  Calls Tryz.prog 162 #[.pointer (some ⟨B, 0, none⟩), .int .i64 a] w fun e w' => ∃ v, e = .returned (.agg #[.bool (D a), v]) ∧ OwnP 143 w' w.heap.size v (Pl.sidesK (L a) 12) ∧ Below w.heap.size w w' := by
 have HN := hid h
 have hBl := h.lt
 have ha' : (a : Int) < 12 := by omega
 clear h
 obtain ⟨d, HD⟩ : ∃ d, Hid (D a = d) := ⟨_, hid rfl⟩
 obtain ⟨M, HM⟩ : ∃ M, Hid (L a = M) := ⟨_, hid rfl⟩
 rw [HD.out, HM.out]
 obtain ⟨w4, HW4⟩ : ∃ x, Hid (x = w.alloc (.cells #[.bool false, .slice none 0 0] 141)) := ⟨_, hid rfl⟩
 have HB4 : Hid (Below w.heap.size w w4) := hid (by rw [HW4.out]; exact (Below.refl _ _).alloc (Nat.le_refl _) _)
 have hz4 : w4.heap.size = w.heap.size + 1 := by rw [HW4.out]; simp
 have HX4 : Hid (w4.heap[w.heap.size]? = some (.cells #[.bool false, .slice none 0 0] 141)) := hid (by rw [HW4.out]; exact heapNew _ _)
 have HN4 := hid (HN.out.below HB4.out)
 have hdr4 := HN4.out.drained a ha
 rw [HD.out] at hdr4
 have hB4 := HN4.out.lt
 have HRH : Hid ((w4.alloc (.cells #[.bool d, .slice none 0 0] 141)).rangeAt B (48 + a * 12) (ints12 M)) := hid (by
  rw [← HM.out]; exact World.rangeAt_alloc (HN4.out.row a ha) _)
 go_enter Tryz.func162, Tryz.ntmps162
 go_wp2_with (first | (rw [← HW4.out]) | (refine wpList_load_mid rfl 31 (.tmp 20) rfl B (48 + a * 12) rfl (ints12 M) _ HRH.out Tryz.underlying31 rfl infoInts ?_))
 go_loopw [22] (fun i wr => ∃ (j : Nat) (hv : Value), j ≤ 12 ∧ i = .int .i64 j ∧ Hid (wr.heap[w.heap.size + 1]? = some (.cells #[.bool d, hv] 141)) ∧ Hid (OwnP 143 wr (w.heap.size + 2) hv (Pl.sidesK M j)) ∧ Hid (Below (w.heap.size + 1) w4 wr)) (fun i _ => 12 - (intOf i).toNat)
 case atStart => exact ⟨0, .slice none 0 0, by omega, rfl, hid (by rw [← hz4]; exact heapNew _ _), hid (OwnP.nil _ _ _), hid (by rw [← hz4]; exact (Below.refl _ _).alloc (Nat.le_refl _) _)⟩
 case round =>
  obtain ⟨j, hv, hj, rfl, HA, HI, HB5⟩ := hrel
  obtain ⟨a3, cap3, rfl⟩ := ownsRow_slice HI.out
  have hlen := Pl.sidesK_len M j
  obtain ⟨n3, HN3⟩ : ∃ n, Hid ((Pl.sidesK M j).length = n) := ⟨_, hid rfl⟩
  rw [HN3.out] at HA HI hlen
  obtain ⟨z0, z1, f0, f1, hAr⟩ := adjAt_cells HA.out
  have hz5 := HB5.out.size
  by_cases hjl : j < 12
  ·have hg := fun w => run_index_ints M j hjl w
   obtain ⟨c, HC⟩ : ∃ c, Hid (M j = c) := ⟨_, hid rfl⟩
   rw [HC.out] at hg
   have hjl' : (j : Int) < 12 := by omega
   by_cases hc : 0 < c
   ·have hcb : decide (0 < c) = true := by simpa using hc
    have HNX : Hid (Pl.sidesK M (j + 1) = Pl.sidesK M j ++ [((j : Int), c)]) := hid (by rw [← HC.out]; show (if _ then _ else _) = _; rw [if_pos (by rw [HC.out]; exact hc)])
    clear hc
    go_wp2_with (at_builtin; refine append_pairT Tryz.underlying139 infoSideN rfl (.tmp 29) (.tmp 33) rfl (w.heap.size + 2) (.slice a3 n3 cap3) (Pl.sidesK M j) ((j : Int), c) rfl HI.out (by omega) rfl (by have := HN3.out; omega) ?_; intro v5 w5 ho5 hb5 _; obtain ⟨a5, cap5, rfl⟩ := ownsRow_slice ho5; obtain ⟨n5, HN5⟩ : ∃ n, Hid ((Pl.sidesK M j ++ [((j : Int), c)]).length = n) := ⟨_, hid rfl⟩; rw [HN5.out] at ho5; have HO5 := hid ho5; have HB6 := hid hb5; have h5 := (hb5.block (w.heap.size + 1) (Nat.lt_succ_self _)).trans HA.out; obtain ⟨y0, y1, g0, g1, hA5⟩ := adjAt_cells h5; have H5 := hid h5; rw [HN5.out]; clear ho5 hb5 h5)
    go_roundw
    case rel =>
     refine ⟨j + 1, .slice a5 n5 cap5, by omega, by go_num, hid (adjAt_set H5.out _), hid ?_, hid ((HB5.out.trans (HB6.out.mono (Nat.le_succ _))).setCell (p := ⟨w.heap.size + 1, 1, none⟩) (Nat.le_refl _) _)⟩
     rw [HNX.out]
     exact ownsRow_setCell_below HO5.out (Nat.lt_succ_self _) _
    case measure => simp [intOf]; omega
   ·have hcb : decide (0 < c) = false := by simpa using hc
    have HNX : Hid (Pl.sidesK M (j + 1) = Pl.sidesK M j) := hid (by show (if _ then _ else _) = _; rw [if_neg (by rw [HC.out]; exact hc)])
    clear hc
    go_wp2_with fail
    go_roundw
    case rel => exact ⟨j + 1, .slice a3 n3 cap3, by omega, by go_num, HA, hid (by rw [HNX.out]; exact HI.out), HB5⟩
    case measure => simp [intOf]; omega
  ·obtain rfl : j = 12 := by omega
   have HX5 := hid ((HB5.out.block w.heap.size (by omega)).trans HX4.out)
   obtain ⟨y0, y1, g0, g1, hyl⟩ := adjAt_cells HX5.out
   have HB6 : Hid (Below w.heap.size w wr) := hid (HB4.out.trans (HB5.out.mono (by omega)))
   go_wp2_with fail
   have hle : w.heap.size ≤ w.heap.size := Nat.le_refl _
   have hfin := (HB6.out.setCell (p := ⟨w.heap.size, 0, none⟩) hle (.bool d)).setCell (p := ⟨w.heap.size, 1, none⟩) hle (.slice a3 n3 cap3)
   refine bodyPost_ret (v := .agg #[.bool d, .slice a3 n3 cap3]) (by simp [results, Tryz.results162, go_sem, y0, y1]) rfl ⟨_, rfl, ?_, hfin⟩
   have hlt : w.heap.size < w.heap.size + 2 := by omega
   exact OwnP.mono (ownsRow_setCell_below (ownsRow_setCell_below HI.out hlt _) hlt _) (by omega)
theorem infoPairS : (Tryz.prog.info? 118).map (fun i => (i.zero, i.size, i.bytes)) = some (some (.agg #[.int .i64 0, .int .i64 0]), 2, 16) := by kernel_rfl
theorem Pl.small_ok {p : Int × Int} (h : Pl.small p) : Pl.pairOk p := Pl.pairOk_of ⟨h.1, by have := h.2.1; omega, h.2.2.1, by have := h.2.2.2; omega⟩
set_option maxHeartbeats 2000000 in
theorem ShowAdj_any (d : Bool) (a : Option Addr) (len cap : Nat) (ps : List (Int × Int)) (w : World) (h : IsPairs w a len cap ps) (hT : Tab w) :
  Calls Tryz.prog 161 #[.agg #[.bool d, .slice a len cap]] w fun e w' => e = .returned (.tuple #[.string (Pl.adjText d ps), .int .i64 (Pl.adjF ps)]) ∧ Below w.heap.size w w' := by
 have HH := hid h
 have HTB := hid hT
 have hlen := h.1
 have hcap := h.2.1
 have hmax := h.2.2.1
 unfold maxLen at hmax
 clear h hT
 obtain ⟨cc, HCC⟩ : ∃ c, Hid (Pl.adjF ps = c) := ⟨_, hid rfl⟩
 rw [HCC.out]
 have b1 : Below w.heap.size w (w.alloc (.cells #[.bool d, .slice a len cap] 141)) := (Below.refl _ _).alloc (Nat.le_refl _) _
 have HI1 := hid (HH.out.below b1)
 by_cases hc0 : cc = 0
 ·subst hc0
  have HOK := hid (Pl.adjF_ok HCC.out)
  have hl12 : len ≤ 12 := by have := HOK.out.1; omega
  go_enter Tryz.func161, Tryz.ntmps161
  go_wp2_with fail
  refine (CheckAdj_any _ _ _ _ ps _ HI1.out).mono ?_
  rw [HCC.out]
  rintro e w1 ⟨rfl, hb1⟩
  have hbA : Below (w.heap.size + 1) (w.alloc (.cells #[.bool d, .slice a len cap] 141)) w1 := by simpa using hb1
  obtain ⟨q0, q1, qs, hq1⟩ := box2 hbA
  clear hb1 b1
  go_wp2_with fail
  go_loopw [5, 17] (fun vl i wr => ∃ (k : Nat) (vv : Value), vv = vl ∧ k ≤ len ∧ i = .int .i64 k ∧ Hid (OwnP 118 wr w1.heap.size vv (ps.take k)) ∧ Below w1.heap.size w1 wr) (fun _ i _ => len - (intOf i).toNat)
  case atStart => exact ⟨0, _, rfl, Nat.zero_le _, rfl, hid (OwnP.nil _ _ _), Below.refl _ _⟩
  case round =>
   obtain ⟨k, vl, rfl, hk, rfl, HO, hb⟩ := hrel
   have hz := hb.size
   by_cases hlt : k < len
   ·obtain ⟨b, off, rfl, hbw, hr⟩ : ∃ b off, a = some ⟨b, off, none⟩ ∧ b < w.heap.size ∧ PairsAt w b off ps := by
     rcases HH.out.2.2.2.2 with rfl | h
     ·simp at hlen; omega
     ·exact h
    obtain ⟨c0, c1⟩ := (hr.below hbw (hq1.trans (hb.mono hq1.size))) k (by omega)
    have hbr : b < wr.heap.size := by omega
    clear hr
    obtain ⟨pp, hpp⟩ : ∃ pp, Hid (Pl.pr ps k = pp) := ⟨_, rfl⟩
    rw [hpp.out] at c0 c1
    have HO4 := hid (HO.out.below ((Below.refl wr.heap.size wr).alloc (Nat.le_refl _) (.cells #[.int .i64 pp.1, .int .i64 pp.2] 143)))
    have htk : (ps.take k).length = k := by simp; omega
    go_wp2_with (at_builtin; refine append_pairT Tryz.underlying114 infoPairS rfl (.tmp 21) (.tmp 27) rfl w1.heap.size vl (ps.take k) pp rfl HO4.out (by simp; omega) (by show Value.slice (some ⟨wr.heap.size + 1, 0, none⟩) 1 1 = _; simp) (by rw [htk]; omega) ?_; intro v5 w5 ho5 hb5 _; have HO5 := hid ho5; clear ho5)
    go_roundw
    case rel => exact ⟨k + 1, _, rfl, by omega, by go_num, hid (by show OwnP _ _ _ _ _; rw [Pl.take_prS ps k (by omega), hpp.out]; exact HO5.out), (hb.alloc hz _).trans hb5⟩
    case measure => simp [intOf]; omega
   ·obtain rfl : k = len := by omega
    have HO' : Hid (OwnP 118 wr w1.heap.size vl ps) := by have h := HO.out; rw [List.take_of_length_le (by omega)] at h; exact hid h
    obtain ⟨a3, cap3, rfl, hp3, _, _⟩ := OwnP.shape HO'.out (fun p hp => Pl.small_ok (HOK.out.2 p hp))
    rw [hlen] at hp3 ⊢
    have HP3 := hid hp3
    have hbx : Below (w.heap.size + 1) (w.alloc (.cells #[.bool d, .slice a k cap] 141)) wr := hbA.trans (hb.mono (by omega))
    obtain ⟨y0, y1, ys, hbb⟩ := box2 hbx
    have HTW := hid (HTB.out.below hbb)
    have HSP := hid (showPairs_any a3 k cap3 ps ⟨#[61]⟩ wr HP3.out HOK.out.2 (by omega) (by decide) HTW.out)
    have HSZ := hid (Pl.showT_size ⟨#[61]⟩ ps HOK.out.2 (by decide))
    have HAT : Hid (Pl.adjText d ps = if d then ⟨#[33]⟩ ++ Pl.showT ⟨#[61]⟩ ps else Pl.showT ⟨#[61]⟩ ps) := hid (by unfold Pl.adjText; rw [if_pos HCC.out])
    generalize Pl.showT ⟨#[61]⟩ ps = t at *
    have htz : t.size ≤ 2000 := by have := HSZ.out; omega
    clear hp3 HO HSZ q0 q1 hlen
    cases d
    all_goals
     go_wp2_with fail
     refine HSP.out.mono ?_
     rintro e w4 ⟨rfl, hb4⟩
     obtain ⟨z0, z1, zs, hbz⟩ := box2 (hbx.trans (hb4.mono (by omega)))
     go_wp2_with fail
     go_ret2
     exact ⟨by rw [HAT.out]; rfl, hbz⟩
 ·have HAT : Hid (Pl.adjText d ps = ⟨#[]⟩) := hid (by unfold Pl.adjText; rw [if_neg (by rw [HCC.out]; exact hc0)])
  have hd0 : (cc == 0) = false := by simpa using hc0
  go_enter Tryz.func161, Tryz.ntmps161
  go_wp2_with fail
  refine (CheckAdj_any _ _ _ _ ps _ HI1.out).mono ?_
  rw [HCC.out]
  rintro e w1 ⟨rfl, hb1⟩
  go_wp2_with fail
  go_ret2
  exact ⟨by rw [HAT.out]; rfl, b1.trans (hb1.mono b1.size)⟩
def Pl.tellI (s : Pl.Nt) (a : Nat) : List (ByteArray × ByteArray) := [(Pl.adjKey a, Pl.adjText (s.D a) (Pl.sidesK (s.L a) 12)), (Pl.pfxKey a, Pl.pfxText (s.P a))]
set_option maxHeartbeats 8000000 in
theorem netTell_any (B : Nat) (s : Pl.Nt) (x : Pl.Ac) (a : Nat) (w : World) (h : NetAt w B s) (hxa : x.a = a) (ha : a < 12) (hf : Pl.fault (s.K a) = 0) (hs : Pl.adjF (Pl.sidesK (s.L a) 12) = 0) (hsok : ∀ p ∈ Pl.sidesK (s.L a) 12, Pl.pairOk p) (hp : Pl.pfxF (s.P a) = 0) (hpok : ∀ p ∈ s.P a, Pl.pairOk p) (hsiz : ∀ t ∈ Pl.tellI s a, t.1.size ≤ maxLen ∧ t.2.size ≤ maxLen) (hT : Tab w) :
  Calls Tryz.prog 115 #[.pointer (some ⟨B, 0, none⟩), .agg #[.int .i64 x.kind, .int .i64 x.a, .int .i64 x.b, .int .i64 x.n, .int .i64 x.m, .int .i64 x.p.1, .int .i64 x.p.2, .string x.key, .string x.val]] w fun e w' =>
   ∃ vk, e = .returned (.agg #[.int .i64 (Pl.putsS (s.K a) a (Pl.tellI s a) 2).1, .slice none 0 0, .int .i64 0, vk]) ∧ OwnS w' w.heap.size vk (Pl.putsK s a (Pl.tellI s a)) ∧ NetAt w' B (Pl.putsN s a (Pl.tellI s a)) ∧ NKept B w w' := by
 have HN := hid h
 have hBl := h.lt
 have HF := hid hf
 have HTab := hid hT
 have HS := hid hs
 have HSOK := hid hsok
 have HP := hid hp
 have HPOK := hid hpok
 have HSZ := hid hsiz
 have HTI : Hid (Pl.tellI s a = [(Pl.adjKey a, Pl.adjText (s.D a) (Pl.sidesK (s.L a) 12)), (Pl.pfxKey a, Pl.pfxText (s.P a))]) := hid rfl
 clear h hf hT hs hsok hp hpok hsiz
 obtain ⟨kind, xa, b, n, m, ⟨p1, p2⟩, key, val⟩ := x
 simp only at hxa ⊢
 subst hxa
 have ha' : (a : Int) < 12 := by omega
 obtain ⟨t1, HT1⟩ : ∃ t, Hid (Pl.adjText (s.D a) (Pl.sidesK (s.L a) 12) = t) := ⟨_, hid rfl⟩
 obtain ⟨t2, HT2⟩ : ∃ t, Hid (Pl.pfxText (s.P a) = t) := ⟨_, hid rfl⟩
 rw [HT1.out, HT2.out] at HTI
 rw [HTI.out] at HSZ ⊢
 obtain ⟨b0, b1, bz, bb⟩ := two (w := w) (.cells #[.int .i64 kind, .int .i64 (a : Int), .int .i64 b, .int .i64 n, .int .i64 m, .int .i64 p1, .int .i64 p2, .string key, .string val] 51) (.cells #[.int .i64 0, .slice none 0 0, .int .i64 0, .slice none 0 0] 40)
 obtain ⟨W2, HW2⟩ : ∃ W, Hid (W = (w.alloc (.cells #[.int .i64 kind, .int .i64 (a : Int), .int .i64 b, .int .i64 n, .int .i64 m, .int .i64 p1, .int .i64 p2, .string key, .string val] 51)).alloc (.cells #[.int .i64 0, .slice none 0 0, .int .i64 0, .slice none 0 0] 40)) := ⟨_, hid rfl⟩
 rw [← HW2.out] at b0 b1 bz bb
 obtain ⟨q0, q1, q2, q3, q4, q5, q6, q7, q8⟩ := box9 b0
 have HX1 := hid b1
 have HBB := hid bb
 have Q1 := hid q1
 have hxl : w.heap.size < W2.heap.size := by omega
 have hle : w.heap.size ≤ w.heap.size + 1 := by omega
 have hne2 : w.heap.size + 1 ≠ B := by omega
 obtain ⟨VP, VK, VT, h1, h2, h3, h4, h5⟩ := HN.out.below HBB.out
 have HAD := hid (netAdj_any B s.D VP VK VT s.L a W2 h1 ha)
 clear q0 q2 q3 q4 q5 q6 q7 q8 b0 b1 bb h1 h2 h3 h4 h5
 go_enter Tryz.func115, Tryz.ntmps115
 go_wp2_with fail
 rw [← HW2.out]
 refine HAD.out.mono ?_
 rintro e w3 ⟨v3, rfl, ho3, hb3⟩
 obtain ⟨sa, sc, rfl, hsp, _, _⟩ := ho3.shape HSOK.out
 have HB3 : Hid (Below w.heap.size w w3) := hid (HBB.out.trans (hb3.mono HBB.out.size))
 have HSA := hid (ShowAdj_any (s.D a) sa _ sc (Pl.sidesK (s.L a) 12) w3 hsp (HTab.out.below HB3.out))
 rw [HS.out, HT1.out] at HSA
 have HB23 := hid hb3
 have hz3 := hb3.size
 clear ho3 hb3 hsp q1
 go_wp2_with fail
 refine HSA.out.mono ?_
 rintro e w4 ⟨rfl, hb4⟩
 have HB4 : Hid (Below w.heap.size w w4) := hid (HB3.out.trans (hb4.mono HB3.out.size))
 have HB24 : Hid (Below W2.heap.size W2 w4) := hid (HB23.out.trans (hb4.mono HB23.out.size))
 have hz4 := hb4.size
 clear hb4
 go_wp2_with fail
 rename_i K hK
 obtain ⟨VP, VK, VT, h1, h2, h3, h4, h5⟩ := HN.out.below HB4.out
 obtain ⟨pa, pc, ev, hpi, _, _⟩ := (h2 a ha).shape HPOK.out
 have hpn := h1.prefixes a ha
 rw [ev] at hpn
 have hB4 := h1.lt
 have hX14 := (HB24.out.cell (p := ⟨w.heap.size, 1, none⟩) hxl).trans Q1.out
 refine netTell4 (B := B) (xb := w.heap.size) (a := a) rfl rfl rfl hB4 (by omega) hX14 hpn ha' hpi (HTab.out.below HB4.out) ?_ _ (by kernel_rfl)
 rw [HP.out, HT2.out]
 intro xs W5 hxl2 ho hc hb5
 obtain ⟨x0, x1, x2, x3, x4, x5, x6, x7, x8, x9, x10, x11, x12, x13, x14, x15, x16, x17, x18, x19, x20, x21, x22, x23, x24, x25, rfl⟩ := listN26 xs hxl2
 have ho : x1 = .string t2 := ho
 have hc : x0 = .int .i64 0 := hc
 subst ho
 subst hc
 have HB5 : Hid (Below w.heap.size w W5) := hid (HB4.out.trans (hb5.mono HB4.out.size))
 have HB25 : Hid (Below W2.heap.size W2 W5) := hid (HB24.out.trans (hb5.mono HB24.out.size))
 have hz5 := hb5.size
 clear hxl2 hb5 h1 h2 h3 h4 h5 ev hpi hpn hX14
 simp only [setFrom_spl, spl]
 refine hK _ W5 ?_
 clear hK
 go_wp2_with fail
 rename_i K2 hK2
 refine netTell7 (B := B) (xb := w.heap.size) (a := a) (s := s) (t1 := t1) (t2 := t2) rfl rfl rfl rfl rfl rfl (by omega) ((HB25.out.cell (p := ⟨w.heap.size, 1, none⟩) hxl).trans Q1.out) ((HB25.out.block _ (by omega)).trans HX1.out) hne2 ha (HN.out.below HB5.out) HF.out (HTab.out.below HB5.out) HSZ.out ?_ _ (by kernel_rfl)
 intro xs W6 c k hxl3 hP hx6
 obtain ⟨W7, vk, hv, hb7, hk7, hn7, hp7⟩ := hP
 obtain ⟨ta, tc, rfl⟩ := ownsRow_slice hk7
 cases hv
 obtain ⟨x0, x1, x2, x3, x4, x5, x6, x7, x8, x9, x10, x11, x12, x13, x14, rfl⟩ := listN15 xs hxl3
 have HB7 : Hid (Below w.heap.size w W7) := hid (HB5.out.trans (hb7.mono HB5.out.size))
 have hfx := set4_at hx6 (.int .i64 (Pl.putsS (s.K a) a [(Pl.adjKey a, t1), (Pl.pfxKey a, t2)] 2).1) (.slice none 0 0) (.int .i64 0) (.slice ta (Pl.putsK s a [(Pl.adjKey a, t1), (Pl.pfxKey a, t2)]).length tc)
 have hbut := set4_but (But.refl (w.heap.size + 1) W6) (.int .i64 (Pl.putsS (s.K a) a [(Pl.adjKey a, t1), (Pl.pfxKey a, t2)] 2).1) (.slice none 0 0) (.int .i64 0) (.slice ta (Pl.putsK s a [(Pl.adjKey a, t1), (Pl.pfxKey a, t2)]).length tc)
 generalize set4 W6 (w.heap.size + 1) (.int .i64 (Pl.putsS (s.K a) a [(Pl.adjKey a, t1), (Pl.pfxKey a, t2)] 2).1) (.slice none 0 0) (.int .i64 0) (.slice ta (Pl.putsK s a [(Pl.adjKey a, t1), (Pl.pfxKey a, t2)]).length tc) = Wf at *
 have HFIN : Hid (OwnS Wf w.heap.size (.slice ta (Pl.putsK s a [(Pl.adjKey a, t1), (Pl.pfxKey a, t2)]).length tc) (Pl.putsK s a [(Pl.adjKey a, t1), (Pl.pfxKey a, t2)]) ∧ NetAt Wf B (Pl.putsN s a [(Pl.adjKey a, t1), (Pl.pfxKey a, t2)]) ∧ NKept B w Wf) := hid ⟨ownS_reply (World.ownsRow_mono hk7 HB7.out.size) hbut hx6, hn7.reply hbut hx6 hne2, ((NKept.of (But.of HB7.out)).trans hp7).over hbut hle⟩
 obtain ⟨⟨z0, z1, z2, z3⟩, _, _⟩ := box4c hfx
 clear hxl3 hb7 hk7 hn7 hp7 hbut hfx hx6
 simp only [setFrom_spl, spl]
 refine hK2 _ Wf ?_
 go_wp2_with fail
 exact bodyPost_ret (v := .agg #[.int .i64 (Pl.putsS (s.K a) a [(Pl.adjKey a, t1), (Pl.pfxKey a, t2)] 2).1, .slice none 0 0, .int .i64 0, .slice ta (Pl.putsK s a [(Pl.adjKey a, t1), (Pl.pfxKey a, t2)]).length tc]) (by simp [results, Tryz.results115, go_sem, z0, z1, z2, z3]) rfl ⟨_, rfl, HFIN.out⟩
theorem Pl.ints_eq_of {xs ys : List Int} (hl : xs.length = ys.length) (h : ∀ t, t < xs.length → Pl.nm xs t = Pl.nm ys t) : xs = ys := by
 refine List.ext_getElem hl fun i h1 h2 => ?_
 have := h i h1
 rwa [Pl.nm_eq xs i h1, Pl.nm_eq ys i h2] at this
set_option maxHeartbeats 1000000 in
theorem EqualI_any (a b : Option Addr) (la lb ca cb : Nat) (xs ys : List Int) (w : World) (h1 : IsInts w a la ca xs) (h2 : IsInts w b lb cb ys) :
  Calls Tryz.prog 43 #[.slice a la ca, .slice b lb cb] w fun e w' => e = .returned (.bool (decide (xs = ys))) ∧ Below w.heap.size w w' := by
 have HA := hid h1
 have HB2 := hid h2
 have HLA : Hid (xs.length = la) := hid h1.1
 have HLB : Hid (ys.length = lb) := hid h2.1
 have hc1 := h1.2.1
 have hm1 := h1.2.2.1
 have hc2 := h2.2.1
 have hm2 := h2.2.2.1
 unfold maxLen at hm1 hm2
 clear h1 h2
 obtain ⟨R, HR⟩ : ∃ R, Hid (decide (xs = ys) = R) := ⟨_, rfl⟩
 rw [HR.out]
 by_cases hlen : la = lb
 ·subst hlen
  have hne : ((la : Int) != (la : Int)) = false := by simp
  go_enter Tryz.func43, Tryz.ntmps43
  go_wp2_with fail
  go_loopw [13] (fun i wr => ∃ k : Nat, k ≤ la ∧ i = .int .i64 k ∧ Hid (∀ t, t < k → Pl.nm xs t = Pl.nm ys t) ∧ Hid (Below w.heap.size w wr)) (fun i _ => la - (intOf i).toNat)
  case atStart => exact ⟨0, Nat.zero_le _, rfl, hid (by intro t ht; omega), Below.refl _ _⟩
  case round =>
   obtain ⟨k, hk, rfl, HK, HB⟩ := hrel
   by_cases hlt : k < la
   ·obtain ⟨g1, o1, rfl, hg1, hr1⟩ := HA.out.at hlt
    obtain ⟨g2, o2, rfl, hg2, hr2⟩ := HB2.out.at hlt
    have c1 := (HB.out.cell (p := ⟨g1, o1 + k, none⟩) hg1).trans (hr1 k (by rw [HLA.out]; exact hlt))
    have c2 := (HB.out.cell (p := ⟨g2, o2 + k, none⟩) hg2).trans (hr2 k (by rw [HLB.out]; exact hlt))
    clear hr1 hr2
    have hz := HB.out.size
    have l1 : g1 < wr.heap.size := by omega
    have l2 : g2 < wr.heap.size := by omega
    have hlt' : (k : Int) < (la : Int) := by omega
    obtain ⟨e1, g1'⟩ : ∃ c, (Pl.nm xs k != Pl.nm ys k) = c := ⟨_, rfl⟩
    have HE := hid g1'
    obtain ⟨x, HX⟩ : ∃ x, Hid (Pl.nm xs k = x) := ⟨_, rfl⟩
    obtain ⟨y, HY⟩ : ∃ y, Hid (Pl.nm ys k = y) := ⟨_, rfl⟩
    rw [HX.out] at c1
    rw [HY.out] at c2
    rw [HX.out, HY.out] at g1'
    cases e1
    ·go_wp2_with fail
     go_quiet (fail)
     go_wp2_with fail
     go_roundw
     case rel => exact ⟨k + 1, by omega, by go_num, hid fun t ht => by rcases Nat.lt_or_ge t k with q | q; exact HK.out t q; obtain rfl : t = k := (by omega); simpa using HE.out, hid (below_drew HB.out _)⟩
     case measure => simp [intOf]; omega
    ·have HF : Hid (R = false) := hid (by
      rw [← HR.out, decide_eq_false_iff_not]
      intro e
      have := HE.out
      rw [e] at this
      simp at this)
     go_wp2_with fail
     go_quiet (fail)
     go_wp2_with fail
     go_ret
     exact ⟨ret_bool HF.out.symm, below_drew HB.out _⟩
   ·obtain rfl : k = la := by omega
    have HT : Hid (R = true) := hid (by
     rw [← HR.out, decide_eq_true_eq]
     exact Pl.ints_eq_of (by rw [HLA.out, HLB.out]) (by rw [HLA.out]; exact HK.out))
    go_wp2_with fail
    go_ret
    exact ⟨ret_bool HT.out.symm, HB.out⟩
 ·have hne : ((la : Int) != (lb : Int)) = true := by simp; omega
  have HF : Hid (R = false) := hid (by
   rw [← HR.out, decide_eq_false_iff_not]
   intro e
   apply hlen
   rw [← HLA.out, ← HLB.out, e])
  clear hlen
  go_enter Tryz.func43, Tryz.ntmps43
  go_wp2_with fail
  go_ret
  exact ⟨ret_bool HF.out.symm, Below.refl _ _⟩
theorem twoBoxes {w : World} {o o' : Obj} : Below w.heap.size w ((w.alloc o).alloc o') := ((Below.refl _ _).alloc (Nat.le_refl _) _).alloc (by simp) _
set_option maxHeartbeats 1000000 in
theorem same_any (g h : Pl.RH) (r s : Pl.Rt) (w : World) (h1 : Reads w g r) (h2 : Reads w h s) :
  Calls Tryz.prog 192 #[.agg #[.int .i64 g.p.1, .int .i64 g.p.2, .bool g.here, .int .i64 g.cost, .slice g.ha g.hl g.hc], .agg #[.int .i64 h.p.1, .int .i64 h.p.2, .bool h.here, .int .i64 h.cost, .slice h.ha h.hl h.hc]] w fun e w' => e = .returned (.bool (Pl.sameR r s)) ∧ Below w.heap.size w w' := by
 obtain ⟨a1, a2, a3, a4, _⟩ := h1
 obtain ⟨b1, b2, b3, b4, _⟩ := h2
 obtain ⟨⟨p1, p2⟩, here, cost, ha, hl, hc⟩ := g
 obtain ⟨⟨q1, q2⟩, here', cost', hb, hl', hc'⟩ := h
 simp only at a1 a2 a3 a4 b1 b2 b3 b4
 simp only
 obtain ⟨R, HR⟩ : ∃ R, Hid (Pl.sameR r s = R) := ⟨_, rfl⟩
 rw [HR.out]
 obtain ⟨e3, HE3⟩ : ∃ c, Hid (decide (r.hops = s.hops) = c) := ⟨_, rfl⟩
 obtain ⟨e1, g1⟩ : ∃ c, (here == here') = c := ⟨_, rfl⟩
 obtain ⟨e2, g2⟩ : ∃ c, (cost == cost') = c := ⟨_, rfl⟩
 have HE : Hid (R = (e1 && e2 && e3)) := hid (by
  rw [← HR.out, ← HE3.out, ← g1, ← g2]
  unfold Pl.sameR
  rw [← a2, ← b2, ← a3, ← b3, Bool.eq_iff_iff]
  simp)
 have HA := hid a4
 have HB := hid b4
 have HQ : Hid (∀ W, Below w.heap.size w W → Calls Tryz.prog 43 #[.slice ha hl hc, .slice hb hl' hc'] W fun e w' => e = .returned (.bool e3) ∧ Below W.heap.size W w') := hid fun W hW => by
  have := EqualI_any ha hb hl hl' hc hc' r.hops s.hops W (HA.out.below hW) (HB.out.below hW)
  rwa [HE3.out] at this
 clear a1 a2 a3 a4 b1 b2 b3 b4
 cases e1
 ·go_enter Tryz.func192, Tryz.ntmps192
  go_wp2_with fail
  go_ret
  exact ⟨ret_bool (by rw [HE.out]; rfl), twoBoxes⟩
 ·cases e2
  ·go_enter Tryz.func192, Tryz.ntmps192
   go_wp2_with fail
   go_ret
   exact ⟨ret_bool (by rw [HE.out]; rfl), twoBoxes⟩
  ·go_enter Tryz.func192, Tryz.ntmps192
   go_wp2_with (go_at_call 43; refine (HQ.out _ twoBoxes).mono ?_; rintro e w1 ⟨rfl, hb1⟩)
   go_ret
   exact ⟨ret_bool (by rw [HE.out]; rfl), twoBoxes.trans (hb1.mono (by simp; omega))⟩
def Pl.diffC (a b : List Pl.Rt) : Int := if Pl.tabF a = 0 then Pl.tabF b else Pl.tabF a
def Pl.diffS (a b : List Pl.Rt) : List Pl.Rt := if Pl.diffC a b = 0 then Pl.setL a b else []
def Pl.diffG (a b : List Pl.Rt) : List (Int × Int) := if Pl.diffC a b = 0 then Pl.goneL a b else []
theorem Pl.take_rt (rs : List Pl.Rt) (k : Nat) (h : k < rs.length) : rs.take (k + 1) = rs.take k ++ [Pl.rt rs k] := by
 rw [List.take_succ_eq_append_getElem h, Pl.rt_eq rs k h]
theorem Pl.setL_succ (a b : List Pl.Rt) (k : Nat) (h : k < b.length) : Pl.setL a (b.take (k + 1)) = Pl.setL a (b.take k) ++ (if Pl.keptB a (Pl.rt b k) then [] else [Pl.rt b k]) := by
 unfold Pl.setL
 rw [Pl.take_rt b k h, List.filter_append]
 cases hk : Pl.keptB a (Pl.rt b k) <;> simp [hk]
theorem Pl.goneL_succ (a b : List Pl.Rt) (k : Nat) (h : k < a.length) : Pl.goneL (a.take (k + 1)) b = Pl.goneL (a.take k) b ++ (if Pl.thereP (b.map Pl.Rt.p) (Pl.rt a k).p then [] else [(Pl.rt a k).p]) := by
 unfold Pl.goneL
 rw [Pl.take_rt a k h, List.filter_append, List.map_append]
 cases hk : Pl.thereP (b.map Pl.Rt.p) (Pl.rt a k).p <;> simp [hk]
theorem Pl.setL_len (a b : List Pl.Rt) : (Pl.setL a b).length ≤ b.length := List.length_filter_le _ _
theorem Pl.goneL_len (a b : List Pl.Rt) : (Pl.goneL a b).length ≤ a.length := by
 unfold Pl.goneL
 rw [List.length_map]
 exact List.length_filter_le _ _
theorem infoPfxR : (Tryz.prog.info? 49).map (fun i => (i.zero, i.size, i.bytes)) = some (some (.agg #[.int .i64 0, .int .i64 0]), 2, 16) := by kernel_rfl
set_option maxRecDepth 20000 in
set_option maxHeartbeats 4000000 in
theorem Diff_any (a : Option Addr) (la ca : Nat) (hs : List Pl.RH) (rs : List Pl.Rt) (b : Option Addr) (lb cb : Nat) (gs : List Pl.RH) (ss : List Pl.Rt) (w : World) (h1 : IsRows w a la ca hs) (d1 : ReadsAll w hs rs) (h2 : IsRows w b lb cb gs) (d2 : ReadsAll w gs ss) :
  Calls Tryz.prog 167 #[.slice a la ca, .slice b lb cb] w fun e w' =>
   ∃ vs vg es, e = .returned (.tuple #[vs, vg, .int .i64 (Pl.diffC rs ss)]) ∧ OwnTb w' w.heap.size vs es (Pl.diffS rs ss) ∧ OwnP 49 w' w.heap.size vg (Pl.diffG rs ss) ∧ Below w.heap.size w w' := by
 have H1 := hid h1
 have D1 := hid d1
 have H2 := hid h2
 have D2 := hid d2
 have HL1 : Hid (hs.length = la) := hid h1.1
 have HL2 : Hid (gs.length = lb) := hid h2.1
 have HR1 : Hid (rs.length = la) := hid (by rw [← d1.1]; exact h1.1)
 have HR2 : Hid (ss.length = lb) := hid (by rw [← d2.1]; exact h2.1)
 have hc1 := h1.2.1
 have hm1 := h1.2.2.1
 have hc2 := h2.2.1
 have hm2 := h2.2.2.1
 unfold maxLen at hm1 hm2
 clear h1 d1 h2 d2
 obtain ⟨DC, HDC⟩ : ∃ x, Hid (Pl.diffC rs ss = x) := ⟨_, rfl⟩
 obtain ⟨DS, HDS⟩ : ∃ x, Hid (Pl.diffS rs ss = x) := ⟨_, rfl⟩
 obtain ⟨DG, HDG⟩ : ∃ x, Hid (Pl.diffG rs ss = x) := ⟨_, rfl⟩
 rw [HDC.out, HDS.out, HDG.out]
 obtain ⟨c1, HC1⟩ : ∃ c, Hid (Pl.tabF rs = c) := ⟨_, rfl⟩
 obtain ⟨c2, HC2⟩ : ∃ c, Hid (Pl.tabF ss = c) := ⟨_, rfl⟩
 by_cases hz1 : c1 = 0
 ·subst hz1
  by_cases hz2 : c2 = 0
  ·subst hz2
   have HE : Hid (DC = 0 ∧ DS = Pl.setL rs ss ∧ DG = Pl.goneL rs ss) := hid (by
    have e : Pl.diffC rs ss = 0 := by unfold Pl.diffC; rw [HC1.out, if_pos rfl, HC2.out]
    rw [← HDC.out, ← HDS.out, ← HDG.out]
    unfold Pl.diffS Pl.diffG
    rw [e, if_pos rfl, if_pos rfl]
    exact ⟨rfl, rfl, rfl⟩)
   have hg1 := Pl.good_of_tabF HC1.out
   have hg2 := Pl.good_of_tabF HC2.out
   have HA1 : Hid (Pl.AscP (Pl.hp hs)) := hid (by unfold Pl.hp; rw [D1.out.map_p]; exact hg1.2.2)
   have HA2 : Hid (Pl.AscP (Pl.hp gs)) := hid (by unfold Pl.hp; rw [D2.out.map_p]; exact hg2.2.2)
   have hb1 : la ≤ 200 := by have := hg1.1; rw [HR1.out] at this; exact this
   have hb2 : lb ≤ 200 := by have := hg2.1; rw [HR2.out] at this; exact this
   have HRB2 : Hid (∀ i, i < lb → Pl.routeB (Pl.rt ss i) = true) := hid fun i hi => hg2.2.1 i (by rw [HR2.out]; exact hi)
   have HP1 : Hid (rs.map Pl.Rt.p = Pl.hp hs) := hid D1.out.map_p.symm
   have HP2 : Hid (ss.map Pl.Rt.p = Pl.hp gs) := hid D2.out.map_p.symm
   have HLP : Hid ((Pl.hp hs).length = la) := hid (by rw [Pl.hp_len, HL1.out])
   clear hg1 hg2
   go_enter Tryz.func167, Tryz.ntmps167
   go_wp2_with fail
   refine (Check_rib _ _ _ hs rs _ H1.out D1.out).mono ?_
   rw [HC1.out]
   rintro e w1 ⟨rfl, hbA⟩
   go_wp2_with fail
   refine (Check_rib _ _ _ gs ss _ (H2.out.below hbA) (D2.out.below hbA)).mono ?_
   rw [HC2.out]
   rintro e w2 ⟨rfl, hbB⟩
   have HB0 := hid (hbA.trans (hbB.mono hbA.size))
   clear hbA hbB
   go_wp2_with fail
   go_loopw [9, 31] (fun v i wr => ∃ (k : Nat) (es : List Pl.RH), k ≤ lb ∧ i = .int .i64 k ∧ Hid (OwnTb wr w.heap.size v es (Pl.setL rs (ss.take k))) ∧ Hid (Below w.heap.size w wr)) (fun _ i _ => lb - (intOf i).toNat)
   case atStart => exact ⟨0, [], Nat.zero_le _, rfl, hid (OwnTb.nil _ _), HB0⟩
   case round =>
    obtain ⟨k, es, hk, rfl, HO, HB⟩ := hrel
    by_cases hlt : k < lb
    ·obtain ⟨bb, off, rfl, hbw, hr⟩ := H2.out.at hlt
     have hz := HB.out.size
     obtain ⟨x0, x1, x2, x3, x4⟩ := hr.below hbw HB.out k (by rw [HL2.out]; exact hlt)
     have HRD := hid (D2.out.2 k (by rw [HL2.out]; exact hlt))
     have HSU := hid (Pl.setL_succ rs ss k (by rw [HR2.out]; exact hlt))
     have hhl : (Pl.rh gs k).hl ≤ 1000 := by
      have e1 := HRD.out.2.2.2.1.1
      have e2 := Pl.routeB_hops (HRB2.out k hlt)
      omega
     obtain ⟨kb, HKB⟩ : ∃ x, Hid (Pl.keptB rs (Pl.rt ss k) = x) := ⟨_, rfl⟩
     have HKE : Hid (kb = (Pl.thereP (Pl.hp hs) (Pl.rh gs k).p && Pl.sameR (Pl.rt rs (Pl.posP (Pl.hp hs) (Pl.rh gs k).p)) (Pl.rt ss k))) := hid (by
      rw [← HKB.out]; unfold Pl.keptB; rw [HP1.out, HRD.out.1])
     rw [HKB.out] at HSU
     obtain ⟨r, HRR⟩ : ∃ x, Hid (Pl.rt ss k = x) := ⟨_, rfl⟩
     rw [HRR.out] at HRD HSU HKE
     generalize Pl.rh gs k = hh at *
     obtain ⟨⟨p1, p2⟩, here, cost, hha, hhl', hhc⟩ := hh
     simp only at x0 x1 x2 x3 x4 hhl HKE
     obtain ⟨tt, HT⟩ : ∃ x, Hid (Pl.thereP (Pl.hp hs) (p1, p2) = x) := ⟨_, rfl⟩
     have HFI : Hid (∀ W, Below w.heap.size w W → Calls Tryz.prog 67 #[.slice a la ca, .agg #[.int .i64 p1, .int .i64 p2]] W fun e w' => e = .returned (.tuple #[.int .i64 (Pl.posP (Pl.hp hs) (p1, p2)), .bool tt]) ∧ Below W.heap.size W w') := hid fun W hW => by
      have := find_rib a la ca hs p1 p2 W (H1.out.below hW) HA1.out (by omega)
      rwa [HT.out] at this
     have HPL : Hid (tt = true → Pl.posP (Pl.hp hs) (p1, p2) < la) := hid fun e => by
      have := Pl.thereP_lt (by rw [HT.out]; exact e : Pl.thereP (Pl.hp hs) (p1, p2) = true)
      rwa [HLP.out] at this
     rw [HT.out] at HKE
     generalize Pl.posP (Pl.hp hs) (p1, p2) = ix at *
     have HFR : Hid (∀ W, Below w.heap.size w W → Calls Tryz.prog 69 #[.agg #[.int .i64 p1, .int .i64 p2, .bool here, .int .i64 cost, .slice hha hhl' hhc]] W fun e w' => ∃ g : Pl.RH, e = .returned (.agg #[.int .i64 g.p.1, .int .i64 g.p.2, .bool g.here, .int .i64 g.cost, .slice g.ha g.hl g.hc]) ∧ ReadsZ w' W.heap.size g r ∧ Below W.heap.size W w') := hid fun W hW => fresh_own ⟨(p1, p2), here, cost, hha, hhl', hhc⟩ r W (HRD.out.below hW) hhl
     have HLE : Hid (es.length ≤ 200) := hid (by
      rw [HO.out.2.1]
      have e1 := Pl.setL_len rs (ss.take k)
      have e2 := List.length_take_le k ss
      omega)
     cases tt
     ·have HK0 : Hid (kb = false) := hid (by rw [HKE.out]; rfl)
      go_wp2_with fail
      refine (HFI.out _ (HB.out.alloc hz _)).mono ?_
      rintro e w3 ⟨rfl, hb3⟩
      obtain ⟨⟨y0, y1, y2, y3, y4⟩, hbx, hbb⟩ := box5 (by simpa using hb3)
      have HB3 := hid (HB.out.trans (hbb.mono hz))
      have HO3 := hid (HO.out.below hbb)
      clear hb3 x0 x1 x2 x3 x4
      go_wp2_with fail
      have hne := in_some w3
      refine wp_region_in (by kernel_rfl) (by kernel_rfl) ?_
      repeat (go_big_quiet_step (fail))
      refine wpQuiet_nil ?_
      intro w4 hw'
      have hb4 := in_out hw'
      clear hw' hne
      have HB4 := hid (HB3.out.trans (hb4.mono HB3.out.size))
      have HO4 := hid (HO3.out.below hb4)
      have z0 := (hb4.cell (p := ⟨wr.heap.size, 0, none⟩) hbx).trans y0
      have z1 := (hb4.cell (p := ⟨wr.heap.size, 1, none⟩) hbx).trans y1
      have z2 := (hb4.cell (p := ⟨wr.heap.size, 2, none⟩) hbx).trans y2
      have z3 := (hb4.cell (p := ⟨wr.heap.size, 3, none⟩) hbx).trans y3
      have z4 := (hb4.cell (p := ⟨wr.heap.size, 4, none⟩) hbx).trans y4
      clear hb4 y0 y1 y2 y3 y4 hbb
      go_wp2_with fail
      refine (HFR.out _ HB4.out).mono ?_
      rintro e w6 ⟨g, rfl, hg6, hb6⟩
      have HB6 := hid (HB4.out.trans (hb6.mono HB4.out.size))
      have HO6 := hid (HO4.out.below hb6)
      have HG6 := hid (hg6.mono HB4.out.size)
      have hz6 := HB6.out.size
      clear hg6 hb6
      go_wp2_with (at_builtin; refine append_rt rfl (.tmp 53) (.tmp 56) rfl w.heap.size u9 es g rfl HO6.out.1 hz6 rfl (by have := HLE.out; omega) ?_; intro v7 w7 hown7 hg7 hb7; have HO7 := hid (HO6.out.snoc HG6.out hown7 hg7); have HB7 := hid (HB6.out.trans hb7); clear hown7 hg7 hb7)
      go_roundw
      case rel => exact ⟨k + 1, es ++ [g], by omega, by go_num, hid (by rw [HSU.out, HK0.out]; exact HO7.out), HB7⟩
      case measure => simp [intOf]; omega
     ·have hix := HPL.out rfl
      obtain ⟨ba, offa, rfl, hbaw, hra⟩ := H1.out.at hix
      obtain ⟨s0, s1, s2, s3, s4⟩ := hra ix (by rw [HL1.out]; exact hix)
      have HRA := hid (D1.out.2 ix (by rw [HL1.out]; exact hix))
      generalize Pl.rh hs ix = ga at *
      obtain ⟨⟨q1, q2⟩, here2, cost2, ga2, gl2, gc2⟩ := ga
      simp only at s0 s1 s2 s3 s4
      obtain ⟨sm, HSM⟩ : ∃ x, Hid (Pl.sameR (Pl.rt rs ix) r = x) := ⟨_, rfl⟩
      have HKS : Hid (kb = sm) := hid (by rw [HKE.out, HSM.out]; rfl)
      have HSC : Hid (∀ W, Below w.heap.size w W → Calls Tryz.prog 192 #[.agg #[.int .i64 q1, .int .i64 q2, .bool here2, .int .i64 cost2, .slice ga2 gl2 gc2], .agg #[.int .i64 p1, .int .i64 p2, .bool here, .int .i64 cost, .slice hha hhl' hhc]] W fun e w' => e = .returned (.bool sm) ∧ Below W.heap.size W w') := hid fun W hW => by
       have := same_any ⟨(q1, q2), here2, cost2, ga2, gl2, gc2⟩ ⟨(p1, p2), here, cost, hha, hhl', hhc⟩ (Pl.rt rs ix) r W (HRA.out.below hW) (HRD.out.below hW)
       rwa [HSM.out] at this
      have hix' : (ix : Int) < (la : Int) := by omega
      cases sm
      all_goals
       go_wp2_with fail
       refine (HFI.out _ (HB.out.alloc hz _)).mono ?_
       rintro e w3 ⟨rfl, hb3⟩
       obtain ⟨⟨y0, y1, y2, y3, y4⟩, hbx, hbb⟩ := box5 (by simpa using hb3)
       have HB3 := hid (HB.out.trans (hbb.mono hz))
       have HO3 := hid (HO.out.below hbb)
       clear hb3 x0 x1 x2 x3 x4
       have t0 := (HB3.out.cell (p := ⟨ba, offa + ix * 5, none⟩) hbaw).trans s0
       have t1 := (HB3.out.cell (p := ⟨ba, offa + ix * 5 + 1, none⟩) hbaw).trans s1
       have t2 := (HB3.out.cell (p := ⟨ba, offa + ix * 5 + 2, none⟩) hbaw).trans s2
       have t3 := (HB3.out.cell (p := ⟨ba, offa + ix * 5 + 3, none⟩) hbaw).trans s3
       have t4 := (HB3.out.cell (p := ⟨ba, offa + ix * 5 + 4, none⟩) hbaw).trans s4
       have hba3 : ba < w3.heap.size := by have := HB3.out.size; omega
       go_wp2_with fail
       have i0 := in_cell hba3 t0
       have i1 := in_cell hba3 t1
       have i2 := in_cell hba3 t2
       have i3 := in_cell hba3 t3
       have i4 := in_cell hba3 t4
       have j0 := in_cell hbx y0
       have j1 := in_cell hbx y1
       have j2 := in_cell hbx y2
       have j3 := in_cell hbx y3
       have j4 := in_cell hbx y4
       have hne := in_some w3
       have HSX := hid (fun x : WIn w3 => HSC.out x.w (HB3.out.trans (x.h.mono HB3.out.size)))
       refine wp_region_in (by kernel_rfl) (by kernel_rfl) ?_
       repeat (go_big_quiet_step ((go_at_call 192; exact in_call (HSX.out _))))
       refine wpQuiet_nil ?_
       intro w4 hw'
       have hb4 := in_out hw'
       clear hw' hne i0 i1 i2 i3 i4 j0 j1 j2 j3 j4 t0 t1 t2 t3 t4 s0 s1 s2 s3 s4
      ·have HK0 : Hid (kb = false) := HKS
       have HB4 := hid (HB3.out.trans (hb4.mono HB3.out.size))
       have HO4 := hid (HO3.out.below hb4)
       have z0 := (hb4.cell (p := ⟨wr.heap.size, 0, none⟩) hbx).trans y0
       have z1 := (hb4.cell (p := ⟨wr.heap.size, 1, none⟩) hbx).trans y1
       have z2 := (hb4.cell (p := ⟨wr.heap.size, 2, none⟩) hbx).trans y2
       have z3 := (hb4.cell (p := ⟨wr.heap.size, 3, none⟩) hbx).trans y3
       have z4 := (hb4.cell (p := ⟨wr.heap.size, 4, none⟩) hbx).trans y4
       clear hb4 y0 y1 y2 y3 y4 hbb
       go_wp2_with fail
       refine (HFR.out _ HB4.out).mono ?_
       rintro e w6 ⟨g, rfl, hg6, hb6⟩
       have HB6 := hid (HB4.out.trans (hb6.mono HB4.out.size))
       have HO6 := hid (HO4.out.below hb6)
       have HG6 := hid (hg6.mono HB4.out.size)
       have hz6 := HB6.out.size
       clear hg6 hb6
       go_wp2_with (at_builtin; refine append_rt rfl (.tmp 53) (.tmp 56) rfl w.heap.size u9 es g rfl HO6.out.1 hz6 rfl (by have := HLE.out; omega) ?_; intro v7 w7 hown7 hg7 hb7; have HO7 := hid (HO6.out.snoc HG6.out hown7 hg7); have HB7 := hid (HB6.out.trans hb7); clear hown7 hg7 hb7)
       go_roundw
       case rel => exact ⟨k + 1, es ++ [g], by omega, by go_num, hid (by rw [HSU.out, HK0.out]; exact HO7.out), HB7⟩
       case measure => simp [intOf]; omega
      ·go_wp2_with fail
       go_roundw
       case rel => exact ⟨k + 1, es, by omega, by go_num, hid (by rw [HSU.out, HKS.out]; simpa using HO3.out.below hb4), hid (HB3.out.trans (hb4.mono HB3.out.size))⟩
       case measure => simp [intOf]; omega
    ·obtain rfl : k = lb := by omega
     have HO9 : Hid (OwnTb wr w.heap.size u9 es (Pl.setL rs ss)) := hid (by
      have := HO.out
      rwa [List.take_of_length_le (by rw [HR2.out]; exact Nat.le_refl _)] at this)
     clear HO
     generalize u9 = v9 at *
     generalize wr = W9 at *
     go_wp2_with fail
     go_loopw [14, 61] (fun v i wq => ∃ k : Nat, k ≤ la ∧ i = .int .i64 k ∧ Hid (OwnP 49 wq W9.heap.size v (Pl.goneL (rs.take k) ss)) ∧ Hid (Below W9.heap.size W9 wq)) (fun _ i _ => la - (intOf i).toNat)
     case atStart => exact ⟨0, Nat.zero_le _, rfl, hid (OwnP.nil _ _ _), hid (Below.refl _ _)⟩
     case round =>
      obtain ⟨j, hj, rfl, HP, HQ⟩ := hrel
      have HBQ := hid (HB.out.trans (HQ.out.mono HB.out.size))
      by_cases hlt : j < la
      ·obtain ⟨ba, offa, rfl, hbaw, hra⟩ := H1.out.at hlt
       have hz := HBQ.out.size
       have hzq := HQ.out.size
       obtain ⟨x0, x1, x2, x3, x4⟩ := hra.below hbaw HBQ.out j (by rw [HL1.out]; exact hlt)
       have HRD := hid (D1.out.2 j (by rw [HL1.out]; exact hlt))
       have HSU := hid (Pl.goneL_succ rs ss j (by rw [HR1.out]; exact hlt))
       have HLE : Hid ((Pl.goneL (rs.take j) ss).length ≤ 200) := hid (by
        have e1 := Pl.goneL_len (rs.take j) ss
        have e2 := List.length_take_le j rs
        omega)
       rw [HP2.out, ← HRD.out.1] at HSU
       generalize Pl.rh hs j = hh at *
       obtain ⟨⟨p1, p2⟩, here, cost, hha, hhl', hhc⟩ := hh
       simp only at x0 x1 x2 x3 x4 HSU
       obtain ⟨tt, HT⟩ : ∃ x, Hid (Pl.thereP (Pl.hp gs) (p1, p2) = x) := ⟨_, rfl⟩
       rw [HT.out] at HSU
       have HFI : Hid (∀ W, Below w.heap.size w W → Calls Tryz.prog 67 #[.slice b k cb, .agg #[.int .i64 p1, .int .i64 p2]] W fun e w' => e = .returned (.tuple #[.int .i64 (Pl.posP (Pl.hp gs) (p1, p2)), .bool tt]) ∧ Below W.heap.size W w') := hid fun W hW => by
        have := find_rib b k cb gs p1 p2 W (H2.out.below hW) HA2.out (by omega)
        rwa [HT.out] at this
       generalize Pl.posP (Pl.hp gs) (p1, p2) = ix at *
       cases tt
       ·go_wp2_with fail
        refine (HFI.out _ (HBQ.out.alloc hz _)).mono ?_
        rintro e w3 ⟨rfl, hb3⟩
        obtain ⟨⟨y0, y1, y2, y3, y4⟩, hbx, hbb⟩ := box5 (by simpa using hb3)
        have HQ3 := hid (HQ.out.trans (hbb.mono hzq))
        have HP3 := hid (HP.out.below hbb)
        have hz3 := HQ3.out.size
        clear hb3 x0 x1 x2 x3 x4
        go_wp2_with (at_builtin; refine append_pairT Tryz.underlying29 infoPfxR rfl (.tmp 74) (.tmp 77) rfl W9.heap.size u14 (Pl.goneL (rs.take j) ss) (p1, p2) rfl HP3.out hz3 rfl (by have := HLE.out; omega) ?_; intro v5 w5 ho5 hb5 _; have HP5 := hid ho5; have HQ5 := hid (HQ3.out.trans hb5); clear ho5 hb5)
        go_roundw
        case rel => exact ⟨j + 1, by omega, by go_num, hid (by rw [HSU.out]; exact HP5.out), HQ5⟩
        case measure => simp [intOf]; omega
       ·go_wp2_with fail
        refine (HFI.out _ (HBQ.out.alloc hz _)).mono ?_
        rintro e w3 ⟨rfl, hb3⟩
        obtain ⟨⟨y0, y1, y2, y3, y4⟩, hbx, hbb⟩ := box5 (by simpa using hb3)
        have HQ3 := hid (HQ.out.trans (hbb.mono hzq))
        have HP3 := hid (HP.out.below hbb)
        clear hb3 x0 x1 x2 x3 x4
        go_wp2_with fail
        go_roundw
        case rel => exact ⟨j + 1, by omega, by go_num, hid (by rw [HSU.out]; simpa using HP3.out), HQ3⟩
        case measure => simp [intOf]; omega
      ·have HPE : Hid (OwnP 49 wr W9.heap.size u14 (Pl.goneL rs ss)) := hid (by
        have := HP.out
        rwa [List.take_of_length_le (by rw [HR1.out]; omega)] at this)
       have hnl : ¬ ((j : Int) < (la : Int)) := by omega
       go_wp2_with fail
       go_ret3
       exact ⟨_, _, by rw [HE.out.1]; rfl, ⟨es, by rw [HE.out.2.1]; exact HO9.out.below HQ.out⟩, by rw [HE.out.2.2]; exact HPE.out.mono HB.out.size, HBQ.out⟩
  ·have HE : Hid (DC = c2 ∧ DS = [] ∧ DG = []) := hid (by
    have e : Pl.diffC rs ss = c2 := by unfold Pl.diffC; rw [HC1.out, if_pos rfl, HC2.out]
    rw [← HDC.out, ← HDS.out, ← HDG.out]
    unfold Pl.diffS Pl.diffG
    rw [e, if_neg hz2, if_neg hz2]
    exact ⟨rfl, rfl, rfl⟩)
   have hd0 : (c2 != 0) = true := by simpa using hz2
   clear hz2
   go_enter Tryz.func167, Tryz.ntmps167
   go_wp2_with fail
   refine (Check_rib _ _ _ hs rs _ H1.out D1.out).mono ?_
   rw [HC1.out]
   rintro e w1 ⟨rfl, hbA⟩
   go_wp2_with fail
   refine (Check_rib _ _ _ gs ss _ (H2.out.below hbA) (D2.out.below hbA)).mono ?_
   rw [HC2.out]
   rintro e w2 ⟨rfl, hbB⟩
   have HB0 := hid (hbA.trans (hbB.mono hbA.size))
   clear hbA hbB
   go_wp2_with fail
   go_ret3
   exact ⟨_, _, [], by rw [HE.out.1]; rfl, by rw [HE.out.2.1]; exact OwnTb.nil _ _, by rw [HE.out.2.2]; exact OwnP.nil _ _ _, HB0.out⟩
 ·have HE : Hid (DC = c1 ∧ DS = [] ∧ DG = []) := hid (by
   have e : Pl.diffC rs ss = c1 := by unfold Pl.diffC; rw [HC1.out, if_neg hz1]
   rw [← HDC.out, ← HDS.out, ← HDG.out]
   unfold Pl.diffS Pl.diffG
   rw [e, if_neg hz1, if_neg hz1]
   exact ⟨rfl, rfl, rfl⟩)
  have hd0 : (c1 != 0) = true := by simpa using hz1
  clear hz1
  go_enter Tryz.func167, Tryz.ntmps167
  go_wp2_with fail
  refine (Check_rib _ _ _ hs rs _ H1.out D1.out).mono ?_
  rw [HC1.out]
  rintro e w1 ⟨rfl, hbA⟩
  go_wp2_with fail
  go_ret3
  exact ⟨_, _, [], by rw [HE.out.1]; rfl, by rw [HE.out.2.1]; exact OwnTb.nil _ _, by rw [HE.out.2.2]; exact OwnP.nil _ _ _, hbA⟩
def laid (L : List Value) (o : Nat) (cs : List Value) : List Value := L.take o ++ cs ++ L.drop (o + cs.length)
theorem laid_len (L : List Value) (o : Nat) (cs : List Value) (h : o + cs.length ≤ L.length) : (laid L o cs).length = L.length := by simp [laid]; omega
theorem run_copyR (w : World) (ty : TypeId) (g o dLen dCap : Nat) (ad : Addr) (sLen sCap : Nat) (L cs : List Value) (hg : w.heap[g]? = some (.cells L.toArray 80 (0, 0))) (hn : cs.length = Nat.min sLen dLen * 5)
  (hsrc : ∀ j v, cs[j]? = some v → w.cell? (ad.add j) = some v) (hfit : o + cs.length ≤ L.length) (h1 : ∀ v ∈ cs, v.oneCell' = true) :
  (Builtin.copy_ #[30, 30] ty #[.slice (some ⟨g, o, none⟩) dLen dCap, .slice (some ad) sLen sCap]).run Tryz.prog w = .ok (goInt (Nat.min sLen dLen)) (w.setRow g (laid L o cs).toArray) := by
 obtain ⟨i0, hi0, hz0, hz1, hz2⟩ := partsOf infoRoute
 have hl := run_loadCells_list (P := Tryz.prog) w ad cs hsrc
 have hst := run_storeCells_at Tryz.prog g o 80 cs 0 L.toArray w hg (by simpa using hfit) h1
 simp only [Nat.add_zero] at hst
 simp [Builtin.copy_, run_underlying Tryz.underlying30, Builtin.lenOf, Builtin.firstCells, sizeOf, typeInfo, hi0, hz1, ← hn, hl, hst, laid]
theorem But.row (w : World) (g : Nat) (cs : Array Value) : But g w (w.setRow g cs) := ⟨rfl, rfl, rfl, by simp [World.setRow], fun k _ hk => setRow_other w g k cs hk⟩
theorem wpList_copyR {w : World} {ops : Array Oper} {rest : List Oper} {o : Oper} {a : Act} {Q : Exit → Act → World → Prop} (hgd : o.guard = none) (d s : Operand)
  (ho : o.op = .call { callee := .builtin .copy, args := #[d, s], argTypes := #[30, 30] })
  (g off dLen dCap : Nat) (ad : Addr) (sLen sCap : Nat) (hd : a.eval d = .slice (some ⟨g, off, none⟩) dLen dCap) (hs : a.eval s = .slice (some ad) sLen sCap) (L cs : List Value) (hg : w.heap[g]? = some (.cells L.toArray 80 (0, 0))) (hn : cs.length = Nat.min sLen dLen * 5)
  (hsrc : ∀ j v, cs[j]? = some v → w.cell? (ad.add j) = some v) (hfit : off + cs.length ≤ L.length) (h1 : ∀ v ∈ cs, v.oneCell' = true)
  (h : ∀ w' v', w'.heap[g]? = some (.cells (laid L off cs).toArray 80 (0, 0)) → But g w w' → wpList Tryz.prog ops Q rest (a.put o.dst v') w') : wpList Tryz.prog ops Q (o :: rest) a w := by
 refine wpList_plain hgd fun K hK => ?_
 have hrun := run_copyR w o.type g off dLen dCap ad sLen sCap L cs hg hn hsrc hfit h1
 unfold Oper.wp
 simp [execOp, ho, resolve, invoke, builtin, hd, hs, hrun, Result.andThen]
 exact hK _ _ (h _ _ (setRow_heap w g _ _ _ _ hg) (But.row w g _))
theorem step_copyR {w : World} {ops : Array Oper} {o : Oper} {a : Act} {K : Act → World → Prop} {Q : Exit → Act → World → Prop} {E : Prop} (hgd : o.guard = none) (d s : Operand)
  (ho : o.op = .call { callee := .builtin .copy, args := #[d, s], argTypes := #[30, 30] })
  (g off dLen dCap : Nat) (ad : Addr) (sLen sCap : Nat) (hd : a.eval d = .slice (some ⟨g, off, none⟩) dLen dCap) (hs : a.eval s = .slice (some ad) sLen sCap) (L cs : List Value) (hg : w.heap[g]? = some (.cells L.toArray 80 (0, 0))) (hn : cs.length = Nat.min sLen dLen * 5)
  (hsrc : ∀ j v, cs[j]? = some v → w.cell? (ad.add j) = some v) (hfit : off + cs.length ≤ L.length) (h1 : ∀ v ∈ cs, v.oneCell' = true)
  (h : ∀ w' v', w'.heap[g]? = some (.cells (laid L off cs).toArray 80 (0, 0)) → But g w w' → K (a.put o.dst v') w') : if Region.wanted o (yielded ops a.tmps) = true then Oper.wp Tryz.prog o a w K Q else E := by
 have hw : Region.wanted o (yielded ops a.tmps) = true := by simp [Region.wanted, hgd]
 rw [if_pos hw]
 have hrun := run_copyR w o.type g off dLen dCap ad sLen sCap L cs hg hn hsrc hfit h1
 unfold Oper.wp
 simp [execOp, ho, resolve, invoke, builtin, hd, hs, hrun, Result.andThen]
 exact h _ _ (setRow_heap w g _ _ _ _ hg) (But.row w g _)
theorem But.grown {g : Nat} {w w' : World} (h : But g w w') : w.grownBy w' (some g) := ⟨h.os, h.tape, h.output, h.size, fun k hk hne => h.block k hk (by intro e; exact hne (by rw [e]))⟩
theorem grown_below {row : Option Nat} {w w' : World} (h : Below w.heap.size w w') : w.grownBy w' row := ⟨h.os, h.tape, h.output, h.size, fun k hk _ => h.block k hk⟩
theorem grown_trans {row : Option Nat} {a b c : World} (h : a.grownBy b row) (k : b.grownBy c row) : a.grownBy c row :=
 ⟨k.os.trans h.os, k.tape.trans h.tape, k.output.trans h.output, Nat.le_trans h.size k.size, fun i hi hne => (k.block i (Nat.lt_of_lt_of_le hi h.size) hne).trans (h.block i hi hne)⟩
theorem ownR_row {w : World} {base g n cap : Nat} {L : List Value} {hs : List Pl.RH} (hb : base ≤ g) (hg : w.heap[g]? = some (.cells L.toArray 80 (0, 0))) (hn : hs.length = n) (hc : n ≤ cap) (hm : cap ≤ maxLen) (hs' : L.length = cap * 5) (hx : L.take (n * 5) = cellsR hs) : OwnR w base (.slice (some ⟨g, 0, none⟩) n cap) hs := by
 subst hn
 exact ⟨cellsR_len hs, .inr ⟨g, cap, L.toArray, rfl, hb, hg, hc, hm, by simpa using hs', by simpa using hx⟩⟩
theorem OwnR.row {w : World} {base : Nat} {v : Value} {hs : List Pl.RH} (h : OwnR w base v hs) (hne : 0 < hs.length) :
  ∃ g cap L, v = .slice (some ⟨g, 0, none⟩) hs.length cap ∧ base ≤ g ∧ w.heap[g]? = some (.cells (List.toArray L) 80 (0, 0)) ∧ hs.length ≤ cap ∧ cap ≤ maxLen ∧ L.length = cap * 5 ∧ L.take (hs.length * 5) = cellsR hs := by
 obtain ⟨_, h | ⟨g, cap, cur, rfl, hb, hh, hn, hm, hs', hx⟩⟩ := h
 ·omega
 ·exact ⟨g, cap, cur.toList, rfl, hb, by simpa using hh, hn, hm, by simpa using hs', hx⟩
theorem row_cell {w : World} {g : Nat} {L : List Value} {T : TypeId} (hg : w.heap[g]? = some (.cells L.toArray T (0, 0))) {j : Nat} {u : Value} (h : L[j]? = some u) : w.cell? ⟨g, j, none⟩ = some u := by
 simp [World.cell?, hg, h]
theorem laid_twice (L A B X : List Value) (n i : Nat) (hA : A.length = i * 5) (hB : B.length = (n - i) * 5) (hX : X.length = 5) (hi : i < n) (hL : (n + 1) * 5 ≤ L.length) (h : L.take (n * 5) = A ++ B) :
  (laid (laid L ((i + 1) * 5) B) (i * 5) X).take ((n + 1) * 5) = A ++ (X ++ B) := by
 have hAL : L.take (i * 5) = A := by
  have : L.take (i * 5) = (L.take (n * 5)).take (i * 5) := by rw [List.take_take]; congr 1; omega
  rw [this, h, List.take_append_of_le_length (by omega), List.take_of_length_le (by omega)]
 have h1 : (laid L ((i + 1) * 5) B).take (i * 5) = A := by
  unfold laid
  rw [List.append_assoc, List.take_append_of_le_length (by simp; omega), List.take_take, show min (i * 5) ((i + 1) * 5) = i * 5 by omega, hAL]
 have h2 : (laid L ((i + 1) * 5) B).drop (i * 5 + X.length) = B ++ L.drop ((i + 1) * 5 + B.length) := by
  unfold laid
  rw [List.append_assoc, show i * 5 + X.length = (L.take ((i + 1) * 5)).length by simp; omega, List.drop_left]
 rw [show laid (laid L ((i + 1) * 5) B) (i * 5) X = (laid L ((i + 1) * 5) B).take (i * 5) ++ X ++ (laid L ((i + 1) * 5) B).drop (i * 5 + X.length) from rfl, h1, h2]
 rw [show A ++ X ++ (B ++ L.drop ((i + 1) * 5 + B.length)) = (A ++ (X ++ B)) ++ L.drop ((i + 1) * 5 + B.length) by simp, List.take_append_of_le_length (by simp; omega), List.take_of_length_le (by simp; omega)]
theorem laid_new (Z A B X : List Value) (n i : Nat) (hA : A.length = i * 5) (hB : B.length = (n - i) * 5) (hX : X.length = 5) (hi : i < n) :
  (laid (laid (A ++ Z) (i * 5) X) ((i + 1) * 5) B).take ((n + 1) * 5) = A ++ (X ++ B) := by
 have h1 : laid (A ++ Z) (i * 5) X = A ++ X ++ Z.drop 5 := by
  unfold laid
  rw [List.take_append_of_le_length (by omega), List.take_of_length_le (by omega), show i * 5 + X.length = A.length + 5 by omega, List.drop_append]
  simp
 rw [h1]
 unfold laid
 rw [show (i + 1) * 5 = (A ++ X).length by simp; omega, List.take_left, show A ++ X ++ B ++ (A ++ X ++ Z.drop 5).drop ((A ++ X).length + B.length) = (A ++ (X ++ B)) ++ (A ++ X ++ Z.drop 5).drop ((A ++ X).length + B.length) by simp, List.take_append_of_le_length (by simp; omega), List.take_of_length_le (by simp; omega)]
def rtObj (x : Pl.RH) : Obj := .cells #[.int .i64 x.p.1, .int .i64 x.p.2, .bool x.here, .int .i64 x.cost, .slice x.ha x.hl x.hc] 80
theorem overlapsNo (w : World) (g o lb cb : Nat) (L : List Value) (x : Pl.RH) (hg : w.heap[g]? = some (.cells L.toArray 80 (0, 0))) (hL : L.length ≠ 0) :
  (callFunc 153 #[.slice (some ⟨w.heap.size, 0, none⟩) 1 1, .slice (some ⟨g, o, none⟩) lb cb]).run Tryz.prog (w.alloc (rtObj x)) = .ok (.value (.bool false)) (w.alloc (rtObj x)) := by
 have hlt := blockLt hg
 have hnew : (w.alloc (rtObj x)).heap[w.heap.size]? = some (rtObj x) := heapNewZ w _
 have hgA : (w.alloc (rtObj x)).heap[g]? = some (.cells L.toArray 80 (0, 0)) := by rw [Below.heap_alloc _ _ _ hlt]; exact hg
 rw [run_callFunc_extern Tryz.func153 (by kernel_rfl) (by kernel_rfl) (by kernel_rfl) (e := Extern.SlicesOverlaps.overlaps #[30, 30] #[4]) (by kernel_rfl),
  Lib.run_overlaps_apart (w.alloc (rtObj x)) 30 4 80 Tryz.underlying30 5 Tryz.sizeOf80 ⟨w.heap.size, 0, none⟩ ⟨g, o, none⟩ 1 1 lb cb (by show w.heap.size ≠ g; omega) 80 80 5 L.length
   (by simp only [World.shape?, hnew]; rfl) (by simp only [World.shape?, hgA]; simp) hL (by simp only [World.frozen?, hnew]; rfl) (by simp only [World.frozen?, hnew]; rfl)]
 rfl
set_option maxHeartbeats 2000000 in
theorem Insert_end (base : Nat) (v : Value) (hs : List Pl.RH) (x : Pl.RH) (w : World) (hown : OwnR w base v hs) (hbase : base ≤ w.heap.size) (hb : hs.length ≤ 2000000) :
  Calls Tryz.prog 106 #[v, .int .i64 hs.length, .slice (some ⟨w.heap.size, 0, none⟩) 1 1] (w.alloc (rtObj x)) fun e w' =>
   ∃ v', e = .returned v' ∧ OwnR w' base v' (hs ++ [x]) ∧ (w.alloc (rtObj x)).grownBy w' v.ownBlock ∧ Below base w w' := by
 have HO := hid hown
 obtain ⟨a, cap, rfl, hrow, _⟩ := hown.rows
 have hc := hrow.2.1
 have hm := hrow.2.2.1
 have hnil := hrow.2.2.2.1
 unfold maxLen at hm
 clear hrow hown
 obtain ⟨n, HN⟩ : ∃ n, Hid (hs.length = n) := ⟨_, rfl⟩
 rw [HN.out] at hc hb HO ⊢
 have HD : Hid (rtObj x = .cells #[.int .i64 x.p.1, .int .i64 x.p.2, .bool x.here, .int .i64 x.cost, .slice x.ha x.hl x.hc] 80) := hid rfl
 rw [HD.out]
 obtain ⟨row, HRW⟩ : ∃ row, Hid ((Value.slice a n cap).ownBlock = row) := ⟨_, rfl⟩
 rw [HRW.out]
 go_enter Tryz.func106, Tryz.ntmps106
 go_wp2_with (at_builtin; refine append_rt rfl (.tmp 23) (.tmp 24) rfl base (.slice a n cap) hs x rfl HO.out hbase rfl (by rw [HN.out]; omega) ?_; intro v' w' hown' hg' hb'; have HG := hid hg'; rw [HRW.out] at HG; clear hg')
 all_goals
  go_ret
  exact ⟨_, rfl, hown', HG.out, hb'⟩
theorem wpList_zeros {w : World} {ops : Array Oper} {rest : List Oper} {o : Oper} {a : Act} {Q : Exit → Act → World → Prop} (hgd : o.guard = none) (s x : Operand)
  (ho : o.op = .call { callee := .builtin .append, args := #[s, x], argTypes := #[30, 3] })
  (g i cap k : Nat) (hs : a.eval s = .slice (some ⟨g, 0, none⟩) i cap) (kv : Int) (hx : a.eval x = .int .i64 kv) (hkv : kv = (k : Int)) (A : List Value) (hA : A.length = i * 5) (hsrc : ∀ j u, A[j]? = some u → w.cell? ⟨g, j, none⟩ = some u) (h0 : 0 < k) (hroom : cap < i + k) (hbig : i + k ≤ 3000000)
  (h : ∀ w' G Z, w'.heap[w.heap.size]? = some (.cells (A ++ Z).toArray 80 (0, 0)) → A.length + Z.length = G * 5 → i + k ≤ G → G ≤ maxLen → Below w.heap.size w w' → wpList Tryz.prog ops Q rest (a.put o.dst (.slice (some ⟨w.heap.size, 0, none⟩) (i + k) G)) w') : wpList Tryz.prog ops Q (o :: rest) a w := by
 obtain ⟨i0, hi0, hz0, hz1, hz2⟩ := partsOf infoRoute
 have hold : (Builtin.firstCells i0.size i (.slice (some ⟨g, 0, none⟩) i cap)).run Tryz.prog w.drew = .ok A.toArray w.drew := by
  rw [hz1]
  exact run_firstCells_some w.drew 5 i ⟨g, 0, none⟩ i cap A hA (fun j u hj => by rw [add_none, Nat.zero_add]; exact hsrc j u hj)
 have hr := Lib.run_append_grow_zeros w 30 3 o.type 80 i0 _ .i64 .i64 Tryz.underlying30 Tryz.underlying3 hi0 hz0 (some ⟨g, 0, none⟩) i cap A hold k h0 (by omega) hroom (by omega) (by rw [hz2]; omega) (by rw [hz2]; exact growslice_fits hroom (by omega))
 subst hkv
 have hGn := grownCap_ge w (i + k) cap 80
 have hGm := grownCap_le_maxLen w (i + k) cap 80 (by unfold maxLen; omega)
 generalize grownCap w (i + k) cap 80 = G at *
 refine Lib.wpList_append_run _ hgd s x _ _ ho _ _ hs hx _ _ hr ?_
 refine h _ G (Builtin.zeroCells (Value.agg #[.int .i64 0, .int .i64 0, .bool false, .int .i64 0, .slice none 0 0]).cells k ++ Builtin.zeroCells (Value.agg #[.int .i64 0, .int .i64 0, .bool false, .int .i64 0, .slice none 0 0]).cells (G - (i + k))).toList ?_ ?_ hGn hGm ?_
 ·have := heapNewZ w.drew (.cells (A.toArray ++ Builtin.zeroCells (Value.agg #[.int .i64 0, .int .i64 0, .bool false, .int .i64 0, .slice none 0 0]).cells k ++ Builtin.zeroCells (Value.agg #[.int .i64 0, .int .i64 0, .bool false, .int .i64 0, .slice none 0 0]).cells (G - (i + k))) 80)
  rw [show w.drew.heap.size = w.heap.size from rfl] at this
  rw [this]
  congr 2
  apply Array.ext'
  simp
 ·simp [Builtin.zeroCells, Value.cells, hA]
  omega
 ·exact (Below.refl _ _).drew.alloc (Nat.le_refl _) _
theorem cellsR_cut (hs : List Pl.RH) (i : Nat) : cellsR hs = cellsR (hs.take i) ++ cellsR (hs.drop i) := by rw [← cellsR_append, List.take_append_drop]
theorem cellsH_src (w : World) (x : Pl.RH) {j : Nat} {u : Value} (h : (cellsH x)[j]? = some u) : (w.alloc (rtObj x)).cell? ⟨w.heap.size, j, none⟩ = some u := by
 match j, h with
 | 0, h => simp [cellsH] at h; subst h; unfold rtObj; simp
 | 1, h => simp [cellsH] at h; subst h; unfold rtObj; simp
 | 2, h => simp [cellsH] at h; subst h; unfold rtObj; simp
 | 3, h => simp [cellsH] at h; subst h; unfold rtObj; simp
 | 4, h => simp [cellsH] at h; subst h; unfold rtObj; simp
 | j + 5, h => simp [cellsH] at h
set_option maxHeartbeats 4000000 in
theorem Insert_room (base : Nat) (hs : List Pl.RH) (i : Nat) (x : Pl.RH) (w : World) (g cap : Nat) (L : List Value) (hi : i < hs.length) (hb : base ≤ g) (hg : w.heap[g]? = some (.cells L.toArray 80 (0, 0))) (hroom : hs.length + 1 ≤ cap) (hm : cap ≤ maxLen) (hL : L.length = cap * 5) (hx : L.take (hs.length * 5) = cellsR hs) :
  Calls Tryz.prog 106 #[.slice (some ⟨g, 0, none⟩) hs.length cap, .int .i64 i, .slice (some ⟨w.heap.size, 0, none⟩) 1 1] (w.alloc (rtObj x)) fun e w' =>
   ∃ v', e = .returned v' ∧ OwnR w' base v' (hs.take i ++ x :: hs.drop i) ∧ (w.alloc (rtObj x)).grownBy w' (some g) := by
 have hm0 := hm
 unfold maxLen at hm
 have hlt := blockLt hg
 obtain ⟨W, HW⟩ : ∃ W, Hid (W = w.alloc (rtObj x)) := ⟨_, rfl⟩
 have HG : Hid (W.heap[g]? = some (.cells L.toArray 80 (0, 0))) := hid (by rw [HW.out, Below.heap_alloc _ _ _ hlt]; exact hg)
 have HOV : Hid (∀ o lb cb, (callFunc 153 #[.slice (some ⟨w.heap.size, 0, none⟩) 1 1, .slice (some ⟨g, o, none⟩) lb cb]).run Tryz.prog W = .ok (.value (.bool false)) W) := hid fun o lb cb => by
  rw [HW.out]; exact overlapsNo w g o lb cb L x hg (by omega)
 have HXS : Hid (∀ j u, (cellsH x)[j]? = some u → W.cell? ⟨w.heap.size, j, none⟩ = some u) := hid fun j u h => by rw [HW.out]; exact cellsH_src w x h
 have HSZ : Hid (W.heap.size = w.heap.size + 1) := hid (by rw [HW.out]; simp)
 have HFIN := hid (laid_twice L (cellsR (hs.take i)) (cellsR (hs.drop i)) (cellsH x) hs.length i (by rw [cellsR_len]; simp; omega) (by rw [cellsR_len]; simp) rfl hi (by omega) (by rw [hx]; exact cellsR_cut hs i))
 have HBL : Hid ((cellsR (hs.drop i)).length = (hs.length - i) * 5) := hid (by rw [cellsR_len]; simp)
 have HBS : Hid (∀ j u, (cellsR (hs.drop i))[j]? = some u → L[i * 5 + j]? = some u) := hid fun j u hj => by
  have h1 : (cellsR hs)[i * 5 + j]? = some u := by
   rw [cellsR_cut hs i, List.getElem?_append_right (by rw [cellsR_len]; simp; omega), cellsR_len]
   simpa [show min i hs.length = i by omega] using hj
  rw [← hx, List.getElem?_take] at h1
  split at h1
  ·exact h1
  ·cases h1
 have HB1 := hid (cellsR_one (hs.drop i))
 have HX1 : Hid (∀ u ∈ cellsH x, u.oneCell' = true) := hid (by have := cellsR_one [x]; simpa [cellsR] using this)
 rw [← HW.out]
 have HLEN : Hid ((hs.take i ++ x :: hs.drop i).length = hs.length + 1) := hid (by simp; omega)
 have HCEL : Hid (cellsR (hs.take i ++ x :: hs.drop i) = cellsR (hs.take i) ++ (cellsH x ++ cellsR (hs.drop i))) := hid (by rw [cellsR_append]; rfl)
 obtain ⟨ns, HNS⟩ : ∃ l, Hid (hs.take i ++ x :: hs.drop i = l) := ⟨_, rfl⟩
 rw [HNS.out] at HLEN HCEL ⊢
 obtain ⟨B, HBB⟩ : ∃ l, Hid (cellsR (hs.drop i) = l) := ⟨_, rfl⟩
 rw [HBB.out] at HFIN HBL HBS HB1 HCEL
 obtain ⟨A, HAA⟩ : ∃ l, Hid (cellsR (hs.take i) = l) := ⟨_, rfl⟩
 rw [HAA.out] at HFIN HCEL
 obtain ⟨X, HXX⟩ : ∃ l, Hid (cellsH x = l) := ⟨_, rfl⟩
 have HXL : Hid (X.length = 5) := hid (by rw [← HXX.out]; rfl)
 rw [HXX.out] at HFIN HXS HX1 HCEL
 obtain ⟨VB, HVB⟩ : ∃ n, Hid (w.heap.size = n) := ⟨_, rfl⟩
 rw [HVB.out] at HOV HXS hlt ⊢
 clear hg hx HBB HAA HXX HNS
 obtain ⟨n, HN⟩ : ∃ n, Hid (hs.length = n) := ⟨_, rfl⟩
 rw [HN.out] at hi hroom HFIN HBL HLEN ⊢
 have hi1 : ¬ ((i : Int) = (n : Int)) := by omega
 have hi2 : (i : Int) ≤ (n : Int) := by omega
 have hi3 : ¬ (cap = i) := by omega
 have hi4 : ¬ (cap = i + 1) := by omega
 have hrm : ¬ ((cap : Int) < (n : Int) + 1) := by omega
 have hie : ((i : Int) == (n : Int)) = false := by simpa using hi1
 have hw1 : IntKind.i64.wrap ((n : Int) + 1) = (n : Int) + 1 := by rw [IntKind.wrap_i64]; omega
 have hw2 : IntKind.i64.wrap ((i : Int) + 1) = (i : Int) + 1 := by rw [IntKind.wrap_i64]; omega
 have hov := HOV.out
 go_enter Tryz.func106, Tryz.ntmps106
 go_wp2_with (simp only [hov])
 have hw3 : ((i : Int) + 1).toNat = i + 1 := by omega
 have hw4 : (0 : Int) ≤ (i : Int) + 1 := by omega
 have hw5 : (i : Int) ≤ (n : Int) + 1 := by omega
 have HLL : Hid ((laid L ((i + 1) * 5) B).length = cap * 5) := hid (by rw [laid_len _ _ _ (by rw [HBL.out]; omega), hL])
 go_region_law (refine step_copyR rfl (.tmp 73) (.tmp 76) rfl g ((i + 1) * 5) (n - i) (cap - (i + 1)) ⟨g, i * 5, none⟩ (n + 1 - i) (cap - i) (by simp [Act.eval, Act.put]) (by simp [Act.eval, Act.put]) L B HG.out (by rw [HBL.out]; congr 1; simp only [Nat.min_def]; split <;> omega) (fun j u hj => by rw [add_none]; exact row_cell HG.out (HBS.out j u hj)) (by rw [HBL.out]; omega) HB1.out ?_; intro w1 v1 hg1 hb1; have HG1 := hid hg1; have HB1' := hid hb1; clear hg1 hb1)
 all_goals
  have HX2 : Hid (∀ j u, X[j]? = some u → w1.cell? ⟨VB, j, none⟩ = some u) := hid fun j u hj => (HB1'.out.cell (p := ⟨VB, j, none⟩) (by show VB < W.heap.size; rw [HSZ.out, HVB.out]; omega) (by show VB ≠ g; omega)).trans (HXS.out j u hj)
  go_wp2_with (refine wpList_copyR rfl (.tmp 80) (.tmp 81) rfl g (i * 5) (n + 1 - i) (cap - i) ⟨VB, 0, none⟩ 1 1 rfl rfl (laid L ((i + 1) * 5) B) X HG1.out (by rw [HXL.out]; simp only [Nat.min_def]; split <;> omega) (fun j u hj => by rw [add_none, Nat.zero_add]; exact HX2.out j u hj) (by rw [HXL.out, HLL.out]; omega) HX1.out ?_; intro w2 v2 hg2 hb2; have HG2 := hid hg2; have HB2 := hid hb2; clear hg2 hb2)
  go_ret
  refine ⟨_, rfl, ownR_row hb HG2.out HLEN.out hroom hm0 ?_ ?_, ?_⟩
  ·rw [laid_len _ _ _ (by rw [HXL.out, HLL.out]; omega), HLL.out]
  ·rw [HFIN.out, HCEL.out]
  ·exact ((((But.refl g W).drawn 1).trans HB1'.out).trans HB2.out).grown
set_option maxHeartbeats 4000000 in
theorem Insert_grow (base : Nat) (hs : List Pl.RH) (i : Nat) (x : Pl.RH) (w : World) (g cap : Nat) (L : List Value) (hi : i < hs.length) (hbase : base ≤ w.heap.size) (hg : w.heap[g]? = some (.cells L.toArray 80 (0, 0))) (hcap : hs.length ≤ cap) (hroom : cap < hs.length + 1) (hbig : hs.length ≤ 2000000) (hx : L.take (hs.length * 5) = cellsR hs) :
  Calls Tryz.prog 106 #[.slice (some ⟨g, 0, none⟩) hs.length cap, .int .i64 i, .slice (some ⟨w.heap.size, 0, none⟩) 1 1] (w.alloc (rtObj x)) fun e w' =>
   ∃ v', e = .returned v' ∧ OwnR w' base v' (hs.take i ++ x :: hs.drop i) ∧ (w.alloc (rtObj x)).grownBy w' (some g) := by
 have hlt := blockLt hg
 obtain ⟨W, HW⟩ : ∃ W, Hid (W = w.alloc (rtObj x)) := ⟨_, rfl⟩
 have HG : Hid (W.heap[g]? = some (.cells L.toArray 80 (0, 0))) := hid (by rw [HW.out, Below.heap_alloc _ _ _ hlt]; exact hg)
 have HXS : Hid (∀ j u, (cellsH x)[j]? = some u → W.cell? ⟨w.heap.size, j, none⟩ = some u) := hid fun j u h => by rw [HW.out]; exact cellsH_src w x h
 have HSZ : Hid (W.heap.size = w.heap.size + 1) := hid (by rw [HW.out]; simp)
 have HFIN : Hid (∀ Z, (laid (laid (cellsR (hs.take i) ++ Z) (i * 5) (cellsH x)) ((i + 1) * 5) (cellsR (hs.drop i))).take ((hs.length + 1) * 5) = cellsR (hs.take i) ++ (cellsH x ++ cellsR (hs.drop i))) := hid fun Z => laid_new Z (cellsR (hs.take i)) (cellsR (hs.drop i)) (cellsH x) hs.length i (by rw [cellsR_len]; simp; omega) (by rw [cellsR_len]; simp) rfl hi
 have HBL : Hid ((cellsR (hs.drop i)).length = (hs.length - i) * 5) := hid (by rw [cellsR_len]; simp)
 have HAL : Hid ((cellsR (hs.take i)).length = i * 5) := hid (by rw [cellsR_len]; simp; omega)
 have HBS : Hid (∀ j u, (cellsR (hs.drop i))[j]? = some u → L[i * 5 + j]? = some u) := hid fun j u hj => by
  have h1 : (cellsR hs)[i * 5 + j]? = some u := by
   rw [cellsR_cut hs i, List.getElem?_append_right (by rw [cellsR_len]; simp; omega), cellsR_len]
   simpa [show min i hs.length = i by omega] using hj
  rw [← hx, List.getElem?_take] at h1
  split at h1
  ·exact h1
  ·cases h1
 have HAS : Hid (∀ j u, (cellsR (hs.take i))[j]? = some u → L[j]? = some u) := hid fun j u hj => by
  have h0 : j < (cellsR (hs.take i)).length := (List.getElem?_eq_some_iff.1 hj).1
  have h1 : (cellsR hs)[j]? = some u := by
   rw [cellsR_cut hs i, List.getElem?_append_left h0]
   exact hj
  rw [← hx, List.getElem?_take] at h1
  split at h1
  ·exact h1
  ·cases h1
 have HB1 := hid (cellsR_one (hs.drop i))
 have HX1 : Hid (∀ u ∈ cellsH x, u.oneCell' = true) := hid (by have := cellsR_one [x]; simpa [cellsR] using this)
 rw [← HW.out]
 have HLEN : Hid ((hs.take i ++ x :: hs.drop i).length = hs.length + 1) := hid (by simp; omega)
 have HCEL : Hid (cellsR (hs.take i ++ x :: hs.drop i) = cellsR (hs.take i) ++ (cellsH x ++ cellsR (hs.drop i))) := hid (by rw [cellsR_append]; rfl)
 obtain ⟨ns, HNS⟩ : ∃ l, Hid (hs.take i ++ x :: hs.drop i = l) := ⟨_, rfl⟩
 rw [HNS.out] at HLEN HCEL ⊢
 obtain ⟨B, HBB⟩ : ∃ l, Hid (cellsR (hs.drop i) = l) := ⟨_, rfl⟩
 rw [HBB.out] at HFIN HBL HBS HB1 HCEL
 obtain ⟨A, HAA⟩ : ∃ l, Hid (cellsR (hs.take i) = l) := ⟨_, rfl⟩
 rw [HAA.out] at HFIN HCEL HAL HAS
 obtain ⟨X, HXX⟩ : ∃ l, Hid (cellsH x = l) := ⟨_, rfl⟩
 have HXL : Hid (X.length = 5) := hid (by rw [← HXX.out]; rfl)
 rw [HXX.out] at HFIN HXS HX1 HCEL
 obtain ⟨VB, HVB⟩ : ∃ n, Hid (w.heap.size = n) := ⟨_, rfl⟩
 rw [HVB.out] at HXS hlt HSZ hbase ⊢
 clear hg hx HBB HAA HXX HNS
 obtain ⟨n, HN⟩ : ∃ n, Hid (hs.length = n) := ⟨_, rfl⟩
 rw [HN.out] at hi hroom hcap hbig HFIN HBL HLEN ⊢
 have hi1 : ¬ ((i : Int) = (n : Int)) := by omega
 have hi2 : (i : Int) ≤ (n : Int) := by omega
 have hi3 : ¬ (cap = i) := by omega
 have hrm : (cap : Int) < (n : Int) + 1 := by omega
 have hie : ((i : Int) == (n : Int)) = false := by simpa using hi1
 have hw1 : IntKind.i64.wrap ((n : Int) + 1) = (n : Int) + 1 := by rw [IntKind.wrap_i64]; omega
 have hw2 : IntKind.i64.wrap ((i : Int) + 1) = (i : Int) + 1 := by rw [IntKind.wrap_i64]; omega
 have hwk : (n : Int) + 1 - (i : Int) = ((n + 1 - i : Nat) : Int) := by omega
 go_enter Tryz.func106, Tryz.ntmps106
 go_wp2_with (first
  | (at_builtin; refine wpList_zeros rfl (.tmp 34) (.tmp 39) rfl g i cap (n + 1 - i) rfl _ rfl rfl A HAL.out (fun j u hj => row_cell HG.out (HAS.out j u hj)) (by omega) (by omega) (by omega) ?_; intro w1 G Z hg1 hz1 hG1 hG2 hb1; rw [show i + (n + 1 - i) = n + 1 by omega] at hG1 ⊢; have HG1 := hid hg1; have HZ1 := hid hz1; have HGM := hid hG2; have HB1' := hid hb1; have HX2 : Hid (∀ j u, X[j]? = some u → w1.cell? ⟨VB, j, none⟩ = some u) := hid (fun j u hj => (hb1.cell (p := ⟨VB, j, none⟩) (by show VB < W.heap.size; rw [HSZ.out]; omega)).trans (HXS.out j u hj)); have hgi : ¬ G = i := (by omega); have hgi1 : ¬ G = i + 1 := (by omega); clear hg1 hz1 hG2 hb1)
  | (refine wpList_copyR rfl (.tmp 43) (.tmp 44) rfl W.heap.size (i * 5) (n + 1 - i) (G - i) ⟨VB, 0, none⟩ 1 1 rfl rfl (A ++ Z) X HG1.out (by rw [HXL.out]; simp only [Nat.min_def]; split <;> omega) (fun j u hj => by rw [add_none, Nat.zero_add]; exact HX2.out j u hj) (by rw [HXL.out, List.length_append, HZ1.out]; omega) HX1.out ?_; intro w2 v2 hg2 hb2; have HG2 := hid hg2; have HB2 := hid hb2; clear hg2 hb2))
 have hw3 : ((i : Int) + 1).toNat = i + 1 := by omega
 have hw4 : (0 : Int) ≤ (i : Int) + 1 := by omega
 have hw6 : (i : Int) ≤ (n : Int) := by omega
 have HL2 : Hid ((laid (A ++ Z) (i * 5) X).length = G * 5) := hid (by rw [laid_len _ _ _ (by rw [HXL.out, List.length_append, HZ1.out]; omega), List.length_append, HZ1.out])
 have HGG : Hid (w2.heap[g]? = some (.cells L.toArray 80 (0, 0))) := hid (by
  have e1 := HB2.out.block g (by have := HB1'.out.size; rw [HSZ.out] at this; omega) (by rw [HSZ.out]; omega)
  have e2 := HB1'.out.block g (by rw [HSZ.out]; omega)
  rw [e1, e2]; exact HG.out)
 go_region_law (refine step_copyR rfl (.tmp 50) (.tmp 53) rfl W.heap.size ((i + 1) * 5) (n - i) (G - (i + 1)) ⟨g, i * 5, none⟩ (n - i) (cap - i) (by simp [Act.eval, Act.put]) (by simp [Act.eval, Act.put]) (laid (A ++ Z) (i * 5) X) B HG2.out (by rw [HBL.out]; congr 1; simp only [Nat.min_def]; split <;> omega) (fun j u hj => by rw [add_none]; exact row_cell HGG.out (HBS.out j u hj)) (by rw [HBL.out, HL2.out]; omega) HB1.out ?_; intro w3 v3 hg3 hb3; have HG3 := hid hg3; have HB3 := hid hb3; clear hg3 hb3)
 all_goals
  go_wp2_with fail
  go_ret
  refine ⟨_, rfl, ownR_row (by rw [HSZ.out]; omega) HG3.out HLEN.out hG1 HGM.out ?_ ?_, ?_⟩
  ·rw [laid_len _ _ _ (by rw [HBL.out, HL2.out]; omega), HL2.out]
  ·rw [HFIN.out, HCEL.out]
  ·refine grown_below ?_
   exact (HB1'.out.trans (HB2.out.below (Nat.le_refl _) HB1'.out.size)).trans (((((But.refl W.heap.size w2).drawn 1).trans HB3.out)).below (Nat.le_refl _) (Nat.le_trans HB1'.out.size HB2.out.size))
theorem Insert_any (base : Nat) (v : Value) (hs : List Pl.RH) (i : Nat) (x : Pl.RH) (w : World) (hown : OwnR w base v hs) (hbase : base ≤ w.heap.size) (hb : hs.length ≤ 2000000) (hi : i ≤ hs.length) :
  Calls Tryz.prog 106 #[v, .int .i64 i, .slice (some ⟨w.heap.size, 0, none⟩) 1 1] (w.alloc (rtObj x)) fun e w' =>
   ∃ v', e = .returned v' ∧ OwnR w' base v' (hs.take i ++ x :: hs.drop i) ∧ (w.alloc (rtObj x)).grownBy w' v.ownBlock := by
 rcases Nat.lt_or_ge i hs.length with h | h
 ·obtain ⟨g, cap, L, rfl, hbg, hg, hn, hm, hL, hx⟩ := hown.row (by omega)
  rcases Nat.lt_or_ge cap (hs.length + 1) with hc | hc
  ·exact Insert_grow base hs i x w g cap L h hbase hg hn hc hb hx
  ·exact Insert_room base hs i x w g cap L h hbg hg hc hm hL hx
 ·obtain rfl : i = hs.length := by omega
  rw [List.take_of_length_le (Nat.le_refl _), List.drop_of_length_le (Nat.le_refl _)]
  exact (Insert_end base v hs x w hown hbase hb).mono fun e w' ⟨v', h1, h2, h3, _⟩ => ⟨v', h1, h2, h3⟩
theorem OwnR.head {w : World} {base g cap : Nat} {hs : List Pl.RH} (h : OwnR w base (.slice (some ⟨g, 0, none⟩) hs.length cap) hs) (i : Nat) (hi : i ≤ hs.length) : OwnR w base (.slice (some ⟨g, 0, none⟩) i cap) (hs.take i) := by
 obtain ⟨_, h | ⟨g', cap', cur, e, hb, hh, hn, hm, hs', hx⟩⟩ := h
 ·simp at h
 ·simp only [Value.slice.injEq, Option.some.injEq, Addr.mk.injEq, and_true] at e
  obtain ⟨rfl, _, rfl⟩ := e
  have hl : (hs.take i).length = i := by simp; omega
  refine ⟨cellsR_len _, .inr ⟨g, cap, cur, by rw [hl], hb, hh, by omega, hm, hs', ?_⟩⟩
  rw [hl]
  have : cur.toList.take (i * 5) = (cur.toList.take (hs.length * 5)).take (i * 5) := by rw [List.take_take]; congr 1; omega
  rw [this, hx, cellsR_cut hs i, List.take_append_of_le_length (by rw [cellsR_len, hl]; exact Nat.le_refl _), List.take_of_length_le (by rw [cellsR_len, hl]; exact Nat.le_refl _)]
theorem step_appendR {w : World} {ops : Array Oper} {o : Oper} {a : Act} {K : Act → World → Prop} {Q : Exit → Act → World → Prop} {E : Prop} (hgd : o.guard = none) (s x : Operand)
  (ho : o.op = .call { callee := .builtin .append, args := #[s, x], argTypes := #[30, 30] })
  (base g k cap : Nat) (hs : List Pl.RH) (hk : hs.length = k) (hs' : a.eval s = .slice (some ⟨g, 0, none⟩) k cap) (hown : OwnR w base (.slice (some ⟨g, 0, none⟩) k cap) hs) (ad : Addr) (m c : Nat) (ns : List Pl.RH) (hx : a.eval x = .slice (some ad) m c) (hn : ns.length = m)
  (hsrc : ∀ j u, (cellsR ns)[j]? = some u → w.cell? (ad.add j) = some u) (hroom : k + m ≤ cap)
  (h : ∀ w', OwnR w' base (.slice (some ⟨g, 0, none⟩) (k + m) cap) (hs ++ ns) → w.grownBy w' (some g) → K (a.put o.dst (.slice (some ⟨g, 0, none⟩) (k + m) cap)) w') : if Region.wanted o (yielded ops a.tmps) = true then Oper.wp Tryz.prog o a w K Q else E := by
 have hw : Region.wanted o (yielded ops a.tmps) = true := by simp [Region.wanted, hgd]
 rw [if_pos hw]
 subst hk
 obtain ⟨i0, hi0, hz0, hz1, hz2⟩ := partsOf infoRoute
 obtain ⟨w', hrun, r1, r2⟩ := run_append_fits (P := Tryz.prog) w base 30 o.type 80 i0 5 Tryz.underlying30 hi0 hz1 g hs.length cap (cellsR hs) hown ad m c (cellsR ns) (by rw [cellsR_len, hn]) hsrc (cellsR_one _) hroom
 unfold Oper.wp
 simp [execOp, ho, resolve, invoke, builtin, hs', hx, hrun, Result.andThen]
 exact h w' (ownR_of r1 (by rw [cellsR_append])) r2
theorem run_clearR (w : World) (g o c : Nat) (L : List Value) (hg : w.heap[g]? = some (.cells L.toArray 80 (0, 0))) (hfit : o + 5 ≤ L.length) (ty : TypeId) :
  (Builtin.clear_ #[30] ty #[.slice (some ⟨g, o, none⟩) 1 c]).run Tryz.prog w = .ok (.tuple #[]) (w.setRow g (laid L o [.int .i64 0, .int .i64 0, .bool false, .int .i64 0, .slice none 0 0]).toArray) := by
 have hv : ∀ w, (zeroValue 80).run Tryz.prog w = .ok (.agg #[.int .i64 0, .int .i64 0, .bool false, .int .i64 0, .slice none 0 0]) w := Tryz.zeroValue80
 have hz : (Builtin.zeroCells (Value.agg #[.int .i64 0, .int .i64 0, .bool false, .int .i64 0, .slice none 0 0]).cells 1).toList = [.int .i64 0, .int .i64 0, .bool false, .int .i64 0, .slice none 0 0] := by kernel_rfl
 have hst := run_storeCells_at Tryz.prog g o 80 [.int .i64 0, .int .i64 0, .bool false, .int .i64 0, .slice none 0 0] 0 L.toArray w hg (by simpa using hfit) (by intro v hv; simp at hv; rcases hv with rfl | rfl | rfl | rfl | rfl <;> rfl)
 simp only [Nat.add_zero] at hst
 simp only [Builtin.clear_]
 simp [run_underlying Tryz.underlying30, hv, hz, hst, laid]
theorem wpList_clearR {w : World} {ops : Array Oper} {rest : List Oper} {o : Oper} {a : Act} {Q : Exit → Act → World → Prop} (hgd : o.guard = none) (s : Operand)
  (ho : o.op = .call { callee := .builtin .clear, args := #[s], argTypes := #[30] })
  (base g n cap off c : Nat) (hs' : a.eval s = .slice (some ⟨g, off, none⟩) 1 c) (hs : List Pl.RH) (hown : OwnR w base (.slice (some ⟨g, 0, none⟩) n cap) hs) (hn : hs.length = n) (hoff : off = n * 5) (hfit : n + 1 ≤ cap)
  (h : ∀ w' v', OwnR w' base (.slice (some ⟨g, 0, none⟩) n cap) hs → But g w w' → wpList Tryz.prog ops Q rest (a.put o.dst v') w') : wpList Tryz.prog ops Q (o :: rest) a w := by
 subst hn
 obtain ⟨_, h0 | ⟨g', cap', cur, e, hb, hh, hn, hm, hsz, hx⟩⟩ := hown
 ·simp at h0
 ·simp only [Value.slice.injEq, Option.some.injEq, Addr.mk.injEq, and_true] at e
  obtain ⟨rfl, _, rfl⟩ := e
  have hgL : w.heap[g]? = some (.cells cur.toList.toArray 80 (0, 0)) := by simpa using hh
  have hfit2 : off + 5 ≤ cur.toList.length := by simp; omega
  have hrun := run_clearR w g off c cur.toList hgL hfit2 o.type
  refine wpList_plain hgd fun K hK => ?_
  unfold Oper.wp
  simp [execOp, ho, resolve, invoke, builtin, hs', hrun, Result.andThen]
  refine hK _ _ (h _ _ (ownR_row hb (setRow_heap w g _ _ _ _ hgL) rfl hn hm ?_ ?_) (But.row w g _))
  ·rw [laid_len _ _ _ (by simpa using hfit2)]
   simpa using hsz
  ·unfold laid
   rw [List.append_assoc, List.take_append_of_le_length (by simp; omega), List.take_take, show min (hs.length * 5) off = hs.length * 5 by omega, hx]
set_option maxHeartbeats 4000000 in
theorem Delete_any (base : Nat) (v : Value) (hs : List Pl.RH) (i : Nat) (w : World) (hown : OwnR w base v hs) (hi : i < hs.length) (hbig : hs.length ≤ 2000000) :
  Calls Tryz.prog 218 #[v, .int .i64 i, .int .i64 ((i : Int) + 1)] w fun e w' =>
   ∃ v', e = .returned v' ∧ OwnR w' base v' (hs.take i ++ hs.drop (i + 1)) ∧ w.grownBy w' v.ownBlock := by
 obtain ⟨g, cap, L, rfl, hbg, hg, hnc, hm, hL, hx⟩ := hown.row (by omega)
 have HO1 := hid (hown.head i (by omega))
 have hm0 := hm
 unfold maxLen at hm
 obtain ⟨n, HN⟩ : ∃ n, Hid (hs.length = n) := ⟨_, rfl⟩
 have HG := hid hg
 have HSRC : Hid (∀ j u, (cellsR (hs.drop (i + 1)))[j]? = some u → L[(i + 1) * 5 + j]? = some u) := hid fun j u hj => by
  have h1 : (cellsR hs)[(i + 1) * 5 + j]? = some u := by
   rw [cellsR_cut hs (i + 1), List.getElem?_append_right (by rw [cellsR_len]; simp; omega), cellsR_len]
   simpa [show min (i + 1) hs.length = i + 1 by omega] using hj
  rw [← hx, List.getElem?_take] at h1
  split at h1
  ·exact h1
  ·cases h1
 have HLT : Hid ((hs.take i).length = i) := hid (by simp; omega)
 have HLD : Hid ((hs.drop (i + 1)).length = hs.length - (i + 1)) := hid (by simp)
 have HLA : Hid ((hs.take i ++ hs.drop (i + 1)).length = hs.length - 1) := hid (by simp; omega)
 rw [HN.out] at hi hbig hnc HLD HLA ⊢
 obtain ⟨T, HT⟩ : ∃ l, Hid (hs.take i = l) := ⟨_, rfl⟩
 obtain ⟨D, HD⟩ : ∃ l, Hid (hs.drop (i + 1) = l) := ⟨_, rfl⟩
 rw [HT.out] at HO1 HLT
 rw [HD.out] at HSRC HLD
 rw [HT.out, HD.out] at HLA ⊢
 clear hg hx hown
 have hi2 : (i : Int) ≤ (n : Int) := by omega
 have hi3 : (i : Int) + 1 ≤ (n : Int) := by omega
 have hi4 : ¬ (n = i) := by omega
 have hi5 : ((i : Int) == (i : Int) + 1) = false := by rw [beq_eq_false_iff_ne]; omega
 have hi9 : i ≤ cap := by omega
 have hi6 : (0 : Int) ≤ (i : Int) + 1 := by omega
 have hi7 : ((i : Int) + 1).toNat = i + 1 := by omega
 have hi8 : ¬ (cap = i) := by omega
 by_cases hc : cap = i + 1
 ·obtain rfl : n = i + 1 := by omega
  subst hc
  have HD0 : Hid (D.length = 0) := hid (by rw [HLD.out]; omega)
  clear hi4 hi8
  have hq1 : (i : Int) ≤ (i : Int) + 1 := by omega
  have hq2 : i ≤ i + 1 := by omega
  go_enter Tryz.func218, Tryz.ntmps218
  go_wp2_with fail
  go_region_law (refine step_appendR rfl (.tmp 22) (.tmp 25) rfl base g i (i + 1) T HLT.out (by simp [Act.eval, Act.put]) HO1.out ⟨g, 0, none⟩ 0 0 D (by simp [Act.eval, Act.put]) HD0.out (fun j u hj => by have e : D = [] := List.length_eq_zero_iff.1 HD0.out; rw [e] at hj; simp [cellsR] at hj) (by omega) ?_; intro w1 ho1 hg1; rw [Nat.add_zero] at ho1 ⊢; have HO2 := hid ho1; have HG1 := hid hg1; clear ho1 hg1)
  all_goals
   go_wp2_with (refine wpList_clearR rfl (.tmp 31) rfl base g i (i + 1) (i * 5) 1 (by simp [Act.eval]) (T ++ D) HO2.out HLA.out rfl (by omega) ?_; intro w2 v2 ho2 hb2; have HO3 := hid ho2; have HB2 := hid hb2; clear ho2 hb2)
   go_ret
   exact ⟨_, rfl, HO3.out, grown_trans (grown_trans (grown_below ((Below.refl _ _).drew)) HG1.out) HB2.out.grown⟩
 ·have hgo : i + (n - (i + 1)) = n - 1 := by omega
  have hcn : ¬ (cap = n - 1) := by omega
  go_enter Tryz.func218, Tryz.ntmps218
  go_wp2_with fail
  go_region_law (refine step_appendR rfl (.tmp 22) (.tmp 25) rfl base g i cap T HLT.out (by simp [Act.eval, Act.put]) HO1.out ⟨g, (i + 1) * 5, none⟩ (n - (i + 1)) (cap - (i + 1)) D (by simp [Act.eval, Act.put]) HLD.out (fun j u hj => by rw [add_none]; exact row_cell HG.out (HSRC.out j u hj)) (by omega) ?_; intro w1 ho1 hg1; rw [hgo] at ho1 ⊢; have HO2 := hid ho1; have HG1 := hid hg1; clear ho1 hg1)
  all_goals
   go_wp2_with (refine wpList_clearR rfl (.tmp 31) rfl base g (n - 1) cap ((n - 1) * 5) (cap - (n - 1)) (by simp [Act.eval]; try omega) (T ++ D) HO2.out HLA.out rfl (by omega) ?_; intro w2 v2 ho2 hb2; have HO3 := hid ho2; have HB2 := hid hb2; clear ho2 hb2)
   go_ret
   exact ⟨_, rfl, HO3.out, grown_trans (grown_trans (grown_below ((Below.refl _ _).drew)) HG1.out) HB2.out.grown⟩
def set5 (w : World) (g o : Nat) (x : Pl.RH) : World := ((((w.setCell ⟨g, o, none⟩ (.int .i64 x.p.1)).setCell ⟨g, o + 1, none⟩ (.int .i64 x.p.2)).setCell ⟨g, o + 2, none⟩ (.bool x.here)).setCell ⟨g, o + 3, none⟩ (.int .i64 x.cost)).setCell ⟨g, o + 4, none⟩ (.slice x.ha x.hl x.hc)
theorem cellsR_set : ∀ (hs : List Pl.RH) (i : Nat) (x : Pl.RH), cellsR (hs.set i x) = (((((cellsR hs).set (i * 5) (.int .i64 x.p.1)).set (i * 5 + 1) (.int .i64 x.p.2)).set (i * 5 + 2) (.bool x.here)).set (i * 5 + 3) (.int .i64 x.cost)).set (i * 5 + 4) (.slice x.ha x.hl x.hc)
 | [], i, x => by simp [cellsR]
 | e :: r, 0, x => by simp [cellsR, cellsH]
 | e :: r, i + 1, x => by
  rw [List.set_cons_succ, cellsR, cellsR_set r i x, show (i + 1) * 5 = i * 5 + 5 by omega]
  simp [cellsR, cellsH]
theorem blk_setR {w : World} {g o : Nat} {cur : Array Value} {T : TypeId} {v : Value} (h : w.heap[g]? = some (.cells cur T (0, 0))) : (w.setCell ⟨g, o, none⟩ v).heap[g]? = some (.cells (cur.setIfInBounds o v) T (0, 0)) := by
 rw [setCell_eq_setRow w g o cur T (0, 0) v h]
 exact setRow_heap w g _ _ _ _ h
theorem OwnR.set {w : World} {base g cap : Nat} {hs : List Pl.RH} (h : OwnR w base (.slice (some ⟨g, 0, none⟩) hs.length cap) hs) (i : Nat) (x : Pl.RH) : OwnR (set5 w g (i * 5) x) base (.slice (some ⟨g, 0, none⟩) hs.length cap) (hs.set i x) := by
 obtain ⟨_, h | ⟨g', cap', cur, e, hb, hh, hn, hm, hs', hx⟩⟩ := h
 ·simp at h
 ·simp only [Value.slice.injEq, Option.some.injEq, Addr.mk.injEq, and_true] at e
  obtain ⟨rfl, _, rfl⟩ := e
  refine ⟨by simp [cellsR_len], .inr ⟨g, cap, _, by simp, hb, blk_setR (blk_setR (blk_setR (blk_setR (blk_setR hh)))), by simpa using hn, hm, by simpa using hs', ?_⟩⟩
  simp only [Array.toList_setIfInBounds, List.take_set, List.length_set]
  rw [hx, cellsR_set]
theorem But.set5 (w : World) (g o : Nat) (x : Pl.RH) : But g w (set5 w g o x) := (((((But.refl g w).setCell _ _).setCell _ _).setCell _ _).setCell _ _).setCell _ _
theorem OwnR.opened {w : World} {base : Nat} {v : Value} {hs : List Pl.RH} (h : OwnR w base v hs) (hne : 0 < hs.length) :
  ∃ g cap, v = .slice (some ⟨g, 0, none⟩) hs.length cap ∧ base ≤ g ∧ g < w.heap.size ∧ hs.length ≤ cap ∧ cap ≤ maxLen ∧ RowsAt w g 0 hs ∧ (∀ o, w.frozen? ⟨g, o, none⟩ = false) := by
 obtain ⟨a, cap, rfl, hr, hb⟩ := h.rows
 obtain ⟨b, off, rfl, hlt, hra⟩ := hr.at (k := 0) (by omega)
 obtain ⟨g, cap', L, e, hbg, hg, _⟩ := h.row hne
 simp only [Value.slice.injEq, Option.some.injEq, Addr.mk.injEq, and_true] at e
 obtain ⟨⟨rfl, rfl⟩, _⟩ := e
 exact ⟨b, cap, rfl, hbg, hlt, hr.2.1, hr.2.2.1, hra, fun o => by simp [World.frozen?, hg]⟩
theorem Pl.set_eq (hs : List Pl.RH) (i : Nat) (x : Pl.RH) (h : i < hs.length) : hs.set i x = hs.take i ++ x :: hs.drop (i + 1) := List.set_eq_take_append_cons_drop .. |>.trans (by rw [if_pos h])
def Pl.layH (hs : List Pl.RH) (i : Nat) (instead : Bool) (x : Pl.RH) : List Pl.RH := hs.take i ++ x :: hs.drop (if instead then i + 1 else i)
set_option maxHeartbeats 2000000 in
theorem lay_rib (base : Nat) (v : Value) (hs : List Pl.RH) (x : Pl.RH) (w : World) (hown : OwnR w base v hs) (hbase : base ≤ w.heap.size) (has : Pl.AscP (Pl.hp hs)) (hb : hs.length ≤ 2000000) :
  Calls Tryz.prog 194 #[v, .agg #[.int .i64 x.p.1, .int .i64 x.p.2, .bool x.here, .int .i64 x.cost, .slice x.ha x.hl x.hc]] w fun e w' =>
   ∃ v', e = .returned v' ∧ OwnR w' base v' (Pl.layH hs (Pl.posP (Pl.hp hs) x.p) (Pl.thereP (Pl.hp hs) x.p) x) ∧ w.grownBy w' v.ownBlock := by
 have HO := hid hown
 obtain ⟨⟨p1, p2⟩, here, cost, ha, hl, hc⟩ := x
 simp only
 obtain ⟨tt, HT⟩ : ∃ t, Hid (Pl.thereP (Pl.hp hs) (p1, p2) = t) := ⟨_, rfl⟩
 obtain ⟨ix, HX⟩ : ∃ t, Hid (Pl.posP (Pl.hp hs) (p1, p2) = t) := ⟨_, rfl⟩
 have HIX : Hid (ix ≤ hs.length) := hid (by rw [← HX.out]; have := Pl.posP_le (Pl.hp hs) (p1, p2); rwa [Pl.hp_len] at this)
 have HLT : Hid (tt = true → ix < hs.length) := hid fun e => by rw [← HX.out]; have := Pl.thereP_lt (by rw [HT.out]; exact e : Pl.thereP (Pl.hp hs) (p1, p2) = true); rwa [Pl.hp_len] at this
 have HF : Hid (∀ W, Below w.heap.size w W → Calls Tryz.prog 67 #[v, .agg #[.int .i64 p1, .int .i64 p2]] W fun e w' => e = .returned (.tuple #[.int .i64 ix, .bool tt]) ∧ Below W.heap.size W w') := hid fun W hW => by
  obtain ⟨a, cap, rfl, hr, _⟩ := (HO.out.below hW).rows
  have := find_rib a hs.length cap hs p1 p2 W hr has hb
  rwa [HT.out, HX.out] at this
 rw [HT.out, HX.out]
 obtain ⟨rw1, HRW⟩ : ∃ r, Hid (v.ownBlock = r) := ⟨_, rfl⟩
 rw [HRW.out]
 clear hown has
 cases tt
 ·go_enter Tryz.func194, Tryz.ntmps194
  go_wp2_with fail
  refine (HF.out _ ((Below.refl _ _).alloc (Nat.le_refl _) _)).mono ?_
  rintro e w1 ⟨rfl, hb1⟩
  obtain ⟨⟨y0, y1, y2, y3, y4⟩, hbx, hbw⟩ := box5 (by simpa using hb1)
  have HBW := hid hbw
  have HO1 := hid (HO.out.below hbw)
  have hz := hbw.size
  clear hb1 hbw
  go_wp2_with fail
  refine (Insert_any base v hs ix ⟨(p1, p2), here, cost, ha, hl, hc⟩ w1 HO1.out (by omega) hb HIX.out).mono ?_
  rintro e w2 ⟨v', rfl, ho2, hg2⟩
  have HO2 := hid ho2
  have HG2 := hid hg2
  clear ho2 hg2
  go_wp2_with fail
  go_ret
  refine ⟨_, rfl, HO2.out, ?_⟩
  have e1 := HG2.out
  rw [HRW.out] at e1
  exact grown_trans (grown_below HBW.out) (grown_trans (grown_below ((Below.refl _ _).alloc (Nat.le_refl _) _)) e1)
 ·have hix := HLT.out rfl
  obtain ⟨g, cap, rfl, hbg, hgl, hnc, hm, hra, hsf⟩ := HO.out.opened (by omega)
  unfold maxLen at hm
  obtain ⟨c0, c1, c2, c3, c4⟩ := hra ix hix
  obtain ⟨n, HN⟩ : ∃ n, Hid (hs.length = n) := ⟨_, rfl⟩
  rw [HN.out] at HF hix hnc ⊢
  clear hra
  have hix' : (ix : Int) < (n : Int) := by omega
  go_enter Tryz.func194, Tryz.ntmps194
  go_wp2_with fail
  refine (HF.out _ ((Below.refl _ _).alloc (Nat.le_refl _) _)).mono ?_
  rintro e w1 ⟨rfl, hb1⟩
  obtain ⟨⟨y0, y1, y2, y3, y4⟩, hbx, hbw⟩ := box5 (by simpa using hb1)
  have HBW := hid hbw
  have HO1 := hid (HO.out.below hbw)
  have d0 := (hbw.cell (p := ⟨g, 0 + ix * 5, none⟩) hgl).trans c0
  have d1 := (hbw.cell (p := ⟨g, 0 + ix * 5 + 1, none⟩) hgl).trans c1
  have d2 := (hbw.cell (p := ⟨g, 0 + ix * 5 + 2, none⟩) hgl).trans c2
  have d3 := (hbw.cell (p := ⟨g, 0 + ix * 5 + 3, none⟩) hgl).trans c3
  have d4 := (hbw.cell (p := ⟨g, 0 + ix * 5 + 4, none⟩) hgl).trans c4
  have df : ∀ o, w1.frozen? ⟨g, o, none⟩ = false := fun o => (hbw.frozen (p := ⟨g, o, none⟩) hgl).trans (hsf o)
  simp only [Nat.zero_add] at d0 d1 d2 d3 d4
  clear hb1 hbw c0 c1 c2 c3 c4 hsf
  go_wp2_with fail
  go_ret
  refine ⟨_, rfl, ?_, ?_⟩
  ·have := HO1.out.set ix ⟨(p1, p2), here, cost, ha, hl, hc⟩
   rw [Pl.set_eq hs ix _ (by rw [HN.out]; exact hix), HN.out] at this
   exact this
  ·have e1 : rw1 = some g := HRW.out.symm
   rw [e1]
   exact grown_trans (grown_below HBW.out) (But.set5 w1 g (ix * 5) ⟨(p1, p2), here, cost, ha, hl, hc⟩).grown
theorem ReadsAll.take {w : World} {hs : List Pl.RH} {rs : List Pl.Rt} (h : ReadsAll w hs rs) (n : Nat) : ReadsAll w (hs.take n) (rs.take n) := by
 refine ⟨by simp [h.1], fun i hi => ?_⟩
 simp only [List.length_take] at hi
 rw [Pl.rh_take hs n i (by omega) (by omega)]
 have : Pl.rt (rs.take n) i = Pl.rt rs i := by
  have := h.1
  rw [Pl.rt_eq _ _ (by simp; omega), Pl.rt_eq _ _ (by omega)]; simp
 rw [this]
 exact h.2 i (by omega)
theorem ReadsAll.drop {w : World} {hs : List Pl.RH} {rs : List Pl.Rt} (h : ReadsAll w hs rs) (n : Nat) : ReadsAll w (hs.drop n) (rs.drop n) := by
 refine ⟨by simp [h.1], fun i hi => ?_⟩
 simp only [List.length_drop] at hi
 rw [Pl.rh_drop hs n i (by omega)]
 have : Pl.rt (rs.drop n) i = Pl.rt rs (n + i) := by
  have := h.1
  rw [Pl.rt_eq _ _ (by simp; omega), Pl.rt_eq _ _ (by omega)]; simp
 rw [this]
 exact h.2 (n + i) (by omega)
theorem ReadsAll.append {w : World} {hs gs : List Pl.RH} {rs ss : List Pl.Rt} (h : ReadsAll w hs rs) (k : ReadsAll w gs ss) : ReadsAll w (hs ++ gs) (rs ++ ss) := by
 refine ⟨by simp [h.1, k.1], fun i hi => ?_⟩
 simp only [List.length_append] at hi
 rcases Nat.lt_or_ge i hs.length with q | q
 ·rw [Pl.rh_app_lt _ _ _ q, Pl.rt_app_lt _ _ _ (by rw [← h.1]; exact q)]
  exact h.2 i q
 ·have e1 : Pl.rh (hs ++ gs) i = Pl.rh gs (i - hs.length) := by
   rw [Pl.rh_eq _ _ (by simp; omega), Pl.rh_eq _ _ (by omega), List.getElem_append_right q]
  have e2 : Pl.rt (rs ++ ss) i = Pl.rt ss (i - hs.length) := by
   have h1 := h.1
   have h2 := k.1
   rw [Pl.rt_eq _ _ (by simp; omega), Pl.rt_eq _ _ (by omega), List.getElem_append_right (by omega)]
   simp [h1]
  rw [e1, e2]
  exact k.2 _ (by omega)
theorem ReadsAll.one {w : World} {x : Pl.RH} {r : Pl.Rt} (h : Reads w x r) : ReadsAll w [x] [r] := ⟨rfl, fun i hi => by simp at hi; subst hi; exact h⟩
theorem ReadsAll.lay {w : World} {hs : List Pl.RH} {rs : List Pl.Rt} {x : Pl.RH} {r : Pl.Rt} (h : ReadsAll w hs rs) (hr : Reads w x r) : ReadsAll w (Pl.layH hs (Pl.posP (Pl.hp hs) x.p) (Pl.thereP (Pl.hp hs) x.p) x) (Pl.insR rs r) := by
 rw [← Pl.lay_insR]
 have e : Pl.hp hs = rs.map Pl.Rt.p := h.map_p
 rw [e, hr.1]
 unfold Pl.layH Pl.layR
 exact (h.take _).append ((ReadsAll.one hr).append (h.drop _))
theorem ReadsAll.del {w : World} {hs : List Pl.RH} {rs : List Pl.Rt} {p : Int × Int} (h : ReadsAll w hs rs) (ht : Pl.thereP (Pl.hp hs) p = true) : ReadsAll w (hs.take (Pl.posP (Pl.hp hs) p) ++ hs.drop (Pl.posP (Pl.hp hs) p + 1)) (Pl.delR rs p) := by
 have e : Pl.hp hs = rs.map Pl.Rt.p := h.map_p
 rw [e] at ht ⊢
 unfold Pl.delR
 rw [if_pos ht]
 exact (h.take _).append (h.drop _)
theorem ReadsAll.asc {w : World} {hs : List Pl.RH} {rs : List Pl.Rt} (h : ReadsAll w hs rs) (hs' : Pl.SrtR rs) : Pl.AscP (Pl.hp hs) := by
 show Pl.AscP (hs.map Pl.RH.p)
 rw [h.map_p]
 exact (Pl.ascP_srt rs).2 hs'
theorem append_copyR {w : World} {ops : Array Oper} {rest : List Oper} {o : Oper} {a : Act} {Q : Exit → Act → World → Prop} (hgd : o.guard = none) (s x : Operand)
  (ho : o.op = .call { callee := .builtin .append, args := #[s, x], argTypes := #[30, 30] })
  (ao : Option Addr) (len cap : Nat) (hs : List Pl.RH) (hs' : a.eval s = .slice none 0 0) (hx : a.eval x = .slice ao len cap) (hE : IsRows w ao len cap hs) (hb : len ≤ 2000000)
  (h : ∀ v' w', OwnR w' w.heap.size v' hs → Below w.heap.size w w' → wpList Tryz.prog ops Q rest (a.put o.dst v') w') : wpList Tryz.prog ops Q (o :: rest) a w := by
 obtain ⟨i0, hi0, hz0, hz1, hz2⟩ := partsOf infoRoute
 obtain ⟨hl, hc, hm, hnil, hrow⟩ := hE
 rcases ao with _ | ad
 ·obtain rfl := hnil rfl
  obtain rfl : len = 0 := by omega
  obtain rfl : hs = [] := List.length_eq_zero_iff.1 hl
  exact wpList_append_own_none hgd s x 30 ho w.heap.size 80 i0 5 Tryz.underlying30 hi0 _ 0 [] hs' (World.ownsRow_nil _ _ _ _) hx (h _ _ (OwnR.nil _ _) (Below.refl _ _))
 ·refine wpList_append_own (w := w) hgd s x 30 ho w.heap.size 80 i0 _ 5 56 Tryz.underlying30 hi0 hz0 hz1 hz2 rfl (by decide) _ 0 [] hs' (World.ownsRow_nil _ _ _ _) ad len cap (cellsR hs) hx (by rw [cellsR_len, hl]) ?_ (cellsR_one _) (by unfold maxLen; omega) (by omega) (Nat.le_refl _) ?_
  ·intro j u hj
   rcases hrow with rfl | ⟨b, off, hba, _, hr⟩
   ·simp [cellsR] at hj
   ·cases hba
    rw [add_none]
    exact (rowsAt_cells _ _).1 hr j u hj
  ·intro v' w' hown hg _
   rw [List.nil_append] at hown
   exact h v' w' (ownR_of hown rfl) ((Below.refl _ _).grown hg (Nat.le_refl _) (by intro k hk; cases hk))
theorem Pl.take_prR (ps : List (Int × Int)) (k : Nat) (h : k < ps.length) : ps.take (k + 1) = ps.take k ++ [Pl.pr ps k] := by
 rw [List.take_succ_eq_append_getElem h, Pl.pr_eq ps k h]
theorem Pl.delsR_succ (rs : List Pl.Rt) (ps : List (Int × Int)) (k : Nat) (h : k < ps.length) : Pl.delsR rs (ps.take (k + 1)) = Pl.delR (Pl.delsR rs (ps.take k)) (Pl.pr ps k) := by
 unfold Pl.delsR
 rw [Pl.take_prR ps k h, List.foldl_append]; rfl
theorem OwnR.block {w : World} {base : Nat} {v : Value} {hs : List Pl.RH} (h : OwnR w base v hs) : ∀ k, v.ownBlock = some k → base ≤ k := fun k hk => (World.ownsRow.lt h k hk).1
set_option maxHeartbeats 2000000 in
theorem without_any (a : Option Addr) (len cap : Nat) (hs : List Pl.RH) (rs : List Pl.Rt) (b : Option Addr) (gl gc : Nat) (ps : List (Int × Int)) (w : World) (h : IsRows w a len cap hs) (hrd : ReadsAll w hs rs) (hsrt : Pl.SrtR rs) (hb : len ≤ 200) (hp : IsPairs w b gl gc ps) :
  Calls Tryz.prog 193 #[.slice a len cap, .slice b gl gc] w fun e w' =>
   ∃ v' hs', e = .returned v' ∧ OwnR w' w.heap.size v' hs' ∧ ReadsAll w hs' (Pl.delsR rs ps) ∧ Below w.heap.size w w' := by
 have HH := hid h
 have HD := hid hrd
 have HS := hid hsrt
 have HLR : Hid (rs.length = len) := hid (by rw [← hrd.1]; exact h.1)
 obtain ⟨hpl, hpc, hpm, _, hrow⟩ := hp
 have HPL := hid hpl
 have HPR := hid hrow
 unfold maxLen at hpm
 clear h hrd hsrt hpl hrow
 go_enter Tryz.func193, Tryz.ntmps193
 go_wp2_with (at_builtin; refine append_copyR rfl _ (.tmp 10) rfl a len cap hs rfl rfl HH.out (by omega) ?_; intro v1 w1 ho1 hb1; have HO1 := hid ho1; have HB1 := hid hb1; clear ho1 hb1)
 go_loopw [5, 14] (fun v i wr => ∃ (k : Nat) (hs' : List Pl.RH), k ≤ gl ∧ i = .int .i64 k ∧ Hid (OwnR wr w.heap.size v hs') ∧ Hid (ReadsAll w hs' (Pl.delsR rs (ps.take k))) ∧ Hid (Below w.heap.size w wr)) (fun _ i _ => gl - (intOf i).toNat)
 case atStart => exact ⟨0, hs, Nat.zero_le _, rfl, HO1, HD, HB1⟩
 case round =>
  obtain ⟨k, hs', hk, rfl, HO, HR, HB⟩ := hrel
  by_cases hlt : k < gl
  ·obtain ⟨b1, o1, rfl, hb1, hr1⟩ : ∃ b' off, b = some ⟨b', off, none⟩ ∧ b' < w.heap.size ∧ PairsAt w b' off ps := by
    rcases HPR.out with rfl | h
    ·have := HPL.out; simp at this; omega
    ·exact h
   obtain ⟨c0, c1⟩ := hr1.below hb1 HB.out k (by rw [HPL.out]; exact hlt)
   have HST := hid (Pl.delsR_succ rs ps k (by rw [HPL.out]; exact hlt))
   generalize Pl.pr ps k = pp at *
   obtain ⟨p1, p2⟩ := pp
   simp only at c0 c1
   have hz := HB.out.size
   have HSR : Hid (Pl.SrtR (Pl.delsR rs (ps.take k))) := hid (Pl.delsR_srt HS.out)
   have HLE : Hid (hs'.length ≤ 200) := hid (by
    rw [HR.out.1]
    have := Pl.delsR_len (ps := ps.take k) HS.out
    have := HLR.out
    omega)
   obtain ⟨tt, HT⟩ : ∃ t, Hid (Pl.thereP (Pl.hp hs') (p1, p2) = t) := ⟨_, rfl⟩
   obtain ⟨ix, HX⟩ : ∃ t, Hid (Pl.posP (Pl.hp hs') (p1, p2) = t) := ⟨_, rfl⟩
   have HLT : Hid (tt = true → ix < hs'.length) := hid fun e => by rw [← HX.out]; have := Pl.thereP_lt (by rw [HT.out]; exact e : Pl.thereP (Pl.hp hs') (p1, p2) = true); rwa [Pl.hp_len] at this
   have HF : Hid (∀ W, Below wr.heap.size wr W → Calls Tryz.prog 67 #[u5, .agg #[.int .i64 p1, .int .i64 p2]] W fun e w' => e = .returned (.tuple #[.int .i64 ix, .bool tt]) ∧ Below W.heap.size W w') := hid fun W hW => by
    obtain ⟨a', cap', e, hr, _⟩ := (HO.out.below hW).rows
    rw [e]
    have := find_rib a' hs'.length cap' hs' p1 p2 W hr (HR.out.asc HSR.out) (by have := HLE.out; omega)
    rwa [HT.out, HX.out] at this
   cases tt
   ·have HNO : Hid (Pl.delR (Pl.delsR rs (ps.take k)) (p1, p2) = Pl.delsR rs (ps.take k)) := hid (by
     unfold Pl.delR
     rw [show (Pl.delsR rs (ps.take k)).map Pl.Rt.p = Pl.hp hs' from HR.out.map_p.symm, HT.out]; rfl)
    go_wp2_with fail
    refine (HF.out _ ((Below.refl _ _).alloc (Nat.le_refl _) _)).mono ?_
    rintro e w2 ⟨rfl, hb2⟩
    have HB2 := hid (((Below.refl wr.heap.size wr).alloc (Nat.le_refl _) (.cells #[.int .i64 p1, .int .i64 p2] 49)).trans (hb2.mono (by simp)))
    clear hb2
    go_wp2_with fail
    go_roundw
    case rel => exact ⟨k + 1, hs', by omega, by go_num, hid (HO.out.below HB2.out), hid (by rw [HST.out, HNO.out]; exact HR.out), hid (HB.out.trans (HB2.out.mono hz))⟩
    case measure => simp [intOf]; omega
   ·have hix := HLT.out rfl
    have HDL := hid (HR.out.del HT.out)
    rw [HX.out] at HDL
    go_wp2_with fail
    refine (HF.out _ ((Below.refl _ _).alloc (Nat.le_refl _) _)).mono ?_
    rintro e w2 ⟨rfl, hb2⟩
    have HB2 := hid (((Below.refl wr.heap.size wr).alloc (Nat.le_refl _) (.cells #[.int .i64 p1, .int .i64 p2] 49)).trans (hb2.mono (by simp)))
    clear hb2
    have hixb : ix ≤ 200 := by have := HLE.out; omega
    go_wp2_with fail
    refine (Delete_any w.heap.size u5 hs' ix w2 (HO.out.below HB2.out) hix (by have := HLE.out; omega)).mono ?_
    rintro e w3 ⟨v3, rfl, ho3, hg3⟩
    have HO3 := hid ho3
    have HB3 := hid ((HB.out.trans (HB2.out.mono hz)).grown hg3 (Nat.le_trans hz HB2.out.size) (fun k hk => HO.out.block k hk))
    clear ho3 hg3
    go_wp2_with fail
    go_roundw
    case rel => exact ⟨k + 1, _, by omega, by go_num, HO3, hid (by rw [HST.out]; exact HDL.out), HB3⟩
    case measure => simp [intOf]; omega
  ·have hnl : ¬ ((k : Int) < (gl : Int)) := by omega
   have HE : Hid (ReadsAll w hs' (Pl.delsR rs ps)) := hid (by
    have := HR.out
    rwa [List.take_of_length_le (by rw [HPL.out]; omega)] at this)
   go_wp2_with fail
   go_ret
   first | exact ⟨_, hs', rfl, HO.out, HE.out, HB.out⟩ | exact ⟨_, rfl, hs', HO.out, HE.out, HB.out⟩
theorem Pl.inssR_cut (rs ss : List Pl.Rt) (k : Nat) : Pl.inssR rs ss = Pl.inssR (Pl.inssR rs (ss.take k)) (ss.drop k) := by
 unfold Pl.inssR
 rw [← List.foldl_append, List.take_append_drop]
theorem Pl.inssR_succ (rs ss : List Pl.Rt) (k : Nat) (h : k < ss.length) : Pl.inssR rs (ss.take (k + 1)) = Pl.insR (Pl.inssR rs (ss.take k)) (Pl.rt ss k) := by
 unfold Pl.inssR
 rw [Pl.take_rt ss k h, List.foldl_append]; rfl
theorem Pl.pat_size {a set : List Pl.Rt} {gone : List (Int × Int)} {k : Nat} (ha : Pl.tabF a = 0) (h : 200 < (Pl.inssR (Pl.delsR a gone) (set.take k)).length) : Pl.patC a set gone = 1 ∧ Pl.patL a set gone = [] := by
 have h1 : 200 < (Pl.patR a set gone).length := by
  unfold Pl.patR
  rw [Pl.inssR_cut _ set k]
  exact Nat.lt_of_lt_of_le h (Pl.inssR_len_ge _ _)
 have h2 := Pl.tabF_size h1
 unfold Pl.patC Pl.patL
 rw [if_pos ha, if_pos ha, h2]
 exact ⟨rfl, by rw [if_neg (by decide)]⟩
theorem Pl.rh_set_ne (hs : List Pl.RH) (k j : Nat) (x : Pl.RH) (h : j ≠ k) : Pl.rh (hs.set k x) j = Pl.rh hs j := by
 unfold Pl.rh
 rw [List.getD_eq_getElem?_getD, List.getD_eq_getElem?_getD, List.getElem?_set_ne (Ne.symm h)]
theorem Pl.rh_set_at (hs : List Pl.RH) (k : Nat) (x : Pl.RH) (h : k < hs.length) : Pl.rh (hs.set k x) k = x := by
 rw [Pl.rh_eq _ _ (by simpa using h)]; simp
theorem ReadsZ.set {w : World} {base b2 g o cap : Nat} {h x : Pl.RH} {r : Pl.Rt} {es : List Pl.RH} (hz : ReadsZ w base h r) (ho : OwnR w b2 (.slice (some ⟨g, 0, none⟩) es.length cap) es) : ReadsZ (set5 w g o x) base h r := by
 obtain ⟨q1, q2, q3, q4, q5⟩ := hz
 refine ⟨q1, q2, q3, q4.but (But.set5 w g o x) ?_, q5⟩
 rcases apartZR q4 ho with h | h
 ·exact .inr (by rw [h]; simp)
 ·exact .inr h
set_option maxRecDepth 20000 in
set_option maxHeartbeats 4000000 in
theorem Patch_any (a : Option Addr) (la ca : Nat) (hs : List Pl.RH) (rs : List Pl.Rt) (b : Option Addr) (lb cb : Nat) (gs : List Pl.RH) (ss : List Pl.Rt) (d : Option Addr) (gl gc : Nat) (ps : List (Int × Int)) (w : World) (h1 : IsRows w a la ca hs) (d1 : ReadsAll w hs rs) (h2 : IsRows w b lb cb gs) (d2 : ReadsAll w gs ss) (h3 : IsPairs w d gl gc ps) :
  Calls Tryz.prog 168 #[.slice a la ca, .slice b lb cb, .slice d gl gc] w fun e w' =>
   ∃ v es, e = .returned (.tuple #[v, .int .i64 (Pl.patC rs ss ps)]) ∧ OwnTb w' w.heap.size v es (Pl.patL rs ss ps) ∧ Below w.heap.size w w' := by
 have H1 := hid h1
 have D1 := hid d1
 have H2 := hid h2
 have D2 := hid d2
 have H3 := hid h3
 have HL2 : Hid (gs.length = lb) := hid h2.1
 have HR1 : Hid (rs.length = la) := hid (by rw [← d1.1]; exact h1.1)
 have HR2 : Hid (ss.length = lb) := hid (by rw [← d2.1]; exact h2.1)
 have hc2 := h2.2.1
 have hm2 := h2.2.2.1
 unfold maxLen at hm2
 clear h1 d1 h2 d2 h3
 obtain ⟨PC, HPC⟩ : ∃ x, Hid (Pl.patC rs ss ps = x) := ⟨_, rfl⟩
 obtain ⟨PL, HPL⟩ : ∃ x, Hid (Pl.patL rs ss ps = x) := ⟨_, rfl⟩
 rw [HPC.out, HPL.out]
 obtain ⟨c1, HC1⟩ : ∃ c, Hid (Pl.tabF rs = c) := ⟨_, rfl⟩
 by_cases hz1 : c1 = 0
 ·subst hz1
  have hg1 := Pl.good_of_tabF HC1.out
  have HSRT : Hid (Pl.SrtR rs) := hid ((Pl.ascP_srt rs).1 hg1.2.2)
  have hla : la ≤ 200 := by have := hg1.1; rw [HR1.out] at this; exact this
  clear hg1
  go_enter Tryz.func168, Tryz.ntmps168
  go_wp2_with fail
  refine (Check_rib _ _ _ hs rs _ H1.out D1.out).mono ?_
  rw [HC1.out]
  rintro e w1 ⟨rfl, hbA⟩
  have HBA := hid hbA
  clear hbA
  go_wp2_with fail
  refine (without_any _ _ _ hs rs _ _ _ ps _ (H1.out.below HBA.out) (D1.out.below HBA.out) HSRT.out hla (H3.out.below HBA.out)).mono ?_
  rintro e w2 ⟨v2, hs2, rfl, ho2, hr2, hb2⟩
  have HO2 := hid ho2
  have HR2' := hid hr2
  have HB2 := hid hb2
  have HLE2 : Hid (hs2.length ≤ 200) := hid (by
   rw [hr2.1]
   have := Pl.delsR_len (ps := ps) HSRT.out
   rw [HR1.out] at this
   omega)
  have HSD : Hid (Pl.SrtR (Pl.delsR rs ps)) := hid (Pl.delsR_srt HSRT.out)
  clear ho2 hr2 hb2
  have hzA := HBA.out.size
  go_wp2_with fail
  go_loopw [9, 25] (fun v i wr => ∃ (k : Nat) (hs' : List Pl.RH), k ≤ lb ∧ i = .int .i64 k ∧ Hid (OwnR wr w1.heap.size v hs') ∧ Hid (ReadsAll w1 hs' (Pl.inssR (Pl.delsR rs ps) (ss.take k))) ∧ Hid (hs'.length ≤ 200) ∧ Hid (Below w1.heap.size w1 wr)) (fun _ i _ => lb - (intOf i).toNat)
  case atStart => exact ⟨0, hs2, Nat.zero_le _, rfl, HO2, HR2', HLE2, HB2⟩
  case round =>
   obtain ⟨k, hs', hk, rfl, HO, HR, HLE, HB⟩ := hrel
   have hzB := HB.out.size
   have HBW := hid (HBA.out.trans (HB.out.mono hzA))
   by_cases hlt : k < lb
   ·obtain ⟨bb, off, rfl, hbw, hr⟩ := H2.out.at hlt
    obtain ⟨x0, x1, x2, x3, x4⟩ := hr.below hbw HBW.out k (by rw [HL2.out]; exact hlt)
    have HRD := hid ((D2.out.2 k (by rw [HL2.out]; exact hlt)).below HBA.out)
    have HST := hid (Pl.inssR_succ (Pl.delsR rs ps) ss k (by rw [HR2.out]; exact hlt))
    have HSK : Hid (Pl.SrtR (Pl.inssR (Pl.delsR rs ps) (ss.take k))) := hid (Pl.inssR_srt _ _ HSD.out)
    generalize Pl.rh gs k = hh at *
    generalize Pl.rt ss k = rr at *
    have HLY : Hid (∀ W, Below wr.heap.size wr W → Calls Tryz.prog 194 #[u9, .agg #[.int .i64 hh.p.1, .int .i64 hh.p.2, .bool hh.here, .int .i64 hh.cost, .slice hh.ha hh.hl hh.hc]] W fun e w' => ∃ v' hs3, e = .returned v' ∧ OwnR w' w1.heap.size v' hs3 ∧ ReadsAll w1 hs3 (Pl.insR (Pl.inssR (Pl.delsR rs ps) (ss.take k)) rr) ∧ Below w1.heap.size w1 w') := hid fun W hW => by
     have hBW := HB.out.trans (hW.mono hzB)
     refine (lay_rib w1.heap.size u9 hs' hh W (HO.out.below hW) hBW.size (HR.out.asc HSK.out) (by have := HLE.out; omega)).mono fun e w' ⟨v', e1, e2, e3⟩ => ⟨v', _, e1, e2, HR.out.lay HRD.out, hBW.grown e3 hBW.size (fun k hk => HO.out.block k hk)⟩
    have hlt' : (k : Int) < (lb : Int) := by omega
    obtain ⟨⟨hp1, hp2⟩, hhere, hcost, hha, hhl, hhc⟩ := hh
    simp only at x0 x1 x2 x3 x4 HLY
    go_wp2_with fail
    refine (HLY.out _ ((Below.refl _ _).alloc (Nat.le_refl _) _)).mono ?_
    rintro e w3 ⟨v3, hs3, rfl, ho3, hr3, hb3⟩
    obtain ⟨a3, cap3, rfl, hrow3, _⟩ := ho3.rows
    have HO3 := hid ho3
    have HR3 := hid hr3
    have HB3 := hid hb3
    obtain ⟨n3, HN3⟩ : ∃ n, Hid (hs3.length = n) := ⟨_, rfl⟩
    rw [HN3.out] at HO3 ⊢
    clear ho3 hr3 hb3 hrow3 x0 x1 x2 x3 x4
    by_cases hbig : 200 < n3
    ·have HSZ : Hid (PC = 1 ∧ PL = []) := hid (by
      have := Pl.pat_size (set := ss) (gone := ps) (k := k + 1) HC1.out (by rw [HST.out, ← HR3.out.1, HN3.out]; exact hbig)
      rwa [HPC.out, HPL.out] at this)
     go_wp2_with fail
     go_ret2
     exact ⟨_, [], by rw [HSZ.out.1]; rfl, by rw [HSZ.out.2]; exact OwnTb.nil _ _, HBA.out.trans (HB3.out.mono hzA)⟩
    ·go_wp2_with fail
     go_roundw
     case rel => exact ⟨k + 1, hs3, by omega, by go_num, HO3, hid (by rw [HST.out]; exact HR3.out), hid (by rw [HN3.out]; omega), HB3⟩
     case measure => simp [intOf]; omega
   ·have hnl : ¬ ((k : Int) < (lb : Int)) := by omega
    have HRE : Hid (ReadsAll w1 hs' (Pl.patR rs ss ps)) := hid (by
     have := HR.out
     rwa [List.take_of_length_le (by rw [HR2.out]; omega)] at this)
    obtain ⟨a9, cap9, rfl, hrow9, _⟩ := HO.out.rows
    obtain ⟨c2, HC2⟩ : ∃ c, Hid (Pl.tabF (Pl.patR rs ss ps) = c) := ⟨_, rfl⟩
    have HCK : Hid (Calls Tryz.prog 66 #[.slice a9 hs'.length cap9] wr fun e w' => e = .returned (.int .i64 c2) ∧ Below wr.heap.size wr w') := hid (by
     have := Check_rib a9 hs'.length cap9 hs' (Pl.patR rs ss ps) wr hrow9 (HRE.out.below HB.out)
     rwa [HC2.out] at this)
    have hc9 := hrow9.2.1
    have hm9 := hrow9.2.2.1
    unfold maxLen at hm9
    clear hrow9
    obtain ⟨n9, HN9⟩ : ∃ n, Hid (hs'.length = n) := ⟨_, rfl⟩
    rw [HN9.out] at HCK HO HLE hc9 ⊢
    by_cases hz2 : c2 = 0
    ·subst hz2
     have HE : Hid (PC = 0 ∧ PL = Pl.patR rs ss ps) := hid (by
      rw [← HPC.out, ← HPL.out]
      unfold Pl.patC Pl.patL
      rw [HC1.out, if_pos rfl, if_pos rfl, HC2.out, if_pos rfl]
      exact ⟨rfl, rfl⟩)
     have HRB : Hid (∀ i, i < n9 → Pl.routeB (Pl.rt (Pl.patR rs ss ps) i) = true) := hid fun i hi => (Pl.good_of_tabF HC2.out).2.1 i (by rw [← HRE.out.1, HN9.out]; exact hi)
     generalize Pl.patR rs ss ps = qs at *
     generalize wr = W8 at *
     go_wp2_with fail
     refine HCK.out.mono ?_
     rintro e W9 ⟨rfl, hb9⟩
     have HB9 := hid (HB.out.trans (hb9.mono hzB))
     have HO9 := hid (HO.out.below hb9)
     clear hb9
     go_wp2_with fail
     go_loopw [43] (fun i wq => ∃ (j : Nat) (es : List Pl.RH), j ≤ n9 ∧ i = .int .i64 j ∧ Hid (OwnR wq w1.heap.size (.slice a9 n9 cap9) es) ∧ Hid (es.length = n9) ∧ Hid (∀ t, t < j → ReadsZ wq w1.heap.size (Pl.rh es t) (Pl.rt qs t)) ∧ Hid (∀ t, j ≤ t → Pl.rh es t = Pl.rh hs' t) ∧ Hid (Below w1.heap.size w1 wq)) (fun i _ => n9 - (intOf i).toNat)
     case atStart => exact ⟨0, hs', Nat.zero_le _, rfl, HO9, HN9, hid (fun t ht => by omega), hid (fun t _ => rfl), HB9⟩
     case round =>
      obtain ⟨j, es, hj, rfl, HOJ, HNJ, HZJ, HHJ, HBJ⟩ := hrel
      have hzJ := HBJ.out.size
      by_cases hltj : j < n9
      ·obtain ⟨g, cap', e9, hbg, hgl, hnc, hm', hra, hsf⟩ := HOJ.out.opened (by rw [HNJ.out]; omega)
       simp only [Value.slice.injEq] at e9
       obtain ⟨rfl, hn', rfl⟩ := e9
       clear hn'
       obtain ⟨c0, c1, c2, c3, c4⟩ := hra j (by rw [HNJ.out]; exact hltj)
       rw [HHJ.out j (Nat.le_refl _)] at c0 c1 c2 c3 c4
       simp only [Nat.zero_add] at c0 c1 c2 c3 c4
       clear hra
       have HRD := hid (HRE.out.2 j (by rw [HN9.out]; exact hltj))
       have hhl : (Pl.rh hs' j).hl ≤ 1000 := by
        have e1 := HRD.out.2.2.2.1.1
        have e2 := Pl.routeB_hops (HRB.out j hltj)
        omega
       obtain ⟨rr, HRR⟩ : ∃ x, Hid (Pl.rt qs j = x) := ⟨_, rfl⟩
       rw [HRR.out] at HRD
       generalize Pl.rh hs' j = hh at *
       have HFR : Hid (∀ W, Below wr.heap.size wr W → Calls Tryz.prog 69 #[.agg #[.int .i64 hh.p.1, .int .i64 hh.p.2, .bool hh.here, .int .i64 hh.cost, .slice hh.ha hh.hl hh.hc]] W fun e w' => ∃ g : Pl.RH, e = .returned (.agg #[.int .i64 g.p.1, .int .i64 g.p.2, .bool g.here, .int .i64 g.cost, .slice g.ha g.hl g.hc]) ∧ ReadsZ w' W.heap.size g rr ∧ Below W.heap.size W w') := hid fun W hW => fresh_own hh rr W (HRD.out.below (HBJ.out.trans (hW.mono hzJ))) hhl
       have hltj' : (j : Int) < (n9 : Int) := by omega
       have hA : Below wr.heap.size wr (wr.alloc (.cells #[.int .i64 hh.p.1, .int .i64 hh.p.2, .bool hh.here, .int .i64 hh.cost, .slice hh.ha hh.hl hh.hc] 80)) := (Below.refl _ _).alloc (Nat.le_refl _) _
       have HA := hid hA
       clear hA
       go_wp2_with fail
       refine (HFR.out _ HA.out).mono ?_
       rintro e w5 ⟨gg, rfl, hz5, hb5⟩
       have HB5 := hid (HA.out.trans (hb5.mono (by simp)))
       have HZ5 := hid (hz5.mono (show w1.heap.size ≤ _ by simp; omega))
       have f0 := (HB5.out.cell (p := ⟨g, j * 5, none⟩) hgl).trans c0
       have f1 := (HB5.out.cell (p := ⟨g, j * 5 + 1, none⟩) hgl).trans c1
       have f2 := (HB5.out.cell (p := ⟨g, j * 5 + 2, none⟩) hgl).trans c2
       have f3 := (HB5.out.cell (p := ⟨g, j * 5 + 3, none⟩) hgl).trans c3
       have f4 := (HB5.out.cell (p := ⟨g, j * 5 + 4, none⟩) hgl).trans c4
       have ff : ∀ o, w5.frozen? ⟨g, o, none⟩ = false := fun o => (HB5.out.frozen (p := ⟨g, o, none⟩) hgl).trans (hsf o)
       have HO5 := hid (HOJ.out.below HB5.out)
       rw [← HNJ.out] at HO5
       clear hz5 hb5 c0 c1 c2 c3 c4 hsf
       go_wp2_with fail
       go_roundw
       case rel =>
        refine ⟨j + 1, es.set j gg, by omega, by go_num, hid ?_, hid (by rw [List.length_set]; exact HNJ.out), hid (fun t ht => ?_), hid (fun t ht => ?_), hid ?_⟩
        ·have := HO5.out.set j gg
         rw [HNJ.out] at this
         exact this
        ·by_cases e : t = j
         ·subst e
          rw [Pl.rh_set_at es t gg (by rw [HNJ.out]; exact hltj), HRR.out]
          exact HZ5.out.set HO5.out
         ·rw [Pl.rh_set_ne es j t gg e]
          exact ((HZJ.out t (by omega)).below HB5.out).set HO5.out
        ·rw [Pl.rh_set_ne es j t gg (by omega)]
         exact HHJ.out t (by omega)
        ·exact (HBJ.out.trans (HB5.out.mono hzJ)).trans ((But.set5 w5 g (j * 5) gg).below hbg (Nat.le_trans hzJ HB5.out.size))
       case measure => simp [intOf]; omega
      ·have hnlj : ¬ ((j : Int) < (n9 : Int)) := by omega
       have HFT : Hid (OwnTb wr w1.heap.size (.slice a9 n9 cap9) es qs) := hid ⟨HOJ.out, by rw [HNJ.out, ← HRE.out.1, HN9.out], fun t ht => HZJ.out t (by rw [HNJ.out] at ht; omega)⟩
       go_wp2_with fail
       go_ret2
       first | exact ⟨_, es, by rw [HE.out.1]; rfl, by rw [HE.out.2]; exact HFT.out.mono hzA, HBA.out.trans (HBJ.out.mono hzA)⟩ | exact ⟨_, by rw [HE.out.1]; rfl, ⟨es, by rw [HE.out.2]; exact HFT.out.mono hzA⟩, HBA.out.trans (HBJ.out.mono hzA)⟩
    ·have HE : Hid (PC = c2 ∧ PL = []) := hid (by
      rw [← HPC.out, ← HPL.out]
      unfold Pl.patC Pl.patL
      rw [HC1.out, if_pos rfl, if_pos rfl, HC2.out, if_neg hz2]
      exact ⟨rfl, rfl⟩)
     have hd0 : (c2 != 0) = true := by simpa using hz2
     clear hz2
     go_wp2_with fail
     refine HCK.out.mono ?_
     rintro e w9 ⟨rfl, hb9⟩
     go_wp2_with fail
     go_ret2
     exact ⟨_, [], by rw [HE.out.1]; rfl, by rw [HE.out.2]; exact OwnTb.nil _ _, HBW.out.trans (hb9.mono HBW.out.size)⟩
 ·have HE : Hid (PC = c1 ∧ PL = []) := hid (by
   rw [← HPC.out, ← HPL.out]
   unfold Pl.patC Pl.patL
   rw [HC1.out, if_neg hz1, if_neg hz1]
   exact ⟨rfl, rfl⟩)
  have hd0 : (c1 != 0) = true := by simpa using hz1
  clear hz1
  go_enter Tryz.func168, Tryz.ntmps168
  go_wp2_with fail
  refine (Check_rib _ _ _ hs rs _ H1.out D1.out).mono ?_
  rw [HC1.out]
  rintro e w1 ⟨rfl, hbA⟩
  go_wp2_with fail
  go_ret2
  exact ⟨_, [], by rw [HE.out.1]; rfl, by rw [HE.out.2]; exact OwnTb.nil _ _, hbA⟩
theorem box2' {w w3 : World} {c0 c1 : Value} {T : TypeId} (hb : Below (w.heap.size + 1) (w.alloc (.cells #[c0, c1] T)) w3) :
  w3.cell? ⟨w.heap.size, 0, none⟩ = some c0 ∧ w3.cell? ⟨w.heap.size, 1, none⟩ = some c1 ∧ w.heap.size < w3.heap.size ∧ Below w.heap.size w w3 := box2 hb
abbrev OwnPf (w : World) (base : Nat) (v : Value) (ps : List (Int × Int)) : Prop := OwnP 49 w base v ps
theorem infoPfxN : (Tryz.prog.info? 49).map (fun i => (i.zero, i.size, i.bytes)) = some (some (.agg #[.int .i64 0, .int .i64 0]), 2, 16) := by kernel_rfl
theorem cellsP_cut (hs : List (Int × Int)) (i : Nat) : cellsP hs = cellsP (hs.take i) ++ cellsP (hs.drop i) := by rw [← cellsP_append, List.take_append_drop]
theorem ownP_of {w : World} {base n : Nat} {v : Value} {xs : List Value} {hs : List (Int × Int)} (h : w.ownsRow base 49 2 v n xs) (e : xs = cellsP hs) : OwnPf w base v hs := by
 subst e
 have hn : n = hs.length := by
  have := h.1
  rw [cellsP_len] at this
  omega
 subst hn
 exact h
theorem ownP_row {w : World} {base g n cap : Nat} {L : List Value} {hs : List (Int × Int)} (hb : base ≤ g) (hg : w.heap[g]? = some (.cells L.toArray 49 (0, 0))) (hn : hs.length = n) (hc : n ≤ cap) (hm : cap ≤ maxLen) (hs' : L.length = cap * 2) (hx : L.take (n * 2) = cellsP hs) : OwnPf w base (.slice (some ⟨g, 0, none⟩) n cap) hs := by
 subst hn
 exact ⟨cellsP_len hs, .inr ⟨g, cap, L.toArray, rfl, hb, hg, hc, hm, by simpa using hs', by simpa using hx⟩⟩
theorem OwnPf.row {w : World} {base : Nat} {v : Value} {hs : List (Int × Int)} (h : OwnPf w base v hs) (hne : 0 < hs.length) :
  ∃ g cap L, v = .slice (some ⟨g, 0, none⟩) hs.length cap ∧ base ≤ g ∧ w.heap[g]? = some (.cells (List.toArray L) 49 (0, 0)) ∧ hs.length ≤ cap ∧ cap ≤ maxLen ∧ L.length = cap * 2 ∧ L.take (hs.length * 2) = cellsP hs := by
 obtain ⟨_, h | ⟨g, cap, cur, rfl, hb, hh, hn, hm, hs', hx⟩⟩ := h
 ·omega
 ·exact ⟨g, cap, cur.toList, rfl, hb, by simpa using hh, hn, hm, by simpa using hs', hx⟩
theorem OwnPf.head {w : World} {base g cap : Nat} {hs : List (Int × Int)} (h : OwnPf w base (.slice (some ⟨g, 0, none⟩) hs.length cap) hs) (i : Nat) (hi : i ≤ hs.length) : OwnPf w base (.slice (some ⟨g, 0, none⟩) i cap) (hs.take i) := by
 obtain ⟨_, h | ⟨g', cap', cur, e, hb, hh, hn, hm, hs', hx⟩⟩ := h
 ·simp at h
 ·simp only [Value.slice.injEq, Option.some.injEq, Addr.mk.injEq, and_true] at e
  obtain ⟨rfl, _, rfl⟩ := e
  have hl : (hs.take i).length = i := by simp; omega
  refine ⟨cellsP_len _, .inr ⟨g, cap, cur, by rw [hl], hb, hh, by omega, hm, hs', ?_⟩⟩
  rw [hl]
  have : cur.toList.take (i * 2) = (cur.toList.take (hs.length * 2)).take (i * 2) := by rw [List.take_take]; congr 1; omega
  rw [this, hx, cellsP_cut hs i, List.take_append_of_le_length (by rw [cellsP_len, hl]; exact Nat.le_refl _), List.take_of_length_le (by rw [cellsP_len, hl]; exact Nat.le_refl _)]
theorem step_appendP {w : World} {ops : Array Oper} {o : Oper} {a : Act} {K : Act → World → Prop} {Q : Exit → Act → World → Prop} {E : Prop} (hgd : o.guard = none) (s x : Operand)
  (ho : o.op = .call { callee := .builtin .append, args := #[s, x], argTypes := #[29, 29] })
  (base g k cap : Nat) (hs : List (Int × Int)) (hk : hs.length = k) (hs' : a.eval s = .slice (some ⟨g, 0, none⟩) k cap) (hown : OwnPf w base (.slice (some ⟨g, 0, none⟩) k cap) hs) (ad : Addr) (m c : Nat) (ns : List (Int × Int)) (hx : a.eval x = .slice (some ad) m c) (hn : ns.length = m)
  (hsrc : ∀ j u, (cellsP ns)[j]? = some u → w.cell? (ad.add j) = some u) (hroom : k + m ≤ cap)
  (h : ∀ w', OwnPf w' base (.slice (some ⟨g, 0, none⟩) (k + m) cap) (hs ++ ns) → w.grownBy w' (some g) → K (a.put o.dst (.slice (some ⟨g, 0, none⟩) (k + m) cap)) w') : if Region.wanted o (yielded ops a.tmps) = true then Oper.wp Tryz.prog o a w K Q else E := by
 have hw : Region.wanted o (yielded ops a.tmps) = true := by simp [Region.wanted, hgd]
 rw [if_pos hw]
 subst hk
 obtain ⟨i0, hi0, hz0, hz1, hz2⟩ := partsOf infoPfxN
 obtain ⟨w', hrun, r1, r2⟩ := run_append_fits (P := Tryz.prog) w base 29 o.type 49 i0 2 Tryz.underlying29 hi0 hz1 g hs.length cap (cellsP hs) hown ad m c (cellsP ns) (by rw [cellsP_len, hn]) hsrc (cellsP_one _) hroom
 unfold Oper.wp
 simp [execOp, ho, resolve, invoke, builtin, hs', hx, hrun, Result.andThen]
 exact h w' (ownP_of r1 (by rw [cellsP_append])) r2
theorem run_clearP (w : World) (g o c : Nat) (L : List Value) (hg : w.heap[g]? = some (.cells L.toArray 49 (0, 0))) (hfit : o + 2 ≤ L.length) (ty : TypeId) :
  (Builtin.clear_ #[29] ty #[.slice (some ⟨g, o, none⟩) 1 c]).run Tryz.prog w = .ok (.tuple #[]) (w.setRow g (laid L o [.int .i64 0, .int .i64 0]).toArray) := by
 have hv : ∀ w, (zeroValue 49).run Tryz.prog w = .ok (.agg #[.int .i64 0, .int .i64 0]) w := Tryz.zeroValue49
 have hz : (Builtin.zeroCells (Value.agg #[.int .i64 0, .int .i64 0]).cells 1).toList = [.int .i64 0, .int .i64 0] := by kernel_rfl
 have hst := run_storeCells_at Tryz.prog g o 49 [.int .i64 0, .int .i64 0] 0 L.toArray w hg (by simpa using hfit) (by intro v hv; simp at hv; subst hv; rfl)
 simp only [Nat.add_zero] at hst
 simp only [Builtin.clear_]
 simp [run_underlying Tryz.underlying29, hv, hz, hst, laid]
theorem wpList_clearP {w : World} {ops : Array Oper} {rest : List Oper} {o : Oper} {a : Act} {Q : Exit → Act → World → Prop} (hgd : o.guard = none) (s : Operand)
  (ho : o.op = .call { callee := .builtin .clear, args := #[s], argTypes := #[29] })
  (base g n cap off c : Nat) (hs' : a.eval s = .slice (some ⟨g, off, none⟩) 1 c) (hs : List (Int × Int)) (hown : OwnPf w base (.slice (some ⟨g, 0, none⟩) n cap) hs) (hn : hs.length = n) (hoff : off = n * 2) (hfit : n + 1 ≤ cap)
  (h : ∀ w' v', OwnPf w' base (.slice (some ⟨g, 0, none⟩) n cap) hs → But g w w' → wpList Tryz.prog ops Q rest (a.put o.dst v') w') : wpList Tryz.prog ops Q (o :: rest) a w := by
 subst hn
 obtain ⟨_, h0 | ⟨g', cap', cur, e, hb, hh, hn, hm, hsz, hx⟩⟩ := hown
 ·simp at h0
 ·simp only [Value.slice.injEq, Option.some.injEq, Addr.mk.injEq, and_true] at e
  obtain ⟨rfl, _, rfl⟩ := e
  have hgL : w.heap[g]? = some (.cells cur.toList.toArray 49 (0, 0)) := by simpa using hh
  have hfit2 : off + 2 ≤ cur.toList.length := by simp; omega
  have hrun := run_clearP w g off c cur.toList hgL hfit2 o.type
  refine wpList_plain hgd fun K hK => ?_
  unfold Oper.wp
  simp [execOp, ho, resolve, invoke, builtin, hs', hrun, Result.andThen]
  refine hK _ _ (h _ _ (ownP_row hb (setRow_heap w g _ _ _ _ hgL) rfl hn hm ?_ ?_) (But.row w g _))
  ·rw [laid_len _ _ _ (by simpa using hfit2)]
   simpa using hsz
  ·unfold laid
   rw [List.append_assoc, List.take_append_of_le_length (by simp; omega), List.take_take, show min (hs.length * 2) off = hs.length * 2 by omega, hx]
set_option maxHeartbeats 4000000 in
theorem DeleteP_any (base : Nat) (v : Value) (hs : List (Int × Int)) (i : Nat) (w : World) (hown : OwnPf w base v hs) (hi : i < hs.length) (hbig : hs.length ≤ 2000000) :
  Calls Tryz.prog 160 #[v, .int .i64 i, .int .i64 ((i : Int) + 1)] w fun e w' =>
   ∃ v', e = .returned v' ∧ OwnPf w' base v' (hs.take i ++ hs.drop (i + 1)) ∧ w.grownBy w' v.ownBlock ∧ v'.ownBlock = v.ownBlock := by
 obtain ⟨g, cap, L, rfl, hbg, hg, hnc, hm, hL, hx⟩ := OwnPf.row hown (by omega)
 have HO1 := hid (OwnPf.head hown i (by omega))
 have hm0 := hm
 unfold maxLen at hm
 obtain ⟨n, HN⟩ : ∃ n, Hid (hs.length = n) := ⟨_, rfl⟩
 have HG := hid hg
 have HSRC : Hid (∀ j u, (cellsP (hs.drop (i + 1)))[j]? = some u → L[(i + 1) * 2 + j]? = some u) := hid fun j u hj => by
  have h1 : (cellsP hs)[(i + 1) * 2 + j]? = some u := by
   rw [cellsP_cut hs (i + 1), List.getElem?_append_right (by rw [cellsP_len]; simp; omega), cellsP_len]
   simpa [show min (i + 1) hs.length = i + 1 by omega] using hj
  rw [← hx, List.getElem?_take] at h1
  split at h1
  ·exact h1
  ·cases h1
 have HLT : Hid ((hs.take i).length = i) := hid (by simp; omega)
 have HLD : Hid ((hs.drop (i + 1)).length = hs.length - (i + 1)) := hid (by simp)
 have HLA : Hid ((hs.take i ++ hs.drop (i + 1)).length = hs.length - 1) := hid (by simp; omega)
 rw [HN.out] at hi hbig hnc HLD HLA ⊢
 obtain ⟨T, HT⟩ : ∃ l, Hid (hs.take i = l) := ⟨_, rfl⟩
 obtain ⟨D, HD⟩ : ∃ l, Hid (hs.drop (i + 1) = l) := ⟨_, rfl⟩
 rw [HT.out] at HO1 HLT
 rw [HD.out] at HSRC HLD
 rw [HT.out, HD.out] at HLA ⊢
 clear hg hx hown
 have hi2 : (i : Int) ≤ (n : Int) := by omega
 have hi3 : (i : Int) + 1 ≤ (n : Int) := by omega
 have hi4 : ¬ (n = i) := by omega
 have hi5 : ((i : Int) == (i : Int) + 1) = false := by rw [beq_eq_false_iff_ne]; omega
 have hi9 : i ≤ cap := by omega
 have hi6 : (0 : Int) ≤ (i : Int) + 1 := by omega
 have hi7 : ((i : Int) + 1).toNat = i + 1 := by omega
 have hi8 : ¬ (cap = i) := by omega
 by_cases hc : cap = i + 1
 ·obtain rfl : n = i + 1 := by omega
  subst hc
  have HD0 : Hid (D.length = 0) := hid (by rw [HLD.out]; omega)
  clear hi4 hi8
  have hq1 : (i : Int) ≤ (i : Int) + 1 := by omega
  have hq2 : i ≤ i + 1 := by omega
  go_enter Tryz.func160, Tryz.ntmps160
  go_wp2_with fail
  go_region_law (refine step_appendP rfl (.tmp 22) (.tmp 25) rfl base g i (i + 1) T HLT.out (by simp [Act.eval, Act.put]) HO1.out ⟨g, 0, none⟩ 0 0 D (by simp [Act.eval, Act.put]) HD0.out (fun j u hj => by have e : D = [] := List.length_eq_zero_iff.1 HD0.out; rw [e] at hj; simp [cellsP] at hj) (by omega) ?_; intro w1 ho1 hg1; rw [Nat.add_zero] at ho1 ⊢; have HO2 := hid ho1; have HG1 := hid hg1; clear ho1 hg1)
  all_goals
   go_wp2_with (refine wpList_clearP rfl (.tmp 31) rfl base g i (i + 1) (i * 2) 1 (by simp [Act.eval]) (T ++ D) HO2.out HLA.out rfl (by omega) ?_; intro w2 v2 ho2 hb2; have HO3 := hid ho2; have HB2 := hid hb2; clear ho2 hb2)
   go_ret
   exact ⟨_, rfl, HO3.out, grown_trans (grown_trans (grown_below ((Below.refl _ _).drew)) HG1.out) HB2.out.grown, rfl⟩
 ·have hgo : i + (n - (i + 1)) = n - 1 := by omega
  have hcn : ¬ (cap = n - 1) := by omega
  go_enter Tryz.func160, Tryz.ntmps160
  go_wp2_with fail
  go_region_law (refine step_appendP rfl (.tmp 22) (.tmp 25) rfl base g i cap T HLT.out (by simp [Act.eval, Act.put]) HO1.out ⟨g, (i + 1) * 2, none⟩ (n - (i + 1)) (cap - (i + 1)) D (by simp [Act.eval, Act.put]) HLD.out (fun j u hj => by rw [add_none]; exact row_cell HG.out (HSRC.out j u hj)) (by omega) ?_; intro w1 ho1 hg1; rw [hgo] at ho1 ⊢; have HO2 := hid ho1; have HG1 := hid hg1; clear ho1 hg1)
  all_goals
   go_wp2_with (refine wpList_clearP rfl (.tmp 31) rfl base g (n - 1) cap ((n - 1) * 2) (cap - (n - 1)) (by simp [Act.eval]; try omega) (T ++ D) HO2.out HLA.out rfl (by omega) ?_; intro w2 v2 ho2 hb2; have HO3 := hid ho2; have HB2 := hid hb2; clear ho2 hb2)
   go_ret
   exact ⟨_, rfl, HO3.out, grown_trans (grown_trans (grown_below ((Below.refl _ _).drew)) HG1.out) HB2.out.grown, rfl⟩
def Pl.idxP : List (Int × Int) → Int × Int → Int → Int
 | [], _, _ => -1
 | q :: r, p, i => if q = p then i else Pl.idxP r p (i + 1)
theorem Pl.idxP_at : ∀ (ps : List (Int × Int)) (p : Int × Int) (i : Int) (k : Nat), k < ps.length → Pl.pr ps k = p → (∀ t, t < k → ¬ Pl.pr ps t = p) → Pl.idxP ps p i = i + k
 | [], _, _, _, h, _, _ => by simp at h
 | q :: r, p, i, 0, _, e, _ => by
  have : q = p := e
  show (if q = p then i else _) = _
  rw [if_pos this]; simp
 | q :: r, p, i, k + 1, h, e, hn => by
  have h0 : ¬ q = p := hn 0 (by omega)
  show (if q = p then i else Pl.idxP r p (i + 1)) = _
  rw [if_neg h0, Pl.idxP_at r p (i + 1) k (by simpa using h) e (fun t ht => hn (t + 1) (by omega))]
  push_cast
  omega
theorem Pl.idxP_none : ∀ (ps : List (Int × Int)) (p : Int × Int) (i : Int), (∀ t, t < ps.length → ¬ Pl.pr ps t = p) → Pl.idxP ps p i = -1
 | [], _, _, _ => rfl
 | q :: r, p, i, hn => by
  have h0 : ¬ q = p := hn 0 (by simp)
  show (if q = p then i else Pl.idxP r p (i + 1)) = _
  rw [if_neg h0]
  exact Pl.idxP_none r p (i + 1) (fun t ht => hn (t + 1) (by simpa using ht))
set_option maxHeartbeats 2000000 in
theorem IndexP_any (a : Option Addr) (len cap : Nat) (ps : List (Int × Int)) (p1 p2 : Int) (w : World) (h : IsPairs w a len cap ps) :
  Calls Tryz.prog 159 #[.slice a len cap, .agg #[.int .i64 p1, .int .i64 p2]] w fun e w' => e = .returned (.int .i64 (Pl.idxP ps (p1, p2) 0)) ∧ Below w.heap.size w w' := by
 obtain ⟨hl, hc, hm, _, hrow⟩ := h
 unfold maxLen at hm
 have HL := hid hl
 have HROW := hid hrow
 clear hl hrow
 obtain ⟨R, HR⟩ : ∃ R, Hid (Pl.idxP ps (p1, p2) 0 = R) := ⟨_, rfl⟩
 rw [HR.out]
 go_enter Tryz.func159, Tryz.ntmps159
 go_wp2_with fail
 obtain ⟨W0, HW0⟩ : ∃ x, Hid (x = w.alloc (.cells #[.int .i64 p1, .int .i64 p2] 49)) := ⟨_, rfl⟩
 have HB0 : Hid (Below w.heap.size w W0) := hid (by rw [HW0.out]; exact (Below.refl _ _).alloc (Nat.le_refl _) _)
 have HX0 : Hid (∀ W, Below W0.heap.size W0 W → W.cell? ⟨w.heap.size, 0, none⟩ = some (.int .i64 p1) ∧ W.cell? ⟨w.heap.size, 1, none⟩ = some (.int .i64 p2) ∧ w.heap.size < W.heap.size) := hid fun W hW => by
  have := box2' (w := w) (w3 := W) (c0 := .int .i64 p1) (c1 := .int .i64 p2) (T := 49) (by rw [HW0.out] at hW; simpa using hW)
  exact ⟨this.1, this.2.1, this.2.2.1⟩
 rw [← HW0.out]
 go_loopw [8] (fun i wr => ∃ k : Nat, k ≤ len ∧ i = .int .i64 k ∧ Hid (∀ t, t < k → ¬ Pl.pr ps t = (p1, p2)) ∧ Hid (Below W0.heap.size W0 wr)) (fun i _ => len - (intOf i).toNat)
 case atStart => exact ⟨0, Nat.zero_le _, rfl, hid (by intro t ht; omega), hid (Below.refl _ _)⟩
 case round =>
  obtain ⟨k, hk, rfl, HK, HBK⟩ := hrel
  obtain ⟨x0, x1, hsz⟩ := HX0.out _ HBK.out
  have HBW := hid (HB0.out.trans (HBK.out.mono HB0.out.size))
  by_cases hlt : k < len
  ·obtain ⟨b, off, rfl, hbw, hr⟩ : ∃ b' off, a = some ⟨b', off, none⟩ ∧ b' < w.heap.size ∧ PairsAt w b' off ps := by
    rcases HROW.out with rfl | h
    ·have := HL.out; simp at this; omega
    ·exact h
   obtain ⟨c0, c1⟩ := hr.below hbw HBW.out k (by rw [HL.out]; exact hlt)
   obtain ⟨qq, HQ⟩ : ∃ x, Hid (Pl.pr ps k = x) := ⟨_, rfl⟩
   rw [HQ.out] at c0 c1
   obtain ⟨q1, q2⟩ := qq
   simp only at c0 c1
   have hlt' : (k : Int) < (len : Int) := by omega
   obtain ⟨e1, g1⟩ : ∃ c, (p1 == q1) = c := ⟨_, rfl⟩
   obtain ⟨e2, g2⟩ : ∃ c, (p2 == q2) = c := ⟨_, rfl⟩
   by_cases hfound : e1 = true ∧ e2 = true
   ·obtain ⟨rfl, rfl⟩ := hfound
    have HT : Hid (R = (k : Int)) := hid (by
     rw [← HR.out]
     have : Pl.pr ps k = (p1, p2) := by rw [HQ.out]; simp at g1 g2; rw [g1, g2]
     rw [Pl.idxP_at ps (p1, p2) 0 k (by rw [HL.out]; exact hlt) this HK.out]
     omega)
    go_wp2_with fail
    go_quiet (fail)
    go_wp2_with fail
    go_ret
    exact ⟨by rw [HT.out]; rfl, below_drew HBW.out _⟩
   ·have HNE : Hid (¬ Pl.pr ps k = (p1, p2)) := hid fun hpr => by
     apply hfound
     rw [HQ.out] at hpr
     simp only [Prod.mk.injEq] at hpr
     rw [← g1, ← g2]
     simp [hpr.1, hpr.2]
    cases e1
    all_goals cases e2
    all_goals first | (exact absurd ⟨rfl, rfl⟩ hfound) | skip
    all_goals
     clear hfound
     go_wp2_with fail
     go_quiet (fail)
     go_wp2_with fail
     go_roundw
     case rel => exact ⟨k + 1, by omega, by go_num, hid fun t ht => by rcases Nat.lt_or_ge t k with q | q; exact HK.out t q; obtain rfl : t = k := (by omega); exact HNE.out, hid (below_drew HBK.out _)⟩
     case measure => simp [intOf]; omega
  ·have HT : Hid (R = -1) := hid (by
    rw [← HR.out]
    exact Pl.idxP_none ps _ 0 (fun t ht => HK.out t (by rw [HL.out] at ht; omega)))
   have hnl : ¬ ((k : Int) < (len : Int)) := by omega
   go_wp2_with fail
   go_ret
   exact ⟨by rw [HT.out]; rfl, HBW.out⟩
def Pl.takeC (s : Pl.Nt) (x : Pl.Ac) : Int := if Pl.idxP (s.P x.a.toNat) x.p 0 < 0 then 6 else 0
def Pl.takeN (s : Pl.Nt) (x : Pl.Ac) : Pl.Nt := if Pl.idxP (s.P x.a.toNat) x.p 0 < 0 then s else { s with P := Pl.upd s.P x.a.toNat ((s.P x.a.toNat).take (Pl.idxP (s.P x.a.toNat) x.p 0).toNat ++ (s.P x.a.toNat).drop ((Pl.idxP (s.P x.a.toNat) x.p 0).toNat + 1)) }
theorem Pl.idxP_lt : ∀ (ps : List (Int × Int)) (p : Int × Int) (i : Int), Pl.idxP ps p i = -1 ∨ (i ≤ Pl.idxP ps p i ∧ Pl.idxP ps p i < i + ps.length)
 | [], _, _ => .inl rfl
 | q :: r, p, i => by
  show (if q = p then i else Pl.idxP r p (i + 1)) = -1 ∨ (i ≤ (if q = p then i else Pl.idxP r p (i + 1)) ∧ (if q = p then i else Pl.idxP r p (i + 1)) < i + ((r.length + 1 : Nat) : Int))
  by_cases h : q = p
  ·rw [if_pos h]; right; omega
  ·rw [if_neg h]
   rcases Pl.idxP_lt r p (i + 1) with e | ⟨e1, e2⟩
   ·exact .inl e
   ·right; omega
theorem NKept.grown {B : Nat} {w w' : World} {v : Value} {ps : List (Int × Int)} (h : w.grownBy w' v.ownBlock) (ho : OwnPf w (B + 1) v ps) : NKept B w w' := by
 refine ⟨h.os, h.tape, h.output, h.size, fun k hk hB ht => h.block k hk ?_⟩
 obtain ⟨_, ⟨rfl, _⟩ | ⟨g, cap, cur, rfl, hb, hh, _⟩⟩ := ho
 ·simp [Value.ownBlock]
 ·intro e
  simp [Value.ownBlock] at e
  subst e
  rcases ht with h | h
  ·omega
  ·exact h _ _ hh
theorem NetAt.turned {w w' : World} {B : Nat} {s : Pl.Nt} {VP VK VT : Nat → Value} {a : Nat} (ha : a < 12) (h1 : NwAt w B s.D VP VK VT s.L) (h2 : ∀ i, i < 12 → OwnPf w (B + 1) (VP i) (s.P i)) (h3 : ∀ i, i < 12 → Own w (B + 1) (VK i) (s.K i)) (h4 : ∀ i, i < 12 → ∃ hs, OwnTb w (B + 1) (VT i) hs (s.T i)) (h5 : ∀ i j, i < 12 → j < 12 → i ≠ j → (VP i).ownBlock = none ∨ (VP i).ownBlock ≠ (VP j).ownBlock) (hg : w.grownBy w' (VP a).ownBlock) (v : Value) (ps : List (Int × Int)) (hv : OwnPf w' (B + 1) v ps) (he : v.ownBlock = (VP a).ownBlock) : NetAt (w'.setCell ⟨B, a * 4 + 1, none⟩ v) B { s with P := Pl.upd s.P a ps } := by
 have hnB : ∀ k, (VP a).ownBlock = some k → k ≠ B := by
  intro k hk
  obtain ⟨_, ⟨e, _⟩ | ⟨g, cap, cur, e, hb, _⟩⟩ := h2 a ha
  ·rw [e] at hk; cases hk
  ·rw [e] at hk; simp [Value.ownBlock] at hk; omega
 have h1' : NwAt w' B s.D VP VK VT s.L := (hg.block B h1.lt (fun e => hnB B e.symm rfl)).trans h1
 have hb : But B w' (w'.setCell ⟨B, a * 4 + 1, none⟩ v) := (But.refl B w').setCell _ _
 refine ⟨Pl.upd VP a v, VK, VT, h1'.setPrefixes a ha v, fun i hi => ?_, fun i hi => ownsRow_but (World.ownsRow.kept (h3 i hi) hg (apartTy (by decide) (h3 i hi) (h2 a ha))) hb (Nat.lt_succ_self _), fun i hi => ?_, fun i j hi hj hne => ?_⟩
 ·unfold Pl.upd
  by_cases e : i = a
  ·rw [if_pos e]; simp only [if_pos e]; exact ownsRow_but hv hb (Nat.lt_succ_self _)
  ·rw [if_neg e]; simp only [if_neg e]; exact ownsRow_but (World.ownsRow.kept (h2 i hi) hg (h5 i a hi ha e)) hb (Nat.lt_succ_self _)
 ·obtain ⟨hs, q⟩ := h4 i hi
  refine ⟨hs, OwnTb.but (w := w') ⟨World.ownsRow.kept q.1 hg (apartTy (by decide) q.1 (h2 a ha)), q.2.1, fun j hj => ?_⟩ hb (Nat.lt_succ_self _)⟩
  obtain ⟨q1, q2, q3, q4, q5⟩ := q.2.2 j hj
  exact ⟨q1, q2, q3, World.ownsRow.kept q4 hg (apartTy (by decide) q4 (h2 a ha)), q5⟩
 ·unfold Pl.upd
  by_cases e : i = a
  ·subst e
   rw [if_pos rfl, if_neg (Ne.symm hne), he]
   exact h5 i j hi hj hne
  ·rw [if_neg e]
   by_cases e2 : j = a
   ·subst e2
    rw [if_pos rfl, he]
    exact h5 i j hi hj hne
   ·rw [if_neg e2]
    exact h5 i j hi hj hne
set_option maxHeartbeats 8000000 in
theorem netTake_any (B : Nat) (s : Pl.Nt) (x : Pl.Ac) (a : Nat) (w : World) (h : NetAt w B s) (hxa : x.a = a) (ha : a < 12) (hpok : ∀ p ∈ s.P a, Pl.pairOk p) (hpl : (s.P a).length ≤ 6) :
  Calls Tryz.prog 114 #[.pointer (some ⟨B, 0, none⟩), .agg #[.int .i64 x.kind, .int .i64 x.a, .int .i64 x.b, .int .i64 x.n, .int .i64 x.m, .int .i64 x.p.1, .int .i64 x.p.2, .string x.key, .string x.val]] w fun e w' =>
   e = .returned (.agg #[.int .i64 (Pl.takeC s x), .slice none 0 0, .int .i64 0, .slice none 0 0]) ∧ NetAt w' B (Pl.takeN s x) ∧ NKept B w w' := by
 have HN := hid h
 have hBl := h.lt
 have HPOK := hid hpok
 clear h hpok
 obtain ⟨cd, HCD⟩ : ∃ c, Hid (Pl.takeC s x = c) := ⟨_, hid rfl⟩
 obtain ⟨sn, HSN⟩ : ∃ c, Hid (Pl.takeN s x = c) := ⟨_, hid rfl⟩
 have HCE : Hid (cd = if Pl.idxP (s.P x.a.toNat) x.p 0 < 0 then 6 else 0) := hid HCD.out.symm
 have HSE : Hid (sn = if Pl.idxP (s.P x.a.toNat) x.p 0 < 0 then s else { s with P := Pl.upd s.P x.a.toNat ((s.P x.a.toNat).take (Pl.idxP (s.P x.a.toNat) x.p 0).toNat ++ (s.P x.a.toNat).drop ((Pl.idxP (s.P x.a.toNat) x.p 0).toNat + 1)) }) := hid HSN.out.symm
 rw [HCD.out, HSN.out]
 clear HCD HSN
 obtain ⟨kind, xa, b, n, m, ⟨p1, p2⟩, key, val⟩ := x
 simp only at hxa HCE HSE ⊢
 subst hxa
 rw [Int.toNat_natCast] at HCE HSE
 have ha' : (a : Int) < 12 := by omega
 have HRF := hid (fun (c : Int) (W : World) => refused_any c W)
 obtain ⟨b0, b1, bz, bb⟩ := two (w := w) (.cells #[.int .i64 kind, .int .i64 (a : Int), .int .i64 b, .int .i64 n, .int .i64 m, .int .i64 p1, .int .i64 p2, .string key, .string val] 51) (.cells #[.int .i64 0, .slice none 0 0, .int .i64 0, .slice none 0 0] 40)
 obtain ⟨W2, HW2⟩ : ∃ W, Hid (W = (w.alloc (.cells #[.int .i64 kind, .int .i64 (a : Int), .int .i64 b, .int .i64 n, .int .i64 m, .int .i64 p1, .int .i64 p2, .string key, .string val] 51)).alloc (.cells #[.int .i64 0, .slice none 0 0, .int .i64 0, .slice none 0 0] 40)) := ⟨_, hid rfl⟩
 rw [← HW2.out] at b0 b1 bz bb
 obtain ⟨q0, q1, q2, q3, q4, q5, q6, q7, q8⟩ := box9 b0
 have HX1 := hid b1
 have HBB := hid bb
 have Q5 := hid q5
 have Q6 := hid q6
 have hxl : w.heap.size < W2.heap.size := by omega
 have hBl2 : B < W2.heap.size := by omega
 have hle : w.heap.size ≤ w.heap.size + 1 := by omega
 have hne1 : B ≠ w.heap.size + 1 := by omega
 have hne2 : w.heap.size + 1 ≠ B := by omega
 clear q0 q2 q3 q4 q5 q6 q7 q8 b0 b1 bb
 go_enter Tryz.func114, Tryz.ntmps114
 go_wp2_with fail
 rw [← HW2.out]
 go_quiet (fail)
 clear q1
 go_wp2_with fail
 obtain ⟨W3, HW3⟩ : ∃ W, Hid (W = W2.drewN nq) := ⟨_, hid rfl⟩
 rw [← HW3.out]
 have HB23 : Hid (Below W2.heap.size W2 W3) := hid (by rw [HW3.out]; exact below_drew (Below.refl _ _) _)
 have HB3 : Hid (Below w.heap.size w W3) := hid (HBB.out.trans (HB23.out.mono (by omega)))
 have hz3 := HB23.out.size
 obtain ⟨VP, VK, VT, h1, h2, h3, h4, h5⟩ := HN.out.below HB3.out
 obtain ⟨pa, pc, ev, hpi, _, _⟩ := (h2 a ha).shape HPOK.out
 have hpn := h1.prefixes a ha
 rw [ev] at hpn
 have hB3 := h1.lt
 have hxl3 : w.heap.size < W3.heap.size := by omega
 have g5 := (HB23.out.cell (p := ⟨w.heap.size, 5, none⟩) hxl).trans Q5.out
 have g6 := (HB23.out.cell (p := ⟨w.heap.size, 6, none⟩) hxl).trans Q6.out
 obtain ⟨R, HR⟩ : ∃ R, Hid (Pl.idxP (s.P a) (p1, p2) 0 = R) := ⟨_, hid rfl⟩
 have HIX : Hid (∀ x : WIn W3, Calls Tryz.prog 159 #[.slice pa (s.P a).length pc, .agg #[.int .i64 p1, .int .i64 p2]] x.w fun e w' => e = .returned (.int .i64 R) ∧ Below x.w.heap.size x.w w') := hid fun x => by
  have := IndexP_any pa _ pc (s.P a) p1 p2 x.w (hpi.below x.h)
  rwa [HR.out] at this
 obtain ⟨pl, HPL⟩ : ∃ c, Hid ((s.P a).length = c) := ⟨_, hid rfl⟩
 rw [HPL.out] at HIX hpn hpl
 have HH2 := hid h2
 have i1 := in_cell hB3 hpn
 have i5 := in_cell hxl3 g5
 have i6 := in_cell hxl3 g6
 have hne := in_some W3
 have HPN := hid hpn
 have HNW3 := hid h1
 have HALL : Hid (∀ W5 w6 v6 ps, Below W3.heap.size W3 W5 → W5.grownBy w6 (VP a).ownBlock → OwnPf w6 (B + 1) v6 ps → v6.ownBlock = (VP a).ownBlock → NetAt (w6.setCell ⟨B, a * 4 + 1, none⟩ v6) B { s with P := Pl.upd s.P a ps }) := hid fun W5 w6 v6 ps hb hg hv he =>
  NetAt.turned ha (h1.below hb) (fun i hi => (h2 i hi).below hb) (fun i hi => (h3 i hi).below hb) (fun i hi => by obtain ⟨hs, q⟩ := h4 i hi; exact ⟨hs, q.below hb⟩) h5 hg v6 ps hv he
 have HEV := hid ev
 clear h1 h2 h3 h4 h5 hpi hpn g5 g6 ev
 refine wp_region_in (by kernel_rfl) (by kernel_rfl) ?_
 repeat (go_big_quiet_step ((go_at_call 159; exact in_call (HIX.out _))))
 refine wpQuiet_nil ?_
 intro w5 hw'
 have hb5 := in_out hw'
 clear hw' i1 i5 i6 hne
 have HB5 : Hid (Below w.heap.size w w5) := hid (HB3.out.trans (hb5.mono HB3.out.size))
 have HX5 := hid ((hb5.block _ (by omega)).trans ((HB23.out.block _ (by omega)).trans HX1.out))
 have hz5 := hb5.size
 have hpn5 := (hb5.cell (p := ⟨B, a * 4 + 1, none⟩) hB3).trans HPN.out
 have hB5 : B < w5.heap.size := by omega
 rw [HR.out] at HCE HSE
 have HOP : Hid (OwnPf w5 (B + 1) (.slice pa pl pc) (s.P a)) := hid (by have := (HH2.out a ha).below hb5; rw [HEV.out, HPL.out] at this; exact this)
 have HEV2 : Hid (VP a = .slice pa pl pc) := hid (by rw [HEV.out, HPL.out])
 have HB35 := hid hb5
 clear hb5
 by_cases hR : R < 0
 ·have hRb : decide (R < 0) = true := by simpa using hR
  rw [if_pos hR] at HCE HSE
  clear hR hpn5
  go_wp2_with fail
  refine (HRF.out 6 _).mono ?_
  rintro e w6 ⟨rfl, hb6⟩
  have hbx := (hb6.block _ (blockLt HX5.out)).trans HX5.out
  have HB6 := hid (HB5.out.trans (hb6.mono HB5.out.size))
  obtain ⟨⟨y0, y1, y2, y3⟩, yf, yl⟩ := box4c hbx
  clear hb6 hbx
  go_wp2_with fail
  have hfin := (((HB6.out.setCell (p := ⟨w.heap.size + 1, 0, none⟩) hle (.int .i64 6)).setCell (p := ⟨w.heap.size + 1, 1, none⟩) hle (.slice none 0 0)).setCell (p := ⟨w.heap.size + 1, 2, none⟩) hle (.int .i64 0)).setCell (p := ⟨w.heap.size + 1, 3, none⟩) hle (.slice none 0 0)
  refine bodyPost_ret (v := .agg #[.int .i64 6, .slice none 0 0, .int .i64 0, .slice none 0 0]) (by simp [results, Tryz.results114, go_sem, y0, y1, y2, y3]) rfl ⟨by rw [HCE.out], ?_, NKept.of (But.of hfin)⟩
  rw [HSE.out]; exact HN.out.below hfin
 ·have hRb : decide (R < 0) = false := by simpa using hR
  rw [if_neg hR] at HCE HSE
  obtain ⟨k, rfl⟩ : ∃ k : Nat, R = k := ⟨R.toNat, by omega⟩
  have hkl : k < pl := by
   rcases Pl.idxP_lt (s.P a) (p1, p2) 0 with e | ⟨_, e⟩
   ·rw [HR.out] at e; omega
   ·rw [HR.out, HPL.out] at e; omega
  rw [Int.toNat_natCast] at HSE
  have HDL := hid (DeleteP_any (B + 1) (.slice pa pl pc) (s.P a) k w5 HOP.out (by rw [HPL.out]; exact hkl) (by rw [HPL.out]; omega))
  have hw1 : IntKind.i64.wrap ((k : Int) + 1) = (k : Int) + 1 := by rw [IntKind.wrap_i64]; omega
  clear hR
  go_wp2_with fail
  refine HDL.out.mono ?_
  rintro e w6 ⟨v6, rfl, ho6, hg6, he6⟩
  have hkp := NKept.grown hg6 HOP.out
  have HX6 := hid ((hkp.block _ (blockLt HX5.out) hne2 (.inr (by intro cur m e; rw [HX5.out] at e; simp at e))).trans HX5.out)
  have hgB : ∀ j : Nat, w6.cell? ⟨B, j, none⟩ = w5.cell? ⟨B, j, none⟩ := fun j => by
   have hbk : w6.heap[B]? = w5.heap[B]? := hg6.block B hB5 (fun e => by
    obtain ⟨_, ⟨e1, _⟩ | ⟨g, cap, cur, e1, hb, _⟩⟩ := HOP.out
    ·rw [e1] at e; cases e
    ·rw [e1] at e; simp [Value.ownBlock] at e; omega)
   simp [World.cell?, hbk]
  have hgF : ∀ j : Nat, w6.frozen? ⟨B, j, none⟩ = w5.frozen? ⟨B, j, none⟩ := fun j => by
   have hbk : w6.heap[B]? = w5.heap[B]? := hg6.block B hB5 (fun e => by
    obtain ⟨_, ⟨e1, _⟩ | ⟨g, cap, cur, e1, hb, _⟩⟩ := HOP.out
    ·rw [e1] at e; cases e
    ·rw [e1] at e; simp [Value.ownBlock] at e; omega)
   simp [World.frozen?, hbk]
  have hpn6 := (hgB (a * 4 + 1)).trans hpn5
  have hsf6 : w6.frozen? ⟨B, a * 4 + 1, none⟩ = false := (hgF (a * 4 + 1)).trans ((HB35.out.frozen (p := ⟨B, a * 4 + 1, none⟩) hB3).trans (HNW3.out.soft (a * 4 + 1)))
  have hB6 : B < w6.heap.size := Nat.lt_of_lt_of_le hB5 hkp.size
  have HNF := hid (HALL.out w5 w6 v6 _ HB35.out (by rw [HEV2.out]; exact hg6) ho6 (by rw [HEV2.out]; exact he6))
  obtain ⟨va, vc, rfl⟩ := ownsRow_slice ho6
  have HKP := hid hkp
  obtain ⟨vn, HVN⟩ : ∃ c, Hid (((s.P a).take k ++ (s.P a).drop (k + 1)).length = c) := ⟨_, hid rfl⟩
  rw [HVN.out] at HNF ⊢
  obtain ⟨⟨y0, y1, y2, y3⟩, yf, yl⟩ := box4c HX6.out
  clear ho6 hg6 he6 hkp hgB hgF hpn5
  go_wp2_with fail
  obtain ⟨WS, HWS⟩ : ∃ x, Hid (x = w6.setCell ⟨B, a * 4 + 1, none⟩ (.slice va vn vc)) := ⟨_, hid rfl⟩
  have HBS : Hid (But B w6 WS) := hid (by rw [HWS.out]; exact (But.refl B w6).setCell _ _)
  have HXS := hid ((HBS.out.block _ yl hne2).trans HX6.out)
  rw [← HWS.out]
  obtain ⟨Wf, HWF⟩ : ∃ x, Hid (x = set4 WS (w.heap.size + 1) (.int .i64 0) (.slice none 0 0) (.int .i64 0) (.slice none 0 0)) := ⟨_, hid rfl⟩
  have hbut : But (w.heap.size + 1) WS Wf := by rw [HWF.out]; exact set4_but (But.refl (w.heap.size + 1) WS) _ _ _ _
  have hfx : Wf.heap[w.heap.size + 1]? = some (.cells #[.int .i64 0, .slice none 0 0, .int .i64 0, .slice none 0 0] 40) := by
   rw [HWF.out]; exact set4_at HXS.out _ _ _ _
  obtain ⟨⟨z0, z1, z2, z3⟩, _, _⟩ := box4c hfx
  rw [show (((WS.setCell ⟨w.heap.size + 1, 0, none⟩ (.int .i64 0)).setCell ⟨w.heap.size + 1, 1, none⟩ (.slice none 0 0)).setCell ⟨w.heap.size + 1, 2, none⟩ (.int .i64 0)).setCell ⟨w.heap.size + 1, 3, none⟩ (.slice none 0 0) = Wf from HWF.out.symm]
  refine bodyPost_ret (v := .agg #[.int .i64 0, .slice none 0 0, .int .i64 0, .slice none 0 0]) (by simp [results, Tryz.results114, go_sem, z0, z1, z2, z3]) rfl ⟨by rw [HCE.out], ?_, ?_⟩
  ·rw [HSE.out]
   refine NetAt.reply ?_ hbut HXS.out hne2
   rw [HWS.out]
   exact HNF.out
  ·have hk2 : NKept B w WS := ((NKept.of (But.of HB5.out)).trans HKP.out).trans (NKept.of HBS.out)
   exact ⟨hbut.os.trans hk2.os, hbut.tape.trans hk2.tape, hbut.output.trans hk2.output, Nat.le_trans hk2.size hbut.size, fun i hi hB ht => (hbut.block i (Nat.lt_of_lt_of_le hi hk2.size) (by omega)).trans (hk2.block i hi hB ht)⟩
end Go.Proofs.YtjjelkdajdeikaaGreatDoor
