/-
  Contracts and facts that the proof rests on, put together out of several texts.
-/
import Derived.Test.YtjjelkdajdeikaaGreatDoorTopStepsC13
import Derived.Test.YtjjelkdajdeikaaGreatDoorTopStepsC7
import Derived.Shelf.Abstract
import Derived.Laws.EntriesVeiled
import Derived.Test.YtjjelkdajdeikaaGreatDoorProg
import Derived.ProofKit
import Derived.OpenShut
import Derived.ShutString
import Derived.ChangeOld
import Derived.Lib.SmallJoins
import Derived.Deep.Slices
import Derived.SizedLaws
import Derived.Test.YtjjelkdajdeikaaGreatDoorTopStepsC1
import Derived.Test.YtjjelkdajdeikaaGreatDoorTopStepsC12
/-
  Contracts: slices.Equal over texts that are the same; slices.EqualFunc over replies that are the same; a script that is too long; acts that are made.
-/
namespace Go.Proofs.YtjjelkdajdeikaaGreatDoor
open Go.RowKit
set_option maxRecDepth 20000

set_option maxHeartbeats 1000000 in
theorem EqualT_eq (a b : Option Addr) (len cap capb : Nat) (ks : List ByteArray) (w : World) (ha : IsTexts w a len cap ks) (hB : IsTexts w b len capb ks) :
    Calls Tryz.prog 44 #[.slice a len cap, .slice b len capb] w fun e w' => e = .returned (.bool true) ∧ Below w.heap.size w w' := by
  have H1 := hid ha
  have H2 := hid hB
  have HLN : Hid (ks.length = len) := hid ha.1
  have hc := ha.2.1
  have hcb := hB.2.1
  have hm := ha.2.2.1
  have hmb := hB.2.2.1
  unfold maxLen at hm hmb
  clear ha hB
  go_enter Tryz.func44, Tryz.ntmps44
  go_wp2_with fail
  go_loopw [13] (fun i wr => ∃ k : Nat, k ≤ len ∧ i = .int .i64 k ∧ Hid (Below w.heap.size w wr)) (fun i _ => len - (intOf i).toNat)
  case atStart => exact ⟨0, Nat.zero_le _, rfl, hid (Below.refl _ _)⟩
  case round =>
    obtain ⟨k, hk, rfl, HB⟩ := hrel
    by_cases hlt : k < len
    · obtain ⟨b1, o1, rfl, hb1, hr1⟩ : ∃ b0 off, a = some ⟨b0, off, none⟩ ∧ b0 < wr.heap.size ∧ ∀ i, i < ks.length → wr.cell? ⟨b0, off + i, none⟩ = some (.string (ks.getD i ⟨#[]⟩)) := by
        rcases (H1.out.below HB.out).2.2.2 with h | h
        · have := HLN.out; rw [h] at this; simp at this; omega
        · exact h
      obtain ⟨b2, o2, rfl, hb2, hr2⟩ : ∃ b0 off, b = some ⟨b0, off, none⟩ ∧ b0 < wr.heap.size ∧ ∀ i, i < ks.length → wr.cell? ⟨b0, off + i, none⟩ = some (.string (ks.getD i ⟨#[]⟩)) := by
        rcases (H2.out.below HB.out).2.2.2 with h | h
        · have := HLN.out; rw [h] at this; simp at this; omega
        · exact h
      have c1 := hr1 k (by rw [HLN.out]; exact hlt)
      have c2 := hr2 k (by rw [HLN.out]; exact hlt)
      generalize ks.getD k ⟨#[]⟩ = z at *
      have hlt' : (k : Int) < (len : Int) := by omega
      clear hr1 hr2
      go_wp2_with fail
      go_region
      go_wp2_with fail
      go_roundw
      case rel => exact ⟨k + 1, by omega, by go_num, hid (below_drewN HB.out 1)⟩
      case measure => simp [intOf]; omega
    · obtain rfl : k = len := by omega
      go_wp2_with fail
      go_ret
      exact ⟨rfl, HB.out⟩
end Go.Proofs.YtjjelkdajdeikaaGreatDoor
/-
  Contract of the whole's laws: a run of acts (run).
-/
namespace Go.Proofs.YtjjelkdajdeikaaGreatDoor
open Go.RowKit
set_option maxRecDepth 20000

set_option maxHeartbeats 2000000 in
theorem TopRun_any (a : Option Addr) (len cap : Nat) (xs : List Pl.Ac) (w : World) (h : IsActs w a len cap xs) (hl : len ≤ 400) (hT : Tab w) :
    Calls Tryz.prog 24 #[.slice a len cap] w fun e w' => ∃ vr vs, e = .returned (.tuple #[vr, vs, .int .i64 0]) ∧ RunP w xs w' vr vs ∧ Below w.heap.size w w' := by
  have HR := hid (Run_any a len cap xs w h hl hT)
  have HL := hid h.1
  clear h hT
  go_enter Tryz.func24, Tryz.ntmps24
  go_wp2_with (go_at_call 12; go_loud (refine HR.out.mono ?_; rintro e w1 ⟨vr, vs, rfl, ⟨⟨ts, ht, hts⟩, hus⟩, hb⟩; obtain ⟨ra, rc, rfl⟩ := ownsRow_slice ht.1; have hlen : ts.length = len := (by rw [← HL.out, ← Pl.runR_len Pl.Nt.new xs, ← hts, List.length_map]); rw [hlen] at ht ⊢; have HP := hid (And.intro hlen (And.intro ht (And.intro hts (And.intro hus hb)))); clear hlen ht hts hus hb))
  refine bodyPost_ret (v := .tuple #[.slice ra len rc, vs, .int .i64 0]) (by simp [results, Tryz.results24, go_sem]) rfl ?_
  obtain ⟨hlen, ht, hts, hus, hb⟩ := HP.out
  rw [← hlen] at ht ⊢
  exact ⟨_, _, rfl, ⟨⟨ts, ht, hts⟩, hus⟩, hb⟩
end Go.Proofs.YtjjelkdajdeikaaGreatDoor
/-
  Contracts: slices.EqualFunc over replies that are the same; a script that is too long; acts that are made.
-/
namespace Go.Proofs.YtjjelkdajdeikaaGreatDoor
open Go.RowKit
set_option maxRecDepth 20000

def PredR (g : Nat) : Prop := ∀ (W : World) (c co : Int) (pa pb ka kb : Option Addr) (n m pca pcb kca kcb : Nat) (zs : List Int) (ks : List ByteArray), IsInts W pa n pca zs → IsInts W pb n pcb zs → IsTexts W ka m kca ks → IsTexts W kb m kcb ks →
  Calls Tryz.prog g #[.agg #[.int .i64 c, .slice pa n pca, .int .i64 co, .slice ka m kca], .agg #[.int .i64 c, .slice pb n pcb, .int .i64 co, .slice kb m kcb]] W fun e w' => e = .returned (.bool true) ∧ Below W.heap.size W w'
set_option maxHeartbeats 2000000 in
theorem pred_steps : PredR 42 := by
  intro W c co pa pb ka kb n m pca pcb kca kcb zs ks h1 h2 h3 h4
  have H1 := hid h1
  have H2 := hid h2
  have H3 := hid h3
  have H4 := hid h4
  clear h1 h2 h3 h4
  obtain ⟨W2, HW2⟩ : ∃ X, Hid (X = (W.alloc (.cells #[.int .i64 c, .slice pa n pca, .int .i64 co, .slice ka m kca] 40)).alloc (.cells #[.int .i64 c, .slice pb n pcb, .int .i64 co, .slice kb m kcb] 40)) := ⟨_, hid rfl⟩
  obtain ⟨b0, b1, bz, bb⟩ := two (w := W) (.cells #[.int .i64 c, .slice pa n pca, .int .i64 co, .slice ka m kca] 40) (.cells #[.int .i64 c, .slice pb n pcb, .int .i64 co, .slice kb m kcb] 40)
  rw [← HW2.out] at b0 b1 bz bb
  have HB2 := hid bb
  have HX0 := hid b0
  have HX1 := hid b1
  obtain ⟨⟨c0, c1, c2, c3⟩, _, hl0⟩ := box4c b0
  obtain ⟨⟨d0, d1, d2, d3⟩, _, hl1⟩ := box4c b1
  have HEI := hid (EqualI_any pa pb n n pca pcb zs zs W2 (H1.out.below bb) (H2.out.below bb))
  rw [decide_eq_true rfl] at HEI
  clear b0 b1 bb
  go_enter Tryz.func42, Tryz.ntmps42
  go_wp2_with (rw [← HW2.out])
  try rw [← HW2.out]
  refine HEI.out.mono ?_
  rintro e w3 ⟨rfl, hb3⟩
  obtain ⟨⟨e0, e1, e2, e3⟩, _, hm0⟩ := box4c ((hb3.block _ (blockLt HX0.out)).trans HX0.out)
  obtain ⟨⟨g0, g1, g2, g3⟩, _, hm1⟩ := box4c ((hb3.block _ (blockLt HX1.out)).trans HX1.out)
  have HB3 : Hid (Below W.heap.size W w3) := hid (HB2.out.trans (hb3.mono HB2.out.size))
  have HET := hid (EqualT_eq ka kb m kca kcb ks w3 (H3.out.below HB3.out) (H4.out.below HB3.out))
  clear hb3 c0 c1 c2 c3 d0 d1 d2 d3 hl0 hl1
  go_wp2_with fail
  refine HET.out.mono ?_
  rintro e w4 ⟨rfl, hb4⟩
  go_wp2_with fail
  go_ret
  exact ⟨ret_bool (by simp), HB3.out.trans (hb4.mono HB3.out.size)⟩
set_option maxHeartbeats 4000000 in
theorem EqualFuncR_any (g : Nat) (eg : ∀ args w, (callFunc g args).run Tryz.prog w = .ok (.enter g args) w) (hp : PredR g) (a b : Option Addr) (k c1 c2 base1 base2 : Nat) (ts us : List RpV) (w : World)
    (h1 : k = 0 ∨ ∃ g1, a = some ⟨g1, 0, none⟩ ∧ g1 < w.heap.size ∧ RepsAt w g1 ts) (h2 : k = 0 ∨ ∃ g2, b = some ⟨g2, 0, none⟩ ∧ g2 < w.heap.size ∧ RepsAt w g2 us) (hkb : k ≤ 1000) (hk1 : k ≤ ts.length) (hk2 : k ≤ us.length)
    (o1 : ∀ t ∈ ts, OwnZ w base1 t.vp t.r.path ∧ OwnS w base1 t.vk t.r.keys) (o2 : ∀ t ∈ us, OwnZ w base2 t.vp t.r.path ∧ OwnS w base2 t.vk t.r.keys) (he : ∀ i, i < k → (rpv ts i).r = (rpv us i).r) :
    Calls Tryz.prog 41 #[.slice a k c1, .slice b k c2, .func (.func g) #[] #[]] w fun e w' => e = .returned (.bool true) ∧ Below w.heap.size w w' := by
  have H1 := hid h1
  have H2 := hid h2
  have O1 := hid o1
  have O2 := hid o2
  have HE := hid he
  have HP := hid hp
  clear h1 h2 o1 o2 he hp
  go_enter Tryz.func41, Tryz.ntmps41
  go_wp2_with fail
  go_loopw [17] (fun i wr => ∃ j : Nat, j ≤ k ∧ i = .int .i64 j ∧ Hid (Below w.heap.size w wr)) (fun i _ => k - (intOf i).toNat)
  case atStart => exact ⟨0, Nat.zero_le _, rfl, hid (Below.refl _ _)⟩
  case round =>
    obtain ⟨j, hj, rfl, HB⟩ := hrel
    by_cases hlt : j < k
    · obtain ⟨g1, rfl, l1, r1⟩ := H1.out.resolve_left (by omega)
      obtain ⟨g2, rfl, l2, r2⟩ := H2.out.resolve_left (by omega)
      obtain ⟨x0, x1, x2, x3⟩ := (r1.below l1 HB.out) j (by omega)
      obtain ⟨y0, y1, y2, y3⟩ := (r2.below l2 HB.out) j (by omega)
      obtain ⟨z1, z2⟩ := O1.out _ (rpv_mem (show j < ts.length by omega))
      obtain ⟨z3, z4⟩ := O2.out _ (rpv_mem (show j < us.length by omega))
      rw [← HE.out j hlt] at y0 y2 z3 z4
      obtain ⟨pa, pca, e1, i1, _⟩ := z1.ints
      obtain ⟨ka, kca, e2, i2, _⟩ := z2.shape
      obtain ⟨pb, pcb, e3, i3, _⟩ := z3.ints
      obtain ⟨kb, kcb, e4, i4, _⟩ := z4.shape
      rw [e1] at x1
      rw [e2] at x3
      rw [e3] at y1
      rw [e4] at y3
      have I1 := hid (i1.below HB.out)
      have I2 := hid (i2.below HB.out)
      have I3 := hid (i3.below HB.out)
      have I4 := hid (i4.below HB.out)
      clear r1 r2 z1 z2 z3 z4 e1 e2 e3 e4 i1 i2 i3 i4
      generalize (rpv ts j).r = r at *
      obtain ⟨np, HNP⟩ : ∃ c, Hid (r.path.length = c) := ⟨_, hid rfl⟩
      obtain ⟨nk, HNK⟩ : ∃ c, Hid (r.keys.length = c) := ⟨_, hid rfl⟩
      rw [HNP.out] at x1 y1 I1 I3
      rw [HNK.out] at x3 y3 I2 I4
      have l1' : g1 < wr.heap.size := Nat.lt_of_lt_of_le l1 HB.out.size
      have l2' : g2 < wr.heap.size := Nat.lt_of_lt_of_le l2 HB.out.size
      have hlt' : (j : Int) < (k : Int) := by omega
      obtain ⟨Wa, HWa⟩ : ∃ W, Hid (W = wr.alloc (.cells #[.int .i64 r.code, .slice pa np pca, .int .i64 r.cost, .slice ka nk kca] 40)) := ⟨_, hid rfl⟩
      have hba : Below wr.heap.size wr Wa := by rw [HWa.out]; exact (Below.refl _ _).alloc (Nat.le_refl _) _
      have hza : Wa.heap.size = wr.heap.size + 1 := by rw [HWa.out]; simp
      have hxa : Wa.heap[wr.heap.size]? = some (.cells #[.int .i64 r.code, .slice pa np pca, .int .i64 r.cost, .slice ka nk kca] 40) := by rw [HWa.out]; exact heapNew _ _
      have w0 := (hba.cell (p := ⟨g2, j * 4, none⟩) l2').trans y0
      have w1 := (hba.cell (p := ⟨g2, j * 4 + 1, none⟩) l2').trans y1
      have w2 := (hba.cell (p := ⟨g2, j * 4 + 2, none⟩) l2').trans y2
      have w3 := (hba.cell (p := ⟨g2, j * 4 + 3, none⟩) l2').trans y3
      have l2a : g2 < Wa.heap.size := by omega
      obtain ⟨Wb, HWb⟩ : ∃ W, Hid (W = Wa.alloc (.cells #[.int .i64 r.code, .slice pb np pcb, .int .i64 r.cost, .slice kb nk kcb] 40)) := ⟨_, hid rfl⟩
      have hbb : Below Wa.heap.size Wa Wb := by rw [HWb.out]; exact (Below.refl _ _).alloc (Nat.le_refl _) _
      have hxb : Wb.heap[Wa.heap.size]? = some (.cells #[.int .i64 r.code, .slice pb np pcb, .int .i64 r.cost, .slice kb nk kcb] 40) := by rw [HWb.out]; exact heapNew _ _
      obtain ⟨⟨c0, c1', c2', c3⟩, _, hla⟩ := box4c ((hbb.block _ (blockLt hxa)).trans hxa)
      rw [hza] at hxb
      obtain ⟨⟨d0, d1, d2, d3⟩, _, hlb⟩ := box4c hxb
      have hbab : Below wr.heap.size wr Wb := hba.trans (hbb.mono (by omega))
      have HPW := hid (HP.out Wb r.code r.cost pa pb ka kb np nk pca pcb kca kcb r.path r.keys (I1.out.below hbab) (I3.out.below hbab) (I2.out.below hbab) (I4.out.below hbab))
      have HBB : Hid (Below w.heap.size w Wb) := hid (HB.out.trans (hbab.mono HB.out.size))
      clear hxa hxb hba hbb hbab y0 y1 y2 y3
      go_wp2_with (first | rw [← HWa.out] | rw [← HWb.out])
      try rw [← HWa.out]
      try rw [← HWb.out]
      refine HPW.out.mono ?_
      rintro e w9 ⟨rfl, hb9⟩
      go_wp2_with fail
      go_roundw
      case rel => exact ⟨j + 1, by omega, by go_num, hid (HBB.out.trans (hb9.mono HBB.out.size))⟩
      case measure => simp [intOf]; omega
    · obtain rfl : j = k := by omega
      go_wp2_with fail
      go_ret
      exact ⟨rfl, HB.out⟩
set_option maxHeartbeats 1000000 in
theorem TopRun_long (a : Option Addr) (len cap : Nat) (w : World) (h : 400 < len) :
    Calls Tryz.prog 24 #[.slice a len cap] w fun e w' => e = .returned (.tuple #[.slice none 0 0, .slice none 0 0, .int .i64 1]) ∧ w' = w := by
  have HR := hid (Run_long a len cap w h)
  clear h
  go_enter Tryz.func24, Tryz.ntmps24
  go_wp2_with (go_at_call 12; refine HR.out.mono ?_; rintro e w' ⟨rfl, hw'⟩; rw [hw']; clear hw' w')
  exact bodyPost_ret (v := .tuple #[.slice none 0 0, .slice none 0 0, .int .i64 1]) (by simp [results, Tryz.results24, go_sem]) rfl ⟨rfl, rfl⟩
theorem run_makeAc (w : World) (n : Nat) (hn : n ≤ 1000) : ∃ cs, (Instr.makeSlice 22 (.int .i64 (n : Int)) (.int .i64 (n : Int))).run Tryz.prog w = .ok (.slice (some ⟨w.heap.size, 0, none⟩) n n) (w.alloc (.cells cs 51)) := by
  obtain ⟨i0, hi0, hz0, hz1, hz2⟩ := partsOf infoAct
  have := run_make (P := Tryz.prog) w 22 51 i0 _ Tryz.underlying22 hi0 hz0 .i64 .i64 n n (by omega) (by omega) (by rw [hz2]; omega) (by omega)
  exact ⟨_, this⟩
end Go.Proofs.YtjjelkdajdeikaaGreatDoor
/-
  Small facts that the opening of parameters needs.
-/
namespace Go.Proofs.YtjjelkdajdeikaaGreatDoor
open Go.ChangeShapes Go.WideShapes Go.ChangeAt Go.RowKit
set_option maxRecDepth 20000

theorem cell_lt {W : World} {x : Addr} {v : Value} (h : W.cell? x = some v) : x.block < W.heap.size := by
  rcases Nat.lt_or_ge x.block W.heap.size with h' | h'
  · exact h'
  · simp [World.cell?, Array.getElem?_eq_none h'] at h

theorem own : ownKnob Tryz.prog.godebug = none := by kernel_rfl
theorem laidOut : laidOutB Tryz.prog = true := by kernel_rfl
end Go.Proofs.YtjjelkdajdeikaaGreatDoor
/-
  What a parameter holds when it is read as data: a slice of raw things.
-/
namespace Go.Proofs.YtjjelkdajdeikaaGreatDoor
open Go.ChangeShapes Go.WideShapes Go.ChangeAt Go.RowKit
set_option maxRecDepth 20000

theorem cellsRaw : Tryz.prog.cellsOf 98 = 4 := by kernel_rfl
theorem raw_of_trod {H : Type} {enc : TypeId × Value → H} {w : World} {base : Nat} {spare : Nat → Bool} {held : Bool} {n : Nat} {cs : List Value} {x : DataW H × List MemPlace}
    (h : DataW.trod enc Tryz.prog w base spare held n 98 cs = some x) : ∃ k0 k1 k2 k3 : Int, cs = [.int .i64 k0, .int .i64 k1, .int .i64 k2, .int .i64 k3] ∧
      (Lit.int .i64 k0).wf = true ∧ (Lit.int .i64 k1).wf = true ∧ (Lit.int .i64 k2).wf = true ∧ (Lit.int .i64 k3).wf = true := by
  obtain ⟨y0, y1, y2, y3, m, _, hl, h0, h1, h2, h3⟩ := Go.Joins.trod_struct4 Tryz.underlying98 h
  rw [cellsRaw] at hl
  match cs, hl with
  | [c0, c1, c2, c3], _ =>
    have e3 : Tryz.prog.cellsOf 3 = 1 := by kernel_rfl
    simp only [e3] at h0 h1 h2 h3
    obtain ⟨s0, a0, _, b0⟩ := DataW.trod_int Tryz.underlying3 h0
    obtain ⟨s1, a1, _, b1⟩ := DataW.trod_int Tryz.underlying3 h1
    obtain ⟨s2, a2, _, b2⟩ := DataW.trod_int Tryz.underlying3 h2
    obtain ⟨s3, a3, _, b3⟩ := DataW.trod_int Tryz.underlying3 h3
    simp at a0 a1 a2 a3
    subst a0 a1 a2 a3
    exact ⟨s0, s1, s2, s3, rfl, b0, b1, b2, b3⟩

theorem open_raws {H : Type} {enc : TypeId × Value → H} {w : World} {r : Reach} {b0 : Nat} {held : Bool} {v : Value} {d : DataW H} {p : List MemPlace}
    (hv : Value.okWide Tryz.prog w r b0 45 v) (h : DataW.Trod enc Tryz.prog w 0 (fun _ => true) held 45 v d p) :
    ∃ a len cap, v = .slice a len cap ∧ IsRaws w a len cap := by
  obtain ⟨a, len, cap, rfl⟩ := okWide_slice Tryz.underlying45 hv
  obtain ⟨fuel, hf⟩ := h
  rcases Go.Deep.open_slice Tryz.underlying45 hf with ⟨hcs, _⟩ | ⟨x, l, c, m, n, D, Q, hcs, _, hl, hm, hmm, _, hx⟩
  · simp [Value.cells] at hcs
    obtain ⟨rfl, rfl, rfl⟩ := hcs
    exact ⟨_, _, _, rfl, Nat.le_refl _, by simp, .inl rfl⟩
  · simp [Value.cells] at hcs
    obtain ⟨rfl, rfl, rfl⟩ := hcs
    simp only [if_true] at hmm
    subst hmm
    rw [cellsRaw] at hx
    refine ⟨_, _, _, rfl, hl, hm, ?_⟩
    rcases Nat.eq_zero_or_pos len with h0 | hpos
    · exact .inl h0
    · right
      obtain ⟨b, off, spot⟩ := x
      obtain ⟨cs0, g1, g2⟩ := hx 0 (by omega)
      obtain ⟨k0, k1, k2, k3, rfl, _⟩ := raw_of_trod g2
      have hc0 := (World.cells?_some g1).2.2 0 (by omega)
      simp only [List.getElem?_cons_zero] at hc0
      have hsp : spot = none := by simpa [Addr.add] using World.cell?_spot hc0
      subst hsp
      refine ⟨b, off, rfl, ?_, ?_⟩
      · have := cell_lt hc0; simpa [Addr.add] using this
      · intro i hi
        obtain ⟨cs1, f1, f2⟩ := hx i (by omega)
        obtain ⟨k0, k1, k2, k3, rfl, hw⟩ := raw_of_trod f2
        have hc := (World.cells?_some f1).2.2
        have c0 := hc 0 (by omega)
        have c1 := hc 1 (by omega)
        have c2 := hc 2 (by omega)
        have c3 := hc 3 (by omega)
        simp only [add_none, List.getElem?_cons_zero, List.getElem?_cons_succ, Nat.add_zero] at c0 c1 c2 c3
        exact ⟨k0, k1, k2, k3, ⟨c0, c1, c2, c3⟩, hw⟩
end Go.Proofs.YtjjelkdajdeikaaGreatDoor
