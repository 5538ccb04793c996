/-
  Contract: the document's StoreOf, where the frame is good.
-/
import Derived.Test.YtcdobhdbafpkiabRef2
import Derived.Test.YtcdobhdbafpkiabRef3
import Derived.Test.YtcdobhdbafpkiabSeal
import Derived.Test.YtcdobhdbafpkiabFault
import Derived.Test.YtcdobhdbafpkiabDec4
import Derived.Deep.RegionWith
namespace Go.Proofs.Ytcdobhdbafpkiab
open Go.RowKit

theorem sp_new {w : World} {B b off len cap : Nat} {bs : List UInt8} (h : IsBytes w (some ⟨b, off, none⟩) len cap bs) (hb : b < B) (hB : B ≤ w.heap.size) (h1 : 1 ≤ len) (hl : len ≤ 20000) (hne : ¬ bs = []) :
    SpAt (w.alloc (.cells #[.slice (some ⟨b, off, none⟩) len cap, .int .i64 1, .int .i64 0] 51)) B w.heap.size 0 (bs.drop 1) := by
  refine ⟨some ⟨b, off, none⟩, len, cap, bs, 1, by simp, by simp, by simp, by simp, by simp, by simp, h.below ((Below.refl _ _).alloc (Nat.le_refl _) _), ?_, hB, by simp, h1, fun _ => rfl, hne, hl⟩
  intro x hx _
  cases hx; exact hb
theorem SpAt.keep {w w' : World} {B R : Nat} {c : Int} {rs : List UInt8} (h : SpAt w B R c rs) (hs : w.heap.size ≤ w'.heap.size) (hk : ∀ k, k < w.heap.size → (k < B ∨ k = R) → w'.heap[k]? = w.heap[k]?) : SpAt w' B R c rs := by
  obtain ⟨a, len, cap, bs, i, h0, h1, h2, f0, f1, f2, hI, hx, hB, hR, hi, hrs, hbs, hll⟩ := h
  have hRR := hk R hR (.inr rfl)
  refine ⟨a, len, cap, bs, i, (World.cell?_of_block (w := w) hRR).trans h0, (World.cell?_of_block (w := w) hRR).trans h1, (World.cell?_of_block (w := w) hRR).trans h2, (World.frozen?_of_block (w := w) hRR).trans f0, (World.frozen?_of_block (w := w) hRR).trans f1, (World.frozen?_of_block (w := w) hRR).trans f2, ?_, hx, hB, by omega, hi, hrs, hbs, hll⟩
  obtain ⟨i1, i2, i3, i5⟩ := hI
  refine ⟨i1, i2, i3, ?_⟩
  rcases i5 with i5 | ⟨b, off, rfl, hb, hr⟩
  · exact .inl i5
  · have hbB := hx _ rfl hbs
    exact .inr ⟨b, off, rfl, by omega, fun j u hj => (World.cell?_of_block (w := w) (hk b hb (.inl hbB))).trans (hr j u hj)⟩
theorem SpAt.below {w w' : World} {B R : Nat} {c : Int} {rs : List UInt8} (h : SpAt w B R c rs) (k : Below w.heap.size w w') : SpAt w' B R c rs :=
  h.keep k.size (fun i hi _ => k.block i hi)
theorem SpAt.lt {w : World} {B R : Nat} {c : Int} {rs : List UInt8} (h : SpAt w B R c rs) : R < w.heap.size ∧ B ≤ R := by
  obtain ⟨a, len, cap, bs, i, h0, h1, h2, f0, f1, f2, hI, hx, hB, hR, hi, hrs, hbs, hll⟩ := h
  exact ⟨hR, hB⟩
theorem SpAt.set {w : World} {B R b o : Nat} {c : Int} {rs : List UInt8} {v : Value} (h : SpAt w B R c rs) (hb : R < b) : SpAt (w.setCell ⟨b, o, none⟩ v) B R c rs := by
  have hl := h.lt
  exact h.keep (by simp [World.setCell]) (fun k _ hk => Below.heap_setCell _ _ _ _ (by simp; omega))
theorem Own.set {W : World} {base X o : Nat} {v val : Value} {l : List Pl.Ent} (h : Own W base v l) (hX : v.ownBlock ≠ some X) : Own (W.setCell ⟨X, o, none⟩ val) base v l :=
  Own.kept h (Only.set X o W val) (.inr hX)
theorem below_set {B X o : Nat} {a W : World} {val : Value} (h : Below B a W) (hB : B ≤ X) (hX : X ≤ W.heap.size) : Below B a (W.setCell ⟨X, o, none⟩ val) :=
  h.trans ((Only.set X o W val).below hB hX)
namespace Pl
/-- what is told once so many entries are still to be read -/
def restL (f : Nat) (l : List Ent) (r : List UInt8) : List Ent × Int :=
  if (entsN f l 0 r).2.1 = 0 then (if (entsN f l 0 r).2.2 = [] then ((entsN f l 0 r).1, 0) else ([], 4)) else ([], (entsN f l 0 r).2.1)
theorem rdL_rest {r r1 : List UInt8} {n : Int} (h : num 0 r = (n, 0, r1)) : rdL r = restL n.toNat [] r1 := by
  unfold rdL restL
  rw [h]; simp only; rw [if_pos trivial]
theorem rdL_bad {r r1 : List UInt8} {n c : Int} (h : num 0 r = (n, c, r1)) (hc : ¬ c = 0) : rdL r = ([], c) := by
  unfold rdL
  rw [h]; simp only; rw [if_neg hc]
theorem restL_step {f : Nat} {l : List Ent} {r : List UInt8} {x : Ent} {r3 : List UInt8} (h : ent4 0 r = (x, 0, r3)) : restL (f + 1) l r = restL f (l ++ [x]) r3 := by
  unfold restL
  rw [entsN, h]; simp only; rw [if_pos trivial]
theorem restL_bad {f : Nat} {l : List Ent} {r : List UInt8} {x : Ent} {c : Int} {r3 : List UInt8} (h : ent4 0 r = (x, c, r3)) (hc : ¬ c = 0) : restL (f + 1) l r = ([], c) := by
  unfold restL
  rw [entsN, h]; simp only; rw [if_neg hc]; simp only; rw [if_neg hc]
theorem restL_end {l : List Ent} {r : List UInt8} : restL 0 l r = if r = [] then (l, 0) else ([], 4) := by
  unfold restL
  rw [entsN]; simp
end Pl

set_option maxHeartbeats 8000000 in
theorem StoreOf_good (b off len cap e : Nat) (bs : List UInt8) (w : World) (h : IsBytes w (some ⟨b, off, none⟩) len cap bs) (he : len = e + 4) (h1 : len ≤ 20000) (h2 : 6 ≤ len) (h3 : bs.getD 0 0 = 116) (hb : b < w.heap.size) (hq : Pl.sealL (bs.take e) = bs.drop e)
    (q0 : w.cell? ⟨b, off, none⟩ = some (.int .u8 116)) :
    Calls Try.prog 11 #[.slice (some ⟨b, off, none⟩) len cap] w fun e w' => ∃ v, e = .returned (.tuple #[v, .int .i64 (Pl.decC bs)]) ∧ Own w' w.heap.size v (Pl.decO bs) ∧ Below w.heap.size w w' := by
  have HI := hid h
  obtain ⟨hl, hlc, hm, hrow⟩ := h
  unfold maxLen at hm
  clear hrow
  have hpos : (0 : Int) < (len : Int) := by omega
  have HFR : Hid (Pl.frameC bs = 0) := by
    show _ = _
    unfold Pl.frameC
    rw [if_neg (by omega), if_neg (by omega), if_neg (fun h => h h3), hl, show len - 4 = e by omega, if_neg (fun h => h hq)]
  have HDC : Hid (Pl.decC bs = if (Pl.rdL ((bs.take e).drop 1)).2 = 0 then Pl.fault (Pl.rdL ((bs.take e).drop 1)).1 else (Pl.rdL ((bs.take e).drop 1)).2) := by
    show _ = _
    unfold Pl.decC
    rw [if_pos HFR.out, hl, show len - 4 = e by omega]
  have HDO : Hid (Pl.decO bs = if Pl.decC bs = 0 then (Pl.rdL ((bs.take e).drop 1)).1 else []) := by
    show _ = _
    unfold Pl.decO
    rw [hl, show len - 4 = e by omega]
  have HEQ := hid he
  have HTO := hid (bytes_to HI.out (show e ≤ len by omega))
  have HON := hid (bytes_on (n := e) HI.out (by omega))
  have hcvT : (convert 23 9 (.slice (some ⟨b, off + e, none⟩) (len - e) (cap - e))).run Try.prog w.drew = .ok (.string ⟨(bs.drop e).toArray⟩) w.drew := conv_any HON.out
  have hsub : (len : Int) - 4 = (e : Int) := by omega
  have hle : (e : Int) ≤ (len : Int) := by omega
  have hce : ¬ (cap = e) := by omega
  have hce2 : ¬ ((cap : Int) = (e : Int)) := by omega
  have hbq : (Pl.sealL (bs.take e) == bs.drop e) = true := by rw [beq_iff_eq]; exact hq
  have hwe : IntKind.i64.wrap (e : Int) = (e : Int) := by rw [IntKind.wrap_i64]; omega
  have hec : (e : Int) ≤ (cap : Int) := by omega
  have hec' : e ≤ cap := by omega
  have hel' : e ≤ len := by omega
  have hbw : b < w.heap.size := hb
  obtain ⟨n, c1, r1, HN⟩ : ∃ n c1 r1, Hid (Pl.num 0 ((bs.take e).drop 1) = (n, c1, r1)) := ⟨_, _, _, rfl⟩
  have hnr := Pl.num_range 0 ((bs.take e).drop 1)
  rw [HN.out] at hnr
  obtain ⟨hn0, hn1⟩ := hnr
  simp only at hn0 hn1
  obtain ⟨m, rfl⟩ := Int.eq_ofNat_of_zero_le hn0
  have HLE : Hid (e ≤ 20000 ∧ 1 ≤ e ∧ ¬ bs.take e = []) := by
    refine ⟨by omega, by omega, ?_⟩
    intro h
    have := HTO.out.1
    rw [h] at this
    simp at this
    omega
  have HRD : Hid ((c1 = 0 → Pl.rdL ((bs.take e).drop 1) = Pl.restL m [] r1) ∧ (¬ c1 = 0 → Pl.rdL ((bs.take e).drop 1) = ([], c1))) := by
    refine ⟨fun h => ?_, fun h => Pl.rdL_bad HN.out h⟩
    subst h
    have := Pl.rdL_rest HN.out
    rwa [Int.toNat_natCast] at this
  obtain ⟨rd, HRDE⟩ : ∃ rd, Hid (Pl.rdL ((bs.take e).drop 1) = rd) := ⟨_, rfl⟩
  rw [HRDE.out] at HDC HDO HRD
  clear he hl h3 hq
  go_enter Try.func11, Try.ntmps11
  go_wp2_with fail
  go_region_with (first
    | (go_at_call 24; refine (SealOf_any _ _ _ (bs.take e) _ (HTO.out.below (Below.drew (Below.refl _ _)))).mono ?_; rintro e w1 ⟨v1, rfl, ho1, hb1⟩; obtain ⟨a1, cp1, rfl, hI1, _, _⟩ := ho1.shape; have hcv1 := conv_any hI1; have hcv2 := conv_any (HON.out.below ((Below.drew (Below.refl _ _)).trans hb1)); have HB1 := hid hb1; clear hI1 ho1 hb1))
  all_goals
    have HBW := hid ((Below.drew (Below.refl _ _)).trans HB1.out)
    have HSP := hid (sp_new (HTO.out.below HBW.out) hbw HBW.out.size HLE.out.2.1 HLE.out.1 HLE.out.2.2)
    have HNU := hid (one_any _ _ _ _ _ HSP.out)
    rw [HN.out] at HNU
    simp only at HNU
    have hz1 := HBW.out.size
    have hz1 : w.heap.size ≤ w1.heap.size := hz1
    clear hcv1 hcv2
    go_wp2_with fail
    refine HNU.out.mono ?_
    rintro e1 w2 ⟨rfl, hr2, ho2⟩
    have HR2 := hid hr2
    have HO2 := hid ho2
    have hz2 := ho2.size
    simp at hz2
    have HB2 : Hid (Below w.heap.size w w2) := (HBW.out.alloc hz1 _).trans (ho2.below hz1 (by simp))
    go_wp2
    go_loopw [5, 7] (fun vl i wr => ∃ (k f : Nat) (l : List Pl.Ent) (c2 : Int) (r2 : List UInt8) (u : Value), u = vl ∧ f + k = m ∧ i = .int .i64 k ∧ Hid (Own wr (w1.heap.size + 1) u l) ∧ l.length ≤ k ∧ Hid (∀ e ∈ l, e.ok) ∧ Hid (SpAt wr w.heap.size w1.heap.size c2 r2) ∧ Hid (c2 = 0 → rd = Pl.restL f l r2) ∧ Hid (¬ c2 = 0 → rd = ([], c2)) ∧ Hid (Below w.heap.size w wr)) (fun _ i _ => m - (intOf i).toNat)
    case atStart => exact ⟨0, m, [], c1, r1, _, rfl, rfl, rfl, Own.nil _ _, Nat.le_refl _, (fun _ h => by cases h), HR2, HRD.out.1, HRD.out.2, HB2⟩
    case round =>
      obtain ⟨k, f, l, c2, r2, u, rfl, hfk, rfl, HO, hll, HOK, HR, HC0, HCN, HBR⟩ := hrel
      have hz := HR.out.lt.1
      by_cases hlt : k < m
      · obtain ⟨g, rfl⟩ : ∃ g, f = g + 1 := ⟨f - 1, by omega⟩
        by_cases hc2 : c2 = 0
        · subst hc2
          have HRL := hid (HC0.out rfl)
          obtain ⟨a3, l3, cp3, bs3, i3, q1, q2, q3, f1, f2, f3, hI3, hx3, hB3, hR3, hi3, hrs3, hbs3, hll3⟩ := HR.out
          clear hI3 hx3 hrs3 hbs3 hi3 hll3
          obtain ⟨s1, d1, t1, H1⟩ : ∃ a b d, Hid (Pl.txt 0 r2 = (a, b, d)) := ⟨_, _, _, rfl⟩
          obtain ⟨v2, d2, t2, H2⟩ : ∃ a b d, Hid (Pl.ver d1 t1 = (a, b, d)) := ⟨_, _, _, rfl⟩
          obtain ⟨n3, d3, t3, H3⟩ : ∃ a b d, Hid (Pl.num d2 t2 = (a, b, d)) := ⟨_, _, _, rfl⟩
          obtain ⟨s4, d4, t4, H4⟩ : ∃ a b d, Hid (Pl.txt d3 t3 = (a, b, d)) := ⟨_, _, _, rfl⟩
          have HE : Hid (Pl.ent4 0 r2 = (⟨s1, v2, n3, s4⟩, d4, t4)) := by
            show _ = _
            unfold Pl.ent4
            rw [H1.out]; simp only
            rw [H2.out]; simp only
            rw [H3.out]; simp only
            rw [H4.out]
          have HXK : Hid ((⟨s1, v2, n3, s4⟩ : Pl.Ent).ok) := by
            have := Pl.ent4_ok 0 r2
            rw [HE.out] at this
            exact this
          have HNX : Hid (u.ownBlock ≠ some wr.heap.size) := by
            intro h
            have := (World.ownsRow.lt HO.out _ h).2
            omega
          have HBX := hid ((Below.refl wr.heap.size wr).alloc (Nat.le_refl _) (.cells #[.string ⟨#[]⟩, .int .i64 0, .int .i64 0, .string ⟨#[]⟩] 43))
          have E1 := hid (heap_new wr (.cells #[.string ⟨#[]⟩, .int .i64 0, .int .i64 0, .string ⟨#[]⟩] 43))
          go_wp2_with fail
          have hc1 := sptext_any _ _ _ _ _ (HR.out.below HBX.out)
          rw [H1.out] at hc1
          refine hc1.mono ?_
          rintro e1 w3 ⟨rfl, hr3, ho3⟩
          have hz3 := ho3.size
          simp at hz3
          have HR3 := hid hr3
          have HO3 := hid ((HO.out.below HBX.out).only ho3 (by omega))
          have HB3 := hid ((HBR.out.alloc HBR.out.size _).trans (ho3.below hz1 (by simp; omega)))
          have a1 := ho3.blk E1.out (by omega)
          obtain ⟨⟨x0, x1, x2, x3⟩, ⟨y0, y1, y2, y3⟩⟩ := blk4 a1
          have A1 := hid a1
          clear a1 hr3 hc1 q1 q2 q3 f1 f2 f3
          go_wp2_with fail
          have hc2 := next_any _ _ d1 t1 _ (HR3.out.set (b := wr.heap.size) (o := 0) (v := .string s1) (by omega))
          rw [H2.out] at hc2
          refine hc2.mono ?_
          rintro e1 w4 ⟨rfl, hr4, ho4⟩
          have hz4 := ho4.size
          simp [World.setCell] at hz4
          have HR4 := hid hr4
          have HO4 := hid ((HO3.out.set (o := 0) (val := .string s1) HNX.out).only ho4 (by omega))
          have HB4 := hid ((below_set (X := wr.heap.size) (o := 0) (val := .string s1) HB3.out (by omega) (by omega)).trans (ho4.below hz1 (by simp [World.setCell]; omega)))
          have b1 := ho4.blk (blk_set A1.out) (by omega)
          simp at b1
          clear x0 x1 x2 x3 y0 y1 y2 y3 hr4 hc2
          obtain ⟨⟨x0, x1, x2, x3⟩, ⟨y0, y1, y2, y3⟩⟩ := blk4 b1
          have B1 := hid b1
          clear b1
          go_wp2_with fail
          have hc3 := one_any _ _ d2 t2 _ (HR4.out.set (b := wr.heap.size) (o := 1) (v := .int .i64 v2) (by omega))
          rw [H3.out] at hc3
          refine hc3.mono ?_
          rintro e1 w5 ⟨rfl, hr5, ho5⟩
          have hz5 := ho5.size
          simp [World.setCell] at hz5
          have HR5 := hid hr5
          have HO5 := hid ((HO4.out.set (o := 1) (val := .int .i64 v2) HNX.out).only ho5 (by omega))
          have HB5 := hid ((below_set (X := wr.heap.size) (o := 1) (val := .int .i64 v2) HB4.out (by omega) (by omega)).trans (ho5.below hz1 (by simp [World.setCell]; omega)))
          have b1 := ho5.blk (blk_set B1.out) (by omega)
          simp at b1
          clear x0 x1 x2 x3 y0 y1 y2 y3 hr5 hc3
          obtain ⟨⟨x0, x1, x2, x3⟩, ⟨y0, y1, y2, y3⟩⟩ := blk4 b1
          have C1 := hid b1
          clear b1
          go_wp2_with fail
          have hc4 := sptext_any _ _ d3 t3 _ (HR5.out.set (b := wr.heap.size) (o := 2) (v := .int .i64 n3) (by omega))
          rw [H4.out] at hc4
          refine hc4.mono ?_
          rintro e1 w6 ⟨rfl, hr6, ho6⟩
          have hz6 := ho6.size
          simp [World.setCell] at hz6
          have HR6 := hid hr6
          have HO6 := hid ((HO5.out.set (o := 2) (val := .int .i64 n3) HNX.out).only ho6 (by omega))
          have HB6 := hid ((below_set (X := wr.heap.size) (o := 2) (val := .int .i64 n3) HB5.out (by omega) (by omega)).trans (ho6.below hz1 (by simp [World.setCell]; omega)))
          have b1 := ho6.blk (blk_set C1.out) (by omega)
          simp at b1
          clear x0 x1 x2 x3 y0 y1 y2 y3 hr6 hc4
          obtain ⟨⟨x0, x1, x2, x3⟩, ⟨y0, y1, y2, y3⟩⟩ := blk4 b1
          clear b1
          have HR7 := hid (HR6.out.set (b := wr.heap.size) (o := 3) (v := .string s4) (by omega))
          have HO7 := hid (HO6.out.set (o := 3) (val := .string s4) HNX.out)
          have HB7 := hid (below_set (X := wr.heap.size) (o := 3) (val := .string s4) HB6.out (by omega) (by omega))
          have hzs : (w6.setCell ⟨wr.heap.size, 3, none⟩ (.string s4)).heap.size = w6.heap.size := by simp [World.setCell]
          have HZS := hid hzs
          clear hzs
          go_wp2_with (at_builtin; refine append_ent rfl (.tmp 67) (.tmp 69) rfl (w1.heap.size + 1) u l ⟨s1, v2, n3, s4⟩ rfl HO7.out (by rw [HZS.out]; omega) (by rw [HZS.out]; rfl) (by omega) ?_; intro v8 w8 ho8 hb8)
          have HR8 : Hid (SpAt w8 w.heap.size w1.heap.size d4 t4) := HR7.out.keep hb8.size (fun i _ hi => hb8.block i (by omega))
          have HB8 : Hid (Below w.heap.size w w8) := HB7.out.trans (hb8.mono (by omega))
          have HO8 := hid ho8
          clear hb8 ho8 x0 x1 x2 x3 y0 y1 y2 y3
          go_wp2_with fail
          go_roundw
          case rel =>
            refine ⟨k + 1, g, l ++ [(⟨s1, v2, n3, s4⟩ : Pl.Ent)], d4, t4, _, rfl, by omega, by go_num, HO8, by simp; omega, ?_, HR8, ?_, ?_, HB8⟩
            · intro y hy
              rcases List.mem_append.1 hy with hy | hy
              · exact HOK.out y hy
              · rw [List.mem_singleton.1 hy]; exact HXK.out
            · intro h
              rw [HRL.out]
              have := HE.out
              rw [h] at this
              exact Pl.restL_step this
            · intro h
              rw [HRL.out]
              exact Pl.restL_bad HE.out h
          case measure => simp [intOf]; omega
        · have hce : (c2 == 0) = false := by simp [hc2]
          have hcb : (c2 != 0) = true := by simp [hc2]
          have HDC3 : Hid (Pl.decC bs = c2) := by show _ = _; rw [HDC.out, HCN.out hc2]; simp only; rw [if_neg hc2]
          have HDO3 : Hid (Pl.decO bs = []) := by show _ = _; rw [HDO.out, if_neg (by rw [HDC3.out]; exact hc2)]
          clear hc2
          obtain ⟨a3, l3, cp3, bs3, i3, q1, q2, q3, f1, f2, f3, hI3, hx3, hB3, hR3, hi3, hrs3, hbs3, hll3⟩ := HR.out
          clear hI3 hx3 hrs3 hbs3 hi3 hll3
          go_wp2
          go_quiet (fail)
          go_wp2
          go_quiet (fail)
          go_wp2
          go_ret2
          exact ⟨_, by rw [HDC3.out]; rfl, by rw [HDO3.out]; exact Own.nil _ _, below_drewN (below_drewN HBR.out _) _⟩
      · obtain rfl : k = m := by omega
        obtain rfl : f = 0 := by omega
        obtain ⟨a3, l3, cp3, bs3, i3, q1, q2, q3, f1, f2, f3, hI3, hx3, hB3, hR3, hi3, hrs3, hbs3, hll3⟩ := HR.out
        have hlb3 : bs3.length = l3 := hI3.1
        clear hI3 hx3
        by_cases hc2 : c2 = 0
        · subst hc2
          have hr2 := hrs3 rfl
          have HRL := hid ((HC0.out rfl).trans Pl.restL_end)
          by_cases hlt3 : i3 < l3
          · have hne2 : ¬ r2 = [] := by
              rw [hr2]
              intro h
              have := congrArg List.length h
              simp at this
              omega
            rw [if_neg hne2] at HRL
            have HDC3 : Hid (Pl.decC bs = 4) := by show _ = _; rw [HDC.out, HRL.out]; rfl
            have HDO3 : Hid (Pl.decO bs = []) := by show _ = _; rw [HDO.out, if_neg (by rw [HDC3.out]; omega)]
            clear hne2 hr2 hrs3
            go_wp2
            go_quiet (fail)
            go_wp2
            go_quiet (fail)
            go_wp2
            go_ret2
            exact ⟨_, by rw [HDC3.out]; rfl, by rw [HDO3.out]; exact Own.nil _ _, below_drewN (below_set (below_drewN HBR.out _) hz1 (Nat.le_of_lt hR3)) _⟩
          · have he2 : r2 = [] := by rw [hr2]; exact List.drop_eq_nil_of_le (by omega)
            rw [if_pos he2] at HRL
            obtain ⟨ao, co, hue, hIE, _, _⟩ := HO.out.shape HOK.out
            subst hue
            have HIE := hid hIE
            have HDC3 : Hid (Pl.decC bs = Pl.fault l) := by show _ = _; rw [HDC.out, HRL.out]; rfl
            have HDO3 : Hid (Pl.decO bs = if Pl.fault l = 0 then l else []) := by show _ = _; rw [HDO.out, HDC3.out, HRL.out]
            clear he2 hr2 hrs3 hIE
            go_wp2
            go_quiet (fail)
            go_wp2_with fail
            refine (StoreFault_any _ _ _ _ _ (HIE.out.below (below_drewN (Below.refl _ _) _))).mono ?_
            rintro e1 w9 ⟨rfl, hb9⟩
            have HB9 := hid hb9
            have HR9 := hid ((HR.out.drewN nq).below hb9)
            clear q1 q2 q3 f1 f2 f3
            obtain ⟨a9, l9, cp9, bs9, i9, q1, q2, q3, f1, f2, f3, hI9, hx9, hB9, hR9, hi9, hrs9, hbs9, hll9⟩ := HR9.out
            clear hI9 hx9 hrs9 hbs9 hi9 hll9
            have HBL := hid ((below_drewN HBR.out nq).trans (hb9.mono HBR.out.size))
            have HO9 := hid (((HO.out.drewN nq).below hb9).set (X := w1.heap.size) (o := 2) (val := .int .i64 (Pl.fault l)) (by
              intro h
              have := (World.ownsRow.lt HO.out _ h).1
              omega))
            clear hb9
            by_cases hz : Pl.fault l = 0
            · rw [hz] at HO9 HDC3 HDO3 ⊢
              go_wp2
              go_ret2
              exact ⟨_, by rw [HDC3.out]; rfl, by rw [HDO3.out]; exact HO9.out.mono (by omega), below_set HBL.out hz1 (Nat.le_of_lt hR9)⟩
            · rw [if_neg hz] at HDO3
              have hzb : (Pl.fault l != 0) = true := by simp [hz]
              clear HO9
              generalize Pl.fault l = c9 at *
              go_wp2
              go_quiet (fail)
              go_wp2
              go_ret2
              exact ⟨_, by rw [HDC3.out]; rfl, by rw [HDO3.out]; exact Own.nil _ _, below_drewN (below_set HBL.out hz1 (Nat.le_of_lt hR9)) _⟩
        · have hce : (c2 == 0) = false := by simp [hc2]
          have hcb : (c2 != 0) = true := by simp [hc2]
          have HDC3 : Hid (Pl.decC bs = c2) := by show _ = _; rw [HDC.out, HCN.out hc2]; simp only; rw [if_neg hc2]
          have HDO3 : Hid (Pl.decO bs = []) := by show _ = _; rw [HDO.out, if_neg (by rw [HDC3.out]; exact hc2)]
          clear hc2 hrs3
          go_wp2
          go_quiet (fail)
          go_wp2
          go_quiet (fail)
          go_wp2
          go_ret2
          exact ⟨_, by rw [HDC3.out]; rfl, by rw [HDO3.out]; exact Own.nil _ _, below_drewN (below_drewN HBR.out _) _⟩
end Go.Proofs.Ytcdobhdbafpkiab
