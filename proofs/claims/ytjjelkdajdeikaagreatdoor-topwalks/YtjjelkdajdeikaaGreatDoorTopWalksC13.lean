/-
  Contracts and facts that the proof rests on, put together out of several texts.
-/
import Derived.Test.YtjjelkdajdeikaaGreatDoorTopWalksC12
import Derived.Test.YtjjelkdajdeikaaGreatDoorTopWalksC9
import Derived.Test.YtjjelkdajdeikaaGreatDoorTopWalksC1
import Derived.Test.YtjjelkdajdeikaaGreatDoorTopWalksC6
import Derived.Test.YtjjelkdajdeikaaGreatDoorTopWalksC3
import Derived.Test.YtjjelkdajdeikaaGreatDoorProg
import Derived.ProofKit
import Derived.OpenShut
import Derived.ShutString
import Derived.ChangeOld
import Derived.Lib.SmallJoins
import Derived.Deep.Slices
import Derived.SizedLaws
import Derived.Test.YtjjelkdajdeikaaGreatDoorTopWalksC11
namespace Go.Proofs.YtjjelkdajdeikaaGreatDoor
open Go.RowKit
set_option maxRecDepth 20000
set_option maxHeartbeats 2000000 in
theorem TopRun_any (a : Option Addr) (len cap : Nat) (xs : List Pl.Ac) (w : World) (h : IsActs w a len cap xs) (hl : len ≤ 400) (hT : Tab w) :
  Calls Tryz.prog 24 #[.slice a len cap] w fun e w' => ∃ vr vs, e = .returned (.tuple #[vr, vs, .int .i64 0]) ∧ RunP w xs w' vr vs ∧ Below w.heap.size w w' := by
 have HR := hid (Run_any a len cap xs w h hl hT)
 have HL := hid h.1
 clear h hT
 go_enter Tryz.func24, Tryz.ntmps24
 go_wp2_with (go_at_call 12; go_loud (refine HR.out.mono ?_; rintro e w1 ⟨vr, vs, rfl, ⟨⟨ts, ht, hts⟩, hus⟩, hb⟩; obtain ⟨ra, rc, rfl⟩ := ownsRow_slice ht.1; have hlen : ts.length = len := (by rw [← HL.out, ← Pl.runR_len Pl.Nt.new xs, ← hts, List.length_map]); rw [hlen] at ht ⊢; have HP := hid (And.intro hlen (And.intro ht (And.intro hts (And.intro hus hb)))); clear hlen ht hts hus hb))
 refine bodyPost_ret (v := .tuple #[.slice ra len rc, vs, .int .i64 0]) (by simp [results, Tryz.results24, go_sem]) rfl ?_
 obtain ⟨hlen, ht, hts, hus, hb⟩ := HP.out
 rw [← hlen] at ht ⊢
 exact ⟨_, _, rfl, ⟨⟨ts, ht, hts⟩, hus⟩, hb⟩
theorem append_acsA {w : World} {ops : Array Oper} {rest : List Oper} {o : Oper} {a : Act} {Q : Exit → Act → World → Prop} (hgd : o.guard = none) (s x : Operand)
  (ho : o.op = .call { callee := .builtin .append, args := #[s, x], argTypes := #[22, 22] })
  (base : Nat) (v : Value) (xs : List Pl.Ac) (ao : Option Addr) (len cap : Nat) (es : List Pl.Ac) (hs : a.eval s = v) (hown : OwnAc w base v xs) (hbase : base ≤ w.heap.size) (hx : a.eval x = .slice ao len cap) (hE : IsActs w ao len cap es) (hn : ao = none → len = 0 ∧ cap = 0) (hb : xs.length ≤ 1000000) (hb2 : len ≤ 1000000)
  (h : ∀ v' w', OwnAc w' base v' (xs ++ es) → Below base w w' → wpList Tryz.prog ops Q rest (a.put o.dst v') w') : wpList Tryz.prog ops Q (o :: rest) a w := by
 obtain ⟨i0, hi0, hz0, hz1, hz2⟩ := partsOf infoAct
 rcases ao with _ | ad
 ·obtain ⟨rfl, rfl⟩ := hn rfl
  have he : es = [] := List.length_eq_zero_iff.1 hE.1
  subst he
  rw [List.append_nil] at h
  exact wpList_append_own_none hgd s x 22 ho base 51 i0 9 Tryz.underlying22 hi0 _ xs.length (cellsAc xs) hs hown hx (h _ _ hown (Below.refl _ _))
 ·exact append_acs hgd s x ho base v xs ad len cap es hs hown hbase hx hE hb hb2 h
theorem wpList_zerosA {w : World} {ops : Array Oper} {rest : List Oper} {o : Oper} {a : Act} {Q : Exit → Act → World → Prop} (hgd : o.guard = none) (s x : Operand)
  (ho : o.op = .call { callee := .builtin .append, args := #[s, x], argTypes := #[22, 3] })
  (k : Nat) (hs : a.eval s = .slice none 0 0) (hx : a.eval x = .int .i64 (k : Int)) (h0 : 0 < k) (hbig : k ≤ 1000)
  (h : ∀ w' G cur, w'.heap[w.heap.size]? = some (.cells cur 51 (0, 0)) → cur.size = G * 9 → k ≤ G → G ≤ maxLen → Below w.heap.size w w' → wpList Tryz.prog ops Q rest (a.put o.dst (.slice (some ⟨w.heap.size, 0, none⟩) k G)) w') : wpList Tryz.prog ops Q (o :: rest) a w := by
 obtain ⟨i0, hi0, hz0, hz1, hz2⟩ := partsOf infoAct
 have hold : (Builtin.firstCells i0.size 0 (.slice none 0 0)).run Tryz.prog w.drew = .ok (#[] : Array Value) w.drew := by
  rw [hz1]; rfl
 have hr := Lib.run_append_grow_zeros w 22 3 o.type 51 i0 _ .i64 .i64 Tryz.underlying22 Tryz.underlying3 hi0 hz0 none 0 0 [] hold k h0 (by omega) (by omega) (by omega) (by rw [hz2]; omega) (by rw [hz2]; exact growslice_fits (by omega) (by omega))
 have hGn := grownCap_ge w (0 + k) 0 51
 have hGm := grownCap_le_maxLen w (0 + k) 0 51 (by unfold maxLen; omega)
 generalize grownCap w (0 + k) 0 51 = G at *
 refine Lib.wpList_append_run _ hgd s x _ _ ho _ _ hs hx _ _ hr ?_
 rw [show (0 + k) = k by omega] at *
 refine h _ G _ (heapNewZ w.drew _) ?_ hGn hGm ((Below.refl _ _).drew.alloc (Nat.le_refl _) _)
 simp [Builtin.zeroCells, Value.cells]
 omega
set_option maxHeartbeats 1000000 in
theorem GrowA_nil (k : Nat) (w : World) (h0 : 0 < k) (hk : k ≤ 1000) :
  Calls Tryz.prog 56 #[.slice none 0 0, .int .i64 (k : Int)] w fun e w' => ∃ v, e = .returned v ∧ OwnAc w' w.heap.size v [] ∧ Below w.heap.size w w' := by
 have hwr : IntKind.i64.wrap ((k : Int) - 0) = (k : Int) := by rw [IntKind.wrap_i64]; omega
 have h1 : decide ((k : Int) < 0) = false := by simp
 have h2 : decide ((0 : Int) < (k : Int)) = true := by simp; omega
 go_enter Tryz.func56, Tryz.ntmps56
 go_wp2_with (at_builtin; refine wpList_zerosA rfl (.tmp 20) (.tmp 21) rfl k rfl rfl h0 hk ?_; intro w1 G cur hg1 hc1 hG1 hG2 hb1; have HG := hid hg1; have HB := hid hb1; have HC := hid hc1; clear hg1 hb1 hc1; unfold maxLen at hG2)
 go_ret
 refine ⟨_, rfl, ⟨rfl, .inr ⟨w.heap.size, G, cur, rfl, Nat.le_refl _, HG.out, Nat.zero_le _, by unfold maxLen; exact hG2, HC.out, by simp [cellsAc]⟩⟩, HB.out⟩
def Pl.cat3 (xs ys zs : List Pl.Ac) : Nat → List Pl.Ac
 | 0 => []
 | 1 => xs
 | 2 => xs ++ ys
 | _ => xs ++ ys ++ zs
set_option maxHeartbeats 4000000 in
theorem ConcatA_any (B : Nat) (a b c : Option Addr) (la ca lb cb lc cc : Nat) (xs ys zs : List Pl.Ac) (w : World) (hB : B < w.heap.size) (c0 : w.cell? ⟨B, 0, none⟩ = some (.slice a la ca)) (c1 : w.cell? ⟨B, 1, none⟩ = some (.slice b lb cb)) (c2 : w.cell? ⟨B, 2, none⟩ = some (.slice c lc cc)) (h1 : IsActs w a la ca xs) (h2 : IsActs w b lb cb ys) (h3 : IsActs w c lc cc zs)
  (n1 : a = none → la = 0 ∧ ca = 0) (n2 : b = none → lb = 0 ∧ cb = 0) (n3 : c = none → lc = 0 ∧ cc = 0) (hx : 0 < lb) (hla : la ≤ 100) (hlb : lb ≤ 100) (hlc : lc ≤ 100) :
  Calls Tryz.prog 29 #[.slice (some ⟨B, 0, none⟩) 3 3] w fun e w' => ∃ v, e = .returned v ∧ OwnAc w' w.heap.size v (xs ++ ys ++ zs) ∧ Below w.heap.size w w' := by
 have H1 := hid h1
 have H2 := hid h2
 have H3 := hid h3
 have N1 := hid n1
 have N2 := hid n2
 have N3 := hid n3
 have C0 := hid c0
 have C1 := hid c1
 have C2 := hid c2
 have HLX : Hid (xs.length = la) := hid h1.1
 have HLY : Hid (ys.length = lb) := hid h2.1
 have HLZ : Hid (zs.length = lc) := hid h3.1
 have hwa : IntKind.i64.wrap (0 + (la : Int)) = (la : Int) := by rw [IntKind.wrap_i64]; omega
 have hwb : IntKind.i64.wrap ((la : Int) + (lb : Int)) = ((la + lb : Nat) : Int) := by rw [IntKind.wrap_i64]; omega
 obtain ⟨S, hS⟩ : ∃ S, la + lb = S := ⟨_, rfl⟩
 rw [hS] at hwb
 have hwc : IntKind.i64.wrap ((S : Int) + (lc : Int)) = ((S + lc : Nat) : Int) := by rw [IntKind.wrap_i64]; omega
 obtain ⟨T, hT⟩ : ∃ T, S + lc = T := ⟨_, rfl⟩
 rw [hT] at hwc
 have hna : decide ((la : Int) < 0) = false := by simp
 have hnb : decide ((S : Int) < 0) = false := by simp
 have hnc : decide ((T : Int) < 0) = false := by simp
 clear h1 h2 h3 c0 c1 c2 n1 n2 n3
 go_enter Tryz.func29, Tryz.ntmps29
 go_wp2_with fail
 go_loopw [3, 11] (fun s i wr => ∃ k : Nat, k ≤ 3 ∧ i = .int .i64 k ∧ s = .int .i64 ((if k = 0 then 0 else if k = 1 then la else if k = 2 then S else T : Nat) : Int) ∧ Hid (Below w.heap.size w wr)) (fun _ i _ => 3 - (intOf i).toNat)
 case atStart => exact ⟨0, by omega, rfl, rfl, hid (Below.refl _ _)⟩
 case round =>
  obtain ⟨k, hk, rfl, rfl, HB⟩ := hrel
  have d0 := (HB.out.cell (p := ⟨B, 0, none⟩) hB).trans C0.out
  have d1 := (HB.out.cell (p := ⟨B, 1, none⟩) hB).trans C1.out
  have d2 := (HB.out.cell (p := ⟨B, 2, none⟩) hB).trans C2.out
  have hBr : B < wr.heap.size := Nat.lt_of_lt_of_le hB HB.out.size
  have hcs : k = 0 ∨ k = 1 ∨ k = 2 ∨ k = 3 := by omega
  rcases hcs with rfl | rfl | rfl | rfl
  ·go_wp2_with fail
   go_roundw
   case rel => exact ⟨1, by omega, by go_num, rfl, HB⟩
   case measure => simp [intOf]
  ·go_wp2_with fail
   go_roundw
   case rel => exact ⟨2, by omega, by go_num, rfl, HB⟩
   case measure => simp [intOf]
  ·go_wp2_with fail
   go_roundw
   case rel => exact ⟨3, by omega, by go_num, rfl, HB⟩
   case measure => simp [intOf]
  ·go_wp2_with fail
   refine (GrowA_nil T wr (by omega) (by omega)).mono ?_
   rintro e w1 ⟨v1, rfl, ho1, hb1⟩
   have HO1 := hid (ho1.mono HB.out.size)
   have HB1 : Hid (Below w.heap.size w w1) := hid (HB.out.trans (hb1.mono HB.out.size))
   clear ho1 hb1
   go_wp2_with fail
   go_loopw [6, 27] (fun v i wr => ∃ k : Nat, k ≤ 3 ∧ i = .int .i64 k ∧ Hid (OwnAc wr w.heap.size v (Pl.cat3 xs ys zs k)) ∧ Hid (Below w.heap.size w wr)) (fun _ i _ => 3 - (intOf i).toNat)
   case atStart => exact ⟨0, by omega, rfl, HO1, HB1⟩
   case round =>
    obtain ⟨k, hk, rfl, HO, HBk⟩ := hrel
    rename World => wk
    have d0 := (HBk.out.cell (p := ⟨B, 0, none⟩) hB).trans C0.out
    have d1 := (HBk.out.cell (p := ⟨B, 1, none⟩) hB).trans C1.out
    have d2 := (HBk.out.cell (p := ⟨B, 2, none⟩) hB).trans C2.out
    have hBk : B < wk.heap.size := Nat.lt_of_lt_of_le hB HBk.out.size
    have hcs : k = 0 ∨ k = 1 ∨ k = 2 ∨ k = 3 := by omega
    rcases hcs with rfl | rfl | rfl | rfl
    ·go_wp2_with (at_builtin; refine append_acsA rfl (.tmp 31) (.tmp 32) rfl w.heap.size _ [] a la ca xs rfl HO.out HBk.out.size rfl (H1.out.below HBk.out) N1.out (by simp) (by omega) ?_; intro v2 w2 ho2 hb2; have HO2 := hid ho2; have HB2 := hid hb2; clear ho2 hb2)
     go_roundw
     case rel => exact ⟨1, by omega, by go_num, HO2, hid (HBk.out.trans HB2.out)⟩
     case measure => simp [intOf]
    ·go_wp2_with (at_builtin; refine append_acsA rfl (.tmp 31) (.tmp 32) rfl w.heap.size _ xs b lb cb ys rfl HO.out HBk.out.size rfl (H2.out.below HBk.out) N2.out (by have := HLX.out; omega) (by omega) ?_; intro v2 w2 ho2 hb2; have HO2 := hid ho2; have HB2 := hid hb2; clear ho2 hb2)
     go_roundw
     case rel => exact ⟨2, by omega, by go_num, HO2, hid (HBk.out.trans HB2.out)⟩
     case measure => simp [intOf]
    ·go_wp2_with (at_builtin; refine append_acsA rfl (.tmp 31) (.tmp 32) rfl w.heap.size _ (xs ++ ys) c lc cc zs rfl HO.out HBk.out.size rfl (H3.out.below HBk.out) N3.out (by rw [List.length_append]; have := HLX.out; have := HLY.out; omega) (by omega) ?_; intro v2 w2 ho2 hb2; have HO2 := hid ho2; have HB2 := hid hb2; clear ho2 hb2)
     go_roundw
     case rel => exact ⟨3, by omega, by go_num, HO2, hid (HBk.out.trans HB2.out)⟩
     case measure => simp [intOf]
    ·go_wp2_with fail
     go_ret
     exact ⟨_, rfl, HO.out, HBk.out⟩
def rpv (ts : List RpV) (i : Nat) : RpV := ts.getD i ⟨undef, undef, Pl.Rp.no 0⟩
theorem cellsRp_get : ∀ (ts : List RpV) (i k : Nat), i < ts.length → k < 4 → (cellsRp ts)[i * 4 + k]? = ([.int .i64 (rpv ts i).r.code, (rpv ts i).vp, .int .i64 (rpv ts i).r.cost, (rpv ts i).vk] : List Value)[k]?
 | [], i, k, h, _ => by simp at h
 | t :: r, 0, k, _, hk => by
  rw [Nat.zero_mul, Nat.zero_add]
  show (Value.int .i64 t.r.code :: t.vp :: .int .i64 t.r.cost :: t.vk :: cellsRp r)[k]? = ([.int .i64 t.r.code, t.vp, .int .i64 t.r.cost, t.vk] : List Value)[k]?
  match k, hk with
  | 0, _ => rfl
  | 1, _ => rfl
  | 2, _ => rfl
  | 3, _ => rfl
 | t :: r, i + 1, k, h, hk => by
  show (Value.int .i64 t.r.code :: t.vp :: .int .i64 t.r.cost :: t.vk :: cellsRp r)[(i + 1) * 4 + k]? = _
  rw [show (i + 1) * 4 + k = (i * 4 + k) + 4 by omega]
  simp only [List.getElem?_cons_succ]
  exact cellsRp_get r i k (by simpa using h) hk
def RepsAt (w : World) (g : Nat) (ts : List RpV) : Prop := ∀ i, i < ts.length → w.cell? ⟨g, i * 4, none⟩ = some (.int .i64 (rpv ts i).r.code) ∧ w.cell? ⟨g, i * 4 + 1, none⟩ = some (rpv ts i).vp ∧ w.cell? ⟨g, i * 4 + 2, none⟩ = some (.int .i64 (rpv ts i).r.cost) ∧ w.cell? ⟨g, i * 4 + 3, none⟩ = some (rpv ts i).vk
theorem rpv_mem {ts : List RpV} {i : Nat} (h : i < ts.length) : rpv ts i ∈ ts := by
 unfold rpv
 rw [List.getD_eq_getElem?_getD, List.getElem?_eq_getElem h]
 exact List.getElem_mem h
theorem OwnRp.reps {w : World} {base : Nat} {v : Value} {ts : List RpV} (h : OwnRp w base v ts) : ∃ a cap, v = .slice a ts.length cap ∧ ts.length ≤ cap ∧ cap ≤ maxLen ∧ (ts.length = 0 ∨ ∃ g, a = some ⟨g, 0, none⟩ ∧ base ≤ g ∧ g < w.heap.size ∧ RepsAt w g ts) := by
 obtain ⟨⟨hl, ⟨rfl, hn⟩ | ⟨g, cap, cur, rfl, hb, hh, hn, hm, hs, hx⟩⟩, _⟩ := h
 ·exact ⟨none, 0, by rw [hn], by omega, by unfold maxLen; omega, .inl hn⟩
 ·refine ⟨_, cap, rfl, hn, hm, .inr ⟨g, rfl, hb, blockLt hh, fun i hi => ?_⟩⟩
  have hc : ∀ j u, (cellsRp ts)[j]? = some u → w.cell? ⟨g, j, none⟩ = some u := by
   intro j u hj
   rw [← hx] at hj
   have hj' : cur[j]? = some u := by
    rw [List.getElem?_take] at hj
    split at hj
    ·rw [← Array.getElem?_toList]; exact hj
    ·cases hj
   simp [World.cell?, hh, hj']
  have h0 := cellsRp_get ts i 0 hi (by omega)
  have h1 := cellsRp_get ts i 1 hi (by omega)
  have h2 := cellsRp_get ts i 2 hi (by omega)
  have h3 := cellsRp_get ts i 3 hi (by omega)
  exact ⟨hc _ _ h0, hc _ _ h1, hc _ _ h2, hc _ _ h3⟩
def StoresAt (w : World) (g : Nat) (A : Nat → Option Addr) (C : Nat → Nat) (K : Nat → List Pl.Ent) : Prop := ∀ i, i < 12 → w.cell? ⟨g, i, none⟩ = some (.slice (A i) (K i).length (C i)) ∧ IsEnts w (A i) (K i).length (C i) (K i) ∧ (A i = none → C i = 0)
theorem OwnL.stores {w : World} {base : Nat} {v : Value} {us : List Value} {K : Nat → List Pl.Ent} (h : OwnL w base v us) (h12 : us.length = 12) (hu : ∀ i, i < 12 → Own w base (us.getD i undef) (K i)) (hok : ∀ i, ∀ e ∈ K i, e.ok) :
  ∃ g cap A C, v = .slice (some ⟨g, 0, none⟩) 12 cap ∧ base ≤ g ∧ g < w.heap.size ∧ 12 ≤ cap ∧ cap ≤ maxLen ∧ StoresAt w g A C K := by
 have hs : ∀ i, ∃ p : Option Addr × Nat, i < 12 → us.getD i undef = .slice p.1 (K i).length p.2 ∧ IsEnts w p.1 (K i).length p.2 (K i) ∧ (p.1 = none → p.2 = 0) := by
  intro i
  by_cases hi : i < 12
  ·obtain ⟨a, cap, e, hE, hn, _⟩ := (hu i hi).shape (hok i)
   exact ⟨(a, cap), fun _ => ⟨e, hE, hn⟩⟩
  ·exact ⟨(none, 0), fun h => absurd h hi⟩
 obtain ⟨F, hF⟩ := Classical.axiomOfChoice hs
 obtain ⟨hl, ⟨rfl, hn⟩ | ⟨g, cap, cur, rfl, hb, hh, hn, hm, hs, hx⟩⟩ := h
 ·omega
 ·rw [h12] at hn
  refine ⟨g, cap, fun i => (F i).1, fun i => (F i).2, by rw [h12], hb, blockLt hh, hn, hm, fun i hi => ?_⟩
  obtain ⟨e, hE, hnn⟩ := hF i hi
  refine ⟨?_, hE, hnn⟩
  rw [← e]
  have hj : us[i]? = some (us.getD i undef) := by rw [List.getD_eq_getElem?_getD, List.getElem?_eq_getElem (by omega)]; rfl
  rw [← hx] at hj
  have hj' : cur[i]? = some ((cur.toList.take (us.length * 1)).getD i undef) := by
   rw [List.getElem?_take] at hj
   split at hj
   ·rw [← Array.getElem?_toList]; exact hj
   ·cases hj
  rw [hx] at hj'
  simp [World.cell?, hh, hj']
theorem RunP.read {w0 w : World} {xs : List Pl.Ac} {vr vs : Value} (h : RunP w0 xs w vr vs) :
  ∃ ts ar cr gs cs A C, vr = .slice ar xs.length cr ∧ vs = .slice (some ⟨gs, 0, none⟩) 12 cs ∧ ts.map RpV.r = Pl.runR Pl.Nt.new xs ∧ ts.length = xs.length ∧ xs.length ≤ cr ∧ cr ≤ maxLen ∧ 12 ≤ cs ∧ cs ≤ maxLen ∧ gs < w.heap.size ∧
   (xs.length = 0 ∨ ∃ g, ar = some ⟨g, 0, none⟩ ∧ g < w.heap.size ∧ RepsAt w g ts) ∧ (∀ t ∈ ts, OwnZ w w0.heap.size t.vp t.r.path ∧ OwnS w w0.heap.size t.vk t.r.keys) ∧ StoresAt w gs A C (Pl.runN Pl.Nt.new xs).K := by
 obtain ⟨⟨ts, ht, hts⟩, us, hu, h12, hk⟩ := h
 have hl : ts.length = xs.length := by have := congrArg List.length hts; rwa [List.length_map, Pl.runR_len] at this
 obtain ⟨ar, cr, rfl, r1, r2, r3⟩ := ht.reps
 obtain ⟨gs, cs, A, C, rfl, _, s2, s3, s4, s5⟩ := hu.stores h12 hk fun i => Pl.Good.ok ((Pl.good_iff _).1 ((Pl.GoodN.new.run xs).K i))
 rw [hl] at r1 r3
 refine ⟨ts, ar, cr, gs, cs, A, C, by rw [hl], rfl, hts, hl, r1, r2, s3, s4, s2, ?_, ht.2, s5⟩
 rcases r3 with h | ⟨g, h1, _, h3, h4⟩
 ·exact .inl h
 ·exact .inr ⟨g, h1, h3, h4⟩
theorem rpv_r (ts : List RpV) (i : Nat) : (rpv ts i).r = (ts.map RpV.r).getD i (Pl.Rp.no 0) := by
 unfold rpv
 rw [List.getD_eq_getElem?_getD, List.getD_eq_getElem?_getD, List.getElem?_map]
 cases ts[i]? <;> rfl
theorem IsActs.lit {w : World} {g : Nat} {xs : List Pl.Ac} {cs : Array Value} (h : w.heap[g]? = some (.cells cs 51)) (hc : cs.toList = cellsAc xs) (hok : ∀ x ∈ xs, Pl.AcOk x) (hl : xs.length ≤ 1000) : IsActs w (some ⟨g, 0, none⟩) xs.length xs.length xs := by
 refine ⟨rfl, Nat.le_refl _, by unfold maxLen; omega, hok, .inr ⟨g, 0, rfl, blockLt h, fun i hi k v hv => ?_⟩⟩
 have hk : k < 9 := by have := (List.getElem?_eq_some_iff.1 hv).1; rwa [acCells_len] at this
 rw [← cellsAc_get xs i k hi hk, ← hc, Array.getElem?_toList] at hv
 simp [World.cell?, h, hv]
theorem OwnAc.acts2 {w : World} {base : Nat} {v : Value} {xs : List Pl.Ac} (h : OwnAc w base v xs) (hok : ∀ x ∈ xs, Pl.AcOk x) : ∃ a cap, v = .slice a xs.length cap ∧ IsActs w a xs.length cap xs ∧ (a = none → xs.length = 0 ∧ cap = 0) := by
 obtain ⟨a, cap, e, h1, h2, _⟩ := h.acts hok
 refine ⟨a, cap, e, h1, fun hn => ⟨h2 hn, ?_⟩⟩
 subst hn e
 obtain ⟨_, ⟨h, _⟩ | ⟨g, cap', cur, h, _⟩⟩ := h
 ·simp only [Value.slice.injEq] at h
  exact h.2.2
 ·simp only [Value.slice.injEq] at h
  exact absurd h.1 (by simp)
theorem Pl.ok_small {k a b n m : Int} (hn : n ≤ 9223372036854775807) (hm : m ≤ 9223372036854775807) : Pl.AcOk ⟨k, a, b, n, m, (0, 0), ⟨#[]⟩, ⟨#[]⟩⟩ :=
 ⟨(by decide : (⟨#[]⟩ : ByteArray).size ≤ maxLen), (by decide : (⟨#[]⟩ : ByteArray).size ≤ maxLen), Pl.pairOk_zero, hn, hm⟩
def SV.isl (len : Nat) (xs : List Pl.Ac) : SV := ⟨fun u W => ∃ a cap, u = .slice a len cap ∧ IsActs W a len cap xs ∧ (a = none → len = 0 ∧ cap = 0), fun _ _ _ hb ⟨a, cap, e, h, hn⟩ => ⟨a, cap, e, h.below hb, hn⟩⟩
def SV.oac (base : Nat) (xs : List Pl.Ac) : SV := ⟨fun u W => OwnAc W base u xs, fun _ _ _ hb h => h.below hb⟩
def SV.three (ao : Option Addr) (la ca : Nat) (x : Pl.Ac) : SV := ⟨fun u W => ∃ g b1 c1 b2 c2, u = .slice (some ⟨g, 0, none⟩) 3 3 ∧ g < W.heap.size ∧ W.cell? ⟨g, 0, none⟩ = some (.slice ao la ca) ∧ W.cell? ⟨g, 1, none⟩ = some (.slice b1 90 c1) ∧ W.cell? ⟨g, 2, none⟩ = some (.slice b2 1 c2) ∧ IsActs W b1 90 c1 Pl.settle5 ∧ (b1 = none → (90 : Nat) = 0 ∧ c1 = 0) ∧ IsActs W b2 1 c2 [x] ∧ (b2 = none → (1 : Nat) = 0 ∧ c2 = 0),
 fun _ _ _ hb ⟨g, b1, c1, b2, c2, e, hg, d0, d1, d2, h1, n1, h2, n2⟩ => ⟨g, b1, c1, b2, c2, e, Nat.lt_of_lt_of_le hg hb.size, (hb.cell (p := ⟨g, 0, none⟩) hg).trans d0, (hb.cell (p := ⟨g, 1, none⟩) hg).trans d1, (hb.cell (p := ⟨g, 2, none⟩) hg).trans d2, h1.below hb, n1, h2.below hb, n2⟩⟩
def SV.reps (base : Nat) (xs : List Pl.Ac) : SV := ⟨fun u W => ∃ ts, OwnRp W base u ts ∧ ts.map RpV.r = Pl.runR Pl.Nt.new xs, fun _ _ _ hb ⟨ts, h, e⟩ => ⟨ts, h.below hb, e⟩⟩
def SV.stores (base : Nat) (xs : List Pl.Ac) : SV := ⟨fun u W => ∃ us, OwnL W base u us ∧ us.length = 12 ∧ ∀ i, i < 12 → Own W base (us.getD i undef) ((Pl.runN Pl.Nt.new xs).K i), fun _ _ _ hb ⟨us, h, e, k⟩ => ⟨us, ownsRow_under h hb, e, fun i hi => (k i hi).below hb⟩⟩
def SV.run (base : Nat) (xs : List Pl.Ac) : SV := ⟨fun u W => ∃ vr vs, u = .tuple #[vr, vs, .int .i64 0] ∧ (SV.reps base xs).p vr W ∧ (SV.stores base xs).p vs W, fun _ _ _ hb ⟨vr, vs, e, h1, h2⟩ => ⟨vr, vs, e, (SV.reps base xs).st _ _ _ hb h1, (SV.stores base xs).st _ _ _ hb h2⟩⟩
theorem runP_of {base : Nat} {xs : List Pl.Ac} {w0 W : World} {vr vs : Value} (hb : w0.heap.size = base) (h1 : (SV.reps base xs).p vr W) (h2 : (SV.stores base xs).p vs W) : RunP w0 xs W vr vs := by
 subst hb; exact ⟨h1, h2⟩
set_option maxHeartbeats 8000000 in
theorem topWalks3 {Q : Exit → Act → World → Prop} {a0 : Act} {w0 : World} {xs0 ys : List Pl.Ac} {ao : Option Addr} {la ca nb : Nat} {ff fr nn pp pk9 : Int}
  (hsize : a0.tmps.size = 90)
  (q9 : a0.tmps[9]?.getD undef = .slice ao la ca)
  (q1 : a0.tmps[1]?.getD undef = .int .i64 ff)
  (q10 : a0.tmps[10]?.getD undef = .pointer (some ⟨nb, 0, none⟩))
  (q3 : a0.tmps[3]?.getD undef = .int .i64 pp)
  (hnb : nb < w0.heap.size)
  (CN : w0.cell? ⟨nb, 0, none⟩ = some (.int .i64 nn))
  (HA : IsActs w0 ao la ca xs0)
  (hna : ao = none → la = 0 ∧ ca = 0)
  (hla : la ≤ 100)
  (PF : ∀ W, Calls Tryz.prog 28 #[.int .i64 ff, .int .i64 5] W fun e w' => e = .returned (.int .i64 fr) ∧ w' = W)
  (PP : ∀ W, Calls Tryz.prog 28 #[.int .i64 pp, .int .i64 9] W fun e w' => e = .returned (.int .i64 pk9) ∧ w' = W)
  (hwk : Pl.AcOk ⟨10, fr, 0, nn, pk9, (0, 0), ⟨#[]⟩, ⟨#[]⟩⟩)
  (hys : ys = xs0 ++ Pl.settle5 ++ [⟨10, fr, 0, nn, pk9, (0, 0), ⟨#[]⟩, ⟨#[]⟩⟩])
  (hok : ∀ x ∈ ys, Pl.AcOk x)
  (hlen : ys.length ≤ 400)
  (hT : Tab w0)
  (hQ : ∀ xs W, xs.length = 29 → (SV.reps w0.heap.size ys).p (xs.getD 0 undef) W → (SV.stores w0.heap.size ys).p (xs.getD 1 undef) W → (xs.getD 2 undef) = .int .i64 0 → Below w0.heap.size w0 W → Q .normal { a0 with tmps := setFrom a0.tmps 11 xs } W) :
  ∀ ops, regIn Tryz.f7 3 = some ops → (Code.region 3 ops true).wp Tryz.prog Q a0 w0 := by
 intro ops hops
 have eo := Option.some.inj (hops.symm.trans (rfl : regIn Tryz.f7 3 = some _))
 subst eo
 clear hops
 have hsz : 11 + 29 ≤ a0.tmps.size := by omega
 refine wp_region_any (by kernel_rfl) ?_
 refine wpAny_inv2 (RInv a0 11 29 19 (fun k => some (([14, 15, 16, 17, 18, 19, 20, 21, 22, 23, 24, 25, 13, 26, 27, 28, 0, 1, 2] : List Nat).getD k 0)) (SV.V [SV.reps w0.heap.size ys, SV.stores w0.heap.size ys, SV.eq (.int .i64 0), SV.any, SV.any, SV.any, SV.any, SV.any, SV.any, SV.any, SV.any, SV.any, SV.any, SV.run w0.heap.size ys, SV.eq (.slice ao la ca), SV.isl 90 Pl.settle5, SV.eq (.int .i64 ff), SV.eq (.int .i64 fr), SV.eq (.int .i64 nn), SV.eq (.int .i64 pp), SV.eq (.int .i64 pk9), SV.eq (acV ⟨10, fr, 0, nn, pk9, (0, 0), ⟨#[]⟩, ⟨#[]⟩⟩), SV.isl 1 [⟨10, fr, 0, nn, pk9, (0, 0), ⟨#[]⟩, ⟨#[]⟩⟩], SV.three ao la ca ⟨10, fr, 0, nn, pk9, (0, 0), ⟨#[]⟩, ⟨#[]⟩⟩, SV.oac w0.heap.size ys, SV.run w0.heap.size ys, SV.reps w0.heap.size ys, SV.stores w0.heap.size ys, SV.eq (.int .i64 0)]) (fun W => Below w0.heap.size w0 W)) ?_ ?_ _ _ _ _ (by decide +kernel) ?_ (closed_start _ _ _)
 ·rintro i listed a' W hi hCl hI
  rw [mem_ready] at hi
  obtain ⟨hl0, o, ho, hall⟩ := hi
  have hlti : i < 19 := (Array.getElem?_eq_some_iff.1 ho).1
  have o9 := (hI.out (k := 9) (by omega)).trans q9
  have o1 := (hI.out (k := 1) (by omega)).trans q1
  have o10 := (hI.out (k := 10) (by omega)).trans q10
  have o3 := (hI.out (k := 3) (by omega)).trans q3
  have cn := (hI.cw.cell (p := ⟨nb, 0, none⟩) hnb).trans CN
  have hcs : i = 0 ∨ i = 1 ∨ i = 2 ∨ i = 3 ∨ i = 4 ∨ i = 5 ∨ i = 6 ∨ i = 7 ∨ i = 8 ∨ i = 9 ∨ i = 10 ∨ i = 11 ∨ i = 12 ∨ i = 13 ∨ i = 14 ∨ i = 15 ∨ i = 16 ∨ i = 17 ∨ i = 18 := by omega
  rcases hcs with rfl | rfl | rfl | rfl | rfl | rfl | rfl | rfl | rfl | rfl | rfl | rfl | rfl | rfl | rfl | rfl | rfl | rfl | rfl
  all_goals
   simp at ho
   subst ho
  ·refine wpOp_of rfl rfl ?_
   simp [Oper.wp, go_sem, o9]
   exact hI.put (i := 0) (j := 14) rfl (by omega) (fun _ _ h => h) rfl hI.cw
  ·refine wpOp_of rfl rfl ?_
   simp [Oper.wp, go_sem]
   refine (Settle_any W).mono ?_
   rintro e W' ⟨v, rfl, ho', hb'⟩
   obtain ⟨b1, c1, rfl, hi1, hn1⟩ := ho'.acts2 Pl.settle5_ok
   rw [Pl.settle5_len] at hi1 hn1 ⊢
   exact hI.put (i := 1) (j := 15) rfl (by omega) (SV.grow hb') ⟨b1, c1, rfl, hi1, hn1⟩ (hI.cw.trans (hb'.mono hI.cw.size))
  ·refine wpOp_of rfl rfl ?_
   simp [Oper.wp, go_sem, o1]
   exact hI.put (i := 2) (j := 16) rfl (by omega) (fun _ _ h => h) rfl hI.cw
  ·refine wpOp_of rfl rfl ?_
   have e2 : a'.tmps[27]?.getD undef = _ := hI.at (k := 2) (j := 16) hsz rfl (by omega) (hall ⟨2, .data⟩ (by simp) rfl)
   simp [Oper.wp, go_sem, e2]
   refine (PF W).mono ?_
   rintro e W' ⟨rfl, rfl⟩
   exact hI.put (i := 3) (j := 17) rfl (by omega) (fun _ _ h => h) rfl hI.cw
  ·refine wpOp_of rfl rfl ?_
   simp [Oper.wp, go_sem, o10, cn]
   exact hI.put (i := 4) (j := 18) rfl (by omega) (fun _ _ h => h) rfl hI.cw
  ·refine wpOp_of rfl rfl ?_
   simp [Oper.wp, go_sem, o3]
   exact hI.put (i := 5) (j := 19) rfl (by omega) (fun _ _ h => h) rfl hI.cw
  ·refine wpOp_of rfl rfl ?_
   have e5 : a'.tmps[30]?.getD undef = _ := hI.at (k := 5) (j := 19) hsz rfl (by omega) (hall ⟨5, .data⟩ (by simp) rfl)
   simp [Oper.wp, go_sem, e5]
   refine (PP W).mono ?_
   rintro e W' ⟨rfl, rfl⟩
   exact hI.put (i := 6) (j := 20) rfl (by omega) (fun _ _ h => h) rfl hI.cw
  ·refine wpOp_of rfl rfl ?_
   have e3 : a'.tmps[28]?.getD undef = _ := hI.at (k := 3) (j := 17) hsz rfl (by omega) (hall ⟨3, .data⟩ (by simp) rfl)
   have e4 : a'.tmps[29]?.getD undef = _ := hI.at (k := 4) (j := 18) hsz rfl (by omega) (hall ⟨4, .data⟩ (by simp) rfl)
   have e6 : a'.tmps[31]?.getD undef = _ := hI.at (k := 6) (j := 20) hsz rfl (by omega) (hall ⟨6, .data⟩ (by simp) rfl)
   simp [Oper.wp, go_sem, e3, e4, e6]
   exact hI.put (i := 7) (j := 21) rfl (by omega) (fun _ _ h => h) rfl hI.cw
  ·refine wpOp_of rfl rfl ?_
   have e7 : a'.tmps[32]?.getD undef = _ := hI.at (k := 7) (j := 21) hsz rfl (by omega) (hall ⟨7, .data⟩ (by simp) rfl)
   simp only [acV] at e7
   simp [Oper.wp, go_sem, e7]
   have hb' := (Below.refl W.heap.size W).alloc (Nat.le_refl _) (.cells #[.int .i64 10, .int .i64 fr, .int .i64 0, .int .i64 nn, .int .i64 pk9, .int .i64 0, .int .i64 0, .string ⟨#[]⟩, .string ⟨#[]⟩] 51)
   have hx := heapNew W (.cells #[.int .i64 10, .int .i64 fr, .int .i64 0, .int .i64 nn, .int .i64 pk9, .int .i64 0, .int .i64 0, .string ⟨#[]⟩, .string ⟨#[]⟩] 51)
   exact hI.put (i := 8) (j := 22) rfl (by omega) (SV.grow hb') ⟨_, 1, rfl, IsActs.lit (xs := [⟨10, fr, 0, nn, pk9, (0, 0), ⟨#[]⟩, ⟨#[]⟩⟩]) hx rfl (by intro x hx; rw [List.mem_singleton.1 hx]; exact hwk) (by simp), fun e => by cases e⟩ (hI.cw.trans (hb'.mono hI.cw.size))
  ·refine wpOp_of rfl rfl ?_
   have e0 : a'.tmps[25]?.getD undef = _ := hI.at (k := 0) (j := 14) hsz rfl (by omega) (hall ⟨0, .data⟩ (by simp) rfl)
   obtain ⟨b1, c1, e1, hi1, hn1⟩ := hI.at (k := 1) (j := 15) hsz rfl (by omega) (hall ⟨1, .data⟩ (by simp) rfl)
   have e1 : a'.tmps[26]?.getD undef = _ := e1
   obtain ⟨b2, c2, e8, hi2, hn2⟩ := hI.at (k := 8) (j := 22) hsz rfl (by omega) (hall ⟨8, .data⟩ (by simp) rfl)
   have e8 : a'.tmps[33]?.getD undef = _ := e8
   simp [Oper.wp, go_sem, e0, e1, e8]
   have hb' := (Below.refl W.heap.size W).alloc (Nat.le_refl _) (.cells #[.slice ao la ca, .slice b1 90 c1, .slice b2 1 c2] 22)
   exact hI.put (i := 9) (j := 23) rfl (by omega) (SV.grow hb') ⟨W.heap.size, b1, c1, b2, c2, rfl, by simp, by simp, by simp, by simp, hi1.below hb', hn1, hi2.below hb', hn2⟩ (hI.cw.trans (hb'.mono hI.cw.size))
  ·refine wpOp_of rfl rfl ?_
   obtain ⟨g, b1, c1, b2, c2, e9, hg, d0, d1, d2, hi1, hn1, hi2, hn2⟩ := hI.at (k := 9) (j := 23) hsz rfl (by omega) (hall ⟨9, .data⟩ (by simp) rfl)
   have e9 : a'.tmps[34]?.getD undef = _ := e9
   simp [Oper.wp, go_sem, e9]
   refine (ConcatA_any g ao b1 b2 la ca 90 c1 1 c2 xs0 Pl.settle5 [⟨10, fr, 0, nn, pk9, (0, 0), ⟨#[]⟩, ⟨#[]⟩⟩] W hg d0 d1 d2 (HA.below hI.cw) hi1 hi2 hna hn1 hn2 (by omega) hla (by omega) (by omega)).mono ?_
   rintro e W' ⟨v, rfl, ho', hb'⟩
   rw [← hys] at ho'
   exact hI.put (i := 10) (j := 24) rfl (by omega) (SV.grow hb') (ho'.mono hI.cw.size) (hI.cw.trans (hb'.mono hI.cw.size))
  ·refine wpOp_of rfl rfl ?_
   have h10 := hI.at (k := 10) (j := 24) hsz rfl (by omega) (hall ⟨10, .data⟩ (by simp) rfl)
   obtain ⟨b3, c3, e10, hi3, hn3⟩ := OwnAc.acts2 h10 hok
   have e10 : a'.tmps[35]?.getD undef = _ := e10
   simp [Oper.wp, go_sem, e10]
   refine (TopRun_any b3 _ c3 ys W hi3 hlen (hT.below hI.cw)).mono ?_
   rintro e W' ⟨vr, vs, rfl, ⟨⟨ts, h1, h2⟩, us, h3, h4, h5⟩, hb'⟩
   exact hI.put (i := 11) (j := 25) rfl (by omega) (SV.grow hb') ⟨vr, vs, rfl, ⟨ts, h1.mono hI.cw.size, h2⟩, us, World.ownsRow_mono h3 hI.cw.size, h4, fun i hi => (h5 i hi).mono hI.cw.size⟩ (hI.cw.trans (hb'.mono hI.cw.size))
  ·refine wpOp_of rfl rfl ?_
   obtain ⟨vr, vs, e11, h1, h2⟩ := hI.at (k := 11) (j := 25) hsz rfl (by omega) (hall ⟨11, .data⟩ (by simp) rfl)
   have e11 : a'.tmps[36]?.getD undef = _ := e11
   simp [Oper.wp, go_sem, e11]
   exact hI.put (i := 12) (j := 13) rfl (by omega) (fun _ _ h => h) ⟨vr, vs, rfl, h1, h2⟩ hI.cw
  ·refine wpOp_of rfl rfl ?_
   obtain ⟨vr, vs, e12, h1, h2⟩ := hI.at (k := 12) (j := 13) hsz rfl (by omega) (hall ⟨12, .data⟩ (by simp) rfl)
   have e12 : a'.tmps[24]?.getD undef = _ := e12
   simp [Oper.wp, go_sem, e12]
   exact hI.put (i := 13) (j := 26) rfl (by omega) (fun _ _ h => h) h1 hI.cw
  ·refine wpOp_of rfl rfl ?_
   obtain ⟨vr, vs, e12, h1, h2⟩ := hI.at (k := 12) (j := 13) hsz rfl (by omega) (hall ⟨12, .data⟩ (by simp) rfl)
   have e12 : a'.tmps[24]?.getD undef = _ := e12
   simp [Oper.wp, go_sem, e12]
   exact hI.put (i := 14) (j := 27) rfl (by omega) (fun _ _ h => h) h2 hI.cw
  ·refine wpOp_of rfl rfl ?_
   obtain ⟨vr, vs, e12, h1, h2⟩ := hI.at (k := 12) (j := 13) hsz rfl (by omega) (hall ⟨12, .data⟩ (by simp) rfl)
   have e12 : a'.tmps[24]?.getD undef = _ := e12
   simp [Oper.wp, go_sem, e12]
   exact hI.put (i := 15) (j := 28) rfl (by omega) (fun _ _ h => h) rfl hI.cw
  ·refine wpOp_of rfl rfl ?_
   have h0 := hI.at (k := 13) (j := 26) hsz rfl (by omega) (hall ⟨13, .data⟩ (by simp) rfl)
   simp [Oper.wp, go_sem]
   exact hI.put (i := 16) (j := 0) rfl (by omega) (fun _ _ h => h) h0 hI.cw
  ·refine wpOp_of rfl rfl ?_
   have h0 := hI.at (k := 14) (j := 27) hsz rfl (by omega) (hall ⟨14, .data⟩ (by simp) rfl)
   simp [Oper.wp, go_sem]
   exact hI.put (i := 17) (j := 1) rfl (by omega) (fun _ _ h => h) h0 hI.cw
  ·refine wpOp_of rfl rfl ?_
   have e15 : a'.tmps[39]?.getD undef = _ := hI.at (k := 15) (j := 28) hsz rfl (by omega) (hall ⟨15, .data⟩ (by simp) rfl)
   simp [Oper.wp, go_sem, e15]
   exact hI.put (i := 18) (j := 2) rfl (by omega) (fun _ _ h => h) rfl hI.cw
 ·rintro listed a' W hr hI
  have hal := all_listed2 (by decide +kernel) hI.ls hr
  obtain ⟨xs, hxl, rfl, hf⟩ := hI.fr
  exact hQ xs W hxl (hf 16 0 rfl (hal 16 (by decide))) (hf 17 1 rfl (hal 17 (by decide))) (hf 18 2 rfl (hal 18 (by decide))) hI.cw
 ·exact RInv.start hsz (Below.refl _ _).drew
structure HInv (a0 : Act) (s n m t A S : Nat) (off : Nat → Option Nat) (V : Nat → Value) (base : Nat) (ty : TypeId) (cs : Array Value) (C : World → Prop) (listed : Array Bool) (a : Act) (w : World) : Prop where
 ls : listed.size = m
 fr : ∃ (z : Value) (xs : List Value), xs.length = n ∧ a = { a0 with tmps := setFrom (a0.tmps.setIfInBounds t z) s xs } ∧ (∀ k j, off k = some j → listed.getD k false = true → xs.getD j undef = V j) ∧
  (listed.getD A false = true → ∃ g cur, z = .pointer (some ⟨g, 0, none⟩) ∧ base ≤ g ∧ w.heap[g]? = some (.cells cur ty) ∧ cur.size = cs.size ∧ (listed.getD S false = true → cur = cs))
 cw : C w
theorem HInv.put {a0 : Act} {s n m t A S : Nat} {off : Nat → Option Nat} {V : Nat → Value} {base : Nat} {ty : TypeId} {cs : Array Value} {C : World → Prop} {listed : Array Bool} {a : Act} {w w' : World} {i j : Nat} {v : Value}
  (h : HInv a0 s n m t A S off V base ty cs C listed a w) (ho : off i = some j) (hj : j < n) (hA : i ≠ A) (hS : i ≠ S) (hv : v = V j) (hb : Below w.heap.size w w') (hc : C w') : HInv a0 s n m t A S off V base ty cs C (listed.setIfInBounds i true) (a.put (some (s + j)) v) w' := by
 subst hv
 obtain ⟨z, xs, hl, rfl, hf, hz⟩ := h.fr
 refine ⟨by simp [h.ls], ⟨z, xs.set j (V j), by simp [hl], ?_, ?_, ?_⟩, hc⟩
 ·show ({ a0 with tmps := (setFrom (a0.tmps.setIfInBounds t z) s xs).setIfInBounds (s + j) (V j) } : Act) = _
  rw [setFrom_set xs _ s j (V j) (by omega)]
 ·intro k q hk hlk
  by_cases e : q = j
  ·subst e
   simp [List.getD, hl, hj]
  ·have e' : i ≠ k := by rintro rfl; rw [ho] at hk; cases hk; exact e rfl
   rw [getD_set_ne false e'] at hlk
   have : (xs.set j (V j)).getD q undef = xs.getD q undef := by simp [List.getD, List.getElem?_set_ne (Ne.symm e)]
   rw [this]; exact hf k q hk hlk
 ·rw [getD_set_ne false hA, getD_set_ne false hS]
  intro hlA
  obtain ⟨g, cur, e, hg, hh, hs, hc⟩ := hz hlA
  exact ⟨g, cur, e, hg, (hb.block _ (blockLt hh)).trans hh, hs, hc⟩
theorem HInv.made {a0 : Act} {s n m t A S : Nat} {off : Nat → Option Nat} {V : Nat → Value} {base : Nat} {ty : TypeId} {cs cur : Array Value} {C : World → Prop} {listed : Array Bool} {a : Act} {w : World}
  (h : HInv a0 s n m t A S off V base ty cs C listed a w) (ho : off A = none) (hAS : A ≠ S) (hSl : listed.getD S false = false) (hts : t < s) (hs : cur.size = cs.size) (hb : base ≤ w.heap.size) (hc : C (w.alloc (.cells cur ty))) : HInv a0 s n m t A S off V base ty cs C (listed.setIfInBounds A true) (a.put (some t) (.pointer (some ⟨w.heap.size, 0, none⟩))) (w.alloc (.cells cur ty)) := by
 obtain ⟨z, xs, hl, rfl, hf, hz⟩ := h.fr
 refine ⟨by simp [h.ls], ⟨.pointer (some ⟨w.heap.size, 0, none⟩), xs, hl, ?_, ?_, ?_⟩, hc⟩
 ·show ({ a0 with tmps := (setFrom (a0.tmps.setIfInBounds t z) s xs).setIfInBounds t (.pointer (some ⟨w.heap.size, 0, none⟩)) } : Act) = _
  rw [setFrom_low xs _ s t _ hts]
  simp
 ·intro k q hk hlk
  have e' : A ≠ k := by rintro rfl; rw [ho] at hk; cases hk
  rw [getD_set_ne false e'] at hlk
  exact hf k q hk hlk
 ·intro _
  exact ⟨w.heap.size, cur, rfl, hb, by show (w.heap.push _)[w.heap.size]? = _; simp, hs, fun hlS => by rw [getD_set_ne false hAS, hSl] at hlS; cases hlS⟩
theorem HInv.filled {a0 : Act} {s n m t A S : Nat} {off : Nat → Option Nat} {V : Nat → Value} {base : Nat} {ty : TypeId} {cs : Array Value} {C : World → Prop} {listed : Array Bool} {a : Act} {w w' : World} {g : Nat}
  (h : HInv a0 s n m t A S off V base ty cs C listed a w) (ho : off S = none) (hp : a.tmps[t]?.getD undef = .pointer (some ⟨g, 0, none⟩)) (hts : t < s) (hta : t < a0.tmps.size) (hx : w'.heap[g]? = some (.cells cs ty)) (hb : base ≤ g) (hc : C w') : HInv a0 s n m t A S off V base ty cs C (listed.setIfInBounds S true) a w' := by
 obtain ⟨z, xs, hl, rfl, hf, hz⟩ := h.fr
 refine ⟨by simp [h.ls], ⟨z, xs, hl, rfl, ?_, ?_⟩, hc⟩
 ·intro k q hk hlk
  have e' : S ≠ k := by rintro rfl; rw [ho] at hk; cases hk
  rw [getD_set_ne false e'] at hlk
  exact hf k q hk hlk
 ·intro _
  have e : z = .pointer (some ⟨g, 0, none⟩) := by
   rw [← hp]
   show z = (setFrom (a0.tmps.setIfInBounds t z) s xs)[t]?.getD undef
   rw [setFrom_out xs _ s t (by omega)]
   simp [hta]
  exact ⟨g, cs, e, hb, hx, rfl, fun _ => rfl⟩
theorem HInv.at {a0 : Act} {s n m t A S : Nat} {off : Nat → Option Nat} {V : Nat → Value} {base : Nat} {ty : TypeId} {cs : Array Value} {C : World → Prop} {listed : Array Bool} {a : Act} {w : World} {k j : Nat}
  (h : HInv a0 s n m t A S off V base ty cs C listed a w) (hs : s + n ≤ a0.tmps.size) (ho : off k = some j) (hj : j < n) (hl : listed.getD k false = true) : a.tmps[s + j]?.getD undef = V j := by
 obtain ⟨z, xs, hxl, rfl, hf, _⟩ := h.fr
 show (setFrom (a0.tmps.setIfInBounds t z) s xs)[s + j]?.getD undef = _
 rw [setFrom_at xs _ s j (by omega) (by simpa using (by omega : s + j < a0.tmps.size)), ← hf k j ho hl]
 simp [List.getD]
theorem HInv.out {a0 : Act} {s n m t A S : Nat} {off : Nat → Option Nat} {V : Nat → Value} {base : Nat} {ty : TypeId} {cs : Array Value} {C : World → Prop} {listed : Array Bool} {a : Act} {w : World} {k : Nat}
  (h : HInv a0 s n m t A S off V base ty cs C listed a w) (hk : k < s ∨ s + n ≤ k) (hkt : k ≠ t) : a.tmps[k]?.getD undef = a0.tmps[k]?.getD undef := by
 obtain ⟨z, xs, hxl, rfl, hf, _⟩ := h.fr
 show (setFrom (a0.tmps.setIfInBounds t z) s xs)[k]?.getD undef = _
 rw [setFrom_out xs _ s k (by omega)]
 simp [Ne.symm hkt]
theorem HInv.box {a0 : Act} {s n m t A S : Nat} {off : Nat → Option Nat} {V : Nat → Value} {base : Nat} {ty : TypeId} {cs : Array Value} {C : World → Prop} {listed : Array Bool} {a : Act} {w : World}
  (h : HInv a0 s n m t A S off V base ty cs C listed a w) (hts : t < s) (hta : t < a0.tmps.size) (hl : listed.getD A false = true) : ∃ g cur, a.tmps[t]?.getD undef = .pointer (some ⟨g, 0, none⟩) ∧ base ≤ g ∧ w.heap[g]? = some (.cells cur ty) ∧ cur.size = cs.size ∧ (listed.getD S false = true → cur = cs) := by
 obtain ⟨z, xs, hxl, rfl, hf, hz⟩ := h.fr
 obtain ⟨g, cur, e, h1, h2, h3, h4⟩ := hz hl
 refine ⟨g, cur, ?_, h1, h2, h3, h4⟩
 show (setFrom (a0.tmps.setIfInBounds t z) s xs)[t]?.getD undef = _
 rw [setFrom_out xs _ s t (by omega), e]
 simp [hta]
theorem HInv.start {a0 : Act} {s n m t A S : Nat} {off : Nat → Option Nat} {V : Nat → Value} {base : Nat} {ty : TypeId} {cs : Array Value} {C : World → Prop} {w : World} (hs : s + n ≤ a0.tmps.size) (hc : C w) : HInv a0 s n m t A S off V base ty cs C (Array.replicate m false) a0 w := by
 have hn : ∀ k, (Array.replicate m false).getD k false = false := fun k => by by_cases hk' : k < m <;> simp [hk']
 obtain ⟨xs, hxl, hxs⟩ := setFrom_self n a0.tmps s hs
 by_cases ht : t < a0.tmps.size
 ·refine ⟨by simp, ⟨a0.tmps[t]?.getD undef, xs, hxl, ?_, ?_, ?_⟩, hc⟩
  ·have e : a0.tmps.setIfInBounds t (a0.tmps[t]?.getD undef) = a0.tmps := by
    apply Array.ext_getElem?
    intro i
    rw [Array.getElem?_setIfInBounds]
    by_cases e : t = i
    ·subst e; simp [ht]
    ·rw [if_neg e]
   rw [e, hxs]
  ·intro k j _ h; rw [hn] at h; cases h
  ·intro h; rw [hn] at h; cases h
 ·refine ⟨by simp, ⟨undef, xs, hxl, ?_, ?_, ?_⟩, hc⟩
  ·have e : a0.tmps.setIfInBounds t undef = a0.tmps := by
    rw [Array.setIfInBounds_eq_of_size_le (by omega)]
   rw [e, hxs]
  ·intro k j _ h; rw [hn] at h; cases h
  ·intro h; rw [hn] at h; cases h
theorem arr4of {cur : Array Value} {a b c d : Value} (h : cur.size = (#[a, b, c, d] : Array Value).size) : ∃ y0 y1 y2 y3, cur = #[y0, y1, y2, y3] := by
 obtain ⟨l⟩ := cur
 match l, h with
 | [y0, y1, y2, y3], _ => exact ⟨y0, y1, y2, y3, rfl⟩
set_option maxHeartbeats 8000000 in
theorem topWalks10 {Q : Exit → Act → World → Prop} {a0 : Act} {w0 : World} {gs cs e sl sc : Nat} {sa : Option Addr} {es : List Pl.Ent} {gk gx : ByteArray} {gv go gc : Int}
  (hsize : a0.tmps.size = 90)
  (q12 : a0.tmps[12]?.getD undef = .slice (some ⟨gs, 0, none⟩) 12 cs)
  (q15 : a0.tmps[15]?.getD undef = .int .i64 (e : Int))
  (hgs : gs < w0.heap.size)
  (he : (e : Int) < 12)
  (CN : w0.cell? ⟨gs, e, none⟩ = some (.slice sa sl sc))
  (HE : IsEnts w0 sa sl sc es)
  (HG : Pl.gotE es (Pl.pfxKey (e : Int)) = ⟨gk, gv, go, gx⟩)
  (HC : Pl.gotC es (Pl.pfxKey (e : Int)) = gc)
  (hT : Tab w0)
  (hQ : ∀ xs W g, xs.length = 56 → (xs.getD 0 undef) = .int .i64 gc → W.heap[g]? = some (.cells #[.string gk, .int .i64 gv, .int .i64 go, .string gx] 55) → w0.heap.size ≤ g → Below w0.heap.size w0 W → Q .normal { a0 with tmps := setFrom (a0.tmps.setIfInBounds 16 (.pointer (some ⟨g, 0, none⟩))) 17 xs } W) :
  ∀ ops, regIn Tryz.f7 10 = some ops → (Code.region 10 ops true).wp Tryz.prog Q a0 w0 := by
 intro ops hops
 have eo := Option.some.inj (hops.symm.trans (rfl : regIn Tryz.f7 10 = some _))
 subst eo
 clear hops
 have hsz : 17 + 56 ≤ a0.tmps.size := by omega
 refine wp_region_any (by kernel_rfl) ?_
 refine wpAny_inv2 (HInv a0 17 56 14 16 11 12 (fun k => if k = 11 ∨ k = 12 then none else some (([46, 47, 48, 49, 50, 51, 52, 53, 45, 54, 55, 0, 0, 0] : List Nat).getD k 0)) (fun j => ([.int .i64 gc, undef, undef, undef, undef, undef, undef, undef, undef, undef, undef, undef, undef, undef, undef, undef, undef, undef, undef, undef, undef, undef, undef, undef, undef, undef, undef, undef, undef, undef, undef, undef, undef, undef, undef, undef, undef, undef, undef, undef, undef, undef, undef, undef, undef, .tuple #[.agg #[.string gk, .int .i64 gv, .int .i64 go, .string gx], .int .i64 gc], .slice (some ⟨gs, 0, none⟩) 12 cs, .int .i64 (e : Int), .pointer (some ⟨gs, e, none⟩), .slice sa sl sc, .int .i64 (e : Int), .string (Pl.dec (e : Int)), .string (Pl.pfxKey (e : Int)), .tuple #[.agg #[.string gk, .int .i64 gv, .int .i64 go, .string gx], .int .i64 gc], .agg #[.string gk, .int .i64 gv, .int .i64 go, .string gx], .int .i64 gc] : List Value).getD j undef) w0.heap.size 55 #[.string gk, .int .i64 gv, .int .i64 go, .string gx] (fun W => Below w0.heap.size w0 W)) ?_ ?_ _ _ _ _ (by decide +kernel) ?_ (closed_start _ _ _)
 ·rintro i listed a' W hi hCl hI
  rw [mem_ready] at hi
  obtain ⟨hl0, o, ho, hall⟩ := hi
  have hlti : i < 14 := (Array.getElem?_eq_some_iff.1 ho).1
  have o12 := (hI.out (k := 12) (by omega) (by omega)).trans q12
  have o15 := (hI.out (k := 15) (by omega) (by omega)).trans q15
  have cn := (hI.cw.cell (p := ⟨gs, e, none⟩) hgs).trans CN
  have hcs : i = 0 ∨ i = 1 ∨ i = 2 ∨ i = 3 ∨ i = 4 ∨ i = 5 ∨ i = 6 ∨ i = 7 ∨ i = 8 ∨ i = 9 ∨ i = 10 ∨ i = 11 ∨ i = 12 ∨ i = 13 := by omega
  rcases hcs with rfl | rfl | rfl | rfl | rfl | rfl | rfl | rfl | rfl | rfl | rfl | rfl | rfl | rfl
  all_goals
   simp at ho
   subst ho
  ·refine wpOp_of rfl rfl ?_
   simp [Oper.wp, go_sem, o12]
   exact hI.put (i := 0) (j := 46) rfl (by omega) (by omega) (by omega) rfl (Below.refl _ _) hI.cw
  ·refine wpOp_of rfl rfl ?_
   simp [Oper.wp, go_sem, o15]
   exact hI.put (i := 1) (j := 47) rfl (by omega) (by omega) (by omega) rfl (Below.refl _ _) hI.cw
  ·refine wpOp_of rfl rfl ?_
   have e0 : a'.tmps[63]?.getD undef = .slice (some ⟨gs, 0, none⟩) 12 cs := hI.at (k := 0) (j := 46) hsz rfl (by omega) (hall ⟨0, .data⟩ (by simp) rfl)
   have e1 : a'.tmps[64]?.getD undef = .int .i64 (e : Int) := hI.at (k := 1) (j := 47) hsz rfl (by omega) (hall ⟨1, .data⟩ (by simp) rfl)
   simp [Oper.wp, go_sem, e0, e1, he]
   exact hI.put (i := 2) (j := 48) rfl (by omega) (by omega) (by omega) rfl (Below.refl _ _) hI.cw
  ·refine wpOp_of rfl rfl ?_
   have e2 : a'.tmps[65]?.getD undef = .pointer (some ⟨gs, e, none⟩) := hI.at (k := 2) (j := 48) hsz rfl (by omega) (hall ⟨2, .data⟩ (by simp) rfl)
   simp [Oper.wp, go_sem, e2, cn]
   exact hI.put (i := 3) (j := 49) rfl (by omega) (by omega) (by omega) rfl (Below.refl _ _) hI.cw
  ·refine wpOp_of rfl rfl ?_
   simp [Oper.wp, go_sem, o15]
   exact hI.put (i := 4) (j := 50) rfl (by omega) (by omega) (by omega) rfl (Below.refl _ _) hI.cw
  ·refine wpOp_of rfl rfl ?_
   have e4 : a'.tmps[67]?.getD undef = .int .i64 (e : Int) := hI.at (k := 4) (j := 50) hsz rfl (by omega) (hall ⟨4, .data⟩ (by simp) rfl)
   simp [Oper.wp, go_sem, e4]
   refine (Itoa_any (e : Int) W (by omega) (by omega) (hT.below hI.cw)).mono ?_
   rintro e W' ⟨rfl, hb'⟩
   exact hI.put (i := 5) (j := 51) rfl (by omega) (by omega) (by omega) rfl hb' (hI.cw.trans (hb'.mono hI.cw.size))
  ·refine wpOp_of rfl rfl ?_
   have e5 : a'.tmps[68]?.getD undef = .string (Pl.dec (e : Int)) := hI.at (k := 5) (j := 51) hsz rfl (by omega) (hall ⟨5, .data⟩ (by simp) rfl)
   have hz : ¬ 9223372036854775807 < 2 + (Pl.dec (e : Int)).size := by
    have := Pl.dec_le (e : Int) (by omega) (by omega)
    omega
   simp [Oper.wp, go_sem, e5, hz]
   exact hI.put (i := 6) (j := 52) rfl (by omega) (by omega) (by omega) rfl (Below.refl _ _) hI.cw
  ·refine wpOp_of rfl rfl ?_
   have e3 : a'.tmps[66]?.getD undef = .slice sa sl sc := hI.at (k := 3) (j := 49) hsz rfl (by omega) (hall ⟨3, .data⟩ (by simp) rfl)
   have e6 : a'.tmps[69]?.getD undef = .string (Pl.pfxKey (e : Int)) := hI.at (k := 6) (j := 52) hsz rfl (by omega) (hall ⟨6, .data⟩ (by simp) rfl)
   simp [Oper.wp, go_sem, e3, e6]
   refine (Get_any sa sl sc es (Pl.pfxKey (e : Int)) W (HE.below hI.cw)).mono ?_
   rw [HG, HC]
   rintro e W' ⟨rfl, hb'⟩
   exact hI.put (i := 7) (j := 53) rfl (by omega) (by omega) (by omega) rfl hb' (hI.cw.trans (hb'.mono hI.cw.size))
  ·refine wpOp_of rfl rfl ?_
   have e7 : a'.tmps[70]?.getD undef = .tuple #[.agg #[.string gk, .int .i64 gv, .int .i64 go, .string gx], .int .i64 gc] := hI.at (k := 7) (j := 53) hsz rfl (by omega) (hall ⟨7, .data⟩ (by simp) rfl)
   simp [Oper.wp, go_sem, e7]
   exact hI.put (i := 8) (j := 45) rfl (by omega) (by omega) (by omega) rfl (Below.refl _ _) hI.cw
  ·refine wpOp_of rfl rfl ?_
   have e8 : a'.tmps[62]?.getD undef = .tuple #[.agg #[.string gk, .int .i64 gv, .int .i64 go, .string gx], .int .i64 gc] := hI.at (k := 8) (j := 45) hsz rfl (by omega) (hall ⟨8, .data⟩ (by simp) rfl)
   simp [Oper.wp, go_sem, e8]
   exact hI.put (i := 9) (j := 54) rfl (by omega) (by omega) (by omega) rfl (Below.refl _ _) hI.cw
  ·refine wpOp_of rfl rfl ?_
   have e8 : a'.tmps[62]?.getD undef = .tuple #[.agg #[.string gk, .int .i64 gv, .int .i64 go, .string gx], .int .i64 gc] := hI.at (k := 8) (j := 45) hsz rfl (by omega) (hall ⟨8, .data⟩ (by simp) rfl)
   simp [Oper.wp, go_sem, e8]
   exact hI.put (i := 10) (j := 55) rfl (by omega) (by omega) (by omega) rfl (Below.refl _ _) hI.cw
  ·refine wpOp_of rfl rfl ?_
   have hn12 : listed.getD 12 false = false := by
    cases hq : listed.getD 12 false
    ·rfl
    ·have h1 := hCl 12 _ rfl hq ⟨11, .data⟩ (by simp) rfl
     have hls := hI.ls
     have hil : 11 < listed.size := by omega
     simp [hil] at h1 hl0
     rw [h1] at hl0; cases hl0
   simp [Oper.wp, go_sem]
   exact hI.made (cur := #[.string ⟨#[]⟩, .int .i64 0, .int .i64 0, .string ⟨#[]⟩]) rfl (by omega) hn12 (by omega) rfl hI.cw.size (hI.cw.alloc hI.cw.size _)
  ·refine wpOp_of rfl rfl ?_
   have e9 : a'.tmps[71]?.getD undef = .agg #[.string gk, .int .i64 gv, .int .i64 go, .string gx] := hI.at (k := 9) (j := 54) hsz rfl (by omega) (hall ⟨9, .data⟩ (by simp) rfl)
   obtain ⟨g, cur, ep, hg, hh, hs, -⟩ := hI.box (by omega) (by omega) (hall ⟨11, .data⟩ (by simp) rfl)
   obtain ⟨y0, y1, y2, y3, rfl⟩ := arr4of hs
   obtain ⟨⟨z0, z1, z2, z3⟩, zf, zl⟩ := box4c hh
   simp [Oper.wp, go_sem, e9, ep, z0, z1, z2, z3, zf]
   exact hI.filled rfl ep (by omega) (by omega) (set4_at hh _ _ _ _) hg ((((hI.cw.setCell hg _).setCell hg _).setCell hg _).setCell hg _)
  ·refine wpOp_of rfl rfl ?_
   have e10 : a'.tmps[72]?.getD undef = .int .i64 gc := hI.at (k := 10) (j := 55) hsz rfl (by omega) (hall ⟨10, .data⟩ (by simp) rfl)
   simp [Oper.wp, go_sem, e10]
   exact hI.put (i := 13) (j := 0) rfl (by omega) (by omega) (by omega) rfl (Below.refl _ _) hI.cw
 ·rintro listed a' W hr hI
  have hal := all_listed2 (by decide +kernel) hI.ls hr
  obtain ⟨z, xs, hxl, rfl, hf, hz⟩ := hI.fr
  obtain ⟨g, cur, rfl, hg, hh, hs, hc⟩ := hz (hal 11 (by decide))
  obtain rfl := hc (hal 12 (by decide))
  exact hQ xs W g hxl (hf 13 0 rfl (hal 13 (by decide))) hh hg hI.cw
 ·exact HInv.start hsz (Below.refl _ _).drew
theorem listN29 (xs : List Value) (h : xs.length = 29) : ∃ x0 x1 x2 x3 x4 x5 x6 x7 x8 x9 x10 x11 x12 x13 x14 x15 x16 x17 x18 x19 x20 x21 x22 x23 x24 x25 x26 x27 x28, xs = [x0, x1, x2, x3, x4, x5, x6, x7, x8, x9, x10, x11, x12, x13, x14, x15, x16, x17, x18, x19, x20, x21, x22, x23, x24, x25, x26, x27, x28] := by
 obtain ⟨x0, y0, rfl, h0⟩ := consN h
 obtain ⟨x1, y1, rfl, h1⟩ := consN h0
 obtain ⟨x2, y2, rfl, h2⟩ := consN h1
 obtain ⟨x3, y3, rfl, h3⟩ := consN h2
 obtain ⟨x4, y4, rfl, h4⟩ := consN h3
 obtain ⟨x5, y5, rfl, h5⟩ := consN h4
 obtain ⟨x6, y6, rfl, h6⟩ := consN h5
 obtain ⟨x7, y7, rfl, h7⟩ := consN h6
 obtain ⟨x8, y8, rfl, h8⟩ := consN h7
 obtain ⟨x9, y9, rfl, h9⟩ := consN h8
 obtain ⟨x10, y10, rfl, h10⟩ := consN h9
 obtain ⟨x11, y11, rfl, h11⟩ := consN h10
 obtain ⟨x12, y12, rfl, h12⟩ := consN h11
 obtain ⟨x13, y13, rfl, h13⟩ := consN h12
 obtain ⟨x14, y14, rfl, h14⟩ := consN h13
 obtain ⟨x15, y15, rfl, h15⟩ := consN h14
 obtain ⟨x16, y16, rfl, h16⟩ := consN h15
 obtain ⟨x17, y17, rfl, h17⟩ := consN h16
 obtain ⟨x18, y18, rfl, h18⟩ := consN h17
 obtain ⟨x19, y19, rfl, h19⟩ := consN h18
 obtain ⟨x20, y20, rfl, h20⟩ := consN h19
 obtain ⟨x21, y21, rfl, h21⟩ := consN h20
 obtain ⟨x22, y22, rfl, h22⟩ := consN h21
 obtain ⟨x23, y23, rfl, h23⟩ := consN h22
 obtain ⟨x24, y24, rfl, h24⟩ := consN h23
 obtain ⟨x25, y25, rfl, h25⟩ := consN h24
 obtain ⟨x26, y26, rfl, h26⟩ := consN h25
 obtain ⟨x27, y27, rfl, h27⟩ := consN h26
 obtain ⟨x28, y28, rfl, h28⟩ := consN h27
 obtain rfl := List.length_eq_zero_iff.1 h28
 exact ⟨x0, x1, x2, x3, x4, x5, x6, x7, x8, x9, x10, x11, x12, x13, x14, x15, x16, x17, x18, x19, x20, x21, x22, x23, x24, x25, x26, x27, x28, rfl⟩
theorem listN56 (xs : List Value) (h : xs.length = 56) : ∃ x0 x1 x2 x3 x4 x5 x6 x7 x8 x9 x10 x11 x12 x13 x14 x15 x16 x17 x18 x19 x20 x21 x22 x23 x24 x25 x26 x27 x28 x29 x30 x31 x32 x33 x34 x35 x36 x37 x38 x39 x40 x41 x42 x43 x44 x45 x46 x47 x48 x49 x50 x51 x52 x53 x54 x55, xs = [x0, x1, x2, x3, x4, x5, x6, x7, x8, x9, x10, x11, x12, x13, x14, x15, x16, x17, x18, x19, x20, x21, x22, x23, x24, x25, x26, x27, x28, x29, x30, x31, x32, x33, x34, x35, x36, x37, x38, x39, x40, x41, x42, x43, x44, x45, x46, x47, x48, x49, x50, x51, x52, x53, x54, x55] := by
 obtain ⟨x0, y0, rfl, h0⟩ := consN h
 obtain ⟨x1, y1, rfl, h1⟩ := consN h0
 obtain ⟨x2, y2, rfl, h2⟩ := consN h1
 obtain ⟨x3, y3, rfl, h3⟩ := consN h2
 obtain ⟨x4, y4, rfl, h4⟩ := consN h3
 obtain ⟨x5, y5, rfl, h5⟩ := consN h4
 obtain ⟨x6, y6, rfl, h6⟩ := consN h5
 obtain ⟨x7, y7, rfl, h7⟩ := consN h6
 obtain ⟨x8, y8, rfl, h8⟩ := consN h7
 obtain ⟨x9, y9, rfl, h9⟩ := consN h8
 obtain ⟨x10, y10, rfl, h10⟩ := consN h9
 obtain ⟨x11, y11, rfl, h11⟩ := consN h10
 obtain ⟨x12, y12, rfl, h12⟩ := consN h11
 obtain ⟨x13, y13, rfl, h13⟩ := consN h12
 obtain ⟨x14, y14, rfl, h14⟩ := consN h13
 obtain ⟨x15, y15, rfl, h15⟩ := consN h14
 obtain ⟨x16, y16, rfl, h16⟩ := consN h15
 obtain ⟨x17, y17, rfl, h17⟩ := consN h16
 obtain ⟨x18, y18, rfl, h18⟩ := consN h17
 obtain ⟨x19, y19, rfl, h19⟩ := consN h18
 obtain ⟨x20, y20, rfl, h20⟩ := consN h19
 obtain ⟨x21, y21, rfl, h21⟩ := consN h20
 obtain ⟨x22, y22, rfl, h22⟩ := consN h21
 obtain ⟨x23, y23, rfl, h23⟩ := consN h22
 obtain ⟨x24, y24, rfl, h24⟩ := consN h23
 obtain ⟨x25, y25, rfl, h25⟩ := consN h24
 obtain ⟨x26, y26, rfl, h26⟩ := consN h25
 obtain ⟨x27, y27, rfl, h27⟩ := consN h26
 obtain ⟨x28, y28, rfl, h28⟩ := consN h27
 obtain ⟨x29, y29, rfl, h29⟩ := consN h28
 obtain ⟨x30, y30, rfl, h30⟩ := consN h29
 obtain ⟨x31, y31, rfl, h31⟩ := consN h30
 obtain ⟨x32, y32, rfl, h32⟩ := consN h31
 obtain ⟨x33, y33, rfl, h33⟩ := consN h32
 obtain ⟨x34, y34, rfl, h34⟩ := consN h33
 obtain ⟨x35, y35, rfl, h35⟩ := consN h34
 obtain ⟨x36, y36, rfl, h36⟩ := consN h35
 obtain ⟨x37, y37, rfl, h37⟩ := consN h36
 obtain ⟨x38, y38, rfl, h38⟩ := consN h37
 obtain ⟨x39, y39, rfl, h39⟩ := consN h38
 obtain ⟨x40, y40, rfl, h40⟩ := consN h39
 obtain ⟨x41, y41, rfl, h41⟩ := consN h40
 obtain ⟨x42, y42, rfl, h42⟩ := consN h41
 obtain ⟨x43, y43, rfl, h43⟩ := consN h42
 obtain ⟨x44, y44, rfl, h44⟩ := consN h43
 obtain ⟨x45, y45, rfl, h45⟩ := consN h44
 obtain ⟨x46, y46, rfl, h46⟩ := consN h45
 obtain ⟨x47, y47, rfl, h47⟩ := consN h46
 obtain ⟨x48, y48, rfl, h48⟩ := consN h47
 obtain ⟨x49, y49, rfl, h49⟩ := consN h48
 obtain ⟨x50, y50, rfl, h50⟩ := consN h49
 obtain ⟨x51, y51, rfl, h51⟩ := consN h50
 obtain ⟨x52, y52, rfl, h52⟩ := consN h51
 obtain ⟨x53, y53, rfl, h53⟩ := consN h52
 obtain ⟨x54, y54, rfl, h54⟩ := consN h53
 obtain ⟨x55, y55, rfl, h55⟩ := consN h54
 obtain rfl := List.length_eq_zero_iff.1 h55
 exact ⟨x0, x1, x2, x3, x4, x5, x6, x7, x8, x9, x10, x11, x12, x13, x14, x15, x16, x17, x18, x19, x20, x21, x22, x23, x24, x25, x26, x27, x28, x29, x30, x31, x32, x33, x34, x35, x36, x37, x38, x39, x40, x41, x42, x43, x44, x45, x46, x47, x48, x49, x50, x51, x52, x53, x54, x55, rfl⟩
end Go.Proofs.YtjjelkdajdeikaaGreatDoor
namespace Go.Proofs.YtjjelkdajdeikaaGreatDoor
open Go.ChangeShapes Go.WideShapes Go.ChangeAt Go.RowKit
set_option maxRecDepth 20000
theorem cell_lt {W : World} {x : Addr} {v : Value} (h : W.cell? x = some v) : x.block < W.heap.size := by
 rcases Nat.lt_or_ge x.block W.heap.size with h' | h'
 ·exact h'
 ·simp [World.cell?, Array.getElem?_eq_none h'] at h
theorem own : ownKnob Tryz.prog.godebug = none := by kernel_rfl
theorem laidOut : laidOutB Tryz.prog = true := by kernel_rfl
end Go.Proofs.YtjjelkdajdeikaaGreatDoor
namespace Go.Proofs.YtjjelkdajdeikaaGreatDoor
open Go.ChangeShapes Go.WideShapes Go.ChangeAt Go.RowKit
set_option maxRecDepth 20000
theorem cellsRaw : Tryz.prog.cellsOf 98 = 4 := by kernel_rfl
theorem raw_of_trod {H : Type} {enc : TypeId × Value → H} {w : World} {base : Nat} {spare : Nat → Bool} {held : Bool} {n : Nat} {cs : List Value} {x : DataW H × List MemPlace}
  (h : DataW.trod enc Tryz.prog w base spare held n 98 cs = some x) : ∃ k0 k1 k2 k3 : Int, cs = [.int .i64 k0, .int .i64 k1, .int .i64 k2, .int .i64 k3] ∧
   (Lit.int .i64 k0).wf = true ∧ (Lit.int .i64 k1).wf = true ∧ (Lit.int .i64 k2).wf = true ∧ (Lit.int .i64 k3).wf = true := by
 obtain ⟨y0, y1, y2, y3, m, _, hl, h0, h1, h2, h3⟩ := Go.Joins.trod_struct4 Tryz.underlying98 h
 rw [cellsRaw] at hl
 match cs, hl with
 | [c0, c1, c2, c3], _ =>
  have e3 : Tryz.prog.cellsOf 3 = 1 := by kernel_rfl
  simp only [e3] at h0 h1 h2 h3
  obtain ⟨s0, a0, _, b0⟩ := DataW.trod_int Tryz.underlying3 h0
  obtain ⟨s1, a1, _, b1⟩ := DataW.trod_int Tryz.underlying3 h1
  obtain ⟨s2, a2, _, b2⟩ := DataW.trod_int Tryz.underlying3 h2
  obtain ⟨s3, a3, _, b3⟩ := DataW.trod_int Tryz.underlying3 h3
  simp at a0 a1 a2 a3
  subst a0 a1 a2 a3
  exact ⟨s0, s1, s2, s3, rfl, b0, b1, b2, b3⟩
theorem open_raws {H : Type} {enc : TypeId × Value → H} {w : World} {r : Reach} {b0 : Nat} {held : Bool} {v : Value} {d : DataW H} {p : List MemPlace}
  (hv : Value.okWide Tryz.prog w r b0 45 v) (h : DataW.Trod enc Tryz.prog w 0 (fun _ => true) held 45 v d p) :
  ∃ a len cap, v = .slice a len cap ∧ IsRaws w a len cap := by
 obtain ⟨a, len, cap, rfl⟩ := okWide_slice Tryz.underlying45 hv
 obtain ⟨fuel, hf⟩ := h
 rcases Go.Deep.open_slice Tryz.underlying45 hf with ⟨hcs, _⟩ | ⟨x, l, c, m, n, D, Q, hcs, _, hl, hm, hmm, _, hx⟩
 ·simp [Value.cells] at hcs
  obtain ⟨rfl, rfl, rfl⟩ := hcs
  exact ⟨_, _, _, rfl, Nat.le_refl _, by simp, .inl rfl⟩
 ·simp [Value.cells] at hcs
  obtain ⟨rfl, rfl, rfl⟩ := hcs
  simp only [if_true] at hmm
  subst hmm
  rw [cellsRaw] at hx
  refine ⟨_, _, _, rfl, hl, hm, ?_⟩
  rcases Nat.eq_zero_or_pos len with h0 | hpos
  ·exact .inl h0
  ·right
   obtain ⟨b, off, spot⟩ := x
   obtain ⟨cs0, g1, g2⟩ := hx 0 (by omega)
   obtain ⟨k0, k1, k2, k3, rfl, _⟩ := raw_of_trod g2
   have hc0 := (World.cells?_some g1).2.2 0 (by omega)
   simp only [List.getElem?_cons_zero] at hc0
   have hsp : spot = none := by simpa [Addr.add] using World.cell?_spot hc0
   subst hsp
   refine ⟨b, off, rfl, ?_, ?_⟩
   ·have := cell_lt hc0; simpa [Addr.add] using this
   ·intro i hi
    obtain ⟨cs1, f1, f2⟩ := hx i (by omega)
    obtain ⟨k0, k1, k2, k3, rfl, hw⟩ := raw_of_trod f2
    have hc := (World.cells?_some f1).2.2
    have c0 := hc 0 (by omega)
    have c1 := hc 1 (by omega)
    have c2 := hc 2 (by omega)
    have c3 := hc 3 (by omega)
    simp only [add_none, List.getElem?_cons_zero, List.getElem?_cons_succ, Nat.add_zero] at c0 c1 c2 c3
    exact ⟨k0, k1, k2, k3, ⟨c0, c1, c2, c3⟩, hw⟩
end Go.Proofs.YtjjelkdajdeikaaGreatDoor
