/-
  Contract: slices.DeleteFunc over entries, by a closure that asks for one key.
-/
import Derived.Test.YtcdobhdbafpkiadPC2
namespace Go.Proofs.Ytcdobhdbafpkiad
open Go.RowKit
set_option maxRecDepth 20000

/-- a store without the entry at one key -/
def Pl.rem (es : List Pl.Ent) (key : ByteArray) : List Pl.Ent := es.filter (fun y => !decide (y.key = key))
theorem Pl.rem_same {es : List Pl.Ent} {key : ByteArray} (h : ∀ i, i < es.length → ¬ (Pl.ent es i).key = key) : Pl.rem es key = es := by
  unfold Pl.rem
  rw [List.filter_eq_self]
  intro y hy
  obtain ⟨i, hi, rfl⟩ := List.getElem_of_mem hy
  have := h i hi
  rw [Pl.ent_eq es i hi] at this
  simp [this]
theorem Pl.rem_snoc {es : List Pl.Ent} {key : ByteArray} {j : Nat} (h : j < es.length) : Pl.rem (es.take (j + 1)) key = Pl.rem (es.take j) key ++ (if (Pl.ent es j).key = key then [] else [Pl.ent es j]) := by
  unfold Pl.rem
  rw [List.take_succ_eq_append_getElem h, List.filter_append, ← Pl.ent_eq es j h]
  congr 1
  by_cases e : (Pl.ent es j).key = key
  · rw [if_pos e]; simp [e]
  · rw [if_neg e]; simp [e]
theorem Pl.rem_first {es : List Pl.Ent} {key : ByteArray} {i : Nat} (hi : i < es.length) (hk : (Pl.ent es i).key = key) (hj : ∀ j, j < i → ¬ (Pl.ent es j).key = key) : es.take i = Pl.rem (es.take (i + 1)) key := by
  rw [Pl.rem_snoc hi, if_pos hk, List.append_nil]
  refine (Pl.rem_same (fun j hj' => ?_)).symm
  simp only [List.length_take] at hj'
  have e : Pl.ent (es.take i) j = Pl.ent es j := by
    rw [Pl.ent_eq _ _ (by simp; omega), Pl.ent_eq _ _ (by omega)]; simp
  rw [e]; exact hj j (by omega)
theorem Pl.same_ent {a b : List Pl.Ent} {j : Nat} (h : a.drop j = b.drop j) (hl : a.length = b.length) (hj : j < b.length) : Pl.ent a j = Pl.ent b j := by
  rw [Pl.ent_eq a j (by omega), Pl.ent_eq b j hj]
  have h1 : (a.drop j)[0]? = (b.drop j)[0]? := by rw [h]
  simp only [List.getElem?_drop, Nat.add_zero] at h1
  rw [List.getElem?_eq_getElem (by omega), List.getElem?_eq_getElem hj] at h1
  exact Option.some.inj h1

set_option maxHeartbeats 2000000 in
theorem DeleteFunc_any (g : Nat) (fr : Value) (eg : ∀ args w, (callFunc g args).run Try.prog w = .ok (.enter g args) w) (key : ByteArray) (base : Nat) (w0 : World) (hp : PredE g #[fr] key base w0)
    (v : Value) (es : List Pl.Ent) (w : World) (h : Own w base v es) (hok : ∀ e ∈ es, e.ok) (h60 : es.length ≤ 60) (hB : Below base w0 w) (hbw : base ≤ w.heap.size) :
    Calls Try.prog 13 #[v, .func (.func g) #[] #[fr]] w fun e w' =>
      ∃ a m cap, e = .returned (.slice a m cap) ∧ IsEnts w' a m cap (Pl.rem es key) ∧ Below base w w' := by
  have HO := hid h
  have HOK := hid hok
  have HP := hid hp
  have HB := hid hB
  obtain ⟨a, cap, rfl, hE, _, _⟩ := h.shape hok
  have HE := hid hE
  have HI := hid (IndexFunc_any g fr eg key base w0 hp a es.length cap es w hE hB hbw)
  have hcap := hE.2.1
  have hm := hE.2.2.1
  unfold maxLen at hm
  clear h hok hp hB hE
  go_enter Try.func13, Try.ntmps13
  go_wp2_with fail
  refine HI.out.mono ?_
  rintro e w1 ⟨⟨rfl, hn⟩ | ⟨i, rfl, hi, hik, hij⟩, hb1⟩
  · have HE1 := hid (HE.out.below hb1)
    have HN := hid (Pl.rem_same hn)
    clear hn
    go_wp2_with fail
    go_ret
    exact ⟨_, _, _, rfl, by rw [HN.out]; exact HE1.out, hb1.mono hbw⟩
  · have hi1 : ((i : Int) == -1) = false := by simp
    have HO1 := hid (HO.out.below hb1)
    have HIK := hid hik
    have HIJ := hid hij
    clear hik hij
    go_wp2_with fail
    go_loopw [5, 6] (fun vi vj wr => ∃ (i j : Nat) (cur : List Pl.Ent), i < j ∧ j ≤ es.length ∧ vi = .int .i64 i ∧ vj = .int .i64 j ∧ Hid (cur.length = es.length) ∧ Hid (cur.take i = Pl.rem (es.take j) key) ∧ Hid (cur.drop j = es.drop j) ∧ Hid (Own wr base (.slice a es.length cap) cur) ∧ Hid (Below base w wr)) (fun _ j _ => es.length - (intOf j).toNat)
    case atStart => exact ⟨i, i + 1, es, by omega, by omega, rfl, by go_num, hid rfl, hid (Pl.rem_first hi HIK.out HIJ.out), hid rfl, HO1, hid (hb1.mono hbw)⟩
    case round =>
      clear HO HE HI HO1 HIK HIJ hi1 hi
      obtain ⟨i, j, cur, hij, hj, rfl, rfl, HL, HT, HD, HO, HBW⟩ := hrel
      obtain ⟨g0, cap0, e0, hbg, hgw, hlc, hmc, hrow, hcl, _⟩ := HO.out.opened (by have := HL.out; omega)
      simp only [Value.slice.injEq, HL.out] at e0
      obtain ⟨rfl, _, rfl⟩ := e0
      have hwb := HBW.out.size
      by_cases hlt : j < es.length
      · obtain ⟨q0, q1, q2, q3⟩ := hrow j (by rw [HL.out]; exact hlt)
        rw [Pl.same_ent HD.out HL.out hlt] at q0 q1 q2 q3
        have HRS := hid (Pl.rem_snoc (key := key) hlt)
        obtain ⟨y, HY⟩ : ∃ y, Hid (Pl.ent es j = y) := ⟨_, hid rfl⟩
        rw [HY.out] at q0 q1 q2 q3 HRS
        simp only [Nat.zero_add] at q0 q1 q2 q3
        have HBA := hid ((Below.refl wr.heap.size wr).alloc (Nat.le_refl _) (.cells #[.string y.key, .int .i64 y.ver, .int .i64 y.org, .string y.val] 28))
        have HC := hid (HP.out _ y (HB.out.trans (HBW.out.trans (HBA.out.mono (Nat.le_trans hbw hwb)))))
        obtain ⟨yk, yv, yo, yx⟩ := y
        simp only at q0 q1 q2 q3 HC HRS
        have hlt' : (j : Int) < (es.length : Int) := by omega
        clear hrow hcl
        by_cases hkk : yk = key
        · have hdk : decide (yk = key) = true := decide_eq_true hkk
          rw [if_pos hkk, List.append_nil] at HRS
          clear hkk
          rw [hdk] at HC
          clear hdk
          go_wp2_with fail
          refine HC.out.mono ?_
          rintro e w2 ⟨rfl, hb2⟩
          have HB2 := hid (HBA.out.trans (hb2.mono HBA.out.size))
          clear hb2
          go_wp2_with fail
          go_roundw
          case rel => exact ⟨i, j + 1, cur, by omega, by omega, rfl, by go_num, HL, hid (by rw [HRS.out]; exact HT.out), hid (by rw [← List.drop_drop, ← List.drop_drop, HD.out]), hid (HO.out.below HB2.out), hid (HBW.out.trans (HB2.out.mono (Nat.le_trans hbw hwb)))⟩
          case measure => simp [intOf]; omega
        · have hdk : decide (yk = key) = false := decide_eq_false hkk
          rw [if_neg hkk] at HRS
          clear hkk
          rw [hdk] at HC
          clear hdk
          go_wp2_with fail
          refine HC.out.mono ?_
          rintro e w2 ⟨rfl, hb2⟩
          have hb2' : Below (wr.heap.size + 1) (wr.alloc (.cells #[.string yk, .int .i64 yv, .int .i64 yo, .string yx] 28)) w2 := by simpa using hb2
          obtain ⟨p0, p1, p2, p3⟩ := box4 hb2'
          have HB2 := hid (HBA.out.trans (hb2.mono HBA.out.size))
          clear hb2 hb2'
          obtain ⟨g1, cap1, e1, hbg1, hgw1, _, _, _, hcl1, hset1⟩ := (HO.out.below HB2.out).opened (by have := HL.out; omega)
          simp only [Value.slice.injEq, HL.out, Option.some.injEq, Addr.mk.injEq] at e1
          obtain ⟨⟨rfl, _⟩, _, rfl⟩ := e1
          obtain ⟨r0, f0⟩ := hcl1 (i * 4) (by rw [HL.out]; omega)
          obtain ⟨r1, f1⟩ := hcl1 (i * 4 + 1) (by rw [HL.out]; omega)
          obtain ⟨r2, f2⟩ := hcl1 (i * 4 + 2) (by rw [HL.out]; omega)
          obtain ⟨r3, f3⟩ := hcl1 (i * 4 + 3) (by rw [HL.out]; omega)
          obtain ⟨x0, r0⟩ := Option.isSome_iff_exists.1 r0
          obtain ⟨x1, r1⟩ := Option.isSome_iff_exists.1 r1
          obtain ⟨x2, r2⟩ := Option.isSome_iff_exists.1 r2
          obtain ⟨x3, r3⟩ := Option.isSome_iff_exists.1 r3
          have HSET := hid (hset1 i ⟨yk, yv, yo, yx⟩)
          clear hset1 hcl1
          go_wp2_with fail
          go_roundw
          case rel => exact ⟨i + 1, j + 1, cur.set i ⟨yk, yv, yo, yx⟩, by omega, by omega, by go_num, by go_num, hid (by rw [List.length_set]; exact HL.out), hid (by
            rw [HRS.out, ← HT.out, List.take_succ_eq_append_getElem (by rw [List.length_set, HL.out]; omega), List.take_set_of_le (Nat.le_refl _)]
            simp), hid (by
            rw [List.drop_set_of_lt (by omega), ← List.drop_drop, ← List.drop_drop, HD.out]), HSET, hid (by
            have hb3 := HBW.out.trans (HB2.out.mono (Nat.le_trans hbw hwb))
            exact rbelow_set (rbelow_set (rbelow_set (rbelow_set hb3 hbg1) hbg1) hbg1) hbg1)⟩
          case measure => simp [intOf]; omega
      · obtain rfl : j = es.length := by omega
        obtain ⟨zs, hzl, hclr⟩ := run_clear_ents wr g0 (i * 4) (es.length - i) (cap - i) (by omega) (fun q hq => hcl (i * 4 + q) (by rw [HL.out]; omega))
        have hclr0 := hclr 0
        have HROW := hid hrow
        clear hclr hcl hrow
        go_wp2_with fail
        go_ret
        have hT := HT.out
        rw [List.take_length] at hT
        refine ⟨_, _, _, rfl, ⟨?_, by omega, by unfold maxLen; omega, ?_, .inr ⟨g0, 0, rfl, ?_, ?_⟩⟩, ?_⟩
        · rw [← hT, List.length_take, HL.out]; omega
        · intro y hy
          unfold Pl.rem at hy
          exact HOK.out y (List.mem_filter.1 hy).1
        · have := Lib.below_setCells_w (B := base) hbg zs (i * 4) wr
          exact Nat.lt_of_lt_of_le hgw this.size
        · rw [← hT]
          intro q hq
          simp only [List.length_take] at hq
          have h4 := (HROW.out.take i) q (by simp; omega)
          simp only [Nat.zero_add] at h4 ⊢
          refine ⟨?_, ?_, ?_, ?_⟩
          · rw [World.cell?_setCells_out _ _ _ _ _ (fun _ _ => .inl (by simp; omega))]; exact h4.1
          · rw [World.cell?_setCells_out _ _ _ _ _ (fun _ _ => .inl (by simp; omega))]; exact h4.2.1
          · rw [World.cell?_setCells_out _ _ _ _ _ (fun _ _ => .inl (by simp; omega))]; exact h4.2.2.1
          · rw [World.cell?_setCells_out _ _ _ _ _ (fun _ _ => .inl (by simp; omega))]; exact h4.2.2.2
        · exact HBW.out.trans (Lib.below_setCells_w hbg zs (i * 4) wr)
theorem CloneE_all (a : Option Addr) (len cap : Nat) (es : List Pl.Ent) (w : World) (h : IsEnts w a len cap es) (hb : len ≤ 60) :
    Calls Try.prog 14 #[.slice a len cap] w fun e w' => ∃ v, e = .returned v ∧ Own w' w.heap.size v es ∧ Below w.heap.size w w' := by
  cases a with
  | some ad => exact CloneE_any ad len cap es w h hb
  | none =>
    obtain ⟨h1, h2, h3, h4, h5⟩ := h
    have hes : es = [] := by
      rcases h5 with h | ⟨b, off, h, _⟩
      · exact h
      · cases h
    subst hes
    obtain rfl : len = 0 := by simpa using h1.symm
    exact (CloneE_nil cap w).mono fun _ _ ⟨e, b⟩ => ⟨_, e, Own.nil _ _, b⟩
theorem pred2 (key : ByteArray) (be bo : Nat) (w : World) (h : w.cell? ⟨be, 0, none⟩ = some (.string key)) (hlt : be < w.heap.size) (ho : w.cell? ⟨bo, 0, none⟩ = some (.func (.func 11) #[] #[.pointer (some ⟨be, 0, none⟩)])) (hbo : bo < w.heap.size) :
    PredE 15 #[.pointer (some ⟨bo, 0, none⟩)] key w.heap.size w := fun W x hb =>
  clo2_any x key be bo W ((hb.cell (p := ⟨be, 0, none⟩) hlt).trans h) (Nat.lt_of_lt_of_le hlt hb.size) ((hb.cell (p := ⟨bo, 0, none⟩) hbo).trans ho) (Nat.lt_of_lt_of_le hbo hb.size)
theorem pred3 (key : ByteArray) (be bo : Nat) (w : World) (h : w.cell? ⟨be, 0, none⟩ = some (.string key)) (hlt : be < w.heap.size) (ho : w.cell? ⟨bo, 0, none⟩ = some (.func (.func 11) #[] #[.pointer (some ⟨be, 0, none⟩)])) (hbo : bo < w.heap.size) :
    PredE 16 #[.pointer (some ⟨bo, 0, none⟩)] key w.heap.size w := fun W x hb =>
  clo3_any x key be bo W ((hb.cell (p := ⟨be, 0, none⟩) hlt).trans h) (Nat.lt_of_lt_of_le hlt hb.size) ((hb.cell (p := ⟨bo, 0, none⟩) hbo).trans ho) (Nat.lt_of_lt_of_le hbo hb.size)
theorem box4f {w w3 : World} {c0 c1 c2 c3 : Value} {T : TypeId} (hb : Below (w.heap.size + 1) (w.alloc (.cells #[c0, c1, c2, c3] T)) w3) :
    w3.frozen? ⟨w.heap.size, 0, none⟩ = false ∧ w3.frozen? ⟨w.heap.size, 1, none⟩ = false ∧ w3.frozen? ⟨w.heap.size, 2, none⟩ = false ∧ w3.frozen? ⟨w.heap.size, 3, none⟩ = false := by
  refine ⟨?_, ?_, ?_, ?_⟩
  all_goals
    rw [hb.frozen (by simp)]
    simp
theorem cell_new1 (X : World) (v : Value) (T : TypeId) (n : Nat) (h : X.heap.size = n) : (X.alloc (.cells #[v] T)).cell? ⟨n, 0, none⟩ = some v := by
  subst h; simp
theorem size_set (w : World) (a : Addr) (v : Value) : (w.setCell a v).heap.size = w.heap.size := by simp [World.setCell]
theorem size_new (w : World) (o : Obj) : (w.alloc o).heap.size = w.heap.size + 1 := by simp
end Go.Proofs.Ytcdobhdbafpkiad
