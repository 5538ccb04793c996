/-
  Contract: a text, cut at each comma: the document's cuts.
-/
import Derived.Test.YtcdobhdbafpkiacPairsT
namespace Go.Proofs.Ytcdobhdbafpkiac
open Go.RowKit

/-- a slice value over a row of texts of the call's own -/
def OwnT (w : World) (base : Nat) (v : Value) (ks : List ByteArray) : Prop := w.ownsRow base 9 1 v ks.length (ks.map Value.string)
theorem infoText : (Try.prog.info? 9).map (fun i => (i.zero, i.size, i.bytes)) = some (some (.string ⟨#[]⟩), 1, 16) := by kernel_rfl
theorem OwnT.below {w w' : World} {base : Nat} {v : Value} {ks : List ByteArray} (h : OwnT w base v ks) (k : Below w.heap.size w w') : OwnT w' base v ks := ownsRow_under h k
theorem OwnT.nil (w : World) (base : Nat) : OwnT w base (.slice none 0 0) [] := World.ownsRow_nil _ _ _ _
theorem OwnT.shape {w : World} {base : Nat} {v : Value} {ks : List ByteArray} (h : OwnT w base v ks) :
    ∃ a cap, v = .slice a ks.length cap ∧ ks.length ≤ cap ∧ cap ≤ maxLen ∧ (ks = [] ∨ ∃ b, a = some ⟨b, 0, none⟩ ∧ base ≤ b ∧ b < w.heap.size ∧ ∀ (i : Nat) (hi : i < ks.length), w.cell? ⟨b, 0 + i, none⟩ = some (.string ks[i])) := by
  obtain ⟨_, h | ⟨g, cap, cur, rfl, hb, hh, hn, hm, hs, hx⟩⟩ := h
  · obtain ⟨rfl, hn⟩ := h
    have hes : ks = [] := List.length_eq_zero_iff.1 hn
    subst hes
    exact ⟨none, 0, rfl, Nat.le_refl _, by simp, .inl rfl⟩
  · refine ⟨some ⟨g, 0, none⟩, cap, rfl, hn, hm, .inr ⟨g, rfl, hb, blockLt hh, ?_⟩⟩
    intro i hi
    have hj : (List.take (ks.length * 1) cur.toList)[i]? = some (.string ks[i]) := by
      rw [hx]; simp [hi]
    have hj' : cur[i]? = some (.string ks[i]) := by
      rw [List.getElem?_take] at hj
      split at hj
      · rw [← Array.getElem?_toList]; exact hj
      · cases hj
    simp [World.cell?, hh, hj']
theorem append_text {w : World} {ops : Array Oper} {rest : List Oper} {o : Oper} {a : Act} {Q : Exit → Act → World → Prop} (hgd : o.guard = none) (s x : Operand)
    (ho : o.op = .call { callee := .builtin .append, args := #[s, x], argTypes := #[34, 34] })
    (base : Nat) (v : Value) (ks : List ByteArray) (key : ByteArray) (hs : a.eval s = v) (hown : OwnT w base v ks) (hbase : base ≤ w.heap.size) (hx : a.eval x = .slice (some ⟨w.heap.size, 0, none⟩) 1 1) (hb : (ks.length + 1) * 16 ≤ 140737488355328)
    (h : ∀ v' w', OwnT w' base v' (ks ++ [key]) → Below base w w' → wpList Try.prog ops Q rest (a.put o.dst v') w') :
    wpList Try.prog ops Q (o :: rest) a (w.alloc (.cells #[.string key] 9)) := by
  obtain ⟨i0, hi0, hz0, hz1, hz2⟩ := partsOf infoText
  refine wpList_append_own (w := _) hgd s x 34 ho base 9 i0 _ 1 16 Try.underlying34 hi0 hz0 hz1 hz2 rfl (by decide) _ ks.length (ks.map Value.string) hs (World.ownsRow.alloc hown _) ⟨w.heap.size, 0, none⟩ 1 1 [.string key] hx rfl ?_ ?_ (by unfold maxLen; omega) hb (by simp; omega) ?_
  · intro j u hj
    match j, hj with
    | 0, hj => simp at hj; subst hj; rw [add_none]; simp
  · intro u hu; simp at hu; subst hu; rfl
  · intro v' w' hown' hg _
    have hlt := World.ownsRow.lt hown
    refine h v' w' ?_ (((Below.refl _ _).alloc hbase _).grown hg (by simp; omega) (fun k hk => (hlt k hk).1))
    unfold OwnT
    simpa using hown'

def Pl.lists (ks : List ByteArray) : List (List UInt8) := ks.map fun b => b.data.toList
def Pl.cutsL (l : List UInt8) : List (List UInt8) := if l = [] then [] else Pl.parts l

theorem Pl.parts_last {l : List UInt8} (h : (44 : UInt8) ∉ l) : Pl.parts l = [l] := by
  rw [Pl.parts_none (by rw [Pl.cutL_none h]), Pl.cutL_none h]
theorem Pl.parts_at {l : List UInt8} {i : Nat} (hi : i < l.length) (h : l[i]? = some 44) (k : (44 : UInt8) ∉ l.take i) : Pl.parts l = l.take i :: Pl.parts (l.drop (i + 1)) := by
  have e := Pl.cutL_some hi h k
  rw [Pl.parts_some (r := l.drop (i + 1)) (by rw [e]), e]

set_option maxHeartbeats 2000000 in
theorem cuts_any (s : ByteArray) (w : World) (hs : s.size ≤ 4398046511104) :
    Calls Try.prog 26 #[.string s] w fun e w' => ∃ (vl : Value) (ks : List ByteArray), e = .returned vl ∧ OwnT w' w.heap.size vl ks ∧ Pl.lists ks = Pl.cutsL s.data.toList ∧ (∀ x ∈ ks, x.size ≤ s.size) ∧ ks.length ≤ s.size + 1 ∧ Below w.heap.size w w' := by
  rcases Nat.eq_zero_or_pos s.size with h0 | h0
  · have HN : Hid (Pl.cutsL s.data.toList = []) := hid (by unfold Pl.cutsL; rw [if_pos (List.length_eq_zero_iff.1 (by rw [sz_list]; omega))])
    go_enter Try.func26, Try.ntmps26
    go_wp2
    go_loopw [3, 5] (fun vo i wr => vo = .slice none 0 0 ∧ i = .int .i64 0 ∧ wr = w) (fun _ _ _ => 0)
    case atStart => exact ⟨rfl, rfl, rfl⟩
    case round =>
      obtain ⟨rfl, rfl, rfl⟩ := hrel
      go_wp2
      go_ret
      exact ⟨_, [], rfl, OwnT.nil _ _, by rw [HN.out]; rfl, by simp, by simp, Below.refl _ _⟩
  · have HN : Hid (Pl.cutsL s.data.toList = Pl.parts s.data.toList) := by
      refine hid ?_
      unfold Pl.cutsL
      rw [if_neg (by intro h; have := sz_list s; rw [h] at this; simp at this; omega)]
    go_enter Try.func26, Try.ntmps26
    go_wp2
    go_loopw [3, 4, 5] (fun vo f i wr => ∃ (k g : Nat) (ks : List ByteArray) (vv : Value), vv = vo ∧ i = .int .i64 k ∧ f = .int .i64 g ∧ k ≤ s.size + 1 ∧ g ≤ k ∧ Hid (OwnT wr w.heap.size vv ks) ∧ ks.length ≤ k ∧ Hid (∀ x ∈ ks, x.size ≤ s.size) ∧ Hid (k ≤ s.size → (44 : UInt8) ∉ (s.data.toList.drop g).take (k - g) ∧ Pl.parts s.data.toList = Pl.lists ks ++ Pl.parts (s.data.toList.drop g)) ∧ Hid (k = s.size + 1 → Pl.parts s.data.toList = Pl.lists ks) ∧ Below w.heap.size w wr) (fun _ _ i _ => s.size + 1 - (intOf i).toNat)
    case atStart => exact ⟨0, 0, [], _, rfl, rfl, rfl, by omega, by omega, hid (OwnT.nil _ _), by simp, hid (by simp), hid (fun _ => ⟨by simp, by simp [Pl.lists]⟩), hid (by intro h; omega), Below.refl _ _⟩
    case round =>
      obtain ⟨k, g, ks, vo, rfl, rfl, rfl, hk, hg, HO, hkl, HZ, HA, HB, hb⟩ := hrel
      by_cases hle : k ≤ s.size
      · have HA' := hid (HA.out hle)
        clear HA HB
        by_cases heq : k = s.size
        · subst heq
          have HE : Hid ((s.extract g s.size).data.toList = s.data.toList.drop g) := hid (by rw [ext_list, List.take_of_length_le (by simp)])
          have HP : Hid (Pl.parts s.data.toList = Pl.lists (ks ++ [s.extract g s.size])) := by
            refine hid ?_
            have h := HA'.out.1
            rw [List.take_of_length_le (by simp)] at h
            rw [HA'.out.2, Pl.parts_last h]
            unfold Pl.lists
            rw [List.map_append, List.map_cons, List.map_nil, HE.out]
          have HZ' : Hid (∀ x ∈ ks ++ [s.extract g s.size], x.size ≤ s.size) := by
            refine hid fun x hx => ?_
            rcases List.mem_append.1 hx with hx | hx
            · exact HZ.out x hx
            · simp at hx; subst hx; simp
          have hbz := hb.size
          go_wp2_with (at_builtin; refine append_text rfl (.tmp 27) (.tmp 32) rfl w.heap.size vo ks (s.extract g s.size) rfl HO.out hbz rfl (by omega) ?_; intro v5 w5 ho5 hb5; have HO5 := hid ho5; clear ho5)
          have hb6 : Below w.heap.size w w5 := hb.trans hb5
          go_roundw
          case rel => exact ⟨s.size + 1, s.size + 1, ks ++ [s.extract g s.size], _, rfl, by go_num, by go_num, by omega, by omega, HO5, by simp; omega, HZ', hid (by intro h; omega), hid (fun _ => HP.out), hb6⟩
          case measure => simp [intOf]
        · have hlt : k < s.size := by omega
          clear heq
          by_cases hc : (s[k].toNat : Int) = 44
          · have hck : s[k] = 44 := by apply UInt8.toNat_inj.1; show _ = 44; omega
            have HE : Hid ((s.extract g k).data.toList = (s.data.toList.drop g).take (k - g)) := hid (by rw [ext_list])
            have HP : Hid (Pl.parts s.data.toList = Pl.lists (ks ++ [s.extract g k]) ++ Pl.parts (s.data.toList.drop (k + 1))) := by
              refine hid ?_
              rw [HA'.out.2, Pl.parts_at (i := k - g) (by rw [List.length_drop, sz_list]; omega) (by rw [List.getElem?_drop, List.getElem?_eq_getElem (by rw [sz_list]; omega)]; congr 1; rw [← hck]; simp only [show g + (k - g) = k by omega]; rfl) HA'.out.1]
              rw [List.drop_drop, show g + (k - g + 1) = k + 1 by omega]
              unfold Pl.lists
              rw [List.map_append, List.map_cons, List.map_nil, HE.out, List.append_assoc]
              rfl
            have HZ' : Hid (∀ x ∈ ks ++ [s.extract g k], x.size ≤ s.size) := by
              refine hid fun x hx => ?_
              rcases List.mem_append.1 hx with hx | hx
              · exact HZ.out x hx
              · simp at hx; subst hx; simp; omega
            have hbz := hb.size
            go_wp2_with (at_builtin; refine append_text rfl (.tmp 27) (.tmp 32) rfl w.heap.size vo ks (s.extract g k) rfl HO.out hbz rfl (by omega) ?_; intro v5 w5 ho5 hb5; have HO5 := hid ho5; clear ho5)
            have hb6 : Below w.heap.size w w5 := hb.trans hb5
            go_roundw
            case rel => exact ⟨k + 1, k + 1, ks ++ [s.extract g k], _, rfl, by go_num, by go_num, by omega, by omega, HO5, by simp; omega, HZ', hid (fun _ => ⟨by simp, HP.out⟩), hid (by intro h; omega), hb6⟩
            case measure => simp [intOf]; omega
          · have hck : s[k] ≠ 44 := by intro h; rw [h] at hc; exact hc rfl
            have HM : Hid ((44 : UInt8) ∉ (s.data.toList.drop g).take (k + 1 - g)) := by
              refine hid ?_
              rw [show k + 1 - g = (k - g) + 1 by omega, List.take_succ_eq_append_getElem (by rw [List.length_drop, sz_list]; omega)]
              simp only [List.mem_append, List.mem_singleton, not_or]
              refine ⟨HA'.out.1, ?_⟩
              rw [List.getElem_drop]
              simp only [show g + (k - g) = k by omega]
              exact fun e => hck e.symm
            have HP := hid HA'.out.2
            clear HA'
            have hd : ((s[k].toNat : Int) == 44) = false := by simpa using hc
            clear hc
            go_wp2
            go_roundw
            case rel => exact ⟨k + 1, g, ks, _, rfl, by go_num, rfl, by omega, by omega, HO, by omega, HZ, hid (fun _ => ⟨HM.out, HP.out⟩), hid (by intro h; omega), hb⟩
            case measure => simp [intOf]; omega
      · have hk1 : k = s.size + 1 := by omega
        have HB' := hid (HB.out hk1)
        clear HA HB
        go_wp2
        go_ret
        exact ⟨_, rfl, ks, HO.out, by rw [HN.out, HB'.out], HZ.out, by omega, hb⟩
end Go.Proofs.Ytcdobhdbafpkiac
