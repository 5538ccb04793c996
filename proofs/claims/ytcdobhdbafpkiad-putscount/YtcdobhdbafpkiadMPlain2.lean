/-
  Plain: merging sorted lists, key by key; no program in sight.
-/
import Derived.Test.YtcdobhdbafpkiadMPlain
namespace Go.Proofs.Ytcdobhdbafpkiad.Pl

theorem look_ext : ∀ {a b : List Ent}, Srt a → Srt b → (∀ k, look a k = look b k) → a = b
  | [], [], _, _, _ => rfl
  | [], f :: s, _, _, h => by have := h f.key; simp [look] at this
  | e :: r, [], _, _, h => by have := h e.key; simp [look] at this
  | e :: r, f :: s, ha, hb, h => by
    have ta := srt_tail ha
    have tb := srt_tail hb
    have hk : e.key = f.key := by
      cases h1 : ltB e.key f.key
      · cases h2 : ltB f.key e.key
        · exact ltB_total h1 h2
        · exfalso
          have h3 := h f.key
          rw [look_low (es := e :: r) (k := f.key) (by
            intro y hy
            rcases List.mem_cons.1 hy with rfl | hy
            · exact h2
            · exact ltB_trans h2 (ta.2 y hy))] at h3
          simp [look] at h3
      · exfalso
        have h3 := h e.key
        rw [look_low (es := f :: s) (k := e.key) (by
          intro y hy
          rcases List.mem_cons.1 hy with rfl | hy
          · exact h1
          · exact ltB_trans h1 (tb.2 y hy))] at h3
        simp [look] at h3
    have he : e = f := by
      have h3 := h e.key
      unfold look at h3
      rw [if_pos rfl, if_pos hk.symm] at h3
      cases h3; rfl
    subst he
    have : r = s := look_ext ta.1 tb.1 (by
      intro k
      by_cases hke : e.key = k
      · subst hke
        rw [look_low ta.2, look_low tb.2]
      · have h3 := h k
        unfold look at h3
        rw [if_neg hke, if_neg hke] at h3
        exact h3)
    rw [this]

/-- the greater of two -/
def mx : Option Ent → Option Ent → Option Ent
  | none, y => y
  | some g, none => some g
  | some g, some x => if 0 < cmpE x.ver x.org x.val g.ver g.org g.val then some x else some g
theorem mx_none (x : Option Ent) : mx x none = x := by cases x <;> rfl

theorem mrg_look : ∀ (b out : List Ent) (ks : List ByteArray) (k : ByteArray), Srt out → Srt b → out.length + b.length ≤ 60 → look (mrg out ks b).1 k = mx (look out k) (look b k)
  | [], out, ks, k, _, _, _ => by rw [mrg, look, mx_none]
  | x :: r, out, ks, k, ho, hb, hl => by
    have tb := srt_tail hb
    simp only [List.length_cons] at hl
    rw [mrg, look]
    by_cases hc : comesB out x = true
    · have hlen : (ins out x).length ≤ out.length + 1 := by rw [ins_len]; split <;> omega
      rw [if_pos hc, mrg_look r (ins out x) _ k (ins_srt ho) tb.1 (by omega), look_ins x k ho]
      by_cases hk : x.key = k
      · subst hk
        rw [if_pos rfl, if_pos rfl, look_low tb.2]
        unfold comesB at hc
        rcases there_look x.key ho with ⟨t1, t2⟩ | ⟨t1, t2⟩
        · rw [if_pos t1] at hc
          rw [t2, mx, mx, if_pos (of_decide_eq_true hc)]
        · rw [t2]; rfl
      · rw [if_neg (fun q => hk q.symm), if_neg hk]
    · rw [if_neg hc, mrg_look r out _ k ho tb.1 (by omega)]
      by_cases hk : x.key = k
      · subst hk
        rw [if_pos rfl, look_low tb.2]
        unfold comesB at hc
        rcases there_look x.key ho with ⟨t1, t2⟩ | ⟨t1, t2⟩
        · rw [if_pos t1] at hc
          rw [t2, mx, mx, if_neg (fun q => hc (decide_eq_true q))]
        · rw [t1] at hc
          simp at hc
          omega
      · rw [if_neg hk]
theorem mrg_len_le : ∀ (b out : List Ent) (ks : List ByteArray), (mrg out ks b).1.length ≤ out.length + b.length
  | [], out, ks => Nat.le_refl _
  | x :: r, out, ks => by
    rw [mrg]
    split
    · have h1 := mrg_len_le r (ins out x) (ks ++ [x.key])
      have h2 : (ins out x).length ≤ out.length + 1 := by rw [ins_len]; split <;> omega
      simp only [List.length_cons]
      omega
    · have h1 := mrg_len_le r out ks
      simp only [List.length_cons]
      omega

/-- above, in the words of the order itself -/
def gt (a b : Ent) : Prop := b.ver < a.ver ∨ a.ver = b.ver ∧ (b.org < a.org ∨ a.org = b.org ∧ ltB b.val a.val = true)
theorem cmp_gt (a b : Ent) : 0 < cmpE a.ver a.org a.val b.ver b.org b.val ↔ gt a b := by
  unfold gt
  rcases cmpE_cases a.ver a.org a.val b.ver b.org b.val with ⟨q, p⟩ | ⟨q, p1, p2, p3⟩ | ⟨q, p⟩
  · rw [q]
    constructor
    · intro h; omega
    · intro h
      exfalso
      rcases p with p | ⟨p, p' | ⟨p', p''⟩⟩ <;> rcases h with h | ⟨h, h' | ⟨h', h''⟩⟩ <;> try omega
      rw [ltB_asymm p''] at h''; cases h''
  · rw [q]
    constructor
    · intro h; omega
    · intro h
      rw [p1, p2, p3, ltB_irrefl] at h
      simp at h
  · rw [q]
    exact ⟨fun _ => p, fun _ => by omega⟩
theorem gt_asymm {a b : Ent} (h : gt a b) (k : gt b a) : False := by
  unfold gt at *
  rcases h with h | ⟨h, h' | ⟨h', h''⟩⟩ <;> rcases k with k | ⟨k, k' | ⟨k', k''⟩⟩ <;> try omega
  rw [ltB_asymm h''] at k''; cases k''
theorem gt_trans {a b c : Ent} (h : gt a b) (k : gt b c) : gt a c := by
  unfold gt at *
  rcases h with h | ⟨h, h' | ⟨h', h''⟩⟩ <;> rcases k with k | ⟨k, k' | ⟨k', k''⟩⟩ <;> first | (left; omega) | (right; refine ⟨by omega, ?_⟩; first | (left; omega) | (right; exact ⟨by omega, ltB_trans k'' h''⟩))
theorem gt_total {a b : Ent} (hk : a.key = b.key) (h : ¬ gt a b) (k : ¬ gt b a) : a = b := by
  rw [← cmp_gt] at h k
  rcases cmpE_cases a.ver a.org a.val b.ver b.org b.val with ⟨q, p⟩ | ⟨q, p1, p2, p3⟩ | ⟨q, p⟩
  · exfalso
    rw [cmp_gt] at k
    apply k
    unfold gt
    rcases p with p | ⟨p, p' | ⟨p', p''⟩⟩
    · exact .inl p
    · exact .inr ⟨p.symm, .inl p'⟩
    · exact .inr ⟨p.symm, .inr ⟨p'.symm, p''⟩⟩
  · cases a; cases b; simp only at hk p1 p2 p3; subst hk p1 p2 p3; rfl
  · omega
theorem mx_some (g x : Ent) : (gt x g ∧ mx (some g) (some x) = some x) ∨ (¬ gt x g ∧ mx (some g) (some x) = some g) := by
  by_cases h : gt x g
  · left; exact ⟨h, by rw [mx, if_pos ((cmp_gt x g).2 h)]⟩
  · right; exact ⟨h, by rw [mx, if_neg (fun q => h ((cmp_gt x g).1 q))]⟩
theorem mx_comm {k : ByteArray} {x y : Option Ent} (hx : ∀ e, x = some e → e.key = k) (hy : ∀ e, y = some e → e.key = k) : mx x y = mx y x := by
  rcases x with _ | a <;> rcases y with _ | b
  · rfl
  · rfl
  · rfl
  · have hk : a.key = b.key := (hx a rfl).trans (hy b rfl).symm
    rcases mx_some a b with ⟨h, e⟩ | ⟨h, e⟩ <;> rcases mx_some b a with ⟨h', e'⟩ | ⟨h', e'⟩ <;> rw [e, e']
    · exact absurd (gt_asymm h h') (fun x => x)
    · rw [gt_total hk h' h]
theorem mx_idem (x : Option Ent) : mx x x = x := by
  rcases x with _ | a
  · rfl
  · rcases mx_some a a with ⟨_, e⟩ | ⟨_, e⟩ <;> exact e
theorem mx_assoc {k : ByteArray} {x y z : Option Ent} (hx : ∀ e, x = some e → e.key = k) (hy : ∀ e, y = some e → e.key = k) (hz : ∀ e, z = some e → e.key = k) : mx (mx x y) z = mx x (mx y z) := by
  rcases x with _ | a
  · rfl
  rcases y with _ | b
  · rfl
  rcases z with _ | c
  · rw [mx_none, mx_none]
  have kab : a.key = b.key := (hx a rfl).trans (hy b rfl).symm
  have kbc : b.key = c.key := (hy b rfl).trans (hz c rfl).symm
  rcases mx_some a b with ⟨h1, e1⟩ | ⟨h1, e1⟩ <;> rcases mx_some b c with ⟨h2, e2⟩ | ⟨h2, e2⟩ <;> rw [e1, e2]
  · rcases mx_some a c with ⟨h3, e3⟩ | ⟨h3, e3⟩
    · rw [e3]
    · exact absurd (gt_trans h2 h1) h3
  · rw [e1]
  · rw [e1]
    rcases mx_some a c with ⟨h3, e3⟩ | ⟨h3, e3⟩
    · exfalso
      by_cases hba : gt a b
      · exact h2 (gt_trans h3 hba)
      · rw [gt_total kab hba h1] at h3
        exact h2 h3
    · exact e3
end Go.Proofs.Ytcdobhdbafpkiad.Pl
