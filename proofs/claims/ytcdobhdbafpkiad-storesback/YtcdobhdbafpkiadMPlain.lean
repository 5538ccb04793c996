/-
  Plain: what is found in a sorted list, and in what is merged; no program in sight.
-/
import Derived.Test.YtcdobhdbafpkiadUpd
namespace Go.Proofs.Ytcdobhdbafpkiad.Pl

/-- the entry with a key -/
def look : List Ent → ByteArray → Option Ent
  | [], _ => none
  | e :: r, k => if e.key = k then some e else look r k
theorem look_key : ∀ {es : List Ent} {k : ByteArray} {e : Ent}, look es k = some e → e.key = k ∧ e ∈ es
  | [], _, _, h => by cases h
  | x :: r, k, e, h => by
    unfold look at h
    by_cases hx : x.key = k
    · rw [if_pos hx] at h; cases h; exact ⟨hx, by simp⟩
    · rw [if_neg hx] at h; have := look_key h; exact ⟨this.1, by simp [this.2]⟩
theorem look_low : ∀ {es : List Ent} {k : ByteArray}, (∀ e ∈ es, ltB k e.key = true) → look es k = none
  | [], _, _ => rfl
  | x :: r, k, h => by
    unfold look
    have hx := h x (by simp)
    rw [if_neg (fun e => by rw [e, ltB_irrefl] at hx; cases hx)]
    exact look_low (fun e he => h e (by simp [he]))
theorem srt_tail {e : Ent} {r : List Ent} (h : Srt (e :: r)) : Srt r ∧ ∀ y ∈ r, ltB e.key y.key = true := by
  unfold Srt at h ⊢
  rw [List.pairwise_cons] at h
  exact ⟨h.2, h.1⟩
theorem look_mem : ∀ {es : List Ent} {e : Ent}, Srt es → e ∈ es → look es e.key = some e
  | x :: r, e, h, he => by
    unfold look
    have ht := srt_tail h
    rcases List.mem_cons.1 he with rfl | he
    · rw [if_pos rfl]
    · have := ht.2 e he
      rw [if_neg (fun q => by rw [q, ltB_irrefl] at this; cases this)]
      exact look_mem ht.1 he
theorem there_look : ∀ {es : List Ent} (k : ByteArray), Srt es → (there es k = true ∧ look es k = some (ent es (pos es k))) ∨ (there es k = false ∧ look es k = none)
  | [], k, _ => by right; exact ⟨by simp [there], rfl⟩
  | e :: r, k, h => by
    have ht := srt_tail h
    cases hl : ltB e.key k
    · rw [there_cons_ge hl]
      unfold look
      by_cases hk : e.key = k
      · left
        rw [if_pos hk]
        have hp : pos (e :: r) k = 0 := by simp [pos, hl]
        rw [hp]
        exact ⟨by simp [hk], rfl⟩
      · right
        rw [if_neg hk]
        refine ⟨by simp [hk], look_low ?_⟩
        intro y hy
        have hy' := ht.2 y hy
        cases hq : ltB k e.key
        · exact absurd (ltB_total hl hq) hk
        · exact ltB_trans hq hy'
    · rw [there_cons_lt hl]
      unfold look
      rw [if_neg (fun q => by rw [q, ltB_irrefl] at hl; cases hl)]
      have ih := there_look k ht.1
      have hp : ent (e :: r) (pos (e :: r) k) = ent r (pos r k) := by simp [pos, hl, ent]
      rw [hp]; exact ih
theorem look_ins : ∀ {es : List Ent} (x : Ent) (k : ByteArray), Srt es → look (ins es x) k = if k = x.key then some x else look es k
  | [], x, k, _ => by
    unfold ins look look
    by_cases h : x.key = k
    · rw [if_pos h, if_pos h.symm]
    · rw [if_neg h, if_neg (fun q => h q.symm)]
  | e :: r, x, k, hs => by
    have ht := srt_tail hs
    unfold ins
    by_cases hl : ltB e.key x.key = true
    · rw [if_pos hl]
      unfold look
      rw [look_ins x k ht.1]
      by_cases hk : e.key = k
      · rw [if_pos hk, if_pos hk, if_neg (fun q => by rw [hk, q, ltB_irrefl] at hl; cases hl)]
      · rw [if_neg hk, if_neg hk]
    · rw [if_neg hl]
      by_cases he : e.key = x.key
      · rw [if_pos he]
        unfold look
        by_cases hk : x.key = k
        · rw [if_pos hk, if_pos hk.symm]
        · rw [if_neg hk, if_neg (fun q => hk q.symm), if_neg (fun q => hk (he ▸ q))]
      · rw [if_neg he]
        by_cases hk : x.key = k
        · rw [if_pos hk.symm, look, if_pos hk]
        · rw [if_neg (fun q => hk q.symm), look, if_neg hk]

def geE (a b : Ent) : Prop := 0 ≤ cmpE a.ver a.org a.val b.ver b.org b.val
theorem cmpI_cases (a b : Int) : (a < b ∧ cmpI a b = -1) ∨ (a = b ∧ cmpI a b = 0) ∨ (b < a ∧ cmpI a b = 1) := by
  unfold cmpI
  by_cases h1 : a < b
  · left; rw [if_pos h1]; exact ⟨h1, rfl⟩
  · rw [if_neg h1]
    by_cases h2 : b < a
    · right; right; rw [if_pos h2]; exact ⟨h2, rfl⟩
    · right; left; rw [if_neg h2]; exact ⟨by omega, rfl⟩
theorem cmpS_cases (a b : ByteArray) : (ltB a b = true ∧ cmpS a b = -1) ∨ (a = b ∧ cmpS a b = 0) ∨ (ltB b a = true ∧ cmpS a b = 1) := by
  unfold cmpS
  cases h1 : ltB a b
  · cases h2 : ltB b a
    · right; left; exact ⟨ltB_total h1 h2, by simp⟩
    · right; right; exact ⟨rfl, by simp⟩
  · left; exact ⟨rfl, by simp⟩
/-- in the words of the order itself -/
theorem cmpE_cases (v1 o1 : Int) (x1 : ByteArray) (v2 o2 : Int) (x2 : ByteArray) :
    (cmpE v1 o1 x1 v2 o2 x2 = -1 ∧ (v1 < v2 ∨ v1 = v2 ∧ (o1 < o2 ∨ o1 = o2 ∧ ltB x1 x2 = true))) ∨ (cmpE v1 o1 x1 v2 o2 x2 = 0 ∧ v1 = v2 ∧ o1 = o2 ∧ x1 = x2) ∨
    (cmpE v1 o1 x1 v2 o2 x2 = 1 ∧ (v2 < v1 ∨ v1 = v2 ∧ (o2 < o1 ∨ o1 = o2 ∧ ltB x2 x1 = true))) := by
  unfold cmpE
  rcases cmpI_cases v1 v2 with ⟨h, e⟩ | ⟨h, e⟩ | ⟨h, e⟩
  · left; rw [e]; exact ⟨by simp, .inl h⟩
  · rcases cmpI_cases o1 o2 with ⟨h', e'⟩ | ⟨h', e'⟩ | ⟨h', e'⟩
    · left; rw [e, e']; exact ⟨by simp, .inr ⟨h, .inl h'⟩⟩
    · rcases cmpS_cases x1 x2 with ⟨q, f⟩ | ⟨q, f⟩ | ⟨q, f⟩
      · left; rw [e, e', f]; exact ⟨by simp, .inr ⟨h, .inr ⟨h', q⟩⟩⟩
      · right; left; rw [e, e', f]; exact ⟨by simp, h, h', q⟩
      · right; right; rw [e, e', f]; exact ⟨by simp, .inr ⟨h, .inr ⟨h', q⟩⟩⟩
    · right; right; rw [e, e']; exact ⟨by simp, .inr ⟨h, .inl h'⟩⟩
  · right; right; rw [e]; exact ⟨by simp, .inl h⟩
theorem geE_refl (a : Ent) : geE a a := by
  unfold geE
  rcases cmpE_cases a.ver a.org a.val a.ver a.org a.val with ⟨h, q⟩ | ⟨h, _⟩ | ⟨h, _⟩
  · rw [ltB_irrefl] at q; simp at q
  · omega
  · omega
theorem geE_trans {a b c : Ent} (h : geE a b) (k : geE b c) : geE a c := by
  unfold geE at *
  rcases cmpE_cases a.ver a.org a.val c.ver c.org c.val with ⟨q, p⟩ | ⟨q, p⟩ | ⟨q, p⟩
  · exfalso
    rcases cmpE_cases a.ver a.org a.val b.ver b.org b.val with ⟨q1, p1⟩ | ⟨q1, p1⟩ | ⟨q1, p1⟩
    · omega
    · obtain ⟨e1, e2, e3⟩ := p1
      rw [e1, e2, e3] at q; omega
    · rcases cmpE_cases b.ver b.org b.val c.ver c.org c.val with ⟨q2, p2⟩ | ⟨q2, p2⟩ | ⟨q2, p2⟩
      · omega
      · obtain ⟨e1, e2, e3⟩ := p2
        rw [e1, e2, e3] at q1; omega
      · rcases p1 with p1 | ⟨p1, p1' | ⟨p1', p1''⟩⟩ <;> rcases p2 with p2 | ⟨p2, p2' | ⟨p2', p2''⟩⟩ <;> rcases p with p | ⟨p, p' | ⟨p', p''⟩⟩ <;> try omega
        have := ltB_trans p2'' p1''
        rw [ltB_asymm p''] at this
        cases this
  · omega
  · omega
theorem mrg_grow : ∀ (b out : List Ent) (ks : List ByteArray) (k : ByteArray) (e g : Ent), Srt out → look out k = some g → geE g e → ∃ g', look (mrg out ks b).1 k = some g' ∧ geE g' e
  | [], out, ks, k, e, g, _, h1, h2 => ⟨g, h1, h2⟩
  | x :: r, out, ks, k, e, g, hs, h1, h2 => by
    unfold mrg
    by_cases hc : comesB out x = true
    · rw [if_pos hc]
      by_cases hk : k = x.key
      · refine mrg_grow r _ _ k e x (ins_srt hs) (by rw [look_ins x k hs, if_pos hk]) ?_
        unfold comesB at hc
        rcases there_look x.key hs with ⟨t1, t2⟩ | ⟨t1, t2⟩
        · rw [if_pos t1] at hc
          rw [← hk, h1] at t2
          cases t2
          rw [← hk] at hc
          have hgt := of_decide_eq_true hc
          exact geE_trans (b := ent out (pos out k)) (by unfold geE; omega) h2
        · rw [← hk, h1] at t2; cases t2
      · exact mrg_grow r _ _ k e g (ins_srt hs) (by rw [look_ins x k hs, if_neg hk]; exact h1) h2
    · rw [if_neg hc]
      exact mrg_grow r _ _ k e g hs h1 h2
theorem mrg_len : ∀ (b out : List Ent) (ks : List ByteArray), out.length ≤ (mrg out ks b).1.length
  | [], out, ks => Nat.le_refl _
  | x :: r, out, ks => by
    unfold mrg
    split
    · have h1 := mrg_len r (ins out x) (ks ++ [x.key])
      have h2 : out.length ≤ (ins out x).length := by rw [ins_len]; split <;> omega
      omega
    · exact mrg_len r out ks
/-- what is merged into nothing is as it was -/
theorem ins_last : ∀ (es : List Ent) (x : Ent), (∀ e ∈ es, ltB e.key x.key = true) → ins es x = es ++ [x] ∧ there es x.key = false
  | [], x, _ => ⟨rfl, by simp [there]⟩
  | e :: r, x, h => by
    have he := h e (by simp)
    have ih := ins_last r x (fun y hy => h y (by simp [hy]))
    refine ⟨?_, by rw [there_cons_lt he]; exact ih.2⟩
    unfold ins
    rw [if_pos he, ih.1]; rfl
theorem mrg_tail : ∀ (b out : List Ent) (ks : List ByteArray), Srt (out ++ b) → (out ++ b).length ≤ 60 → (mrg out ks b).1 = out ++ b
  | [], out, ks, _, _ => by simp [mrg]
  | x :: r, out, ks, hs, hl => by
    have hx : ∀ e ∈ out, ltB e.key x.key = true := by
      intro e he
      unfold Srt at hs
      rw [List.pairwise_append] at hs
      exact hs.2.2 e he x (by simp)
    have hi := ins_last out x hx
    have hc : comesB out x = true := by
      unfold comesB
      rw [hi.2]
      simp at hl ⊢
      omega
    unfold mrg
    rw [if_pos hc, hi.1]
    have := mrg_tail r (out ++ [x]) (ks ++ [x.key]) (by simpa using hs) (by simpa using hl)
    rw [this]; simp
end Go.Proofs.Ytcdobhdbafpkiad.Pl
