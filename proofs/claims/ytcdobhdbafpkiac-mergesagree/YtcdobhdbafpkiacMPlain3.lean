/-
  Plain: in what order stores are merged does not matter, nor how often; what keys are told; no program in sight.
-/
import Derived.Test.YtcdobhdbafpkiacMPlain2
namespace Go.Proofs.Ytcdobhdbafpkiac.Pl

/-- two stores merged -/
def mg (a b : List Ent) : List Ent := (mrg a [] b).1
theorem look_at {es : List Ent} {k : ByteArray} : ∀ e, look es k = some e → e.key = k := fun _ h => (look_key h).1
theorem mg_srt {a b : List Ent} (ha : Good a) (hb : Good b) : Good (mg a b) := mrg_good _ _ _ ha hb.2.1
theorem mg_look {a b : List Ent} (ha : Good a) (hb : Good b) (hl : a.length + b.length ≤ 60) (k : ByteArray) : look (mg a b) k = mx (look a k) (look b k) := mrg_look b a [] k ha.2.2 hb.2.2 hl
theorem mg_len (a b : List Ent) : (mg a b).length ≤ a.length + b.length := mrg_len_le _ _ _
theorem mg_comm {a b : List Ent} (ha : Good a) (hb : Good b) (hl : a.length + b.length ≤ 60) : mg a b = mg b a :=
  look_ext (mg_srt ha hb).2.2 (mg_srt hb ha).2.2 (fun k => by rw [mg_look ha hb hl, mg_look hb ha (by omega), mx_comm look_at look_at])
theorem mg_idem {a : List Ent} (ha : Good a) (hl : a.length + a.length ≤ 60) : mg a a = a :=
  look_ext (mg_srt ha ha).2.2 ha.2.2 (fun k => by rw [mg_look ha ha hl, mx_idem])
theorem mg_assoc {a b c : List Ent} (ha : Good a) (hb : Good b) (hc : Good c) (hl : a.length + b.length + c.length ≤ 60) : mg (mg a b) c = mg a (mg b c) := by
  have h1 := mg_len a b
  have h2 := mg_len b c
  refine look_ext (mg_srt (mg_srt ha hb) hc).2.2 (mg_srt ha (mg_srt hb hc)).2.2 (fun k => ?_)
  rw [mg_look (mg_srt ha hb) hc (by omega), mg_look ha hb (by omega), mg_look ha (mg_srt hb hc) (by omega), mg_look hb hc (by omega)]
  exact mx_assoc look_at look_at look_at
theorem mg_again {a b : List Ent} (ha : Good a) (hb : Good b) (hl : a.length + b.length + b.length ≤ 60) : mg (mg a b) b = mg a b := by
  rw [mg_assoc ha hb hb hl, mg_idem hb (by omega)]

/-- a key that is told: what is there now is of the second store, and above what was there -/
theorem mrg_keys : ∀ (b out : List Ent) (ks : List ByteArray) (k : ByteArray), Srt out → Srt b → k ∈ (mrg out ks b).2 → k ∈ ks ∨ ∃ x, x ∈ b ∧ x.key = k ∧ (look out k = none ∨ ∃ g, look out k = some g ∧ gt x g)
  | [], out, ks, k, _, _, h => .inl h
  | x :: r, out, ks, k, ho, hb, h => by
    have tb := srt_tail hb
    rw [mrg] at h
    by_cases hc : comesB out x = true
    · rw [if_pos hc] at h
      rcases mrg_keys r _ _ k (ins_srt ho) tb.1 h with h | ⟨y, hy, hyk, hg⟩
      · rcases List.mem_append.1 h with h | h
        · exact .inl h
        · right
          have hk := List.mem_singleton.1 h
          refine ⟨x, by simp, hk.symm, ?_⟩
          unfold comesB at hc
          rcases there_look x.key ho with ⟨t1, t2⟩ | ⟨t1, t2⟩
          · rw [if_pos t1] at hc
            right
            rw [hk]
            exact ⟨_, t2, (cmp_gt _ _).1 (of_decide_eq_true hc)⟩
          · left; rw [hk]; exact t2
      · right
        refine ⟨y, by simp [hy], hyk, ?_⟩
        have hne : ¬ k = x.key := by
          intro e
          have := tb.2 y hy
          rw [hyk, e, ltB_irrefl] at this
          cases this
        rw [look_ins x k ho, if_neg hne] at hg
        exact hg
    · rw [if_neg hc] at h
      rcases mrg_keys r _ _ k ho tb.1 h with h | ⟨y, hy, hyk, hg⟩
      · exact .inl h
      · exact .inr ⟨y, by simp [hy], hyk, hg⟩
theorem mg_told {a b : List Ent} (ha : Good a) (hb : Good b) (hl : a.length + b.length ≤ 60) {k : ByteArray} (h : k ∈ (mrg a [] b).2) : ∃ p, look (mg a b) k = some p ∧ ∀ e ∈ a, ¬ p = e := by
  rcases mrg_keys b a [] k ha.2.2 hb.2.2 h with h | ⟨x, hx, hk, hg⟩
  · cases h
  · refine ⟨x, ?_, ?_⟩
    · have hy := look_mem hb.2.2 hx
      rw [hk] at hy
      rw [mg_look ha hb hl, hy]
      rcases hg with hg | ⟨g, hg, hgt⟩
      · rw [hg]; rfl
      · rw [hg]
        rcases mx_some g x with ⟨_, e⟩ | ⟨q, _⟩
        · exact e
        · exact absurd hgt q
    · intro e he hxe
      subst hxe
      have hy := look_mem ha.2.2 he
      rw [hk] at hy
      rcases hg with hg | ⟨g, hg, hgt⟩
      · rw [hg] at hy; cases hy
      · rw [hg] at hy; cases hy; exact gt_asymm hgt hgt
theorem mg_none {a b : List Ent} (ha : Good a) (hb : Good b) (hl : a.length + b.length ≤ 60) : (mrg (mg a b) [] b).2 = [] := by
  rw [List.eq_nil_iff_forall_not_mem]
  intro k h
  rcases mrg_keys b (mg a b) [] k (mg_srt ha hb).2.2 hb.2.2 h with h | ⟨x, hx, hk, hg⟩
  · cases h
  · have hy := look_mem hb.2.2 hx
    rw [hk] at hy
    rw [mg_look ha hb hl, hy] at hg
    cases hq : look a k with
    | none =>
      rw [hq] at hg
      rcases hg with hg | ⟨g, hg, hgt⟩
      · cases hg
      · cases hg; exact gt_asymm hgt hgt
    | some q =>
      rw [hq] at hg
      rcases mx_some q x with ⟨p, e⟩ | ⟨p, e⟩
      · rw [e] at hg
        rcases hg with hg | ⟨g, hg, hgt⟩
        · cases hg
        · cases hg; exact gt_asymm hgt hgt
      · rw [e] at hg
        rcases hg with hg | ⟨g, hg, hgt⟩
        · cases hg
        · cases hg; exact p hgt
end Go.Proofs.Ytcdobhdbafpkiac.Pl
