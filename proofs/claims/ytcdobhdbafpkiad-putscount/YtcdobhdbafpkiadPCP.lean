/-
  Plain: what a put changes, and what it leaves.
-/
import Derived.Test.YtcdobhdbafpkiadMPlain2
import Derived.Test.YtcdobhdbafpkiadPC3
import Derived.Test.YtcdobhdbafpkiadPut
import Derived.Test.YtcdobhdbafpkiadGet
import Derived.Test.YtcdobhdbafpkiadTells
namespace Go.Proofs.Ytcdobhdbafpkiad
open Go.RowKit
set_option maxRecDepth 20000

theorem Pl.rem_ins : ∀ (es : List Pl.Ent) (x : Pl.Ent), Pl.Srt es → Pl.rem (Pl.ins es x) x.key = Pl.rem es x.key
  | [], x, _ => by simp [Pl.ins, Pl.rem]
  | e :: r, x, h => by
    obtain ⟨h1, h2⟩ := Pl.srt_tail h
    have ih := Pl.rem_ins r x h1
    unfold Pl.rem at ih ⊢
    rw [Pl.ins]
    split
    · rw [List.filter_cons, List.filter_cons, ih]
    · split
      · rename_i _ hk
        rw [List.filter_cons, List.filter_cons]; simp [hk]
      · rw [List.filter_cons]; simp
theorem Pl.look_none_there {es : List Pl.Ent} {k : ByteArray} (h : Pl.Srt es) (ht : Pl.there es k = false) : Pl.look es k = none := by
  rcases Pl.there_look k h with ⟨h1, _⟩ | ⟨_, h2⟩
  · rw [ht] at h1; cases h1
  · exact h2
/-- a put into a store of small versions: it may be, what it makes, what is found there, what it leaves, and that nothing is lost -/
theorem Pl.put_facts {xs : List Pl.Ent} {key val : ByteArray} {n : Int} (hg : Pl.Good xs) (hv : ∀ y ∈ xs, y.ver ≤ 4) (hl : xs.length ≤ 20) (hn : 0 ≤ n ∧ n ≤ 11) (hk : Pl.keyB key = true) (hx : val.size ≤ 120) :
    Pl.putC xs n key val = 0 ∧ (∃ ys, Pl.putO xs n key val = ys ∧ Pl.Good ys ∧ ys.length ≤ 21 ∧ Pl.gotC ys key = 0 ∧ Pl.gotE ys key = ⟨key, Pl.putV xs key, n, val⟩ ∧ Pl.rem ys key = Pl.rem xs key ∧ Pl.mergeO xs ys = ys) ∧
    ((Pl.gotC xs key = 0 ∧ Pl.putV xs key = (Pl.gotE xs key).ver + 1) ∨ (Pl.gotC xs key = 6 ∧ Pl.putV xs key = 1)) ∧ 1 ≤ Pl.putV xs key ∧ Pl.putV xs key ≤ 5 := by
  have hf := (Pl.good_iff xs).2 hg
  have hsrt := hg.2.2
  have hgot : (Pl.gotC xs key = 0 ∧ Pl.putV xs key = (Pl.gotE xs key).ver + 1) ∨ (Pl.gotC xs key = 6 ∧ Pl.putV xs key = 1) := by
    unfold Pl.gotC Pl.gotE Pl.putV
    rw [if_pos hf, if_pos hf]
    cases Pl.there xs key
    · exact .inr ⟨rfl, rfl⟩
    · exact .inl ⟨rfl, rfl⟩
  have hpv : 1 ≤ Pl.putV xs key ∧ Pl.putV xs key ≤ 5 := by
    unfold Pl.putV
    rcases Pl.there_look key hsrt with ⟨h1, h2⟩ | ⟨h1, _⟩
    · rw [h1]
      obtain ⟨_, hm⟩ := Pl.look_key h2
      have h4 := hv _ hm
      have hmay := hg.2.1 _ hm
      unfold Pl.Ent.may Pl.entB at hmay
      simp only [Bool.and_eq_true, decide_eq_true_eq] at hmay
      simp only [if_true]
      omega
    · rw [h1]; simp
  have hc : Pl.putC xs n key val = 0 := by
    unfold Pl.putC
    rw [if_neg (by simp [hf]), if_neg (by simp; omega), if_neg (by simp [hk]), if_neg (by omega), if_neg (by omega), if_neg (by omega)]
  obtain ⟨x, hxd⟩ : ∃ x : Pl.Ent, x = ⟨key, Pl.putV xs key, n, val⟩ := ⟨_, rfl⟩
  have hxk : x.key = key := by rw [hxd]
  have hmay : x.may = true := by
    rw [hxd]
    unfold Pl.Ent.may Pl.entB
    simp only [hk, Bool.true_and, Bool.and_eq_true, decide_eq_true_eq]
    exact ⟨⟨⟨hpv.1, by omega⟩, hn⟩, hx⟩
  have hgt : ∀ g, Pl.look xs key = some g → Pl.gt x g := by
    intro g hg'
    rcases Pl.there_look key hsrt with ⟨h1, h2⟩ | ⟨_, h2⟩
    · rw [h2] at hg'
      cases hg'
      refine .inl ?_
      rw [hxd]
      show _ < Pl.putV xs key
      unfold Pl.putV; rw [h1]; simp only [if_true]; omega
    · rw [h2] at hg'; cases hg'
  have hcm : Pl.comesB xs x = true := by
    unfold Pl.comesB
    rw [hxk]
    rcases Pl.there_look key hsrt with ⟨h1, h2⟩ | ⟨h1, _⟩
    · rw [h1]
      simp only [if_true, decide_eq_true_eq]
      exact (Pl.cmp_gt x _).2 (hgt _ h2)
    · rw [h1]; simp; omega
  have hgy := Pl.ins_good hg hmay hcm
  have ho : Pl.putO xs n key val = Pl.ins xs x := by unfold Pl.putO; rw [if_pos hc, hxd]
  have hly : (Pl.ins xs x).length ≤ 21 := by have := (Pl.ins_len_le xs x).2; omega
  have hfy := (Pl.good_iff _).2 hgy
  have hlk : Pl.look (Pl.ins xs x) key = some x := by rw [Pl.look_ins x key hsrt, if_pos hxk.symm]
  have hth : Pl.there (Pl.ins xs x) key = true ∧ Pl.ent (Pl.ins xs x) (Pl.pos (Pl.ins xs x) key) = x := by
    rcases Pl.there_look key hgy.2.2 with ⟨h1, h2⟩ | ⟨_, h2⟩
    · rw [h2] at hlk; exact ⟨h1, Option.some.inj hlk⟩
    · rw [h2] at hlk; cases hlk
  have hmrg := (Pl.merge_good hg hgy).2
  refine ⟨hc, ⟨Pl.ins xs x, ho, hgy, hly, ?_, ?_, ?_, ?_⟩, hgot, hpv⟩
  · unfold Pl.gotC; rw [if_pos hfy, hth.1]; rfl
  · unfold Pl.gotE; rw [if_pos hfy, hth.1]; simp only [if_true]; rw [hth.2, hxd]
  · rw [← hxk]; exact Pl.rem_ins xs x hsrt
  · rw [hmrg.1]
    have hs' : Pl.Srt (Pl.mrg xs [] (Pl.ins xs x)).1 := by rw [← hmrg.1]; exact hmrg.2.2.2
    refine Pl.look_ext hs' hgy.2.2 (fun k => ?_)
    rw [Pl.mrg_look _ _ _ k hsrt hgy.2.2 (by omega), Pl.look_ins x k hsrt]
    by_cases e : k = x.key
    · rw [if_pos e, e, hxk]
      cases hq : Pl.look xs key with
      | none => rfl
      | some g =>
        rcases Pl.mx_some g x with ⟨_, h⟩ | ⟨h, _⟩
        · exact h
        · exact absurd (hgt g hq) h
    · rw [if_neg e]; exact Pl.mx_idem _
end Go.Proofs.Ytcdobhdbafpkiad
