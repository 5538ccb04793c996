/-
  Plain: sides that may be told are few and small; contract: the document's AdjText.
-/
import Derived.Test.YtcdobhdbafpkiadDoorShow2
import Derived.Test.YtcdobhdbafpkiadDoorDecR
import Derived.Test.YtcdobhdbafpkiadDoorAdj
import Derived.Test.YtcdobhdbafpkiadDoorQuiet
namespace Go.Proofs.YtcdobhdbafpkiadDoor
open Go.RowKit
set_option maxRecDepth 20000

theorem Pl.adjN_ok (ps : List (Int × Int)) : ∀ (n i : Nat), i + n = ps.length → Pl.adjN ps n i = 0 → ∀ j, i ≤ j → j < ps.length → Pl.sideB (Pl.pr ps j).1 (Pl.pr ps j).2 = true ∧ (0 < j → (Pl.pr ps (j - 1)).1 < (Pl.pr ps j).1)
  | 0, i, h, _, j, h1, h2 => by omega
  | n + 1, i, h, h0, j, h1, h2 => by
    rw [Pl.adjN] at h0
    by_cases g1 : Pl.sideB (Pl.pr ps i).1 (Pl.pr ps i).2 = true
    · rw [if_pos g1] at h0
      by_cases g2 : 0 < i ∧ (Pl.pr ps i).1 ≤ (Pl.pr ps (i - 1)).1
      · rw [if_pos g2] at h0; cases h0
      · rw [if_neg g2] at h0
        rcases Nat.eq_or_lt_of_le h1 with e | h1
        · subst e
          exact ⟨g1, fun hp => by omega⟩
        · exact Pl.adjN_ok ps n (i + 1) (by omega) h0 j h1 h2
    · rw [if_neg g1] at h0; cases h0
theorem Pl.adjF_ok {ps : List (Int × Int)} (h : Pl.adjF ps = 0) : ps.length ≤ 12 ∧ ∀ p ∈ ps, Pl.small p := by
  have hk := Pl.adjN_ok ps ps.length 0 (by omega) h
  have hs : ∀ j, j < ps.length → 0 ≤ (Pl.pr ps j).1 ∧ (Pl.pr ps j).1 ≤ 11 ∧ 1 ≤ (Pl.pr ps j).2 ∧ (Pl.pr ps j).2 ≤ 1000 := by
    intro j hj
    have := (hk j (by omega) hj).1
    unfold Pl.sideB at this
    simp at this
    omega
  have hj : ∀ j, j < ps.length → (j : Int) ≤ (Pl.pr ps j).1 := by
    intro j
    induction j with
    | zero => intro h; have := hs 0 h; omega
    | succ j ih =>
      intro h
      have h1 := ih (by omega)
      have h2 := (hk (j + 1) (by omega) h).2 (by omega)
      simp at h2
      omega
  refine ⟨?_, ?_⟩
  · rcases Nat.lt_or_ge 12 ps.length with h | h
    · have h1 := hj 12 h
      have h2 := hs 12 h
      omega
    · exact h
  · intro p hp
    obtain ⟨i, hi, rfl⟩ := List.getElem_of_mem hp
    have := hs i hi
    rw [Pl.pr_eq ps i hi] at this
    exact ⟨this.1, by omega, by omega, by omega⟩

theorem Pl.join_snoc (xs : List (List UInt8)) (y sep : List UInt8) (h : xs ≠ []) : Lib.join (xs ++ [y]) sep = Lib.join xs sep ++ sep ++ y := by
  cases xs with
  | nil => exact absurd rfl h
  | cons x r =>
    rw [List.cons_append, Lib.join_cons, Lib.join_cons]
    simp [Lib.joinTail, List.append_assoc]
theorem Pl.ba_eq {a b : ByteArray} (h : a.data.toList = b.data.toList) : a = b := by
  apply ByteArray.ext; apply Array.toList_inj.1; exact h
theorem Pl.showT_list (m : ByteArray) (ps : List (Int × Int)) : (Pl.showT m ps).data.toList = Lib.join ((ps.map (Pl.sideT m)).map (·.data.toList)) [44] := by simp [Pl.showT]
theorem Pl.showT_nil (m : ByteArray) : Pl.showT m [] = ⟨#[]⟩ := rfl
theorem Pl.showT_one (m : ByteArray) (p : Int × Int) : Pl.showT m [p] = Pl.sideT m p := by
  apply Pl.ba_eq
  rw [Pl.showT_list]
  simp [Lib.join_one]
theorem Pl.showT_snoc (m : ByteArray) (ps : List (Int × Int)) (p : Int × Int) (h : ps ≠ []) : Pl.showT m (ps ++ [p]) = Pl.showT m ps ++ ⟨#[44]⟩ ++ Pl.sideT m p := by
  apply Pl.ba_eq
  rw [Pl.showT_list, List.map_append, List.map_append]
  rw [show List.map (fun x : ByteArray => x.data.toList) (List.map (Pl.sideT m) [p]) = [(Pl.sideT m p).data.toList] from rfl, Pl.join_snoc _ _ _ (by simpa using h), ← Pl.showT_list]
  simp [ByteArray.data_append]
theorem Pl.showT_size (m : ByteArray) (ps : List (Int × Int)) (hs : ∀ p ∈ ps, Pl.small p) (hm : m.size ≤ 100) : (Pl.showT m ps).size ≤ ps.length * 143 := by
  have h : (Pl.showT m ps).size = (Pl.showT m ps).data.toList.length := by simp
  rw [h, Pl.showT_list]
  refine Nat.le_trans (Pl.join_le 142 _ _ ?_) (by simp)
  intro x hx
  simp only [List.mem_map] at hx
  obtain ⟨y, ⟨p, hp, rfl⟩, rfl⟩ := hx
  have := Pl.sideT_size m p (hs p hp)
  have e : (Pl.sideT m p).data.toList.length = (Pl.sideT m p).size := by simp
  omega
/-- what ShowAdj answers -/
def Pl.adjText (d : Bool) (ps : List (Int × Int)) : ByteArray := if Pl.adjF ps = 0 then (if d then ⟨#[33]⟩ ++ Pl.showT ⟨#[61]⟩ ps else Pl.showT ⟨#[61]⟩ ps) else ⟨#[]⟩

end Go.Proofs.YtcdobhdbafpkiadDoor
