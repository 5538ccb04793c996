/-
  Contract: slices.Insert of one route into a row of one's own.
-/
import Derived.Test.YtcdobhdbafpkiaeRib16
namespace Go.Proofs.Ytcdobhdbafpkiae
open Go.RowKit

def rtObj (x : Pl.RH) : Obj := .cells #[.int .i64 x.p.1, .int .i64 x.p.2, .bool x.here, .int .i64 x.cost, .slice x.ha x.hl x.hc] 30

theorem overlapsNo (w : World) (g o lb cb : Nat) (L : List Value) (x : Pl.RH) (hg : w.heap[g]? = some (.cells L.toArray 30 (0, 0))) (hL : L.length ≠ 0) :
    (callFunc 46 #[.slice (some ⟨w.heap.size, 0, none⟩) 1 1, .slice (some ⟨g, o, none⟩) lb cb]).run Try.prog (w.alloc (rtObj x)) = .ok (.value (.bool false)) (w.alloc (rtObj x)) := by
  have hlt := blockLt hg
  have hnew : (w.alloc (rtObj x)).heap[w.heap.size]? = some (rtObj x) := heapNewZ w _
  have hgA : (w.alloc (rtObj x)).heap[g]? = some (.cells L.toArray 30 (0, 0)) := by rw [Below.heap_alloc _ _ _ hlt]; exact hg
  rw [run_callFunc_extern Try.func46 (by kernel_rfl) (by kernel_rfl) (by kernel_rfl) (e := Extern.SlicesOverlaps.overlaps #[22, 22] #[4]) (by kernel_rfl),
    Lib.run_overlaps_apart (w.alloc (rtObj x)) 22 4 30 Try.underlying22 5 Try.sizeOf30 ⟨w.heap.size, 0, none⟩ ⟨g, o, none⟩ 1 1 lb cb (by show w.heap.size ≠ g; omega) 30 30 5 L.length
      (by simp only [World.shape?, hnew]; rfl) (by simp only [World.shape?, hgA]; simp) hL (by simp only [World.frozen?, hnew]; rfl) (by simp only [World.frozen?, hnew]; rfl)]
  rfl

set_option maxHeartbeats 2000000 in
theorem Insert_end (base : Nat) (v : Value) (hs : List Pl.RH) (x : Pl.RH) (w : World) (hown : OwnR w base v hs) (hbase : base ≤ w.heap.size) (hb : hs.length ≤ 2000000) :
    Calls Try.prog 42 #[v, .int .i64 hs.length, .slice (some ⟨w.heap.size, 0, none⟩) 1 1] (w.alloc (rtObj x)) fun e w' =>
      ∃ v', e = .returned v' ∧ OwnR w' base v' (hs ++ [x]) ∧ (w.alloc (rtObj x)).grownBy w' v.ownBlock ∧ Below base w w' := by
  have HO := hid hown
  obtain ⟨a, cap, rfl, hrow, _⟩ := hown.rows
  have hc := hrow.2.1
  have hm := hrow.2.2.1
  have hnil := hrow.2.2.2.1
  unfold maxLen at hm
  clear hrow hown
  obtain ⟨n, HN⟩ : ∃ n, Hid (hs.length = n) := ⟨_, rfl⟩
  rw [HN.out] at hc hb HO ⊢
  have HD : Hid (rtObj x = .cells #[.int .i64 x.p.1, .int .i64 x.p.2, .bool x.here, .int .i64 x.cost, .slice x.ha x.hl x.hc] 30) := hid rfl
  rw [HD.out]
  obtain ⟨row, HRW⟩ : ∃ row, Hid ((Value.slice a n cap).ownBlock = row) := ⟨_, rfl⟩
  rw [HRW.out]
  go_enter Try.func42, Try.ntmps42
  go_wp2_with (at_builtin; refine append_rt rfl (.tmp 23) (.tmp 24) rfl base (.slice a n cap) hs x rfl HO.out hbase rfl (by rw [HN.out]; omega) ?_; intro v' w' hown' hg' hb'; have HG := hid hg'; rw [HRW.out] at HG; clear hg')
  all_goals
    go_ret
    exact ⟨_, rfl, hown', HG.out, hb'⟩

theorem wpList_zeros {w : World} {ops : Array Oper} {rest : List Oper} {o : Oper} {a : Act} {Q : Exit → Act → World → Prop} (hgd : o.guard = none) (s x : Operand)
    (ho : o.op = .call { callee := .builtin .append, args := #[s, x], argTypes := #[22, 3] })
    (g i cap k : Nat) (hs : a.eval s = .slice (some ⟨g, 0, none⟩) i cap) (kv : Int) (hx : a.eval x = .int .i64 kv) (hkv : kv = (k : Int)) (A : List Value) (hA : A.length = i * 5) (hsrc : ∀ j u, A[j]? = some u → w.cell? ⟨g, j, none⟩ = some u) (h0 : 0 < k) (hroom : cap < i + k) (hbig : i + k ≤ 3000000)
    (h : ∀ w' G Z, w'.heap[w.heap.size]? = some (.cells (A ++ Z).toArray 30 (0, 0)) → A.length + Z.length = G * 5 → i + k ≤ G → G ≤ maxLen → Below w.heap.size w w' → wpList Try.prog ops Q rest (a.put o.dst (.slice (some ⟨w.heap.size, 0, none⟩) (i + k) G)) w') : wpList Try.prog ops Q (o :: rest) a w := by
  obtain ⟨i0, hi0, hz0, hz1, hz2⟩ := partsOf infoRoute
  have hold : (Builtin.firstCells i0.size i (.slice (some ⟨g, 0, none⟩) i cap)).run Try.prog w.drew = .ok A.toArray w.drew := by
    rw [hz1]
    exact run_firstCells_some w.drew 5 i ⟨g, 0, none⟩ i cap A hA (fun j u hj => by rw [add_none, Nat.zero_add]; exact hsrc j u hj)
  have hr := Lib.run_append_grow_zeros w 22 3 o.type 30 i0 _ .i64 .i64 Try.underlying22 Try.underlying3 hi0 hz0 (some ⟨g, 0, none⟩) i cap A hold k h0 (by omega) hroom (by omega) (by rw [hz2]; omega) (by rw [hz2]; exact growslice_fits hroom (by omega))
  subst hkv
  have hGn := grownCap_ge w (i + k) cap 30
  have hGm := grownCap_le_maxLen w (i + k) cap 30 (by unfold maxLen; omega)
  generalize grownCap w (i + k) cap 30 = G at *
  refine Lib.wpList_append_run _ hgd s x _ _ ho _ _ hs hx _ _ hr ?_
  refine h _ G (Builtin.zeroCells (Value.agg #[.int .i64 0, .int .i64 0, .bool false, .int .i64 0, .slice none 0 0]).cells k ++ Builtin.zeroCells (Value.agg #[.int .i64 0, .int .i64 0, .bool false, .int .i64 0, .slice none 0 0]).cells (G - (i + k))).toList ?_ ?_ hGn hGm ?_
  · have := heapNewZ w.drew (.cells (A.toArray ++ Builtin.zeroCells (Value.agg #[.int .i64 0, .int .i64 0, .bool false, .int .i64 0, .slice none 0 0]).cells k ++ Builtin.zeroCells (Value.agg #[.int .i64 0, .int .i64 0, .bool false, .int .i64 0, .slice none 0 0]).cells (G - (i + k))) 30)
    rw [show w.drew.heap.size = w.heap.size from rfl] at this
    rw [this]
    congr 2
    apply Array.ext'
    simp
  · simp [Builtin.zeroCells, Value.cells, hA]
    omega
  · exact (Below.refl _ _).drew.alloc (Nat.le_refl _) _
end Go.Proofs.Ytcdobhdbafpkiae
