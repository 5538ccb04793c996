/-
  Contracts and facts that the proof rests on, put together out of several texts.
-/
import Derived.Test.YtcdobhdbafpkiadDoorAll1
import Derived.Lib.AppendStr
import Derived.Laws.AppendOwnNone
import Derived.Test.YtcdobhdbafpkiadDoorAll5
import Derived.Test.YtcdobhdbafpkiadDoorAll3
/-
  Plain: what is found in a sorted list, and in what is merged; no program in sight.
-/
namespace Go.Proofs.YtcdobhdbafpkiadDoor.Pl

/-- the entry with a key -/
def look : List Ent → ByteArray → Option Ent
  | [], _ => none
  | e :: r, k => if e.key = k then some e else look r k
theorem look_key : ∀ {es : List Ent} {k : ByteArray} {e : Ent}, look es k = some e → e.key = k ∧ e ∈ es
  | [], _, _, h => by cases h
  | x :: r, k, e, h => by
    unfold look at h
    by_cases hx : x.key = k
    · rw [if_pos hx] at h; cases h; exact ⟨hx, by simp⟩
    · rw [if_neg hx] at h; have := look_key h; exact ⟨this.1, by simp [this.2]⟩
theorem look_low : ∀ {es : List Ent} {k : ByteArray}, (∀ e ∈ es, ltB k e.key = true) → look es k = none
  | [], _, _ => rfl
  | x :: r, k, h => by
    unfold look
    have hx := h x (by simp)
    rw [if_neg (fun e => by rw [e, ltB_irrefl] at hx; cases hx)]
    exact look_low (fun e he => h e (by simp [he]))
theorem srt_tail {e : Ent} {r : List Ent} (h : Srt (e :: r)) : Srt r ∧ ∀ y ∈ r, ltB e.key y.key = true := by
  unfold Srt at h ⊢
  rw [List.pairwise_cons] at h
  exact ⟨h.2, h.1⟩
theorem look_mem : ∀ {es : List Ent} {e : Ent}, Srt es → e ∈ es → look es e.key = some e
  | x :: r, e, h, he => by
    unfold look
    have ht := srt_tail h
    rcases List.mem_cons.1 he with rfl | he
    · rw [if_pos rfl]
    · have := ht.2 e he
      rw [if_neg (fun q => by rw [q, ltB_irrefl] at this; cases this)]
      exact look_mem ht.1 he
theorem there_look : ∀ {es : List Ent} (k : ByteArray), Srt es → (there es k = true ∧ look es k = some (ent es (pos es k))) ∨ (there es k = false ∧ look es k = none)
  | [], k, _ => by right; exact ⟨by simp [there], rfl⟩
  | e :: r, k, h => by
    have ht := srt_tail h
    cases hl : ltB e.key k
    · rw [there_cons_ge hl]
      unfold look
      by_cases hk : e.key = k
      · left
        rw [if_pos hk]
        have hp : pos (e :: r) k = 0 := by simp [pos, hl]
        rw [hp]
        exact ⟨by simp [hk], rfl⟩
      · right
        rw [if_neg hk]
        refine ⟨by simp [hk], look_low ?_⟩
        intro y hy
        have hy' := ht.2 y hy
        cases hq : ltB k e.key
        · exact absurd (ltB_total hl hq) hk
        · exact ltB_trans hq hy'
    · rw [there_cons_lt hl]
      unfold look
      rw [if_neg (fun q => by rw [q, ltB_irrefl] at hl; cases hl)]
      have ih := there_look k ht.1
      have hp : ent (e :: r) (pos (e :: r) k) = ent r (pos r k) := by simp [pos, hl, ent]
      rw [hp]; exact ih
theorem look_ins : ∀ {es : List Ent} (x : Ent) (k : ByteArray), Srt es → look (ins es x) k = if k = x.key then some x else look es k
  | [], x, k, _ => by
    unfold ins look look
    by_cases h : x.key = k
    · rw [if_pos h, if_pos h.symm]
    · rw [if_neg h, if_neg (fun q => h q.symm)]
  | e :: r, x, k, hs => by
    have ht := srt_tail hs
    unfold ins
    by_cases hl : ltB e.key x.key = true
    · rw [if_pos hl]
      unfold look
      rw [look_ins x k ht.1]
      by_cases hk : e.key = k
      · rw [if_pos hk, if_pos hk, if_neg (fun q => by rw [hk, q, ltB_irrefl] at hl; cases hl)]
      · rw [if_neg hk, if_neg hk]
    · rw [if_neg hl]
      by_cases he : e.key = x.key
      · rw [if_pos he]
        unfold look
        by_cases hk : x.key = k
        · rw [if_pos hk, if_pos hk.symm]
        · rw [if_neg hk, if_neg (fun q => hk q.symm), if_neg (fun q => hk (he ▸ q))]
      · rw [if_neg he]
        by_cases hk : x.key = k
        · rw [if_pos hk.symm, look, if_pos hk]
        · rw [if_neg (fun q => hk q.symm), look, if_neg hk]

def geE (a b : Ent) : Prop := 0 ≤ cmpE a.ver a.org a.val b.ver b.org b.val
theorem cmpI_cases (a b : Int) : (a < b ∧ cmpI a b = -1) ∨ (a = b ∧ cmpI a b = 0) ∨ (b < a ∧ cmpI a b = 1) := by
  unfold cmpI
  by_cases h1 : a < b
  · left; rw [if_pos h1]; exact ⟨h1, rfl⟩
  · rw [if_neg h1]
    by_cases h2 : b < a
    · right; right; rw [if_pos h2]; exact ⟨h2, rfl⟩
    · right; left; rw [if_neg h2]; exact ⟨by omega, rfl⟩
theorem cmpS_cases (a b : ByteArray) : (ltB a b = true ∧ cmpS a b = -1) ∨ (a = b ∧ cmpS a b = 0) ∨ (ltB b a = true ∧ cmpS a b = 1) := by
  unfold cmpS
  cases h1 : ltB a b
  · cases h2 : ltB b a
    · right; left; exact ⟨ltB_total h1 h2, by simp⟩
    · right; right; exact ⟨rfl, by simp⟩
  · left; exact ⟨rfl, by simp⟩
/-- in the words of the order itself -/
theorem cmpE_cases (v1 o1 : Int) (x1 : ByteArray) (v2 o2 : Int) (x2 : ByteArray) :
    (cmpE v1 o1 x1 v2 o2 x2 = -1 ∧ (v1 < v2 ∨ v1 = v2 ∧ (o1 < o2 ∨ o1 = o2 ∧ ltB x1 x2 = true))) ∨ (cmpE v1 o1 x1 v2 o2 x2 = 0 ∧ v1 = v2 ∧ o1 = o2 ∧ x1 = x2) ∨
    (cmpE v1 o1 x1 v2 o2 x2 = 1 ∧ (v2 < v1 ∨ v1 = v2 ∧ (o2 < o1 ∨ o1 = o2 ∧ ltB x2 x1 = true))) := by
  unfold cmpE
  rcases cmpI_cases v1 v2 with ⟨h, e⟩ | ⟨h, e⟩ | ⟨h, e⟩
  · left; rw [e]; exact ⟨by simp, .inl h⟩
  · rcases cmpI_cases o1 o2 with ⟨h', e'⟩ | ⟨h', e'⟩ | ⟨h', e'⟩
    · left; rw [e, e']; exact ⟨by simp, .inr ⟨h, .inl h'⟩⟩
    · rcases cmpS_cases x1 x2 with ⟨q, f⟩ | ⟨q, f⟩ | ⟨q, f⟩
      · left; rw [e, e', f]; exact ⟨by simp, .inr ⟨h, .inr ⟨h', q⟩⟩⟩
      · right; left; rw [e, e', f]; exact ⟨by simp, h, h', q⟩
      · right; right; rw [e, e', f]; exact ⟨by simp, .inr ⟨h, .inr ⟨h', q⟩⟩⟩
    · right; right; rw [e, e']; exact ⟨by simp, .inr ⟨h, .inl h'⟩⟩
  · right; right; rw [e]; exact ⟨by simp, .inl h⟩
theorem geE_refl (a : Ent) : geE a a := by
  unfold geE
  rcases cmpE_cases a.ver a.org a.val a.ver a.org a.val with ⟨h, q⟩ | ⟨h, _⟩ | ⟨h, _⟩
  · rw [ltB_irrefl] at q; simp at q
  · omega
  · omega
theorem geE_trans {a b c : Ent} (h : geE a b) (k : geE b c) : geE a c := by
  unfold geE at *
  rcases cmpE_cases a.ver a.org a.val c.ver c.org c.val with ⟨q, p⟩ | ⟨q, p⟩ | ⟨q, p⟩
  · exfalso
    rcases cmpE_cases a.ver a.org a.val b.ver b.org b.val with ⟨q1, p1⟩ | ⟨q1, p1⟩ | ⟨q1, p1⟩
    · omega
    · obtain ⟨e1, e2, e3⟩ := p1
      rw [e1, e2, e3] at q; omega
    · rcases cmpE_cases b.ver b.org b.val c.ver c.org c.val with ⟨q2, p2⟩ | ⟨q2, p2⟩ | ⟨q2, p2⟩
      · omega
      · obtain ⟨e1, e2, e3⟩ := p2
        rw [e1, e2, e3] at q1; omega
      · rcases p1 with p1 | ⟨p1, p1' | ⟨p1', p1''⟩⟩ <;> rcases p2 with p2 | ⟨p2, p2' | ⟨p2', p2''⟩⟩ <;> rcases p with p | ⟨p, p' | ⟨p', p''⟩⟩ <;> try omega
        have := ltB_trans p2'' p1''
        rw [ltB_asymm p''] at this
        cases this
  · omega
  · omega
theorem mrg_grow : ∀ (b out : List Ent) (ks : List ByteArray) (k : ByteArray) (e g : Ent), Srt out → look out k = some g → geE g e → ∃ g', look (mrg out ks b).1 k = some g' ∧ geE g' e
  | [], out, ks, k, e, g, _, h1, h2 => ⟨g, h1, h2⟩
  | x :: r, out, ks, k, e, g, hs, h1, h2 => by
    unfold mrg
    by_cases hc : comesB out x = true
    · rw [if_pos hc]
      by_cases hk : k = x.key
      · refine mrg_grow r _ _ k e x (ins_srt hs) (by rw [look_ins x k hs, if_pos hk]) ?_
        unfold comesB at hc
        rcases there_look x.key hs with ⟨t1, t2⟩ | ⟨t1, t2⟩
        · rw [if_pos t1] at hc
          rw [← hk, h1] at t2
          cases t2
          rw [← hk] at hc
          have hgt := of_decide_eq_true hc
          exact geE_trans (b := ent out (pos out k)) (by unfold geE; omega) h2
        · rw [← hk, h1] at t2; cases t2
      · exact mrg_grow r _ _ k e g (ins_srt hs) (by rw [look_ins x k hs, if_neg hk]; exact h1) h2
    · rw [if_neg hc]
      exact mrg_grow r _ _ k e g hs h1 h2
theorem mrg_len : ∀ (b out : List Ent) (ks : List ByteArray), out.length ≤ (mrg out ks b).1.length
  | [], out, ks => Nat.le_refl _
  | x :: r, out, ks => by
    unfold mrg
    split
    · have h1 := mrg_len r (ins out x) (ks ++ [x.key])
      have h2 : out.length ≤ (ins out x).length := by rw [ins_len]; split <;> omega
      omega
    · exact mrg_len r out ks
/-- what is merged into nothing is as it was -/
theorem ins_last : ∀ (es : List Ent) (x : Ent), (∀ e ∈ es, ltB e.key x.key = true) → ins es x = es ++ [x] ∧ there es x.key = false
  | [], x, _ => ⟨rfl, by simp [there]⟩
  | e :: r, x, h => by
    have he := h e (by simp)
    have ih := ins_last r x (fun y hy => h y (by simp [hy]))
    refine ⟨?_, by rw [there_cons_lt he]; exact ih.2⟩
    unfold ins
    rw [if_pos he, ih.1]; rfl
theorem mrg_tail : ∀ (b out : List Ent) (ks : List ByteArray), Srt (out ++ b) → (out ++ b).length ≤ 60 → (mrg out ks b).1 = out ++ b
  | [], out, ks, _, _ => by simp [mrg]
  | x :: r, out, ks, hs, hl => by
    have hx : ∀ e ∈ out, ltB e.key x.key = true := by
      intro e he
      unfold Srt at hs
      rw [List.pairwise_append] at hs
      exact hs.2.2 e he x (by simp)
    have hi := ins_last out x hx
    have hc : comesB out x = true := by
      unfold comesB
      rw [hi.2]
      simp at hl ⊢
      omega
    unfold mrg
    rw [if_pos hc, hi.1]
    have := mrg_tail r (out ++ [x]) (ks ++ [x.key]) (by simpa using hs) (by simpa using hl)
    rw [this]; simp
end Go.Proofs.YtcdobhdbafpkiadDoor.Pl
/-
  Plain definitions: stores as bytes, and their seal; no program in sight.
-/
namespace Go.Proofs.YtcdobhdbafpkiadDoor.Pl

def u8 (n : Int) : UInt8 := UInt8.ofNat n.toNat
theorem u8_val {n : Int} (h0 : 0 ≤ n) (h1 : n ≤ 255) : ((u8 n).toNat : Int) = n := by
  unfold u8
  rw [UInt8.toNat_ofNat']
  omega
theorem u8_nat (n : Nat) (h : n ≤ 255) : ((u8 (n : Int)).toNat : Int) = n := u8_val (by omega) (by omega)

/-- a number in sevens; so many bytes more are allowed -/
def encV : Nat → Int → List UInt8
  | 0, n => [u8 n]
  | f + 1, n => if n < 128 then [u8 n] else u8 (n % 128 + 128) :: encV f (n / 128)
def lim : Nat → Int
  | 0 => 1
  | f + 1 => 128 * lim f
theorem lim_pos : ∀ f, 1 ≤ lim f
  | 0 => by simp [lim]
  | f + 1 => by have := lim_pos f; simp only [lim]; omega
theorem encV_small {f : Nat} {n : Int} (h : n < 128) : encV f n = [u8 n] := by cases f <;> simp [encV, h]
theorem encV_great {f : Nat} {n : Int} (h : ¬ n < 128) : encV (f + 1) n = u8 (n % 128 + 128) :: encV f (n / 128) := by simp [encV, h]
theorem encV_len : ∀ (f : Nat) (n : Int), (encV f n).length ≤ f + 1
  | 0, _ => by simp [encV]
  | f + 1, n => by
    have := encV_len f (n / 128)
    unfold encV; split <;> simp; omega
theorem encV_ne (f : Nat) (n : Int) : 1 ≤ (encV f n).length := by
  cases f
  · simp [encV]
  · unfold encV; split <;> simp

def encT (s : ByteArray) : List UInt8 := u8 (s.size : Int) :: s.data.toList
def encE (e : Ent) : List UInt8 := encT e.key ++ (encV 6 e.ver ++ ([u8 e.org] ++ encT e.val))
def encL : List Ent → List UInt8
  | [] => []
  | e :: r => encE e ++ encL r
theorem encL_append : ∀ (a b : List Ent), encL (a ++ b) = encL a ++ encL b
  | [], _ => rfl
  | e :: r, b => by simp [encL, encL_append r b]
def body (es : List Ent) : List UInt8 := [116, u8 (es.length : Int)] ++ encL es

/-- the two numbers of the seal -/
def sxy : List UInt8 → Int → Int → Int × Int
  | [], x, y => (x, y)
  | c :: r, x, y => sxy r ((x + (c.toNat : Int)) % 65521) ((y + (x + (c.toNat : Int)) % 65521) % 65521)
def sealL (bs : List UInt8) : List UInt8 := [u8 ((sxy bs 1 0).2 / 256), u8 ((sxy bs 1 0).2 % 256), u8 ((sxy bs 1 0).1 / 256), u8 ((sxy bs 1 0).1 % 256)]
theorem sealL_len (bs : List UInt8) : (sealL bs).length = 4 := rfl
def enc (es : List Ent) : List UInt8 := body es ++ sealL (body es)

theorem may_parts {e : Ent} (h : e.may = true) : e.key.size ≤ 8 ∧ 1 ≤ e.key.size ∧ 1 ≤ e.ver ∧ e.ver ≤ 1099511627776 ∧ 0 ≤ e.org ∧ e.org ≤ 11 ∧ e.val.size ≤ 120 := by
  unfold Ent.may entB keyB at h
  simp only [Bool.and_eq_true, decide_eq_true_eq] at h
  obtain ⟨⟨⟨⟨h1, _⟩, h2⟩, h3⟩, h4⟩ := h
  omega
theorem encT_len (s : ByteArray) : (encT s).length = s.size + 1 := by
  unfold encT
  simp only [List.length_cons, Array.length_toList]
  rfl
theorem encE_len {e : Ent} (h : e.may = true) : (encE e).length ≤ 138 := by
  have := may_parts h
  have h6 := encV_len 6 e.ver
  unfold encE
  simp only [List.length_append, encT_len, List.length_singleton]
  omega
end Go.Proofs.YtcdobhdbafpkiadDoor.Pl
/-
  Rows of bytes: those that came in, those that a call itself has made; the laws of appending to them.
-/
namespace Go.Proofs.YtcdobhdbafpkiadDoor
open Go.RowKit
set_option maxRecDepth 20000

def bcells (bs : List UInt8) : List Value := bs.map fun c => Value.int .u8 (c.toNat : Int)
theorem bcells_len (bs : List UInt8) : (bcells bs).length = bs.length := by simp [bcells]
theorem bcells_append (a b : List UInt8) : bcells (a ++ b) = bcells a ++ bcells b := by simp [bcells]
theorem bcells_one (bs : List UInt8) : ∀ u ∈ bcells bs, u.oneCell' = true := by
  intro u hu
  obtain ⟨_, _, rfl⟩ := List.mem_map.1 hu
  rfl
theorem bcells_str (s : ByteArray) : Lib.strCells s = bcells s.data.toList := rfl

/-- a slice of bytes -/
def IsBytes (w : World) (a : Option Addr) (len cap : Nat) (bs : List UInt8) : Prop :=
  bs.length = len ∧ len ≤ cap ∧ cap ≤ maxLen ∧ (bs = [] ∨ ∃ b off, a = some ⟨b, off, none⟩ ∧ b < w.heap.size ∧ ∀ j u, (bcells bs)[j]? = some u → w.cell? ⟨b, off + j, none⟩ = some u)
theorem IsBytes.below {w w' : World} {a : Option Addr} {len cap : Nat} {bs : List UInt8} (h : IsBytes w a len cap bs) (k : Below w.heap.size w w') : IsBytes w' a len cap bs := by
  obtain ⟨h1, h2, h3, h5⟩ := h
  refine ⟨h1, h2, h3, ?_⟩
  rcases h5 with h5 | ⟨b, off, rfl, hb, hr⟩
  · exact .inl h5
  · exact .inr ⟨b, off, rfl, Nat.lt_of_lt_of_le hb k.size, fun j u hj => (k.cell (p := ⟨b, off + j, none⟩) hb).trans (hr j u hj)⟩
theorem bcell_at {bs : List UInt8} {k : Nat} (h : k < bs.length) : (bcells bs)[k]? = some (.int .u8 ((bs.getD k 0).toNat : Int)) := by
  simp [bcells, List.getD, h]

/-- a slice value over a row of bytes of the call's own -/
def OwnB (w : World) (base : Nat) (v : Value) (bs : List UInt8) : Prop := w.ownsRow base 5 1 v bs.length (bcells bs)
theorem infoByte : (Tryd.prog.info? 5).map (fun i => (i.zero, i.size, i.bytes)) = some (some (.int .u8 0), 1, 1) := by kernel_rfl
theorem ownb_of {w : World} {base n : Nat} {v : Value} {xs : List Value} {bs : List UInt8} (h : w.ownsRow base 5 1 v n xs) (e : xs = bcells bs) : OwnB w base v bs := by
  subst e
  have hn : n = bs.length := by
    have := h.1
    rw [bcells_len] at this
    omega
  subst hn
  exact h
theorem OwnB.below {w w' : World} {base : Nat} {v : Value} {bs : List UInt8} (h : OwnB w base v bs) (k : Below w.heap.size w w') : OwnB w' base v bs := by
  obtain ⟨h0, h1⟩ := h
  refine ⟨h0, ?_⟩
  rcases h1 with h1 | ⟨g, cap, cur, rfl, hb, hh, hr⟩
  · exact .inl h1
  · exact .inr ⟨g, cap, cur, rfl, hb, (k.block g (lt_of_block hh)).trans hh, hr⟩
theorem OwnB.mono {w : World} {base base' : Nat} {v : Value} {bs : List UInt8} (h : OwnB w base v bs) (k : base' ≤ base) : OwnB w base' v bs := by
  obtain ⟨h0, h1⟩ := h
  refine ⟨h0, ?_⟩
  rcases h1 with h1 | ⟨g, cap, cur, rfl, hb, hr⟩
  · exact .inl h1
  · exact .inr ⟨g, cap, cur, rfl, by omega, hr⟩
theorem OwnB.nil (w : World) (base : Nat) : OwnB w base (.slice none 0 0) [] := World.ownsRow_nil _ _ _ _
theorem OwnB.shape {w : World} {base : Nat} {v : Value} {bs : List UInt8} (h : OwnB w base v bs) :
    ∃ a cap, v = .slice a bs.length cap ∧ IsBytes w a bs.length cap bs ∧ (a = none → cap = 0) ∧ (∀ x, a = some x → base ≤ x.block) := by
  obtain ⟨_, h | ⟨g, cap, cur, rfl, hb, hh, hn, hm, hs, hx⟩⟩ := h
  · obtain ⟨rfl, hn⟩ := h
    have hes : bs = [] := List.length_eq_zero_iff.1 hn
    subst hes
    exact ⟨none, 0, rfl, ⟨rfl, Nat.le_refl _, by simp, .inl rfl⟩, fun _ => rfl, by simp⟩
  · refine ⟨some ⟨g, 0, none⟩, cap, rfl, ⟨rfl, hn, hm, .inr ⟨g, 0, rfl, lt_of_block hh, ?_⟩⟩, by simp, by rintro x ⟨⟩; exact hb⟩
    intro j u hj
    rw [← hx] at hj
    have hj' : cur[j]? = some u := by
      rw [List.getElem?_take] at hj
      split at hj
      · rw [← Array.getElem?_toList]; exact hj
      · cases hj
    simp [World.cell?, hh, hj']

/-- what an append to a row of bytes leaves alone: all below 'base', and every row of another kind -/
def Keep (base : Nat) (w w' : World) : Prop := Below base w w' ∧ ∀ (k : Nat) (cs : Array Value) (T : TypeId) (z : Nat × Nat), w.heap[k]? = some (Obj.cells cs T z) → ¬ T = 5 → w'.heap[k]? = some (Obj.cells cs T z)
theorem Keep.refl (base : Nat) (w : World) : Keep base w w := ⟨Below.refl _ _, fun _ _ _ _ h _ => h⟩
theorem Keep.trans {base : Nat} {a b c : World} (h : Keep base a b) (k : Keep base b c) : Keep base a c :=
  ⟨h.1.trans k.1, fun i cs T z hi hT => k.2 i cs T z (h.2 i cs T z hi hT) hT⟩
theorem Keep.of_below {base : Nat} {w w' : World} (h : Below w.heap.size w w') (hb : base ≤ w.heap.size) : Keep base w w' :=
  ⟨h.mono hb, fun k _ _ _ hk _ => (h.block k (lt_of_block hk)).trans hk⟩
theorem Keep.of_grown {base n : Nat} {w w' : World} {v : Value} {xs : List Value} (ho : w.ownsRow base 5 1 v n xs) (hg : w.grownBy w' v.ownBlock) (hb : base ≤ w.heap.size) : Keep base w w' := by
  refine ⟨(Below.refl _ _).grown hg hb (fun k hk => (World.ownsRow.lt ho k hk).1), fun k cs T z hk hT => ?_⟩
  refine (hg.block k (lt_of_block hk) (fun e => ?_)).trans hk
  obtain ⟨_, h | ⟨g, cap, cur, rfl, _, hh, _⟩⟩ := ho
  · obtain ⟨rfl, _⟩ := h
    cases e
  · simp only [Value.ownBlock, Option.some.injEq] at e
    subst e
    rw [hh] at hk
    simp only [Option.some.injEq, Obj.cells.injEq] at hk
    exact hT hk.2.1.symm
theorem Keep.alloc {base : Nat} {a w : World} (h : Keep base a w) (hb : base ≤ w.heap.size) (o : Obj) : Keep base a (w.alloc o) :=
  h.trans (Keep.of_below ((Below.refl _ _).alloc (Nat.le_refl _) o) hb)

/-- one byte more, laid in a block of its own first -/
theorem append_b1 {w : World} {ops : Array Oper} {rest : List Oper} {o : Oper} {a : Act} {Q : Exit → Act → World → Prop} (hgd : o.guard = none) (s x : Operand)
    (ho : o.op = .call { callee := .builtin .append, args := #[s, x], argTypes := #[93, 93] })
    (base : Nat) (v : Value) (bs : List UInt8) (n : Int) (hs : a.eval s = v) (hown : OwnB w base v bs) (hbase : base ≤ w.heap.size) (hx : a.eval x = .slice (some ⟨w.heap.size, 0, none⟩) 1 1) (h0 : 0 ≤ n) (h1 : n ≤ 255) (hb : bs.length + 1 ≤ 140737488355328)
    (h : ∀ v' w', OwnB w' base v' (bs ++ [Pl.u8 n]) → Keep base w w' → wpList Tryd.prog ops Q rest (a.put o.dst v') w') :
    wpList Tryd.prog ops Q (o :: rest) a (w.alloc (.cells #[.int .u8 n] 5)) := by
  obtain ⟨i0, hi0, hz0, hz1, hz2⟩ := info_parts infoByte
  refine wpList_append_own (w := _) hgd s x 93 ho base 5 i0 _ 1 1 Tryd.underlying93 hi0 hz0 hz1 hz2 rfl (by decide) _ bs.length (bcells bs) hs (World.ownsRow.alloc hown _) ⟨w.heap.size, 0, none⟩ 1 1 [.int .u8 n] hx rfl ?_ ?_ (by unfold maxLen; omega) (by omega) (by simp; omega) ?_
  · intro j u hj
    match j, hj with
    | 0, hj => simp at hj; subst hj; simp [Addr.add]
  · intro u hu; simp at hu; subst hu; rfl
  · intro v' w' hown' hg _
    refine h v' w' (ownb_of hown' ?_) ((Keep.of_below ((Below.refl _ _).alloc (Nat.le_refl _) _) hbase).trans (Keep.of_grown (World.ownsRow.alloc hown _) hg (by simp; omega)))
    rw [bcells_append]
    simp [bcells, Pl.u8_val h0 h1]

/-- a text more -/
theorem append_str {w : World} {ops : Array Oper} {rest : List Oper} {o : Oper} {a : Act} {Q : Exit → Act → World → Prop} (hgd : o.guard = none) (s x : Operand)
    (ho : o.op = .call { callee := .builtin .append, args := #[s, x], argTypes := #[93, 9] })
    (base : Nat) (v : Value) (bs : List UInt8) (t : ByteArray) (hs : a.eval s = v) (hown : OwnB w base v bs) (hbase : base ≤ w.heap.size) (hx : a.eval x = .string t) (hb : bs.length + t.size ≤ 140737488355328)
    (h : ∀ v' w', OwnB w' base v' (bs ++ t.data.toList) → Keep base w w' → wpList Tryd.prog ops Q rest (a.put o.dst v') w') : wpList Tryd.prog ops Q (o :: rest) a w := by
  obtain ⟨i0, hi0, hz0, hz1, hz2⟩ := info_parts infoByte
  refine Lib.wpList_append_own_string w hgd s x 93 9 ho base 5 i0 Tryd.underlying93 Tryd.underlying9 hi0 hz0 hz1 hz2 v bs.length (bcells bs) hs hown t hx (by unfold maxLen; omega) hb hbase ?_
  intro v' w' hown' hg _
  exact h v' w' (ownb_of hown' (by rw [bcells_append, bcells_str])) (Keep.of_grown hown hg hbase)

/-- a list of bytes more -/
theorem append_bs {w : World} {ops : Array Oper} {rest : List Oper} {o : Oper} {a : Act} {Q : Exit → Act → World → Prop} (hgd : o.guard = none) (s x : Operand)
    (ho : o.op = .call { callee := .builtin .append, args := #[s, x], argTypes := #[93, 93] })
    (base : Nat) (v : Value) (bs : List UInt8) (ad : Option Addr) (m c : Nat) (ns : List UInt8) (hs : a.eval s = v) (hown : OwnB w base v bs) (hbase : base ≤ w.heap.size) (hx : a.eval x = .slice ad m c) (hI : IsBytes w ad m c ns) (hnil : ad = none → c = 0) (hb : bs.length + m ≤ 140737488355328)
    (h : ∀ v' w', OwnB w' base v' (bs ++ ns) → Keep base w w' → wpList Tryd.prog ops Q rest (a.put o.dst v') w') : wpList Tryd.prog ops Q (o :: rest) a w := by
  obtain ⟨i0, hi0, hz0, hz1, hz2⟩ := info_parts infoByte
  obtain ⟨hl, hc, hm, hr⟩ := hI
  rcases ad with _ | ad
  · obtain rfl := hnil rfl
    obtain rfl : m = 0 := by omega
    obtain rfl : ns = [] := List.length_eq_zero_iff.1 hl
    refine wpList_append_own_none hgd s x 93 ho base 5 i0 1 Tryd.underlying93 hi0 v bs.length (bcells bs) hs hown hx (h _ _ ?_ (Keep.refl _ _))
    rw [List.append_nil]; exact hown
  · refine wpList_append_own (w := w) hgd s x 93 ho base 5 i0 _ 1 1 Tryd.underlying93 hi0 hz0 hz1 hz2 rfl (by decide) v bs.length (bcells bs) hs hown ad m c (bcells ns) hx (by rw [bcells_len, hl]; omega) ?_ (bcells_one _) (by unfold maxLen; omega) (by omega) hbase ?_
    · intro j u hj
      rcases hr with rfl | ⟨b, off, hba, _, hr⟩
      · simp [bcells] at hj
      · cases hba
        have := hr j u hj
        unfold Addr.add; split
        · rename_i h0; subst h0; simpa using this
        · simpa using this
    · intro v' w' hown' hg _
      exact h v' w' (ownb_of hown' (by rw [bcells_append])) (Keep.of_grown hown hg hbase)
end Go.Proofs.YtcdobhdbafpkiadDoor
/-
  Contracts: texts, numbers and seals as bytes: the program's functions and the document's.
-/
namespace Go.Proofs.YtcdobhdbafpkiadDoor
open Go.RowKit
set_option maxRecDepth 20000

set_option maxHeartbeats 400000 in
theorem appendText_any (base : Nat) (v : Value) (bs : List UInt8) (s : ByteArray) (w : World) (h : OwnB w base v bs) (hb : base ≤ w.heap.size) (hs : s.size ≤ 255) (hl : bs.length ≤ 1000000) :
    Calls Tryd.prog 51 #[v, .string s] w fun e w' => ∃ v', e = .returned v' ∧ OwnB w' base v' (bs ++ Pl.encT s) ∧ Keep base w w' := by
  have HO := hid h
  clear h
  go_enter Tryd.func51, Tryd.ntmps51
  go_wp2_with (first
    | (at_builtin; refine append_b1 rfl (.tmp 5) (.tmp 9) rfl base v bs (s.size : Int) rfl HO.out hb rfl (by omega) (by omega) (by omega) ?_; intro v1 w1 ho1 hk1; have HO1 := hid ho1; clear ho1; have hz1 := hk1.1.size)
    | (at_builtin; refine append_str rfl (.tmp 11) (.tmp 12) rfl base v1 (bs ++ [Pl.u8 (s.size : Int)]) s rfl HO1.out (by omega) rfl (by simp; omega) ?_; intro v2 w2 ho2 hk2))
  go_ret
  exact ⟨_, rfl, by have e := ho2; rw [List.append_assoc] at e; exact e, hk1.trans hk2⟩

set_option maxHeartbeats 400000 in
theorem appendVersion_any (base : Nat) (v : Value) (bs : List UInt8) (n : Int) (w : World) (h : OwnB w base v bs) (hb : base ≤ w.heap.size) (h0 : 0 ≤ n) (h1 : n ≤ 1099511627776) (hl : bs.length ≤ 1000000) :
    Calls Tryd.prog 52 #[v, .int .i64 n] w fun e w' => ∃ v', e = .returned v' ∧ OwnB w' base v' (bs ++ Pl.encV 6 n) ∧ Keep base w w' := by
  have HO := hid h
  clear h
  go_enter Tryd.func52, Tryd.ntmps52
  go_wp2
  go_loopw [0, 1] (fun vv x wr => ∃ (f : Nat) (c : List UInt8) (m : Int) (u : Value), u = vv ∧ x = .int .i64 m ∧ f ≤ 6 ∧ 0 ≤ m ∧ m ≤ 1099511627776 ∧ Hid (m < Pl.lim f) ∧ Hid (OwnB wr base u c) ∧ c.length ≤ 1000000 + 6 - f ∧ Hid (bs ++ Pl.encV 6 n = c ++ Pl.encV f m) ∧ Keep base w wr) (fun _ x _ => (intOf x).toNat)
  case atStart => exact ⟨6, bs, n, v, rfl, rfl, by omega, h0, h1, by show _ < _; simp only [Pl.lim]; omega, HO, by omega, rfl, Keep.refl _ _⟩
  case round =>
    obtain ⟨f, c, m, u, rfl, rfl, hf, hm0, hm1, HL, HC, hc, HE, hk⟩ := hrel
    have hz := hk.1.size
    by_cases hlt : m < 128
    · have HF : Hid (bs ++ Pl.encV 6 n = c ++ [Pl.u8 m]) := by show _ = _; rw [HE.out, Pl.encV_small hlt]
      go_wp2_with (at_builtin; refine append_b1 rfl (.tmp 16) (.tmp 19) rfl base u c m rfl HC.out (by omega) rfl (by omega) (by omega) (by omega) ?_; intro v1 w1 ho1 hk1)
      go_ret
      exact ⟨_, rfl, by rw [HF.out]; exact ho1, hk.trans hk1⟩
    · obtain ⟨g, rfl⟩ : ∃ g, f = g + 1 := by
        cases f with
        | zero => exact absurd HL.out (by simp only [Pl.lim]; omega)
        | succ g => exact ⟨g, rfl⟩
      have HF : Hid (bs ++ Pl.encV 6 n = (c ++ [Pl.u8 (m % 128 + 128)]) ++ Pl.encV g (m / 128)) := by
        show _ = _
        rw [HE.out, Pl.encV_great hlt]; simp
      have HLG : Hid (m / 128 < Pl.lim g) := by
        have := HL.out
        simp only [Pl.lim] at this
        show _ < _
        omega
      go_wp2_with (at_builtin; refine append_b1 rfl (.tmp 7) (.tmp 12) rfl base u c (m % 128 + 128) rfl HC.out (by omega) rfl (by omega) (by omega) (by omega) ?_; intro v1 w1 ho1 hk1)
      go_roundw
      case rel => exact ⟨g, c ++ [Pl.u8 (m % 128 + 128)], m / 128, _, rfl, by go_num, by omega, by omega, by omega, HLG, ho1, by simp; omega, HF, hk.trans hk1⟩
      case measure => simp [intOf]; omega
end Go.Proofs.YtcdobhdbafpkiadDoor
/-
  Contracts: the seal of bytes, the program's and the document's.
-/
namespace Go.Proofs.YtcdobhdbafpkiadDoor
open Go.RowKit
set_option maxRecDepth 20000

theorem ownb_lit4 (w : World) (a b c d : Int) (ha : 0 ≤ a ∧ a ≤ 255) (hb : 0 ≤ b ∧ b ≤ 255) (hc : 0 ≤ c ∧ c ≤ 255) (hd : 0 ≤ d ∧ d ≤ 255) :
    OwnB (w.alloc (.cells #[.int .u8 a, .int .u8 b, .int .u8 c, .int .u8 d] 5)) w.heap.size (.slice (some ⟨w.heap.size, 0, none⟩) 4 4) [Pl.u8 a, Pl.u8 b, Pl.u8 c, Pl.u8 d] := by
  have h := World.ownsRow_lit (base := w.heap.size) (e := 5) (size := 1) w #[.int .u8 a, .int .u8 b, .int .u8 c, .int .u8 d] 4 (Nat.le_refl _) (by unfold maxLen; omega) rfl
  exact ownb_of h (by simp [bcells, Pl.u8_val ha.1 ha.2, Pl.u8_val hb.1 hb.2, Pl.u8_val hc.1 hc.2, Pl.u8_val hd.1 hd.2])

theorem ownb_lit1 (w : World) (a : Int) (ha : 0 ≤ a ∧ a ≤ 255) :
    OwnB (w.alloc (.cells #[.int .u8 a] 5)) w.heap.size (.slice (some ⟨w.heap.size, 0, none⟩) 1 1) [Pl.u8 a] := by
  have h := World.ownsRow_lit (base := w.heap.size) (e := 5) (size := 1) w #[.int .u8 a] 1 (Nat.le_refl _) (by unfold maxLen; omega) rfl
  exact ownb_of h (by simp [bcells, Pl.u8_val ha.1 ha.2])
theorem ownb_lit2 (w : World) (a b : Int) (ha : 0 ≤ a ∧ a ≤ 255) (hb : 0 ≤ b ∧ b ≤ 255) :
    OwnB (w.alloc (.cells #[.int .u8 a, .int .u8 b] 5)) w.heap.size (.slice (some ⟨w.heap.size, 0, none⟩) 2 2) [Pl.u8 a, Pl.u8 b] := by
  have h := World.ownsRow_lit (base := w.heap.size) (e := 5) (size := 1) w #[.int .u8 a, .int .u8 b] 2 (Nat.le_refl _) (by unfold maxLen; omega) rfl
  exact ownb_of h (by simp [bcells, Pl.u8_val ha.1 ha.2, Pl.u8_val hb.1 hb.2])

theorem sxy_drop (bs : List UInt8) (k : Nat) (x y : Int) (h : k < bs.length) : Pl.sxy (bs.drop k) x y = Pl.sxy (bs.drop (k + 1)) ((x + ((bs.getD k 0).toNat : Int)) % 65521) ((y + (x + ((bs.getD k 0).toNat : Int)) % 65521) % 65521) := by
  rw [List.drop_eq_getElem_cons h]
  simp [Pl.sxy, List.getD, h]

set_option maxHeartbeats 400000 in
theorem seal_any (a : Option Addr) (len cap : Nat) (bs : List UInt8) (w : World) (h : IsBytes w a len cap bs) :
    Calls Tryd.prog 53 #[.slice a len cap] w fun e w' => ∃ v, e = .returned v ∧ OwnB w' w.heap.size v (Pl.sealL bs) ∧ Below w.heap.size w w' := by
  obtain ⟨hl, hc, hm, hrow⟩ := h
  unfold maxLen at hm
  have HR := hid hrow
  clear hrow
  go_enter Tryd.func53, Tryd.ntmps53
  go_wp2
  go_loop [3, 4, 9] (fun p q i => ∃ (k : Nat) (x y : Int), k ≤ len ∧ i = .int .i64 k ∧ p = .int .i64 x ∧ q = .int .i64 y ∧ 0 ≤ x ∧ x < 65521 ∧ 0 ≤ y ∧ y < 65521 ∧ Hid (Pl.sxy bs 1 0 = Pl.sxy (bs.drop k) x y)) (fun _ _ i => len - (intOf i).toNat)
  case atStart => exact ⟨0, 1, 0, Nat.zero_le _, rfl, rfl, rfl, by omega, by omega, by omega, by omega, rfl⟩
  case round =>
    obtain ⟨k, x, y, hk, rfl, rfl, rfl, hx0, hx1, hy0, hy1, HS⟩ := hrel
    by_cases hlt : k < len
    · obtain ⟨b, off, rfl, hb, hr⟩ : ∃ b off, a = some ⟨b, off, none⟩ ∧ b < w.heap.size ∧ ∀ j u, (bcells bs)[j]? = some u → w.cell? ⟨b, off + j, none⟩ = some u := by
        rcases HR.out with h | h
        · rw [h] at hl; simp at hl; omega
        · exact h
      have q0 := hr k _ (bcell_at (by omega))
      clear hr
      have HN := hid (sxy_drop bs k x y (by omega))
      have hbl := byte_le (bs.getD k 0)
      generalize (bs.getD k 0).toNat = c at *
      have hlt' : (k : Int) < (len : Int) := by omega
      go_wp2
      go_round
      case rel => exact ⟨k + 1, (x + (c : Int)) % 65521, (y + (x + (c : Int)) % 65521) % 65521, by omega, by go_num, by first | rfl | go_num, by first | rfl | go_num, by omega, by omega, by omega, by omega, by show _ = _; rw [HS.out, HN.out]⟩
      case measure => simp [intOf]; omega
    · obtain rfl : k = len := by omega
      have HF : Hid (Pl.sealL bs = [Pl.u8 (y / 256), Pl.u8 (y % 256), Pl.u8 (x / 256), Pl.u8 (x % 256)]) := by
        show _ = _
        unfold Pl.sealL; rw [HS.out, List.drop_eq_nil_of_le (by omega)]; rfl
      go_wp2
      go_ret
      exact ⟨_, rfl, by rw [HF.out]; exact ownb_lit4 w _ _ _ _ (by omega) (by omega) (by omega) (by omega), (Below.refl _ _).alloc (Nat.le_refl _) _⟩

end Go.Proofs.YtcdobhdbafpkiadDoor
/-
  Contract: what StoreFault, the document's answer to Check, answers at every list of entries.
-/
namespace Go.Proofs.YtcdobhdbafpkiadDoor
open Go.RowKit
set_option maxRecDepth 20000

end Go.Proofs.YtcdobhdbafpkiadDoor
/-
  Contracts: what Encode and the document's StoreBytes answer at every list of entries.
-/
namespace Go.Proofs.YtcdobhdbafpkiadDoor
open Go.RowKit
set_option maxRecDepth 20000

def Pl.encO (es : List Pl.Ent) : List UInt8 := if Pl.fault es = 0 then Pl.enc es else []

theorem box_keep {base : Nat} {w w' : World} {c0 c1 c2 c3 : Value} (h : Keep base (w.alloc (.cells #[c0, c1, c2, c3] 64)) w') :
    w'.cell? ⟨w.heap.size, 0, none⟩ = some c0 ∧ w'.cell? ⟨w.heap.size, 1, none⟩ = some c1 ∧ w'.cell? ⟨w.heap.size, 2, none⟩ = some c2 ∧ w'.cell? ⟨w.heap.size, 3, none⟩ = some c3 := by
  have hh := h.2 w.heap.size _ _ _ (heap_new w _) (by decide)
  refine ⟨?_, ?_, ?_, ?_⟩
  all_goals simp [World.cell?, hh]

set_option maxHeartbeats 1000000 in
theorem Encode_any (a : Option Addr) (len cap : Nat) (es : List Pl.Ent) (w : World) (h : IsEnts w a len cap es) :
    Calls Tryd.prog 34 #[.slice a len cap] w fun e w' => ∃ v, e = .returned (.tuple #[v, .int .i64 (Pl.fault es)]) ∧ OwnB w' w.heap.size v (Pl.encO es) ∧ Below w.heap.size w w' := by
  have HH := hid h
  have hlen : es.length = len := h.1
  have hcap := h.2.1
  have hm := h.2.2.1
  unfold maxLen at hm
  clear h
  obtain ⟨c, HC⟩ : ∃ c, Hid (Pl.fault es = c) := ⟨_, rfl⟩
  by_cases hc0 : c = 0
  · subst hc0
    have HG := hid ((Pl.good_iff es).1 HC.out)
    have hl60 : len ≤ 60 := by have := HG.out.1; omega
    go_enter Tryd.func34, Tryd.ntmps34
    go_wp2_with fail
    refine (Check_any _ _ _ es _ HH.out).mono ?_
    rw [HC.out]
    rintro e w1 ⟨rfl, hb1⟩
    have hz1 := hb1.size
    go_wp2_with fail
    go_loopw [5, 19] (fun vv i wr => ∃ (k : Nat) (c : List UInt8) (u : Value), u = vv ∧ k ≤ len ∧ i = .int .i64 k ∧ Hid (OwnB wr w.heap.size u c) ∧ c.length ≤ 2 + k * 138 ∧ Hid (Pl.body es = c ++ Pl.encL (es.drop k)) ∧ Below w.heap.size w wr) (fun _ i _ => len - (intOf i).toNat)
    case atStart => exact ⟨0, [116, Pl.u8 (es.length : Int)], _, rfl, Nat.zero_le _, rfl, by rw [hlen]; exact (ownb_lit2 w1 116 (len : Int) (by omega) (by omega)).mono hz1, by simp, rfl, hb1.alloc hz1 _⟩
    case round =>
      obtain ⟨k, c, u, rfl, hk, rfl, HO, hcl, HE, hb⟩ := hrel
      have hz := hb.size
      by_cases hlt : k < len
      · obtain ⟨b, off, rfl, hbw, hr⟩ : ∃ b off, a = some ⟨b, off, none⟩ ∧ b < w.heap.size ∧ RowAt w b off es := by
          rcases HH.out.2.2.2.2 with h | h
          · rw [h] at hlen; simp at hlen; omega
          · exact h
        obtain ⟨q0, q1, q2, q3⟩ := hr.below hbw hb k (by omega)
        clear hr
        have hpp := Pl.may_parts (HG.out.2.1 _ (Pl.ent_mem es k (by omega)))
        have HLN := hid (Pl.encE_len (HG.out.2.1 _ (Pl.ent_mem es k (by omega))))
        have HD := hid (Pl.drop_ent es k (by omega))
        generalize Pl.ent es k = x at *
        obtain ⟨xk, xv, xo, xx⟩ := x
        simp only at q0 q1 q2 q3 hpp
        obtain ⟨p1, p2, p3, p4, p5, p6, p7⟩ := hpp
        go_wp2_with fail
        refine (appendText_any w.heap.size u c xk _ (HO.out.below ((Below.refl _ _).alloc (Nat.le_refl _) _)) (by simp; omega) (by omega) (by omega)).mono ?_
        rintro e w3 ⟨v3, rfl, ho3, hk3⟩
        have HO3 := hid ho3
        clear ho3
        obtain ⟨x0, x1, x2, x3⟩ := box_keep hk3
        have hz3 := hk3.1.size
        simp at hz3
        have hl3 : (c ++ Pl.encT xk).length ≤ 2 + k * 138 + 9 := by rw [List.length_append, Pl.encT_len]; omega
        go_wp2_with fail
        refine (appendVersion_any w.heap.size v3 _ xv _ HO3.out (by omega) (by omega) (by omega) (by omega)).mono ?_
        rintro e w4 ⟨v4, rfl, ho4, hk4⟩
        have HO4 := hid ho4
        clear ho4 x0 x1 x2 x3
        have hk34 := hk3.trans hk4
        obtain ⟨x0, x1, x2, x3⟩ := box_keep hk34
        have hz4 := hk4.1.size
        have hl4 : (c ++ Pl.encT xk ++ Pl.encV 6 xv).length ≤ 2 + k * 138 + 16 := by rw [List.length_append]; have := Pl.encV_len 6 xv; omega
        go_wp2_with (at_builtin; refine append_b1 rfl (.tmp 31) (.tmp 35) rfl w.heap.size v4 (c ++ Pl.encT xk ++ Pl.encV 6 xv) xo rfl HO4.out (by omega) rfl (by omega) (by omega) (by omega) ?_; intro v5 w5 ho5 hk5; have HO5 := hid ho5; clear ho5 x0 x1 x2 x3; have hk35 := hk34.trans hk5; obtain ⟨x0, x1, x2, x3⟩ := box_keep hk35; have hz5 := hk5.1.size)
        have hl5 : (c ++ Pl.encT xk ++ Pl.encV 6 xv ++ [Pl.u8 xo]).length ≤ 2 + k * 138 + 17 := by rw [List.length_append]; simp only [List.length_singleton]; omega
        refine (appendText_any w.heap.size v5 _ xx _ HO5.out (by omega) (by omega) (by omega)).mono ?_
        rintro e w6 ⟨v6, rfl, ho6, hk6⟩
        have HF : Hid (OwnB w6 w.heap.size v6 (c ++ Pl.encE ⟨xk, xv, xo, xx⟩)) := by
          have := ho6
          rw [show c ++ Pl.encT xk ++ Pl.encV 6 xv ++ [Pl.u8 xo] ++ Pl.encT xx = c ++ Pl.encE ⟨xk, xv, xo, xx⟩ by simp [Pl.encE]] at this
          exact this
        clear ho6
        go_wp2_with fail
        go_roundw
        case rel => exact ⟨k + 1, _, _, rfl, by omega, by go_num, HF, by rw [List.length_append]; have := HLN.out; omega, by show _ = _; rw [HE.out, HD.out]; simp [Pl.encL], (hb.alloc hz _).trans (hk35.trans hk6).1⟩
        case measure => simp [intOf]; omega
      · obtain rfl : k = len := by omega
        have HB : Hid (Pl.body es = c) := by show _ = _; rw [HE.out, List.drop_eq_nil_of_le (by omega)]; simp [Pl.encL]
        obtain ⟨a2, c2, rfl, hI2, hn2, _⟩ := HO.out.shape
        have HI := hid hI2
        clear hI2 hn2
        go_wp2_with fail
        refine (seal_any _ _ _ c _ HI.out).mono ?_
        rintro e w3 ⟨v3, rfl, ho3, hb3⟩
        have hz3 := hb3.size
        obtain ⟨a3, c3, rfl, hI3, hn3, _⟩ := ho3.shape
        have HI3 := hid hI3
        have HN3 := hid hn3
        have HOC := hid (HO.out.below hb3)
        clear ho3 hI3 hn3
        go_wp2_with (at_builtin; refine append_bs rfl (.tmp 42) (.tmp 44) rfl w.heap.size _ c _ _ _ (Pl.sealL c) rfl HOC.out (by omega) rfl HI3.out HN3.out (by rw [Pl.sealL_len]; omega) ?_; intro v4 w4 ho4 hk4)
        go_ret2
        exact ⟨_, by rw [HC.out]; rfl, by unfold Pl.encO Pl.enc; rw [if_pos HC.out, HB.out]; exact ho4, (hb.trans (hb3.mono hz)).trans hk4.1⟩
  · have hcn : (c != 0) = true := by simp [hc0]
    have HP : Hid (Pl.encO es = []) := by show _ = _; unfold Pl.encO; rw [HC.out, if_neg hc0]
    clear hc0
    go_enter Tryd.func34, Tryd.ntmps34
    go_wp2_with fail
    refine (Check_any _ _ _ es _ HH.out).mono ?_
    rw [HC.out]
    rintro e w1 ⟨rfl, hb1⟩
    go_wp2_with fail
    go_ret2
    exact ⟨_, by rw [HC.out]; rfl, by rw [HP.out]; exact OwnB.nil _ _, hb1⟩
end Go.Proofs.YtcdobhdbafpkiadDoor
/-
  Contracts: merged; StoreTells.
-/
namespace Go.Proofs.YtcdobhdbafpkiadDoor
open Go.RowKit
set_option maxRecDepth 20000

theorem Pl.merge_good {a b : List Pl.Ent} (ha : Pl.Good a) (hb : Pl.Good b) : Pl.mergeC a b = 0 ∧ Pl.mergeO a b = (Pl.mrg a [] b).1 ∧ Pl.Good (Pl.mergeO a b) := by
  have h1 := (Pl.good_iff a).2 ha
  have h2 := (Pl.good_iff b).2 hb
  have hc : Pl.mergeC a b = 0 := by unfold Pl.mergeC; rw [if_pos h1]; exact h2
  have ho : Pl.mergeO a b = (Pl.mrg a [] b).1 := by unfold Pl.mergeO; rw [if_pos hc]
  exact ⟨hc, ho, by rw [ho]; exact Pl.mrg_good _ _ _ ha hb.2.1⟩

set_option maxHeartbeats 1000000 in
theorem StoreTells_any (w : World) : Calls Tryd.prog 17 #[] w fun e w' => e = .returned (.bool true) ∧ Below w.heap.size w w' := by
  have HRW : Hid (IsRaws (w.alloc (.cells #[.int .i64 1, .int .i64 1, .int .i64 1, .int .i64 1, .int .i64 2, .int .i64 2, .int .i64 2, .int .i64 2] 29)) (some ⟨w.heap.size, 0, none⟩) 2 2) := by
    refine ⟨Nat.le_refl _, by decide, .inr ⟨_, _, rfl, by simp, ?_⟩⟩
    intro i hi
    have hi' : i = 0 ∨ i = 1 := by omega
    rcases hi' with rfl | rfl
    · exact ⟨1, 1, 1, 1, ⟨by simp, by simp, by simp, by simp⟩, by decide, by decide, by decide, by decide⟩
    · exact ⟨2, 2, 2, 2, ⟨by simp, by simp, by simp, by simp⟩, by decide, by decide, by decide, by decide⟩
  have HBA := hid ((Below.refl w.heap.size w).alloc (Nat.le_refl _) (.cells #[.int .i64 1, .int .i64 1, .int .i64 1, .int .i64 1, .int .i64 2, .int .i64 2, .int .i64 2, .int .i64 2] 29))
  have HST := hid (Store_any _ _ _ 20 _ HRW.out (by omega))
  go_enter Tryd.func17, Tryd.ntmps17
  go_wp2_with fail
  refine HST.out.mono ?_
  rintro e w1 ⟨v, es, rfl, ho, hg, hlen, hne, hb1⟩
  have hne1 := hne (by omega) (by omega)
  have HG := hid hg
  obtain ⟨a1, c1, rfl, hE, _, _⟩ := ho.shape hg.ok
  have HE := hid hE
  have HB1 := hid (HBA.out.trans (hb1.mono HBA.out.size))
  have hmg := Pl.merge_good Pl.good_nil hg
  have hmt : Pl.mergeO [] es = es := by rw [hmg.2.1, Pl.mrg_tail es [] [] (by simpa using hg.2.2) (by simpa using hg.1)]; rfl
  have HMC := hid hmg.1
  have HMT := hid hmt
  have HF := hid ((Pl.good_iff es).2 hg)
  clear ho hg hE hne hmg hmt hb1
  go_wp2_with fail
  refine (Merge_any none 0 0 [] _ _ _ es _ ⟨rfl, Nat.le_refl _, by simp, by simp, .inl rfl⟩ (fun _ => rfl) HE.out).mono ?_
  rw [HMC.out, HMT.out]
  rintro e w2 ⟨vo, vk, rfl, ho2, _, hb2⟩
  obtain ⟨a2, c2, rfl, hE2, _, _⟩ := ho2.shape HG.out.ok
  have HE2 := hid hE2
  have HB2 := hid (HB1.out.trans (hb2.mono HB1.out.size))
  clear ho2 hE2 hb2
  go_wp2_with fail
  refine (Encode_any _ _ _ es _ HE2.out).mono ?_
  rw [HF.out]
  rintro e w3 ⟨v3, rfl, ho3, hb3⟩
  obtain ⟨a3, c3, rfl, hI3, _, _⟩ := ho3.shape
  have HB3 := hid (HB2.out.trans (hb3.mono HB2.out.size))
  have hbl : (0 : Int) < ((Pl.encO es).length : Int) := by
    unfold Pl.encO
    rw [if_pos HF.out, Pl.enc, List.length_append, Pl.sealL_len]
    omega
  generalize (Pl.encO es).length = nb at *
  have hel : (0 : Int) < (es.length : Int) := by omega
  clear ho3 hI3 hb3
  go_wp2
  go_ret
  exact ⟨ret_bool (by simp; omega), HB3.out⟩
end Go.Proofs.YtcdobhdbafpkiadDoor
