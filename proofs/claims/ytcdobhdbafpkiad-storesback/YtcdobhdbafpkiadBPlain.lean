/-
  Plain definitions: stores as bytes, and their seal; no program in sight.
-/
import Derived.Test.YtcdobhdbafpkiadUpd
namespace Go.Proofs.Ytcdobhdbafpkiad.Pl

def u8 (n : Int) : UInt8 := UInt8.ofNat n.toNat
theorem u8_val {n : Int} (h0 : 0 ≤ n) (h1 : n ≤ 255) : ((u8 n).toNat : Int) = n := by
  unfold u8
  rw [UInt8.toNat_ofNat']
  omega
theorem u8_nat (n : Nat) (h : n ≤ 255) : ((u8 (n : Int)).toNat : Int) = n := u8_val (by omega) (by omega)

/-- a number in sevens; so many bytes more are allowed -/
def encV : Nat → Int → List UInt8
  | 0, n => [u8 n]
  | f + 1, n => if n < 128 then [u8 n] else u8 (n % 128 + 128) :: encV f (n / 128)
def lim : Nat → Int
  | 0 => 1
  | f + 1 => 128 * lim f
theorem lim_pos : ∀ f, 1 ≤ lim f
  | 0 => by simp [lim]
  | f + 1 => by have := lim_pos f; simp only [lim]; omega
theorem encV_small {f : Nat} {n : Int} (h : n < 128) : encV f n = [u8 n] := by cases f <;> simp [encV, h]
theorem encV_great {f : Nat} {n : Int} (h : ¬ n < 128) : encV (f + 1) n = u8 (n % 128 + 128) :: encV f (n / 128) := by simp [encV, h]
theorem encV_len : ∀ (f : Nat) (n : Int), (encV f n).length ≤ f + 1
  | 0, _ => by simp [encV]
  | f + 1, n => by
    have := encV_len f (n / 128)
    unfold encV; split <;> simp; omega
theorem encV_ne (f : Nat) (n : Int) : 1 ≤ (encV f n).length := by
  cases f
  · simp [encV]
  · unfold encV; split <;> simp

def encT (s : ByteArray) : List UInt8 := u8 (s.size : Int) :: s.data.toList
def encE (e : Ent) : List UInt8 := encT e.key ++ (encV 6 e.ver ++ ([u8 e.org] ++ encT e.val))
def encL : List Ent → List UInt8
  | [] => []
  | e :: r => encE e ++ encL r
theorem encL_append : ∀ (a b : List Ent), encL (a ++ b) = encL a ++ encL b
  | [], _ => rfl
  | e :: r, b => by simp [encL, encL_append r b]
def body (es : List Ent) : List UInt8 := [116, u8 (es.length : Int)] ++ encL es

/-- the two numbers of the seal -/
def sxy : List UInt8 → Int → Int → Int × Int
  | [], x, y => (x, y)
  | c :: r, x, y => sxy r ((x + (c.toNat : Int)) % 65521) ((y + (x + (c.toNat : Int)) % 65521) % 65521)
def sealL (bs : List UInt8) : List UInt8 := [u8 ((sxy bs 1 0).2 / 256), u8 ((sxy bs 1 0).2 % 256), u8 ((sxy bs 1 0).1 / 256), u8 ((sxy bs 1 0).1 % 256)]
theorem sealL_len (bs : List UInt8) : (sealL bs).length = 4 := rfl
def enc (es : List Ent) : List UInt8 := body es ++ sealL (body es)

theorem may_parts {e : Ent} (h : e.may = true) : e.key.size ≤ 8 ∧ 1 ≤ e.key.size ∧ 1 ≤ e.ver ∧ e.ver ≤ 1099511627776 ∧ 0 ≤ e.org ∧ e.org ≤ 11 ∧ e.val.size ≤ 120 := by
  unfold Ent.may entB keyB at h
  simp only [Bool.and_eq_true, decide_eq_true_eq] at h
  obtain ⟨⟨⟨⟨h1, _⟩, h2⟩, h3⟩, h4⟩ := h
  omega
theorem encT_len (s : ByteArray) : (encT s).length = s.size + 1 := by
  unfold encT
  simp only [List.length_cons, Array.length_toList]
  rfl
theorem encE_len {e : Ent} (h : e.may = true) : (encE e).length ≤ 138 := by
  have := may_parts h
  have h6 := encV_len 6 e.ver
  unfold encE
  simp only [List.length_append, encT_len, List.length_singleton]
  omega
end Go.Proofs.Ytcdobhdbafpkiad.Pl
