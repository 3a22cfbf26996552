/- Plain facts on twins: a copy's bytes, its number and its text; what a sector of two halves says. -/
import Derived.Test.YtkhdidhpcdlmcaaDiskMath
namespace Go.Proofs.Ytkhdidhpcdlmcaa
open Go.RowKit Go.Lib DM
namespace TM
/-- A number's four bytes, the highest first. -/
def b4 (n : Nat) : List UInt8 := [UInt8.ofNat (n / 16777216), UInt8.ofNat (n / 65536), UInt8.ofNat (n / 256), UInt8.ofNat n]
/-- A copy of a number and a text. -/
def half (n : Nat) (t : List UInt8) : List UInt8 := b4 n ++ UInt8.ofNat t.length :: (t ++ List.replicate (59 - t.length) 0)
def num (h : List UInt8) : Nat := (((h.getD 0 0).toNat * 256 + (h.getD 1 0).toNat) * 256 + (h.getD 2 0).toNat) * 256 + (h.getD 3 0).toNat
def tlen (h : List UInt8) : Nat := min (h.getD 4 0).toNat 55
def txt (h : List UInt8) : List UInt8 := (h.drop 5).take (tlen h)
def isCopy (h : List UInt8) : Bool := h == half (num h) (txt h)
def zeros64 : List UInt8 := List.replicate 64 0
theorem num_lt (h : List UInt8) : num h < 4294967296 := by
  have h0 := (h.getD 0 0).toNat_lt
  have h1 := (h.getD 1 0).toNat_lt
  have h2 := (h.getD 2 0).toNat_lt
  have h3 := (h.getD 3 0).toNat_lt
  unfold num
  omega
theorem half_length (n : Nat) (t : List UInt8) (ht : t.length ≤ 59) : (half n t).length = 64 := by
  simp [half, b4]; omega
theorem num_half (n : Nat) (t : List UInt8) (hn : n < 4294967296) : num (half n t) = n := by
  simp [num, half, b4]; omega
theorem tlen_le (h : List UInt8) : tlen h ≤ 55 := by unfold tlen; omega
theorem tlen_half (n : Nat) (t : List UInt8) (ht : t.length ≤ 55) : tlen (half n t) = t.length := by
  simp [tlen, half, b4]; omega
theorem txt_half (n : Nat) (t : List UInt8) (ht : t.length ≤ 55) : txt (half n t) = t := by
  unfold txt
  rw [tlen_half n t ht]
  simp [half, b4]
theorem txt_length (h : List UInt8) (hh : h.length = 64) : (txt h).length = tlen h := by
  have := tlen_le h
  unfold txt
  rw [List.length_take, List.length_drop]; omega
theorem txt_le (h : List UInt8) : (txt h).length ≤ 55 := by
  have := tlen_le h
  unfold txt
  rw [List.length_take]; omega
theorem isCopy_half (n : Nat) (t : List UInt8) (hn : n < 4294967296) (ht : t.length ≤ 55) : isCopy (half n t) = true := by
  unfold isCopy
  rw [num_half n t hn, txt_half n t ht]
  exact beq_self_eq_true _
theorem zeros64_length : zeros64.length = 64 := by simp [zeros64]
theorem num_zeros : num zeros64 = 0 := rfl
/-- Two copies. -/
def two (h : List UInt8) : List UInt8 := h ++ h
theorem two_length {h : List UInt8} (hh : h.length = 64) : (two h).length = 128 := by simp [two, hh]
theorem two_first {h : List UInt8} (hh : h.length = 64) : (two h).take 64 = h := by unfold two; rw [List.take_append_of_le_length (by omega), List.take_of_length_le (by omega)]
theorem two_last {h : List UInt8} (hh : h.length = 64) : (two h).drop 64 = h := by unfold two; rw [List.drop_append_of_le_length (by omega), List.drop_eq_nil_of_le (by omega), List.nil_append]
theorem even_two {s : List UInt8} (h : s.take 64 = s.drop 64) : s = two (s.take 64) := by
  unfold two
  conv => lhs; rw [← List.take_append_drop 64 s]
  rw [← h]

/-! ### What is put into a copy, byte by byte -/
/-- The first k bytes of a number are there. -/
def lay4 (n k : Nat) : List UInt8 := (b4 n).take k ++ List.replicate (64 - k) 0
theorem lay4_length (n k : Nat) (hk : k ≤ 4) : (lay4 n k).length = 64 := by
  simp [lay4, b4]; omega
theorem lay4_step (n k : Nat) (hk : k < 4) : (lay4 n k).set k ((b4 n).getD k 0) = lay4 n (k + 1) := by
  have : k = 0 ∨ k = 1 ∨ k = 2 ∨ k = 3 := by omega
  rcases this with rfl | rfl | rfl | rfl <;> rfl
theorem lay4_zero (n : Nat) : lay4 n 0 = zeros64 := rfl
theorem b4_at (n k : Nat) (hk : k < 4) : (b4 n).getD k 0 = UInt8.ofNat (n / 2 ^ (8 * (3 - k))) := by
  have : k = 0 ∨ k = 1 ∨ k = 2 ∨ k = 3 := by omega
  rcases this with rfl | rfl | rfl | rfl <;> simp [b4]
/-- The text, behind the number and its length. -/
theorem half_laid (n : Nat) (t : List UInt8) (ht : t.length ≤ 59) : splice ((lay4 n 4).set 4 (UInt8.ofNat t.length)) 5 t = half n t := by
  have e : (lay4 n 4).set 4 (UInt8.ofNat t.length) = (b4 n ++ [UInt8.ofNat t.length]) ++ List.replicate 59 0 := rfl
  rw [e]
  unfold splice half
  have e5 : (b4 n ++ [UInt8.ofNat t.length]).length = 5 := by simp [b4]
  generalize b4 n = p at *
  rw [List.take_append_of_le_length (by omega), List.take_of_length_le (by omega), List.drop_append, List.drop_eq_nil_of_le (by omega), List.nil_append, List.drop_replicate, e5, Nat.add_sub_cancel_left]
  simp only [List.append_assoc, List.cons_append, List.nil_append]
/-! ### The number, read byte by byte -/
def numTo (h : List UInt8) : Nat → Nat
  | 0 => 0
  | k + 1 => numTo h k * 256 + (h.getD k 0).toNat
theorem numTo_four (h : List UInt8) : numTo h 4 = num h := by simp [numTo, num]
theorem numTo_lt (h : List UInt8) : ∀ k, numTo h k < 256 ^ k
  | 0 => by simp [numTo]
  | k + 1 => by
    have := numTo_lt h k
    have := (h.getD k 0).toNat_lt
    rw [numTo, Nat.pow_succ]
    omega
end TM
end Go.Proofs.Ytkhdidhpcdlmcaa
