/- Plain facts on bits that are turned in bytes, one behind the other. -/
import Derived.Test.YtdjodfajmcaacaaCrcMath
namespace Go.Proofs.Ytdjodfajmcaacaa
open CM
namespace CT
/-- Is the bit at this place turned, so many bits behind? -/
def flips (a n i p : Nat) : Bool := decide (a ≤ p) && decide (p < a + i) && n.testBit (p - a)
/-- Has any bit been turned? -/
def trn (n : Nat) : Nat → Bool
  | 0 => false
  | i + 1 => trn n i || n.testBit i
/-- The bytes, with the bits that are turned. -/
structure Flipped (l t : List UInt8) (a n i : Nat) : Prop where
  len : t.length = l.length
  bit : ∀ p, bitAt t p = (bitAt l p ^^ flips a n i p)
theorem Flipped.start (l : List UInt8) (a n : Nat) : Flipped l l a n 0 := ⟨rfl, fun p => by
  have : flips a n 0 p = false := by unfold flips; simp; omega
  rw [this]; simp⟩
theorem flips_succ (a n i p : Nat) : flips a n (i + 1) p = (flips a n i p ^^ (decide (p = a + i) && n.testBit i)) := by
  unfold flips
  by_cases h1 : p = a + i
  · subst h1; simp
  · have : decide (p < a + (i + 1)) = decide (p < a + i) := by
      rw [decide_eq_decide]; omega
    rw [this]; simp [h1]
theorem Flipped.same {l t : List UInt8} {a n i : Nat} (h : Flipped l t a n i) (hb : n.testBit i = false) : Flipped l t a n (i + 1) := ⟨h.len, fun p => by
  rw [flips_succ, hb, Bool.and_false, Bool.xor_false]; exact h.bit p⟩
theorem byte_xor (c : UInt8) (r : Nat) (hr : r < 8) : c.toNat ^^^ 2 ^ r < 256 := by
  have h2 : 2 ^ r < 2 ^ 8 := Nat.pow_lt_pow_right (by omega) hr
  exact Nat.xor_lt_two_pow (n := 8) c.toNat_lt h2
theorem bit_set {t : List UInt8} {q r : Nat} (hq : q < t.length) (hr : r < 8) (p : Nat) :
    bitAt (t.set q (UInt8.ofNat (t[q].toNat ^^^ 2 ^ r))) p = (bitAt t p ^^ decide (p = 8 * q + r)) := by
  have hx := byte_xor t[q] r hr
  unfold bitAt
  rw [List.getD_eq_getElem?_getD, List.getD_eq_getElem?_getD, List.getElem?_set]
  by_cases h : q = p / 8
  · subst h
    rw [if_pos rfl, if_pos hq, List.getElem?_eq_getElem hq, Option.getD_some, Option.getD_some, UInt8.toNat_ofNat', Nat.mod_eq_of_lt (by simpa using hx), Nat.testBit_xor, Nat.testBit_two_pow]
    congr 1
    rw [decide_eq_decide]; omega
  · rw [if_neg h]
    have : decide (p = 8 * q + r) = false := by simp; omega
    rw [this]; simp
theorem Flipped.more {l t : List UInt8} {a n i : Nat} (h : Flipped l t a n i) (hb : n.testBit i = true) {q r : Nat} (hq : q < t.length) (hr : r < 8) (e : a + i = 8 * q + r) :
    Flipped l (t.set q (UInt8.ofNat (t[q].toNat ^^^ 2 ^ r))) a n (i + 1) := ⟨by rw [List.length_set]; exact h.len, fun p => by
  rw [bit_set hq hr, flips_succ, hb, Bool.and_true, h.bit p, e, Bool.xor_assoc]⟩
theorem trn_of {n i j : Nat} (hj : j < i) (h : n.testBit j = true) : trn n i = true := by
  induction i with
  | zero => omega
  | succ i ih =>
    unfold trn
    by_cases hij : j = i
    · subst hij; rw [h]; simp
    · rw [ih (by omega)]; simp
theorem of_trn {n i : Nat} (h : trn n i = true) : ∃ j, j < i ∧ n.testBit j = true := by
  induction i with
  | zero => simp [trn] at h
  | succ i ih =>
    unfold trn at h
    rw [Bool.or_eq_true] at h
    rcases h with h | h
    · obtain ⟨j, hj, hb⟩ := ih h
      exact ⟨j, by omega, hb⟩
    · exact ⟨i, by omega, h⟩
/-- Of sealed bytes: still sealed just if none was turned. -/
theorem sealed_turned {l t : List UInt8} {a n i : Nat} (hl : isSealed l = true) (h : Flipped l t a n i) (hi : i ≤ 32) (ha : a + i ≤ 8 * l.length) : isSealed t = !trn n i := by
  cases ht : trn n i with
  | false =>
    have e : t = l := by
      apply bytes_ext h.len
      intro p hp
      rw [h.bit p]
      have : flips a n i p = false := by
        unfold flips
        cases hq : n.testBit (p - a) with
        | false => simp
        | true =>
          have : ¬ (p - a < i) := fun hlt => by
            have := trn_of hlt hq
            rw [ht] at this; cases this
          simp; omega
      rw [this]; simp
    rw [e, hl]; rfl
  | true =>
    obtain ⟨j, hj, hb⟩ := of_trn ht
    cases hs : isSealed t with
    | false => rfl
    | true =>
      exfalso
      have h1 := sealed_apart hs hl h.len a (fun p hp => by
          rw [h.bit p]
          have : flips a n i p = false := by unfold flips; simp; omega
          rw [this]; simp) (fun p hp => by
          rw [h.bit p]
          have : flips a n i p = false := by unfold flips; simp; omega
          rw [this]; simp) (a + j) (by rw [h.len]; omega)
      rw [h.bit] at h1
      have : flips a n i (a + j) = true := by unfold flips; simp [hj, hb]
      rw [this] at h1
      revert h1
      cases bitAt l (a + j) <;> simp

/-! ### Bytes that are changed by others, one behind the other -/
def mixK (l b : List UInt8) (k : Nat) : List UInt8 := mix (l.take k) (b.take k) ++ l.drop k
theorem mixK_zero (l b : List UInt8) : mixK l b 0 = l := by simp [mixK, mix]
theorem mixK_length {l b : List UInt8} {k : Nat} (h1 : k ≤ l.length) (h2 : k ≤ b.length) : (mixK l b k).length = l.length := by
  simp [mixK, mix]; omega
theorem mixK_get {l b : List UInt8} {k : Nat} (h1 : k < l.length) (h2 : k < b.length) : (mixK l b k)[k]'(by rw [mixK_length (by omega) (by omega)]; exact h1) = l[k] := by
  have hl : (mix (l.take k) (b.take k)).length = k := by simp [mix]; omega
  unfold mixK
  rw [List.getElem_append_right (by omega)]
  simp [hl]
theorem mixK_set {l b : List UInt8} {k : Nat} (h1 : k < l.length) (h2 : k < b.length) : (mixK l b k).set k (UInt8.ofNat (l[k].toNat ^^^ b[k].toNat)) = mixK l b (k + 1) := by
  have hl : (mix (l.take k) (b.take k)).length = k := by simp [mix]; omega
  unfold mixK
  rw [List.set_append_right _ _ (by omega), hl, Nat.sub_self, List.drop_eq_getElem_cons h1, List.set_cons_zero, List.take_succ_eq_append_getElem h1, List.take_succ_eq_append_getElem h2]
  unfold mix
  rw [List.zipWith_append (by simp; omega)]
  simp
theorem mixK_all (l b : List UInt8) {n : Nat} (h : l.length = n) : mixK l b n = mix l (b.take n) := by
  subst h; simp [mixK]
end CT
end Go.Proofs.Ytdjodfajmcaacaa
