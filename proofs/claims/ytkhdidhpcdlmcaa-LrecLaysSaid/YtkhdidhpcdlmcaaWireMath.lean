/- Plain facts on numbers' bytes (base 128), and on reading them back: no program is spoken of here. -/
namespace Go.Proofs.Ytkhdidhpcdlmcaa
namespace WM

/-- A number's bytes, with fuel. -/
def numF : Nat → Nat → List UInt8
  | 0, n => [UInt8.ofNat n]
  | f + 1, n => if n < 128 then [UInt8.ofNat n] else UInt8.ofNat (n % 128 + 128) :: numF f (n / 128)
/-- A number's bytes (of one below 2^64). -/
def numB (n : Nat) : List UInt8 := numF 9 n
/-- A text's bytes. -/
def textB (t : List UInt8) : List UInt8 := numB t.length ++ t

/-- The number with whose bytes the list goes on, behind 'at' digits that make 'n'; and how many digits it has in all. -/
def parse : Nat → Nat → List UInt8 → Option (Nat × Nat)
  | _, _, [] => none
  | a, n, c :: r =>
    if (0 < a ∧ c.toNat = 0) ∨ (a = 9 ∧ 1 < c.toNat) then none
    else if c.toNat < 128 then some (n + c.toNat * 128 ^ a, a + 1)
    else parse (a + 1) (n + (c.toNat - 128) * 128 ^ a) r
def first (l : List UInt8) : Option (Nat × Nat) := parse 0 0 l

theorem toNat_ofNat_lt {n : Nat} (h : n < 256) : (UInt8.ofNat n).toNat = n := by
  rw [UInt8.toNat_ofNat']; exact Nat.mod_eq_of_lt h
theorem ofNat_toNat (c : UInt8) : UInt8.ofNat c.toNat = c := by simp

theorem pow128_succ (a : Nat) : 128 ^ (a + 1) = 128 ^ a * 128 := Nat.pow_succ 128 a
theorem pow128_pos (a : Nat) : 0 < 128 ^ a := Nat.pow_pos (by omega)

/-- What is put is read: the general form, behind 'a' digits. -/
theorem parse_numF : ∀ (f a n m : Nat) (rest : List UInt8), f + a = 9 → m < 128 ^ (f + 1) → (0 < a → 0 < m) → (m * 128 ^ a < 2 ^ 64) →
    parse a n (numF f m ++ rest) = some (n + m * 128 ^ a, a + (numF f m).length) := by
  intro f
  induction f with
  | zero =>
    intro a n m rest ha hm hp h64
    obtain rfl : a = 9 := by omega
    have h2 : m ≤ 1 := by
      have h9 : (128 : Nat) ^ 9 = 9223372036854775808 := by decide
      rw [h9] at h64
      omega
    have hp := hp (by omega)
    have hc : (UInt8.ofNat m).toNat = m := toNat_ofNat_lt (by omega)
    simp only [numF, List.cons_append, List.nil_append, parse, hc, List.length_cons, List.length_nil]
    rw [if_neg (by omega), if_pos (by omega)]
  | succ f ih =>
    intro a n m rest ha hm hp h64
    by_cases h : m < 128
    · have hc : (UInt8.ofNat m).toNat = m := toNat_ofNat_lt (by omega)
      simp only [numF, if_pos h, List.cons_append, List.nil_append, parse, hc, List.length_cons, List.length_nil]
      rw [if_neg (by omega)]
    · have hc : (UInt8.ofNat (m % 128 + 128)).toNat = m % 128 + 128 := toNat_ofNat_lt (by omega)
      simp only [numF, if_neg h, List.cons_append, parse, hc, List.length_cons]
      rw [if_neg (by omega), if_neg (by omega), Nat.add_sub_cancel]
      have hdiv : m = 128 * (m / 128) + m % 128 := (Nat.div_add_mod m 128).symm
      have hle : m / 128 * 128 ^ (a + 1) ≤ m * 128 ^ a := by
        rw [pow128_succ, Nat.mul_comm (128 ^ a) 128, ← Nat.mul_assoc]
        exact Nat.mul_le_mul_right _ (by omega)
      have hm' : m / 128 < 128 ^ (f + 1) := by
        rw [Nat.div_lt_iff_lt_mul (by omega)]
        rwa [← pow128_succ]
      rw [ih (a + 1) _ (m / 128) rest (by omega) hm' (by omega) (by omega)]
      congr 2
      · rw [pow128_succ]
        have e : m * 128 ^ a = (128 * (m / 128) + m % 128) * 128 ^ a := by rw [← hdiv]
        rw [e, Nat.add_mul, Nat.mul_comm (128 ^ a) 128, Nat.mul_comm 128 (m / 128), Nat.mul_assoc]
        omega
      · omega

theorem first_numB (n : Nat) (rest : List UInt8) (hn : n < 2 ^ 64) : first (numB n ++ rest) = some (n, (numB n).length) := by
  have h := parse_numF 9 0 0 n rest rfl (by have : (128 : Nat) ^ 10 = 1180591620717411303424 := by decide
                                            omega) (by omega) (by omega)
  simpa [first, numB] using h

theorem numF_length : ∀ (f m : Nat), 1 ≤ (numF f m).length ∧ (numF f m).length ≤ f + 1
  | 0, m => by simp [numF]
  | f + 1, m => by
    have := numF_length f (m / 128)
    by_cases h : m < 128
    · simp [numF, h]
    · simp only [numF, if_neg h, List.length_cons]; omega
theorem numB_pos (n : Nat) : 1 ≤ (numB n).length := (numF_length 9 n).1
theorem numB_le (n : Nat) : (numB n).length ≤ 10 := (numF_length 9 n).2

/-- What is read are the bytes that would be put. -/
theorem parse_some : ∀ (l : List UInt8) (f a n N K : Nat), f + a = 9 → n < 128 ^ a → parse a n l = some (N, K) →
    ∃ m, N = n + m * 128 ^ a ∧ a < K ∧ K - a ≤ l.length ∧ l.take (K - a) = numF f m ∧ N < 2 ^ 64 ∧ (0 < a → 0 < m) ∧ K ≤ 10
  | [], _, _, _, _, _, _, _, h => by simp [parse] at h
  | c :: r, f, a, n, N, K, hf, hn, h => by
    simp only [parse] at h
    by_cases h1 : (0 < a ∧ c.toNat = 0) ∨ (a = 9 ∧ 1 < c.toNat)
    · rw [if_pos h1] at h; simp at h
    rw [if_neg h1] at h
    have hp := pow128_pos a
    by_cases h2 : c.toNat < 128
    · rw [if_pos h2] at h
      simp only [Option.some.injEq, Prod.mk.injEq] at h
      obtain ⟨rfl, rfl⟩ := h
      refine ⟨c.toNat, rfl, by omega, by simp, ?_, ?_, by omega, by omega⟩
      · rw [Nat.add_sub_cancel_left]
        cases f with
        | zero => simp [numF]
        | succ f => simp [numF, h2]
      · by_cases h9 : a = 9
        · subst h9
          have e9 : (128 : Nat) ^ 9 = 9223372036854775808 := by decide
          rw [e9] at hn ⊢
          have : c.toNat ≤ 1 := by omega
          omega
        · have hle : 128 ^ (a + 1) ≤ 128 ^ 9 := Nat.pow_le_pow_right (by omega) (by omega)
          have e9 : (128 : Nat) ^ 9 = 9223372036854775808 := by decide
          rw [pow128_succ, e9] at hle
          have hm : c.toNat * 128 ^ a ≤ 127 * 128 ^ a := Nat.mul_le_mul_right _ (by omega)
          omega
    · rw [if_neg h2] at h
      have h9 : a ≠ 9 := by omega
      obtain ⟨f, rfl⟩ : ∃ g, f = g + 1 := ⟨f - 1, by omega⟩
      have hc256 : c.toNat < 256 := c.toNat_lt
      have hn' : n + (c.toNat - 128) * 128 ^ a < 128 ^ (a + 1) := by
        rw [pow128_succ]
        have hm : (c.toNat - 128) * 128 ^ a ≤ 127 * 128 ^ a := Nat.mul_le_mul_right _ (by omega)
        omega
      obtain ⟨m, hN, hK, hl, ht, h64, hm, h10⟩ := parse_some r f (a + 1) _ N K (by omega) hn' h
      have hm := hm (by omega)
      refine ⟨(c.toNat - 128) + 128 * m, ?_, by omega, by simp; omega, ?_, h64, by omega, h10⟩
      · rw [hN, pow128_succ, Nat.add_mul, Nat.mul_comm (128 ^ a) 128, ← Nat.mul_assoc, Nat.mul_comm m 128]
        omega
      · have hk : K - a = (K - (a + 1)) + 1 := by omega
        rw [hk, List.take_succ_cons, ht]
        have e1 : (c.toNat - 128 + 128 * m) % 128 + 128 = c.toNat := by omega
        have e2 : (c.toNat - 128 + 128 * m) / 128 = m := by omega
        simp only [numF]
        rw [if_neg (by omega), e1, e2, ofNat_toNat]

theorem first_some {l : List UInt8} {n k : Nat} (h : first l = some (n, k)) :
    0 < k ∧ k ≤ l.length ∧ l.take k = numB n ∧ n < 2 ^ 64 ∧ k = (numB n).length ∧ k ≤ 10 := by
  obtain ⟨m, hN, hK, hl, ht, h64, _, h10⟩ := parse_some l 9 0 0 n k rfl (by simp) h
  have e : n = m := by simpa using hN
  subst e
  refine ⟨by omega, by omega, by simpa [numB] using ht, h64, ?_, h10⟩
  have := congrArg List.length ht
  simp only [List.length_take, Nat.sub_zero] at this
  unfold numB
  omega

/-- A list begins with a number's bytes: then it is these, and what stands behind. -/
theorem first_split {l : List UInt8} {n k : Nat} (h : first l = some (n, k)) : l = numB n ++ l.drop k := by
  obtain ⟨_, _, ht, _⟩ := first_some h
  rw [← ht, List.take_append_drop]

/-- No beginning of a number's bytes is one's. -/
theorem first_cut {n j : Nat} (hn : n < 2 ^ 64) (hj : j < (numB n).length) : first ((numB n).take j) = none := by
  rcases hf : first ((numB n).take j) with _ | ⟨m, k⟩
  · rfl
  · exfalso
    have hs := first_split hf
    obtain ⟨h0, hk, ht, h64, he, _⟩ := first_some hf
    have h1 : numB n = numB m ++ (((numB n).take j).drop k ++ (numB n).drop j) := by
      rw [← List.append_assoc, ← hs, List.take_append_drop]
    have h2 : first (numB n) = some (m, (numB m).length) := by rw [h1]; exact first_numB m _ h64
    have h3 : first (numB n) = some (n, (numB n).length) := by simpa using first_numB n [] hn
    rw [h3] at h2
    simp only [Option.some.injEq, Prod.mk.injEq] at h2
    have : k ≤ j := by rw [List.length_take] at hk; omega
    omega

theorem numB_inj {n m : Nat} (hn : n < 2 ^ 64) (hm : m < 2 ^ 64) (h : numB n = numB m) : n = m := by
  have h1 := first_numB n [] hn
  rw [h, first_numB m [] hm] at h1
  simp only [Option.some.injEq, Prod.mk.injEq] at h1
  exact h1.1.symm

/-! ### A reader, as a value: what is left, and has it failed? -/
def numS (s : List UInt8) (bad : Bool) : Nat × List UInt8 × Bool :=
  if bad then (0, s, true) else match first s with
    | none => (0, [], true)
    | some (n, k) => (n, s.drop k, false)
def textS (s : List UInt8) (bad : Bool) : List UInt8 × List UInt8 × Bool :=
  let x := numS s bad
  if x.2.2 then ([], x.2.1, true)
  else if x.2.1.length < x.1 then ([], [], true)
  else (x.2.1.take x.1, x.2.1.drop x.1, false)

theorem numS_bad (s : List UInt8) : numS s true = (0, s, true) := rfl
theorem numS_none {s : List UInt8} (h : first s = none) : numS s false = (0, [], true) := by simp [numS, h]
theorem numS_some {s : List UInt8} {n k : Nat} (h : first s = some (n, k)) : numS s false = (n, s.drop k, false) := by simp [numS, h]
theorem textS_bad (s : List UInt8) : textS s true = ([], s, true) := rfl
theorem textS_none {s : List UInt8} (h : first s = none) : textS s false = ([], [], true) := by simp [textS, numS_none h]
theorem textS_long {s : List UInt8} {n k : Nat} (h : first s = some (n, k)) (hl : (s.drop k).length < n) : textS s false = ([], [], true) := by
  simp only [textS, numS_some h, if_pos hl]; simp
theorem textS_some {s : List UInt8} {n k : Nat} (h : first s = some (n, k)) (hl : n ≤ (s.drop k).length) : textS s false = ((s.drop k).take n, (s.drop k).drop n, false) := by
  have : ¬ (s.drop k).length < n := by omega
  simp only [textS, numS_some h, if_neg this]; simp

theorem numS_put (n : Nat) (rest : List UInt8) (hn : n < 2 ^ 64) : numS (numB n ++ rest) false = (n, rest, false) := by
  rw [numS_some (first_numB n rest hn)]; simp
theorem textS_put (t rest : List UInt8) (ht : t.length < 2 ^ 64) : textS (textB t ++ rest) false = (t, rest, false) := by
  have h : first (textB t ++ rest) = some (t.length, (numB t.length).length) := by
    rw [textB, List.append_assoc]; exact first_numB _ _ ht
  have hd : (textB t ++ rest).drop (numB t.length).length = t ++ rest := by rw [textB, List.append_assoc]; simp
  rw [textS_some h (by rw [hd]; simp), hd]
  simp

end WM
end Go.Proofs.Ytkhdidhpcdlmcaa
