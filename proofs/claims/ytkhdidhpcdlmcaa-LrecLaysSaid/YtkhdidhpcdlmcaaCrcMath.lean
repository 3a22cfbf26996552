/- Plain facts on sums of bytes (32 bits), bit by bit: no program is spoken of here. -/
namespace Go.Proofs.Ytkhdidhpcdlmcaa
namespace CM

/-- The polynomial. -/
def poly : Nat := 0xedb88320
/-- A state is shifted once. -/
def shf (m : Nat) : Nat := if m % 2 = 1 then m / 2 ^^^ poly else m / 2
/-- One bit more. -/
def stp (n : Nat) (b : Bool) : Nat := shf (n ^^^ b.toNat)
/-- The state behind so many bits of a row, from a state on. -/
def runFrom (s : Nat) (f : Nat → Bool) : Nat → Nat
  | 0 => s
  | k + 1 => stp (runFrom s f k) (f k)
/-- The bit at a place of bytes. -/
def bitAt (l : List UInt8) (p : Nat) : Bool := (l.getD (p / 8) 0).toNat.testBit (p % 8)
/-- The state behind so many bits of bytes. -/
def st (l : List UInt8) (k : Nat) : Nat := runFrom 0xffffffff (bitAt l) k
/-- The sumB. -/
def sumB (l : List UInt8) : Nat := 0xffffffff - st l (8 * l.length)
/-- A sumB's bytes, the lowest first. -/
def four (n : Nat) : List UInt8 := [UInt8.ofNat n, UInt8.ofNat (n / 256), UInt8.ofNat (n / 65536), UInt8.ofNat (n / 16777216)]
/-- Sealed. -/
def sealB (l : List UInt8) : List UInt8 := l ++ four (sumB l)
/-- Is it sealed? -/
def isSealed (l : List UInt8) : Bool := decide (4 ≤ l.length) && decide (sealB (l.take (l.length - 4)) = l)

theorem P32 : (2:Nat) ^ 32 = 4294967296 := by decide
theorem poly_lt : poly < 2 ^ 32 := by decide
theorem bool_lt (b : Bool) : b.toNat < 2 ^ 32 := by cases b <;> decide
theorem shf_lt {m : Nat} (h : m < 2 ^ 32) : shf m < 2 ^ 32 := by
  unfold shf
  split
  · exact Nat.xor_lt_two_pow (by omega) poly_lt
  · omega
theorem stp_lt {n : Nat} (h : n < 2 ^ 32) (b : Bool) : stp n b < 2 ^ 32 := shf_lt (Nat.xor_lt_two_pow h (bool_lt b))
theorem runFrom_lt {s : Nat} (h : s < 2 ^ 32) (f : Nat → Bool) : ∀ k, runFrom s f k < 2 ^ 32
  | 0 => h
  | k + 1 => stp_lt (runFrom_lt h f k) _
theorem st_lt (l : List UInt8) (k : Nat) : st l k < 2 ^ 32 := runFrom_lt (by decide) _ _
theorem sumB_lt (l : List UInt8) : sumB l < 2 ^ 32 := by unfold sumB; omega

/-! ### A shf of a xor is the xor of the shifts -/
theorem xor_mod2 (a b : Nat) : (a ^^^ b) % 2 = (a % 2 + b % 2) % 2 := by
  have h : (a ^^^ b) % 2 ^ 1 = a % 2 ^ 1 ^^^ b % 2 ^ 1 := Nat.xor_mod_two_pow
  simp only [Nat.pow_one] at h
  rw [h]
  rcases Nat.mod_two_eq_zero_or_one a with ha | ha <;> rcases Nat.mod_two_eq_zero_or_one b with hb | hb <;> rw [ha, hb] <;> rfl
theorem xor_div2 (a b : Nat) : (a ^^^ b) / 2 = (a / 2) ^^^ (b / 2) := by
  have := Nat.xor_div_two (a := a) (b := b)
  exact this
theorem xor_self_cancel (a b : Nat) : (a ^^^ b) ^^^ b = a := by rw [Nat.xor_assoc, Nat.xor_self, Nat.xor_zero]
theorem shf_xor (a b : Nat) : shf (a ^^^ b) = shf a ^^^ shf b := by
  unfold shf
  rw [xor_mod2, xor_div2]
  rcases Nat.mod_two_eq_zero_or_one a with ha | ha <;> rcases Nat.mod_two_eq_zero_or_one b with hb | hb <;> simp only [ha, hb]
  · simp
  · simp only [if_neg (show ¬ (0 : Nat) = 1 by decide), if_pos]
    simp [Nat.xor_assoc]
  · simp
    rw [Nat.xor_assoc, Nat.xor_assoc, Nat.xor_comm poly]
  · simp
    rw [Nat.xor_assoc, ← Nat.xor_assoc poly, Nat.xor_comm poly (b/2), Nat.xor_assoc, Nat.xor_self, Nat.xor_zero]

theorem stp_xor (a b : Nat) (x y : Bool) : stp (a ^^^ b) (x ^^ y) = stp a x ^^^ stp b y := by
  unfold stp
  rw [← shf_xor]
  congr 1
  have e : (x ^^ y).toNat = x.toNat ^^^ y.toNat := by cases x <;> cases y <;> rfl
  rw [e, Nat.xor_assoc, Nat.xor_assoc, ← Nat.xor_assoc b, Nat.xor_comm b x.toNat, Nat.xor_assoc]
theorem run_xor (s t : Nat) (f g : Nat → Bool) : ∀ k, runFrom (s ^^^ t) (fun i => f i ^^ g i) k = runFrom s f k ^^^ runFrom t g k
  | 0 => rfl
  | k + 1 => by
    simp only [runFrom]
    rw [run_xor s t f g k, stp_xor]
theorem run_congr {s : Nat} {f g : Nat → Bool} : ∀ k, (∀ i, i < k → f i = g i) → runFrom s f k = runFrom s g k
  | 0, _ => rfl
  | k + 1, h => by
    simp only [runFrom]
    rw [run_congr k (fun i hi => h i (by omega)), h k (by omega)]
theorem run_add (s : Nat) (f : Nat → Bool) (m : Nat) : ∀ k, runFrom s f (m + k) = runFrom (runFrom s f m) (fun i => f (m + i)) k
  | 0 => rfl
  | k + 1 => by
    show stp (runFrom s f (m + k)) (f (m + k)) = stp (runFrom (runFrom s f m) (fun i => f (m + i)) k) (f (m + k))
    rw [run_add s f m k]

/-! ### Bytes and their bits -/
theorem byte_lt (c : UInt8) : c.toNat < 256 := c.toNat_lt
theorem bitAt_append_left {l t : List UInt8} {p : Nat} (h : p < 8 * l.length) : bitAt (l ++ t) p = bitAt l p := by
  unfold bitAt
  simp only [List.getD_eq_getElem?_getD, List.getElem?_append_left (show p / 8 < l.length by omega)]
theorem bitAt_append_right (l t : List UInt8) (p : Nat) : bitAt (l ++ t) (8 * l.length + p) = bitAt t p := by
  unfold bitAt
  simp only [List.getD_eq_getElem?_getD, List.getElem?_append_right (show l.length ≤ (8 * l.length + p) / 8 by omega)]
  rw [show (8 * l.length + p) / 8 - l.length = p / 8 by omega, show (8 * l.length + p) % 8 = p % 8 by omega]
theorem st_append {l t : List UInt8} {k : Nat} (h : k ≤ 8 * l.length) : st (l ++ t) k = st l k :=
  run_congr k fun i hi => bitAt_append_left (by omega)

theorem four_length (n : Nat) : (four n).length = 4 := rfl
theorem testBit_byte (n k i : Nat) (hi : i < 8) : (UInt8.ofNat (n / 2 ^ k)).toNat.testBit i = n.testBit (k + i) := by
  rw [UInt8.toNat_ofNat', show (2:Nat) ^ 8 = 2 ^ 8 from rfl, Nat.testBit_mod_two_pow, Nat.testBit_div_two_pow]
  simp [hi, Nat.add_comm]
theorem bitAt_four (n i : Nat) (h : i < 32) : bitAt (four n) i = n.testBit i := by
  have h4 : i / 8 = 0 ∨ i / 8 = 1 ∨ i / 8 = 2 ∨ i / 8 = 3 := by omega
  have hm : i % 8 < 8 := Nat.mod_lt _ (by omega)
  unfold bitAt four
  rcases h4 with h | h | h | h <;> rw [h]
  · have := testBit_byte n 0 (i % 8) hm
    simp only [Nat.pow_zero, Nat.div_one, Nat.zero_add] at this
    rw [show i = i % 8 by omega]
    simpa using this
  · have := testBit_byte n 8 (i % 8) hm
    rw [show 8 + i % 8 = i by omega] at this
    simpa using this
  · have := testBit_byte n 16 (i % 8) hm
    rw [show 16 + i % 8 = i by omega] at this
    simpa using this
  · have := testBit_byte n 24 (i % 8) hm
    rw [show 24 + i % 8 = i by omega] at this
    simpa using this

/-! ### Whatever is sealed ends in one state -/
/-- The state behind so many ones, from 0 on. -/
def ones (i : Nat) : Nat := runFrom 0 (fun _ => true) i
theorem compl_testBit {s i : Nat} (hs : s < 2 ^ 32) (hi : i < 32) : (0xffffffff - s).testBit i = !s.testBit i := by
  have := Nat.testBit_two_pow_sub_succ hs i
  rw [show 2 ^ 32 - (s + 1) = 0xffffffff - s by omega] at this
  rw [this]; simp [hi]
theorem testBit_toNat (s i : Nat) : (s.testBit i).toNat = s / 2 ^ i % 2 := by
  rw [Nat.testBit_eq_decide_div_mod_eq]
  rcases Nat.mod_two_eq_zero_or_one (s / 2 ^ i) with h | h <;> simp [h]
theorem seal_run {s : Nat} (hs : s < 2 ^ 32) (f : Nat → Bool) (hf : ∀ i, i < 32 → f i = !s.testBit i) : ∀ i, i ≤ 32 → runFrom s f i = (s / 2 ^ i) ^^^ ones i
  | 0, _ => by simp [runFrom, ones]
  | i + 1, h => by
    have ih := seal_run hs f hf i (by omega)
    have e : s / 2 ^ i = (s / 2 ^ i) := rfl
    simp only [runFrom, ones]
    rw [ih, hf i (by omega)]
    have e1 : stp (s / 2 ^ i) (!s.testBit i ^^ true) = s / 2 ^ (i + 1) := by
      unfold stp shf
      have hb : (!s.testBit i ^^ true) = s.testBit i := by cases s.testBit i <;> rfl
      rw [hb, xor_mod2, xor_div2, testBit_toNat]
      have : (s / 2 ^ i % 2 + s / 2 ^ i % 2 % 2) % 2 = 0 := by omega
      rw [this]
      simp only [if_neg (show ¬ (0 : Nat) = 1 by decide)]
      rw [show s / 2 ^ i % 2 / 2 = 0 by omega, Nat.xor_zero, Nat.pow_succ, Nat.div_div_eq_div_mul]
    have := stp_xor (s / 2 ^ i) (ones i) (!s.testBit i ^^ true) true
    rw [e1, show ((!s.testBit i ^^ true) ^^ true) = !s.testBit i by cases s.testBit i <;> rfl] at this
    exact this
theorem st_sealed (l : List UInt8) : st (sealB l) (8 * (sealB l).length) = ones 32 := by
  have hl : 8 * (sealB l).length = 8 * l.length + 32 := by unfold sealB; rw [List.length_append, four_length]; omega
  rw [hl]
  unfold st
  rw [run_add]
  have h0 : runFrom 0xffffffff (bitAt (sealB l)) (8 * l.length) = st l (8 * l.length) := st_append (Nat.le_refl _)
  rw [h0, seal_run (st_lt _ _) _ ?_ 32 (Nat.le_refl _)]
  · rw [Nat.div_eq_of_lt (st_lt _ _), Nat.zero_xor]
  · intro i hi
    unfold sealB
    rw [bitAt_append_right, bitAt_four _ _ hi, sumB, compl_testBit (st_lt _ _) hi]

/-! ### What a window of 32 bits can do -/
theorem shf_small {m j : Nat} (_hm : m < 2 ^ 32) (hj : shf m < 2 ^ j) (h31 : j ≤ 31) : m = 2 * shf m := by
  have hp : 2 ^ j ≤ 2 ^ 31 := Nat.pow_le_pow_right (by omega) h31
  have hlt : shf m < 2 ^ 31 := by omega
  by_cases h : m % 2 = 1
  · exfalso
    have e : shf m = m / 2 ^^^ poly := by unfold shf; rw [if_pos h]
    have h1 : (shf m).testBit 31 = false := Nat.testBit_lt_two_pow hlt
    have h2 : (m / 2).testBit 31 = false := Nat.testBit_lt_two_pow (by omega)
    rw [e, Nat.testBit_xor, h2] at h1
    revert h1; decide
  · have e : shf m = m / 2 := by unfold shf; rw [if_neg h]
    omega
/-- Behind k bits from 0 on nothing is left: then none of the last 32 was set; and what was there 32 ahead was 0. -/
theorem run_zero_back (f : Nat → Bool) (n : Nat) (h : runFrom 0 f n = 0) : ∀ k, k ≤ 32 → k ≤ n →
    runFrom 0 f (n - k) < 2 ^ k ∧ ∀ i, i < k → f (n - k + i) = (runFrom 0 f (n - k)).testBit i
  | 0, _, _ => by
    refine ⟨by rw [Nat.sub_zero, h]; decide, fun i hi => by omega⟩
  | k + 1, h32, hn => by
    obtain ⟨h1, h2⟩ := run_zero_back f n h k (by omega) (by omega)
    have e : n - k = (n - (k + 1)) + 1 := by omega
    rw [e] at h1 h2
    generalize n - (k + 1) = m at *
    have hlt := runFrom_lt (s := 0) (by decide) f m
    have hm : runFrom 0 f m ^^^ (f m).toNat < 2 ^ 32 := Nat.xor_lt_two_pow hlt (bool_lt _)
    have hr : runFrom 0 f (m + 1) = shf (runFrom 0 f m ^^^ (f m).toNat) := rfl
    rw [hr] at h1 h2
    have h3 := shf_small hm h1 (by omega)
    generalize hS : shf (runFrom 0 f m ^^^ (f m).toNat) = S at *
    have h4 : runFrom 0 f m = 2 * S ^^^ (f m).toNat := by rw [← h3, xor_self_cancel]
    have h5 : runFrom 0 f m = 2 * S + (f m).toNat := by
      rw [h4]
      have a := xor_mod2 (2 * S) (f m).toNat
      have b := xor_div2 (2 * S) (f m).toNat
      have c : (f m).toNat / 2 = 0 := by cases f m <;> rfl
      have d : (f m).toNat < 2 := by cases f m <;> decide
      rw [c, Nat.xor_zero] at b
      omega
    have d : (f m).toNat < 2 := by cases f m <;> decide
    refine ⟨by rw [h5, Nat.pow_succ]; omega, ?_⟩
    intro i hi
    rw [h5]
    cases i with
    | zero =>
      rw [Nat.add_zero, Nat.testBit_zero]
      cases f m <;> simp
    | succ i =>
      have := h2 i (by omega)
      rw [show m + (i + 1) = m + 1 + i by omega, this, Nat.testBit_succ]
      congr 1
      omega
theorem run_zero_end (f : Nat → Bool) (n m : Nat) (h : runFrom 0 f (n + m) = 0) (hf : ∀ i, n ≤ i → f i = false) : runFrom 0 f n = 0 := by
  induction m with
  | zero => exact h
  | succ m ih =>
    apply ih
    have hlt := runFrom_lt (s := 0) (by decide) f (n + m)
    have hr : runFrom 0 f (n + (m + 1)) = shf (runFrom 0 f (n + m) ^^^ (f (n + m)).toNat) := rfl
    rw [hr, hf (n + m) (by omega), Bool.toNat_false, Nat.xor_zero] at h
    have := shf_small (j := 0) hlt (by rw [h]; decide) (by omega)
    omega
theorem run_zero_ahead (f : Nat → Bool) : ∀ n, (∀ i, i < n → f i = false) → runFrom 0 f n = 0
  | 0, _ => rfl
  | n + 1, h => by
    simp only [runFrom]
    rw [run_zero_ahead f n (fun i hi => h i (by omega)), h n (by omega)]
    rfl
/-- Bits that are set within 32 next to one another, one at least, are seen. -/
theorem seen (f : Nat → Bool) (n a : Nat) (hlo : ∀ i, i < a → f i = false) (hhi : ∀ i, a + 32 ≤ i → f i = false) (h : runFrom 0 f n = 0) : ∀ i, i < n → f i = false := by
  intro i hi
  by_cases ha : i < a
  · exact hlo i ha
  by_cases hb : a + 32 ≤ i
  · exact hhi i hb
  have h0 := run_zero_ahead f a hlo
  by_cases hn : n ≤ a + 32
  · obtain ⟨_, h2⟩ := run_zero_back f n h (n - a) (by omega) (by omega)
    have := h2 (i - a) (by omega)
    rw [show n - (n - a) = a by omega, h0, show a + (i - a) = i by omega] at this
    simpa using this
  · have h' := run_zero_end f (a + 32) (n - (a + 32)) (by rw [show a + 32 + (n - (a + 32)) = n by omega]; exact h) hhi
    obtain ⟨_, h2⟩ := run_zero_back f (a + 32) h' 32 (by omega) (by omega)
    have := h2 (i - a) (by omega)
    rw [show a + 32 - 32 = a by omega, h0, show a + (i - a) = i by omega] at this
    simpa using this

/-- Two sealed texts of one length that part within 32 bits at most are the same, bit by bit. -/
theorem sealed_apart {l t : List UInt8} (hl : isSealed l = true) (ht : isSealed t = true) (hlen : l.length = t.length) (a : Nat)
    (hlo : ∀ i, i < a → bitAt l i = bitAt t i) (hhi : ∀ i, a + 32 ≤ i → bitAt l i = bitAt t i) : ∀ i, i < 8 * l.length → bitAt l i = bitAt t i := by
  have key : ∀ l : List UInt8, isSealed l = true → st l (8 * l.length) = ones 32 := by
    intro l h
    simp only [isSealed, Bool.and_eq_true, decide_eq_true_eq] at h
    have := st_sealed (l.take (l.length - 4))
    rwa [h.2] at this
  have h1 := key l hl
  have h2 := key t ht
  have hx := run_xor 0xffffffff 0xffffffff (bitAt l) (bitAt t) (8 * l.length)
  unfold st at h1 h2
  rw [h1, hlen, h2, Nat.xor_self, Nat.xor_self] at hx
  intro i hi
  have := seen (fun i => bitAt l i ^^ bitAt t i) (8 * t.length) a (fun i hi => by simp [hlo i hi]) (fun i hi => by simp [hhi i hi]) hx i (by omega)
  revert this
  cases bitAt l i <;> cases bitAt t i <;> simp

theorem bytes_ext {l t : List UInt8} (hlen : l.length = t.length) (h : ∀ i, i < 8 * l.length → bitAt l i = bitAt t i) : l = t := by
  apply List.ext_getElem hlen
  intro k h1 h2
  apply UInt8.toNat_inj.1
  apply Nat.eq_of_testBit_eq
  intro i
  by_cases hi : i < 8
  · have := h (8 * k + i) (by omega)
    unfold bitAt at this
    rw [show (8 * k + i) / 8 = k by omega, show (8 * k + i) % 8 = i by omega] at this
    simpa [List.getD_eq_getElem?_getD, List.getElem?_eq_getElem h1, List.getElem?_eq_getElem h2] using this
  · have hp : (2:Nat) ^ 8 ≤ 2 ^ i := Nat.pow_le_pow_right (by omega) (by omega)
    have a1 := byte_lt l[k]
    have a2 := byte_lt t[k]
    rw [Nat.testBit_lt_two_pow (by omega), Nat.testBit_lt_two_pow (by omega)]

/-! ### Sealed texts are opened -/
theorem seal_length (l : List UInt8) : (sealB l).length = l.length + 4 := by unfold sealB; rw [List.length_append, four_length]
theorem seal_take (l : List UInt8) : (sealB l).take ((sealB l).length - 4) = l := by
  rw [seal_length, Nat.add_sub_cancel]; unfold sealB; simp
theorem seal_is (l : List UInt8) : isSealed (sealB l) = true := by
  unfold isSealed
  rw [seal_take, seal_length]; simp

/-! ### The sums of two texts that are changed alike -/
/-- Each byte is changed by another list's. -/
def mix (l by' : List UInt8) : List UInt8 := List.zipWith (fun a b => UInt8.ofNat (a.toNat ^^^ b.toNat)) l by'
theorem mix_length {l b : List UInt8} (h : l.length = b.length) : (mix l b).length = l.length := by unfold mix; simp [h]
theorem bitAt_mix {l b : List UInt8} (h : l.length = b.length) {p : Nat} (hp : p < 8 * l.length) : bitAt (mix l b) p = (bitAt l p ^^ bitAt b p) := by
  unfold bitAt mix
  have h1 : p / 8 < l.length := by omega
  have h2 : p / 8 < b.length := by omega
  have e1 := byte_lt l[p / 8]
  have e2 := byte_lt b[p / 8]
  have hx : l[p / 8].toNat ^^^ b[p / 8].toNat < 2 ^ 8 := Nat.xor_lt_two_pow (by omega) (by omega)
  simp only [List.getD_eq_getElem?_getD, List.getElem?_zipWith, List.getElem?_eq_getElem h1, List.getElem?_eq_getElem h2, Option.getD_some]
  rw [UInt8.toNat_ofNat', Nat.mod_eq_of_lt (by simpa using hx), Nat.testBit_xor]
theorem compl_xor {a b : Nat} (ha : a < 2 ^ 32) (hb : b < 2 ^ 32) : (0xffffffff - a) ^^^ (0xffffffff - b) = a ^^^ b := by
  apply Nat.eq_of_testBit_eq
  intro i
  rw [Nat.testBit_xor, Nat.testBit_xor]
  by_cases hi : i < 32
  · rw [compl_testBit ha hi, compl_testBit hb hi]
    cases a.testBit i <;> cases b.testBit i <;> rfl
  · have hp : (2:Nat) ^ 32 ≤ 2 ^ i := Nat.pow_le_pow_right (by omega) (by omega)
    rw [Nat.testBit_lt_two_pow (by omega), Nat.testBit_lt_two_pow (by omega), Nat.testBit_lt_two_pow (by omega), Nat.testBit_lt_two_pow (by omega)]
theorem sums_alike {x y b : List UInt8} (hx : x.length = b.length) (hy : y.length = b.length) : sumB (mix x b) ^^^ sumB (mix y b) = sumB x ^^^ sumB y := by
  unfold sumB
  rw [compl_xor (st_lt _ _) (st_lt _ _), compl_xor (st_lt _ _) (st_lt _ _), mix_length hx, mix_length hy, hx, hy]
  unfold st
  rw [← run_xor, ← run_xor]
  apply run_congr
  intro i hi
  rw [bitAt_mix hx (by omega), bitAt_mix hy (by omega)]
  cases bitAt x i <;> cases bitAt y i <;> cases bitAt b i <;> rfl
end CM
end Go.Proofs.Ytkhdidhpcdlmcaa
