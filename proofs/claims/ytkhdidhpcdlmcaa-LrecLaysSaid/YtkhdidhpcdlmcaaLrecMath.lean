/- Entries as plain data: which may be, which bytes they have, and with which entry any bytes begin. -/
import Derived.Test.YtkhdidhpcdlmcaaCrcSeal
import Derived.Test.YtkhdidhpcdlmcaaWireMath
namespace Go.Proofs.Ytkhdidhpcdlmcaa
open WM CM CE
namespace LM
structure Ro where
  key : List UInt8
  lsn : Nat
  del : Bool
  val : List UInt8
structure En where
  ts : Nat
  fst : Nat
  ops : List Ro
/-- What speaks against a record. -/
def mayO (x : Ro) : Int := if 16 < x.key.length ∨ 24 < x.val.length then 3 else if x.key = [] then 2 else if x.del = true ∧ x.val ≠ [] then 2 else 0
def stampB (n : Nat) : Bool := decide (1 ≤ n) && decide (n ≤ 1099511627776)
def someO (c : Int) : List Ro → Bool
  | [] => false
  | x :: r => (mayO x == c) || someO c r
/-- Is there one whose key is among those ahead? -/
def twiceO (seen : List (List UInt8)) : List Ro → Bool
  | [] => false
  | x :: r => if x.key ∈ seen then true else twiceO (seen ++ [x.key]) r
/-- Do the LSNs go on from f? -/
def rowO (f : Nat) : List Ro → Bool
  | [] => true
  | x :: r => decide (x.lsn = f) && stampB x.lsn && rowO (f + 1) r
/-- What speaks against an entry. -/
def checkE (e : En) : Int :=
  if 6 < e.ops.length ∨ someO 3 e.ops = true then 3
  else if stampB e.ts = false ∨ stampB e.fst = false then 2
  else if e.ops = [] ∨ someO 2 e.ops = true then 2
  else if twiceO [] e.ops = true then 2
  else if rowO e.fst e.ops = false then 2
  else 0
def digit (b : Bool) : Nat := if b then 1 else 0
def opB (x : Ro) : List UInt8 := textB x.key ++ numB (digit x.del) ++ textB x.val
def opsB : List Ro → List UInt8
  | [] => []
  | x :: r => opB x ++ opsB r
/-- What is sealed of an entry. -/
def layB (e : En) : List UInt8 := numB e.ts ++ numB e.fst ++ numB e.ops.length ++ opsB e.ops
def encB (e : En) : List UInt8 := textB (sealB (layB e))
/-- What Encode tells. -/
def encL (e : En) : List UInt8 := if checkE e = 0 then encB e else []
/-- An operation is read. -/
def opS (s : List UInt8) (b : Bool) (n : Nat) : Option (Ro × List UInt8 × Bool) :=
  let k := textS s b
  let d := numS k.2.1 k.2.2
  let v := textS d.2.1 d.2.2
  if 1 < d.1 then none else some (⟨k.1, n, d.1 == 1, v.1⟩, v.2.1, v.2.2)
/-- Operations are read: how many, the first one's LSN, the place of the first one. -/
def opsS (f : Nat) : Nat → Nat → List UInt8 → Bool → Option (List Ro × List UInt8 × Bool)
  | 0, _, s, b => some ([], s, b)
  | n + 1, i, s, b => match opS s b ((f + i) % 18446744073709551616) with
    | none => none
    | some (x, s1, b1) => match opsS f n (i + 1) s1 b1 with
      | none => none
      | some (l, s2, b2) => some (x :: l, s2, b2)
/-- An entry is read. -/
def entS (t : List UInt8) : Option En :=
  let a := numS t false
  let b := numS a.2.1 a.2.2
  let c := numS b.2.1 b.2.2
  if 6 < c.1 then none else match opsS b.1 c.1 0 c.2.1 c.2.2 with
    | none => none
    | some (l, s, bad) => if (!bad && s.isEmpty) = true ∧ checkE ⟨a.1, b.1, l⟩ = 0 then some ⟨a.1, b.1, l⟩ else none
/-- What Decode tells. -/
def decS (s : List UInt8) : Option (En × Nat) :=
  let t := textS s false
  if t.2.2 = true then none else if isSealed t.1 = false then none else match entS (opened t.1) with
    | none => none
    | some e => some (e, (textB t.1).length)

theorem opened_seal (l : List UInt8) : opened (sealB l) = l := by
  unfold opened
  rw [if_pos (seal_is l), seal_take]
theorem seal_opened {s : List UInt8} (h : isSealed s = true) : sealB (opened s) = s := by
  unfold opened
  rw [if_pos h]
  simp only [isSealed, Bool.and_eq_true, decide_eq_true_eq] at h
  exact h.2
theorem stamp_le {n : Nat} (h : stampB n = true) : 1 ≤ n ∧ n ≤ 1099511627776 := by
  simpa [stampB, Bool.and_eq_true, decide_eq_true_eq] using h
theorem mayO_zero {x : Ro} (h : mayO x ≠ 3) : x.key.length ≤ 16 ∧ x.val.length ≤ 24 := by
  unfold mayO at h
  by_cases h1 : 16 < x.key.length ∨ 24 < x.val.length
  · rw [if_pos h1] at h; exact absurd rfl h
  · omega
theorem mayO_cases (x : Ro) : mayO x = 0 ∨ mayO x = 2 ∨ mayO x = 3 := by
  unfold mayO
  split
  · exact .inr (.inr rfl)
  · split
    · exact .inr (.inl rfl)
    · split
      · exact .inr (.inl rfl)
      · exact .inl rfl
theorem someO_not {c : Int} : ∀ {l : List Ro}, someO c l = false → ∀ x ∈ l, mayO x ≠ c
  | [], _, x, hx => by simp at hx
  | y :: r, h, x, hx => by
    simp only [someO, Bool.or_eq_false_iff, beq_eq_false_iff_ne] at h
    rcases List.mem_cons.1 hx with rfl | hx
    · exact h.1
    · exact someO_not h.2 x hx
theorem checkE_zero {e : En} (h : checkE e = 0) : e.ops.length ≤ 6 ∧ someO 3 e.ops = false ∧ stampB e.ts = true ∧ stampB e.fst = true ∧ e.ops ≠ [] ∧ someO 2 e.ops = false ∧ twiceO [] e.ops = false ∧ rowO e.fst e.ops = true := by
  unfold checkE at h
  split at h
  · omega
  · rename_i h1
    split at h
    · omega
    · rename_i h2
      split at h
      · omega
      · rename_i h3
        split at h
        · omega
        · rename_i h4
          split at h
          · omega
          · rename_i h5
            have k1 : someO 3 e.ops = false := by cases hs : someO 3 e.ops with
              | false => rfl
              | true => exact absurd (.inr hs) h1
            have k2 : stampB e.ts = true := by cases hs : stampB e.ts with
              | true => rfl
              | false => exact absurd (.inl hs) h2
            have k3 : stampB e.fst = true := by cases hs : stampB e.fst with
              | true => rfl
              | false => exact absurd (.inr hs) h2
            have k4 : someO 2 e.ops = false := by cases hs : someO 2 e.ops with
              | false => rfl
              | true => exact absurd (.inr hs) h3
            have k5 : twiceO [] e.ops = false := by cases hs : twiceO [] e.ops with
              | false => rfl
              | true => exact absurd hs h4
            have k6 : rowO e.fst e.ops = true := by cases hs : rowO e.fst e.ops with
              | true => rfl
              | false => exact absurd hs h5
            exact ⟨by omega, k1, k2, k3, fun he => h3 (.inl he), k4, k5, k6⟩
theorem checkE_cases (e : En) : checkE e = 0 ∨ checkE e = 2 ∨ checkE e = 3 := by
  unfold checkE
  repeat' split
  all_goals first | exact .inl rfl | exact .inr (.inl rfl) | exact .inr (.inr rfl)
theorem opB_le {x : Ro} (h : mayO x ≠ 3) : (opB x).length ≤ 70 := by
  obtain ⟨h1, h2⟩ := mayO_zero h
  have a1 := numB_le x.key.length
  have a2 := numB_le x.val.length
  have a3 := numB_le (digit x.del)
  unfold opB textB
  simp only [List.length_append]
  omega
theorem opsB_le : ∀ {l : List Ro}, someO 3 l = false → (opsB l).length ≤ 70 * l.length
  | [], _ => by simp [opsB]
  | x :: r, h => by
    have h1 := opB_le (someO_not h x (by simp))
    have h2 := opsB_le (l := r) (by simp only [someO, Bool.or_eq_false_iff] at h; exact h.2)
    simp only [opsB, List.length_append, List.length_cons]
    omega
theorem layB_le {e : En} (h : checkE e = 0) : (layB e).length ≤ 450 := by
  obtain ⟨h1, h2, _⟩ := checkE_zero h
  have a1 := numB_le e.ts
  have a2 := numB_le e.fst
  have a3 := numB_le e.ops.length
  have a4 := opsB_le h2
  unfold layB
  simp only [List.length_append]
  omega
/-! What was put is read. -/
theorem opS_put (x : Ro) (n : Nat) (hx : mayO x ≠ 3) (hn : x.lsn = n) (rest : List UInt8) : opS (opB x ++ rest) false n = some (x, rest, false) := by
  obtain ⟨h1, h2⟩ := mayO_zero hx
  have e1 := textS_put x.key (numB (digit x.del) ++ (textB x.val ++ rest)) (by omega)
  have e2 := numS_put (digit x.del) (textB x.val ++ rest) (by unfold digit; split <;> omega)
  have e3 := textS_put x.val rest (by omega)
  unfold opS opB
  simp only [List.append_assoc, e1, e2, e3]
  subst hn
  obtain ⟨k, l, d, v⟩ := x
  cases d <;> rfl
theorem opsS_put (f : Nat) (hf : f ≤ 1099511627776) (rest : List UInt8) : ∀ (l : List Ro) (i : Nat), someO 3 l = false → rowO (f + i) l = true → i + l.length ≤ 6 → opsS f l.length i (opsB l ++ rest) false = some (l, rest, false)
  | [], _, _, _, _ => rfl
  | x :: r, i, h, hr, hi => by
    simp only [rowO, Bool.and_eq_true, decide_eq_true_eq] at hr
    obtain ⟨⟨r1, r2⟩, r3⟩ := hr
    simp only [List.length_cons] at hi
    have h1 := someO_not h x (by simp)
    have ih := opsS_put f hf rest r (i + 1) (by simp only [someO, Bool.or_eq_false_iff] at h; exact h.2) r3 (by omega)
    simp only [List.length_cons, opsS, opsB, List.append_assoc]
    rw [opS_put x _ h1 (by omega), ]
    simp only [ih]
theorem entS_put {e : En} (h : checkE e = 0) : entS (layB e) = some e := by
  obtain ⟨h1, h2, h3, h4, h5, h6, h7, h8⟩ := checkE_zero h
  have s1 := stamp_le h3
  have s2 := stamp_le h4
  have ho := opsS_put e.fst s2.2 [] e.ops 0 h2 h8 (by omega)
  rw [List.append_nil] at ho
  have e1 := numS_put e.ts (numB e.fst ++ (numB e.ops.length ++ opsB e.ops)) (by omega)
  have e2 := numS_put e.fst (numB e.ops.length ++ opsB e.ops) (by omega)
  have e3 := numS_put e.ops.length (opsB e.ops) (by omega)
  unfold entS layB
  simp only [List.append_assoc, e1, e2, e3, if_neg (show ¬ 6 < e.ops.length by omega), ho]
  rw [if_pos ⟨rfl, h⟩]
/-- An entry comes back from its bytes, whatever stands behind them. -/
theorem dec_enc {e : En} (h : checkE e = 0) (rest : List UInt8) : decS (encB e ++ rest) = some (e, (encB e).length) := by
  have hl := layB_le h
  have h4 := seal_length (layB e)
  unfold decS encB
  rw [textS_put _ _ (by omega)]
  simp only [seal_is, opened_seal, entS_put h]
  rfl
/-! What was read was put. -/
theorem numS_good {s r : List UInt8} {b : Bool} {n : Nat} (h : numS s b = (n, r, false)) : b = false ∧ s = numB n ++ r ∧ n < 2 ^ 64 := by
  cases b with
  | true => rw [numS_bad] at h; simp at h
  | false =>
    rcases hf : first s with _ | ⟨m, k⟩
    · rw [numS_none hf] at h; simp at h
    · rw [numS_some hf] at h
      simp only [Prod.mk.injEq, and_true] at h
      obtain ⟨rfl, rfl⟩ := h
      exact ⟨rfl, first_split hf, (first_some hf).2.2.2.1⟩
theorem textS_good {s t r : List UInt8} {b : Bool} (h : textS s b = (t, r, false)) : b = false ∧ s = textB t ++ r := by
  cases b with
  | true => rw [textS_bad] at h; simp at h
  | false =>
    refine ⟨rfl, ?_⟩
    rcases hf : first s with _ | ⟨m, k⟩
    · rw [textS_none hf] at h; simp at h
    · rcases Nat.lt_or_ge (s.drop k).length m with hl | hl
      · rw [textS_long hf hl] at h; simp at h
      · rw [textS_some hf hl] at h
        simp only [Prod.mk.injEq, and_true] at h
        obtain ⟨rfl, rfl⟩ := h
        have hs := first_split hf
        unfold textB
        rw [List.length_take, Nat.min_eq_left hl, List.append_assoc, List.take_append_drop]
        exact hs
theorem opS_good {s r : List UInt8} {b : Bool} {n : Nat} {x : Ro} (h : opS s b n = some (x, r, false)) : b = false ∧ s = opB x ++ r ∧ x.lsn = n := by
  unfold opS at h
  rcases hk : textS s b with ⟨k, s1, b1⟩
  rcases hd : numS s1 b1 with ⟨d, s2, b2⟩
  rcases hv : textS s2 b2 with ⟨v, s3, b3⟩
  simp only [hk, hd, hv] at h
  split at h
  · cases h
  · rename_i h1
    simp only [Option.some.injEq, Prod.mk.injEq] at h
    obtain ⟨rfl, rfl, rfl⟩ := h
    obtain ⟨rfl, e3⟩ := textS_good hv
    obtain ⟨rfl, e2, _⟩ := numS_good hd
    obtain ⟨rfl, e1⟩ := textS_good hk
    refine ⟨rfl, ?_, rfl⟩
    have hdd : digit (d == 1) = d := by
      have : d = 0 ∨ d = 1 := by omega
      rcases this with rfl | rfl <;> rfl
    unfold opB
    simp only [hdd]
    rw [e1, e2, e3]
    simp only [List.append_assoc]
theorem opsS_good {f : Nat} : ∀ (n i : Nat) {s r : List UInt8} {b : Bool} {l : List Ro}, opsS f n i s b = some (l, r, false) → b = false ∧ s = opsB l ++ r ∧ l.length = n
  | 0, _, s, r, b, l, h => by
    simp only [opsS, Option.some.injEq, Prod.mk.injEq] at h
    obtain ⟨rfl, rfl, rfl⟩ := h
    exact ⟨rfl, rfl, rfl⟩
  | n + 1, i, s, r, b, l, h => by
    simp only [opsS] at h
    rcases ho : opS s b ((f + i) % 18446744073709551616) with _ | ⟨x, s1, b1⟩
    · simp only [ho] at h; cases h
    · simp only [ho] at h
      rcases hq : opsS f n (i + 1) s1 b1 with _ | ⟨l', s2, b2⟩
      · simp only [hq] at h; cases h
      · simp only [hq, Option.some.injEq, Prod.mk.injEq] at h
        obtain ⟨rfl, rfl, rfl⟩ := h
        obtain ⟨rfl, e2, e3⟩ := opsS_good n (i + 1) hq
        obtain ⟨rfl, e1, _⟩ := opS_good ho
        refine ⟨rfl, ?_, by simp [e3]⟩
        simp only [opsB, List.append_assoc]
        rw [e1, e2]
theorem entS_good {t : List UInt8} {e : En} (h : entS t = some e) : checkE e = 0 ∧ t = layB e := by
  unfold entS at h
  rcases ha : numS t false with ⟨a, s1, b1⟩
  rcases hb : numS s1 b1 with ⟨b, s2, b2⟩
  rcases hc : numS s2 b2 with ⟨c, s3, b3⟩
  simp only [ha, hb, hc] at h
  split at h
  · cases h
  · rcases ho : opsS b c 0 s3 b3 with _ | ⟨l, s4, b4⟩
    · simp only [ho] at h; cases h
    · simp only [ho] at h
      split at h
      · rename_i h1
        obtain ⟨h2, h3⟩ := h1
        simp only [Option.some.injEq] at h
        subst h
        simp only [Bool.and_eq_true, Bool.not_eq_true', List.isEmpty_iff] at h2
        obtain ⟨rfl, rfl⟩ := h2
        obtain ⟨rfl, e4, e5⟩ := opsS_good c 0 ho
        obtain ⟨rfl, e3, _⟩ := numS_good hc
        obtain ⟨rfl, e2, _⟩ := numS_good hb
        obtain ⟨_, e1, _⟩ := numS_good ha
        refine ⟨h3, ?_⟩
        unfold layB
        simp only [e5]
        rw [e1, e2, e3, e4]
        simp only [List.append_assoc, List.append_nil]
      · cases h
/-- Bytes that are taken are laid again just so. -/
theorem enc_dec {s : List UInt8} {e : En} {n : Nat} (h : decS s = some (e, n)) : checkE e = 0 ∧ n = (encB e).length ∧ ∃ r, s = encB e ++ r := by
  unfold decS at h
  rcases ht : textS s false with ⟨t, r, b⟩
  simp only [ht] at h
  split at h
  · cases h
  · rename_i h1
    split at h
    · cases h
    · rename_i h2
      rcases he : entS (opened t) with _ | e'
      · simp only [he] at h; cases h
      · simp only [he, Option.some.injEq, Prod.mk.injEq] at h
        obtain ⟨rfl, rfl⟩ := h
        obtain ⟨c1, c2⟩ := entS_good he
        have hb : b = false := by cases b <;> simp_all
        subst hb
        have hs : isSealed t = true := by cases hq : isSealed t <;> simp_all
        have e1 : encB e' = textB t := by
          unfold encB
          rw [← c2, seal_opened hs]
        rw [e1]
        exact ⟨c1, rfl, r, (textS_good ht).2⟩
end LM
end Go.Proofs.Ytkhdidhpcdlmcaa
