/- A tape as plain data: a row of bytes on a ring. -/
import Derived.Test.YtkhdidhpcdlmcaaTapePlaces
namespace Go.Proofs.Ytkhdidhpcdlmcaa
open Go.RowKit Go.Lib MM MF RN PL
namespace TR
/-- What a ring of N sectors holds of bytes that begin at position s: each at its place, zeros else. -/
def IsRing (N s : Nat) (l r : List UInt8) : Prop := r.length = N * 128 ∧ ∀ x, x < N * 128 → r.getD ((s + x) % (N * 128)) 0 = l.getD x 0
section
variable {M s k x y i q : Nat}
theorem mod_inj (hx : x < M) (hy : y < M) (h : (s + x) % M = (s + y) % M) : x = y := by
  have e : (s % M + x) % M = (s % M + y) % M := by rwa [Nat.mod_add_mod, Nat.mod_add_mod]
  have hs : s % M < M := Nat.mod_lt _ (by omega)
  generalize s % M = a at *
  clear h
  rcases Nat.lt_or_ge (a + x) M with h1 | h1 <;> rcases Nat.lt_or_ge (a + y) M with h2 | h2
  · rw [Nat.mod_eq_of_lt h1, Nat.mod_eq_of_lt h2] at e; omega
  · rw [Nat.mod_eq_of_lt h1, Nat.mod_eq_sub_mod h2, Nat.mod_eq_of_lt (by omega)] at e; omega
  · rw [Nat.mod_eq_of_lt h2, Nat.mod_eq_sub_mod h1, Nat.mod_eq_of_lt (by omega)] at e; omega
  · rw [Nat.mod_eq_sub_mod h1, Nat.mod_eq_sub_mod h2, Nat.mod_eq_of_lt (by omega), Nat.mod_eq_of_lt (by omega)] at e; omega
theorem mod_off (h : (s + k) % M + i < M) : (s + k) % M + i = (s + (k + i)) % M := by
  rw [← Nat.add_assoc, Nat.add_mod (s + k) i M, Nat.mod_eq_of_lt (show i < M by omega), Nat.mod_eq_of_lt h]
theorem mod_has {j : Nat} (hj : j < M) : ∃ x, x < M ∧ (s + x) % M = j := by
  have hs : s % M < M := Nat.mod_lt _ (by omega)
  rcases Nat.lt_or_ge j (s % M) with h | h
  · refine ⟨j + M - s % M, by omega, ?_⟩
    rw [← Nat.mod_add_mod, show s % M + (j + M - s % M) = j + M by omega, Nat.add_mod_right, Nat.mod_eq_of_lt hj]
  · refine ⟨j - s % M, by omega, ?_⟩
    rw [← Nat.mod_add_mod, show s % M + (j - s % M) = j by omega, Nat.mod_eq_of_lt hj]
end
section
variable {N s k n q : Nat} {l l' r vs : List UInt8}
theorem getD_get {a : List UInt8} {j : Nat} (h : j < a.length) : a.getD j 0 = a[j] := by rw [List.getD_eq_getElem?_getD, List.getElem?_eq_getElem h]; rfl
theorem ext_getD {a b : List UInt8} (h : a.length = b.length) (hx : ∀ j, j < a.length → a.getD j 0 = b.getD j 0) : a = b := by
  refine List.ext_getElem h fun j h1 h2 => ?_
  have := hx j h1
  rwa [getD_get h1, getD_get h2] at this
theorem ring_one {r' : List UInt8} (h : IsRing N s l r) (h' : IsRing N s l r') : r = r' := by
  refine ext_getD (by rw [h.1, h'.1]) fun j hj => ?_
  rw [h.1] at hj
  obtain ⟨x, hx, rfl⟩ := mod_has (s := s) hj
  rw [h.2 x hx, h'.2 x hx]
/-- Every ring is one of some bytes. -/
theorem ring_all (h : r.length = N * 128) (s : Nat) : IsRing N s ((List.range (N * 128)).map fun x => r.getD ((s + x) % (N * 128)) 0) r :=
  ⟨h, fun x hx => by rw [getD_get (a := (List.range (N * 128)).map _) (by simpa using hx)]; simp⟩
/-- The ring of bytes. -/
def ring (N s : Nat) (l : List UInt8) : List UInt8 := (List.range (N * 128)).map fun j => l.getD ((j + (N * 128 - s % (N * 128))) % (N * 128)) 0
theorem ring_is (N s : Nat) (l : List UInt8) : IsRing N s l (ring N s l) := by
  refine ⟨by simp [ring], fun x hx => ?_⟩
  have hj : (s + x) % (N * 128) < N * 128 := Nat.mod_lt _ (by omega)
  unfold ring
  rw [getD_get (by simpa using hj), List.getElem_map, List.getElem_range]
  congr 1
  have hs : s % (N * 128) < N * 128 := Nat.mod_lt _ (by omega)
  rw [Nat.mod_add_mod, show s + x + (N * 128 - s % (N * 128)) = s + (x + (N * 128 - s % (N * 128))) by omega, ← Nat.mod_add_mod, show s % (N * 128) + (x + (N * 128 - s % (N * 128))) = x + N * 128 by omega, Nat.add_mod_right, Nat.mod_eq_of_lt hx]
theorem ring_of (h : IsRing N s l r) : r = ring N s l := ring_one h (ring_is N s l)
theorem ring_length (N s : Nat) (l : List UInt8) : (ring N s l).length = N * 128 := (ring_is N s l).1
/-- What is read at one go. -/
theorem ring_read (h : IsRing N s l r) (hk : k + n ≤ N * 128) (hq : (s + k) % (N * 128) + n ≤ N * 128) (hl : k + n ≤ l.length) : (r.drop ((s + k) % (N * 128))).take n = (l.drop k).take n := by
  refine ext_getD (by simp [h.1]; omega) fun j hj => ?_
  have hjn : j < n := by simp at hj; omega
  have h1 := h.2 (k + j) (by omega)
  rw [← mod_off (by omega)] at h1
  rw [List.getD_eq_getElem?_getD, List.getD_eq_getElem?_getD, List.getElem?_take_of_lt hjn, List.getElem?_take_of_lt hjn, List.getElem?_drop, List.getElem?_drop]
  simpa [List.getD_eq_getElem?_getD] using h1
theorem splice_getD {cs : List UInt8} {o : Nat} (hl : o + vs.length ≤ cs.length) (j : Nat) : ((cs.take o ++ vs ++ cs.drop (o + vs.length)).getD j 0) = if o ≤ j ∧ j < o + vs.length then vs.getD (j - o) 0 else cs.getD j 0 := by
  simp only [List.getD_eq_getElem?_getD]
  by_cases h1 : j < o
  · rw [if_neg (by omega), List.append_assoc, List.getElem?_append_left (by simp; omega), List.getElem?_take_of_lt h1]
  · by_cases h2 : j < o + vs.length
    · rw [if_pos ⟨by omega, h2⟩, List.getElem?_append_left (by simp; omega), List.getElem?_append_right (by simp; omega)]
      simp [show min o cs.length = o by omega]
    · rw [if_neg (by omega), List.getElem?_append_right (by simp; omega), List.getElem?_drop]
      congr 2
      simp
      omega
/-- What is written at one go. -/
theorem ring_write (h : IsRing N s l r) (hn : vs.length = n) (hk : k + n ≤ N * 128) (hq : (s + k) % (N * 128) + n ≤ N * 128)
    (hl : ∀ x, x < N * 128 → l'.getD x 0 = if k ≤ x ∧ x < k + n then vs.getD (x - k) 0 else l.getD x 0) :
    IsRing N s l' (r.take ((s + k) % (N * 128)) ++ vs ++ r.drop ((s + k) % (N * 128) + n)) := by
  subst hn
  have h0 := h.1
  refine ⟨by simp; omega, fun x hx => ?_⟩
  rw [splice_getD (by omega), hl x hx]
  by_cases hx2 : k ≤ x ∧ x < k + vs.length
  · have e : (s + x) % (N * 128) = (s + k) % (N * 128) + (x - k) := by rw [mod_off (by omega), show k + (x - k) = x by omega]
    rw [if_pos hx2, if_pos (by omega), e]
    congr 1
    omega
  · rw [if_neg hx2, if_neg, h.2 x hx]
    rintro ⟨h1, h2⟩
    have e : (s + x) % (N * 128) = (s + (k + ((s + x) % (N * 128) - (s + k) % (N * 128)))) % (N * 128) := by rw [← mod_off (by omega)]; omega
    have := mod_inj hx (by omega) e
    omega
theorem ring_append (h : IsRing N s l r) (hn : vs.length = n) (hk : l.length + n ≤ N * 128) (hq : (s + l.length) % (N * 128) + n ≤ N * 128) :
    IsRing N s (l ++ vs) (r.take ((s + l.length) % (N * 128)) ++ vs ++ r.drop ((s + l.length) % (N * 128) + n)) := by
  refine ring_write h hn hk hq fun x hx => ?_
  simp only [List.getD_eq_getElem?_getD]
  by_cases h1 : x < l.length
  · rw [if_neg (by omega), List.getElem?_append_left h1]
  · rw [List.getElem?_append_right (by omega)]
    split
    · rfl
    · rw [List.getElem?_eq_none (by omega), List.getElem?_eq_none (by omega)]
theorem zeros_getD (n x : Nat) : (List.replicate n (0 : UInt8)).getD x 0 = 0 := by
  rw [List.getD_eq_getElem?_getD, List.getElem?_replicate]
  split <;> rfl
/-- What is given up is emptied. -/
theorem ring_empty (h : IsRing N s l r) (hl : l.length ≤ N * 128) (hk : n ≤ N * 128) (hq : s % (N * 128) + n ≤ N * 128) :
    IsRing N (s + n) (l.drop n) (r.take (s % (N * 128)) ++ List.replicate n 0 ++ r.drop (s % (N * 128) + n)) := by
  have h1 := ring_write (n := n) (vs := List.replicate n 0) (k := 0) (l' := List.replicate n 0 ++ l.drop n) h (by simp) (by omega) (by simpa using hq) (fun x hx => by
    simp only [List.getD_eq_getElem?_getD]
    by_cases hx2 : x < n
    · rw [if_pos (by omega), List.getElem?_append_left (by simpa using hx2), Nat.sub_zero]
    · rw [if_neg (by omega), List.getElem?_append_right (by simpa using hx2), List.getElem?_drop]
      congr 2
      simp
      omega)
  simp only [Nat.add_zero] at h1
  refine ⟨h1.1, fun x hx => ?_⟩
  rcases Nat.lt_or_ge (n + x) (N * 128) with h2 | h2
  · rw [show s + n + x = s + (n + x) by omega, h1.2 _ h2]
    simp only [List.getD_eq_getElem?_getD]
    rw [List.getElem?_append_right (by simp), List.getElem?_drop]
    simp
  · rw [show s + n + x = s + (n + x - N * 128) + N * 128 by omega, Nat.add_mod_right, h1.2 _ (by omega)]
    simp only [List.getD_eq_getElem?_getD]
    rw [List.getElem?_append_left (by rw [List.length_replicate]; omega), List.getElem?_drop, List.getElem?_replicate, if_pos (by omega), List.getElem?_eq_none (show l.length ≤ n + x by omega)]
    rfl
end
end TR
end Go.Proofs.Ytkhdidhpcdlmcaa
