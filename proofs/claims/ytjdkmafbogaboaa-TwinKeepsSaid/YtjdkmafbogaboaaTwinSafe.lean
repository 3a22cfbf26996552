/- Plain facts: what power that goes in a Set, or in an Open, leaves of a twin's two sectors. -/
import Derived.Test.YtjdkmafbogaboaaTwinPut
import Derived.Test.YtjdkmafbogaboaaDiskWake
namespace Go.Proofs.Ytjdkmafbogaboaa
open Go.RowKit Go.Lib DM DK TM DN DW DF DU TD TN TS TO TT TU
namespace TQ
/-- A disk all of which is flushed. -/
def D (F : List (List UInt8)) (f : Nat) : St := ⟨F, [], true, f⟩
def off (S : St) : St := { S with on := false, fuse := 0 }
def zz : List UInt8 := two zeros64
theorem zz_length : zz.length = 128 := two_length zeros64_length
/-- A write and a flush. -/
def wfE (S : St) (q : Int) (l : List UInt8) : Int := if writeE S q l ≠ 0 then writeE S q l else flushE (writeS S q l)
def wfS (S : St) (q : Int) (l : List UInt8) : St := if writeE S q l ≠ 0 then writeS S q l else flushS (writeS S q l)
/-- Four sectors. -/
def Four (F : List (List UInt8)) : Prop := F.length = 4 ∧ ∀ r ∈ F, r.length = 128
section
variable {F : List (List UInt8)} {f q : Nat} {l : List UInt8}
theorem Four.row (h : Four F) (hq : q < 4) : (F.getD q []).length = 128 := by
  rw [List.getD_eq_getElem?_getD, List.getElem?_eq_getElem (by rw [h.1]; exact hq)]
  exact h.2 _ (List.getElem_mem _)
theorem Four.set (h : Four F) (hl : l.length = 128) : Four (F.set q l) := by
  refine ⟨by rw [List.length_set]; exact h.1, fun r hr => ?_⟩
  rcases List.mem_or_eq_of_mem_set hr with hr | rfl
  · exact h.2 r hr
  · exact hl
theorem refuse_D {u : List (Nat × List UInt8)} (h : Four F) (hq : q < 4) : refuse ⟨F, u, true, f⟩ (q : Int) = 0 := refuse_in rfl (by omega) (by show (q : Int) < (F.length : Int); rw [h.1]; omega)
theorem write_D (h : Four F) (hq : q < 4) (hl : l.length = 128) : writeE (D F f) q l = (if f = 1 then 8 else 0) ∧ writeS (D F f) q l = (if f = 1 then ⟨F, [], false, 0⟩ else ⟨F, [(q, l)], true, f - 1⟩) := by
  have hr : refuse (D F f) (q : Int) = 0 := refuse_D h hq
  unfold writeE writeS opOk opS
  rw [hr]
  by_cases h1 : f = 1
  · subst h1
    simp [D, hl]
  · by_cases h0 : f = 0
    · subst h0
      simp [D, hl]
    · have hb : (f != 1) = true := by simpa using h1
      simp [D, hl, h1, h0]
theorem wf_D (h : Four F) (hq : q < 4) (hl : l.length = 128) : wfE (D F f) q l = (if f = 1 ∨ f = 2 then 8 else 0) ∧ wfS (D F f) q l = (if f = 1 then ⟨F, [], false, 0⟩ else if f = 2 then ⟨F, [(q, l)], false, 0⟩ else D (F.set q l) (f - 2)) := by
  obtain ⟨e1, e2⟩ := write_D (f := f) h hq hl
  unfold wfE wfS
  rw [e1, e2]
  by_cases h1 : f = 1
  · subst h1
    simp
  · by_cases h2 : f = 2
    · subst h2
      simp [flushE, flushS, opOk, opS]
    · have ho : opOk ⟨F, [(q, l)], true, f - 1⟩ = true := by
        unfold opOk
        simp
        omega
      have hs : opS ⟨F, [(q, l)], true, f - 1⟩ = ⟨F, [(q, l)], true, f - 2⟩ := by
        unfold opS
        simp only
        by_cases h0 : f - 1 = 0
        · rw [if_pos h0, show f - 2 = f - 1 by omega]
        · rw [if_neg h0, if_neg (by omega), show f - 1 - 1 = f - 2 by omega]
      have hor : ¬ (f = 1 ∨ f = 2) := by omega
      simp only [if_neg h1, if_neg h2, if_neg hor, ne_eq, not_true_eq_false, if_false]
      unfold flushE flushS
      rw [ho, hs]
      simp [D, St.now, nowOf, put]
theorem set_same (h : q < F.length) : F.set q (F.getD q []) = F := by
  rw [List.getD_eq_getElem?_getD, List.getElem?_eq_getElem h]
  simp
/-- Power that goes, and comes back: a part of what was written is there; all of it, if it was done. -/
theorem wf_wake (h : Four F) (hq : q < 4) (hl : l.length = 128) (cs : List UInt8) : ∃ m, m ≤ 128 ∧ wakeS (off (wfS (D F f) q l)) cs = D (F.set q (l.take m ++ (F.getD q []).drop m)) 0 ∧ (wfE (D F f) q l = 0 → m = 128) := by
  obtain ⟨e1, e2⟩ := wf_D (f := f) h hq hl
  rw [e1, e2]
  by_cases h1 : f = 1
  · refine ⟨0, by omega, ?_, by simp [h1]⟩
    rw [if_pos h1, List.take_zero, List.nil_append, List.drop_zero, set_same (by rw [h.1]; exact hq)]
    simp [wakeS, off, woken, wokenTo, D]
  · by_cases h2 : f = 2
    · refine ⟨keep (cs.getD 0 0), keep_le _, ?_, by simp [h2]⟩
      rw [if_neg h1, if_pos h2]
      simp [wakeS, off, woken, wokenTo, tear, D]
    · refine ⟨128, Nat.le_refl _, ?_, fun _ => rfl⟩
      rw [if_neg h1, if_neg h2, List.take_of_length_le (by omega), List.drop_eq_nil_of_le (by rw [h.row hq]; omega), List.append_nil]
      simp [wakeS, off, woken, wokenTo, D]
/-- With no fuse it is done. -/
theorem wf_zero (h : Four F) (hq : q < 4) (hl : l.length = 128) : wfE (D F 0) q l = 0 ∧ wfS (D F 0) q l = D (F.set q l) 0 := by
  obtain ⟨e1, e2⟩ := wf_D (f := 0) h hq hl
  rw [e1, e2]
  simp
theorem wf_un (h : Four F) (hq : q < 4) (hl : l.length = 128) : (wfS (D F f) q l).un.length ≤ 1 ∧ (wfS (D F f) q l).fl.length = 4 := by
  obtain ⟨e1, e2⟩ := wf_D (f := f) h hq hl
  rw [e2]
  split
  · exact ⟨by simp, h.1⟩
  · split
    · exact ⟨by simp, h.1⟩
    · exact ⟨by simp [D], by simp [D, h.1]⟩
/-- A sector's halves are alike. -/
def alike (s : List UInt8) : Prop := s.take 64 = s.drop 64
instance (s : List UInt8) : Decidable (alike s) := by unfold alike; infer_instance
theorem alike_two {h : List UInt8} (hh : h.length = 64) : alike (two h) := by unfold alike; rw [two_first hh, two_last hh]
theorem halves_D {u : List (Nat × List UInt8)} (h : Four F) (hq : q < 4) : hfirst ⟨F, u, true, f⟩ (q : Int) = ((nowOf F u).getD q []).take 64 ∧ hlast ⟨F, u, true, f⟩ (q : Int) = ((nowOf F u).getD q []).drop 64 := by
  unfold hfirst hlast readT
  rw [refuse_D h hq]
  simp [St.now]
/-! ### Mending -/
theorem mend_even (h : Four F) (h1 : alike (F.getD 1 [])) (h2 : alike (F.getD 2 [])) : mendE (D F f) 1 = 0 ∧ mendS (D F f) 1 = D F f := by
  have g1 := halves_D (f := f) (u := []) h (q := 1) (by omega)
  have g2 := halves_D (f := f) (u := []) h (q := 2) (by omega)
  have m1 : mendTo (D F f) 1 1 = ⟨D F f, false, 0⟩ := mend_alike (k := 0) rfl (refuse_D h (q := 1) (by omega)) (g1.1.trans (h1.trans g1.2.symm))
  have m2 : mendTo (D F f) 1 2 = ⟨D F f, false, 0⟩ := mend_alike (k := 1) m1 (refuse_D h (q := 2) (by omega)) (g2.1.trans (h2.trans g2.2.symm))
  exact mendE_none m2
theorem mend_two (h : Four F) (h1 : alike (F.getD 1 [])) (h2 : ¬ alike (F.getD 2 [])) : mendE (D F f) 1 = wfE (D F f) (2 : Nat) zz ∧ mendS (D F f) 1 = wfS (D F f) (2 : Nat) zz := by
  have g1 := halves_D (f := f) (u := []) h (q := 1) (by omega)
  have g2 := halves_D (f := f) (u := []) h (q := 2) (by omega)
  have m1 : mendTo (D F f) 1 1 = ⟨D F f, false, 0⟩ := mend_alike (k := 0) rfl (refuse_D h (q := 1) (by omega)) (g1.1.trans (h1.trans g1.2.symm))
  have hu : hfirst (D F f) (1 + (1 : Nat)) ≠ hlast (D F f) (1 + (1 : Nat)) := fun e => h2 (g2.1.symm.trans (e.trans g2.2))
  have hr : refuse (D F f) (1 + (1 : Nat)) = 0 := refuse_D h (q := 2) (by omega)
  unfold wfE wfS
  by_cases hw : writeE (D F f) (2 : Nat) zz = 0
  · have m2 := mend_ok m1 hr hu hw
    obtain ⟨e1, e2⟩ := mendE_some m2
    rw [e1, e2, if_neg (by simpa using hw), if_neg (by simpa using hw)]
    exact ⟨rfl, rfl⟩
  · have m2 := mend_fail m1 hr hu hw
    obtain ⟨e1, e2⟩ := mendE_stop (Nat.le_refl 2) m2 hw
    rw [e1, e2, if_pos hw, if_pos hw]
    exact ⟨rfl, rfl⟩
theorem mend_one (h : Four F) (h1 : ¬ alike (F.getD 1 [])) (h2 : alike (F.getD 2 [])) : mendE (D F f) 1 = wfE (D F f) (1 : Nat) zz ∧ mendS (D F f) 1 = wfS (D F f) (1 : Nat) zz := by
  have g1 := halves_D (f := f) (u := []) h (q := 1) (by omega)
  have hu : hfirst (D F f) (1 + (0 : Nat)) ≠ hlast (D F f) (1 + (0 : Nat)) := fun e => h1 (g1.1.symm.trans (e.trans g1.2))
  have hr : refuse (D F f) (1 + (0 : Nat)) = 0 := refuse_D h (q := 1) (by omega)
  unfold wfE wfS
  by_cases hw : writeE (D F f) (1 : Nat) zz = 0
  · have hf : f ≠ 1 := by
      rintro rfl
      rw [(write_D (f := 1) h (q := 1) (by omega) zz_length).1] at hw
      simp at hw
    have hS : writeS (D F f) (1 + (0 : Nat)) (two zeros64) = ⟨F, [(1, zz)], true, f - 1⟩ := by
      refine (write_D (f := f) h (q := 1) (by omega) zz_length).2.trans ?_
      rw [if_neg hf]
    have m1 := mend_ok (k := 0) rfl hr hu hw
    rw [hS] at m1
    have g2 := halves_D (f := f - 1) (u := [(1, zz)]) h (q := 2) (by omega)
    have hn : (nowOf F [(1, zz)]).getD 2 [] = F.getD 2 [] := by
      simp only [nowOf, List.foldl_cons, List.foldl_nil, put, List.getD_eq_getElem?_getD]
      rw [List.getElem?_set_ne (by omega)]
    rw [hn] at g2
    have m2 : mendTo (D F f) 1 2 = ⟨⟨F, [(1, zz)], true, f - 1⟩, true, 0⟩ := mend_alike (k := 1) m1 (refuse_D h (q := 2) (by omega)) (g2.1.trans (h2.trans g2.2.symm))
    obtain ⟨e1, e2⟩ := mendE_some m2
    rw [e1, e2, if_neg (by simpa using hw), if_neg (by simpa using hw)]
    have hS' : writeS (D F f) ((1 : Nat) : Int) zz = ⟨F, [(1, zz)], true, f - 1⟩ := hS
    rw [hS']
    exact ⟨rfl, rfl⟩
  · have m1 := mend_fail (k := 0) rfl hr hu hw
    obtain ⟨e1, e2⟩ := mendE_stop (k := 1) (by omega) m1 hw
    rw [e1, e2, if_pos hw, if_pos hw]
    exact ⟨rfl, rfl⟩

/-! ### The twin's two sectors -/
/-- The sector of a number. -/
def pl (n : Nat) : Nat := 1 + n % 2
theorem pl_lt (n : Nat) : pl n < 4 := by unfold pl; omega
theorem pl_ne (n : Nat) : pl n ≠ pl (n + 1) := by unfold pl; omega
theorem pl_cases (n : Nat) : (pl n = 1 ∧ pl (n + 1) = 2) ∨ (pl n = 2 ∧ pl (n + 1) = 1) := by unfold pl; omega
theorem mend_alike_all (h : Four F) (n : Nat) (hp : alike (F.getD (pl n) [])) (hq : alike (F.getD (pl (n + 1)) [])) : mendE (D F f) 1 = 0 ∧ mendS (D F f) 1 = D F f := by
  rcases pl_cases n with ⟨e1, e2⟩ | ⟨e1, e2⟩
  · rw [e1] at hp; rw [e2] at hq; exact mend_even h hp hq
  · rw [e1] at hp; rw [e2] at hq; exact mend_even h hq hp
theorem mend_unlike (h : Four F) (n : Nat) (hp : alike (F.getD (pl n) [])) (hq : ¬ alike (F.getD (pl (n + 1)) [])) : mendE (D F f) 1 = wfE (D F f) (pl (n + 1) : Nat) zz ∧ mendS (D F f) 1 = wfS (D F f) (pl (n + 1) : Nat) zz := by
  rcases pl_cases n with ⟨e1, e2⟩ | ⟨e1, e2⟩
  · rw [e1] at hp; rw [e2] at hq ⊢; exact mend_two h hp hq
  · rw [e1] at hp; rw [e2] at hq ⊢; exact mend_one h hq hp
theorem ref_D (h : Four F) : refE (D F f) 1 = 0 := refE_in (by omega) (by show (1 : Int) + 1 < (F.length : Int); rw [h.1]; decide)
theorem openS_D (h : Four F) : openS (D F f) 1 = mendS (D F f) 1 := by unfold openS; rw [if_neg (by rw [ref_D h]; simp)]
/-- Power that goes in an Open. -/
theorem open_wake (h : Four F) (n : Nat) (hp : alike (F.getD (pl n) [])) (cs : List UInt8) : ∃ F', wakeS (off (openS (D F f) 1)) cs = D F' 0 ∧ (F' = F ∨ (¬ alike (F.getD (pl (n + 1)) []) ∧ ∃ m, m ≤ 128 ∧ F' = F.set (pl (n + 1)) (zz.take m ++ (F.getD (pl (n + 1)) []).drop m))) := by
  rw [openS_D h]
  by_cases hq : alike (F.getD (pl (n + 1)) [])
  · rw [(mend_alike_all h n hp hq).2]
    exact ⟨F, by simp [wakeS, off, woken, wokenTo, D], .inl rfl⟩
  · rw [(mend_unlike h n hp hq).2]
    obtain ⟨m, hm, e, _⟩ := wf_wake (f := f) h (pl_lt (n + 1)) zz_length cs
    exact ⟨_, e, .inr ⟨hq, m, hm, rfl⟩⟩
theorem open_few (h : Four F) (n : Nat) (hp : alike (F.getD (pl n) [])) : (openS (D F f) 1).un.length ≤ 1 := by
  rw [openS_D h]
  by_cases hq : alike (F.getD (pl (n + 1)) [])
  · rw [(mend_alike_all h n hp hq).2]; simp [D]
  · rw [(mend_unlike h n hp hq).2]; exact (wf_un h (pl_lt (n + 1)) zz_length).1
end
/-! ### What a sector of zeros, new and old bytes says -/
theorem zz_take (k : Nat) (hk : k ≤ 128) : zz.take k = List.replicate k 0 := by
  have : zz = List.replicate 128 0 := by unfold zz two zeros64; rw [List.replicate_append_replicate]
  rw [this, List.take_replicate, Nat.min_eq_left hk]
/-- Zeros over the beginning of s. -/
def over (s : List UInt8) (k : Nat) : List UInt8 := zz.take k ++ s.drop k
theorem over_length {s : List UInt8} (hs : s.length = 128) {k : Nat} (hk : k ≤ 128) : (over s k).length = 128 := by
  unfold over
  rw [List.length_append, List.length_take, List.length_drop, zz_length]; omega
theorem over_zero (s : List UInt8) : over s 0 = s := by simp [over]
theorem over_over {s : List UInt8} {k m : Nat} (hk : k ≤ 128) (hm : m ≤ 128) : zz.take m ++ (over s k).drop m = over s (max m k) := by
  unfold over
  rw [zz_take m hm, zz_take k hk, zz_take (max m k) (by omega)]
  rcases Nat.le_total m k with h | h
  · rw [Nat.max_eq_right h, List.drop_append_of_le_length (by rw [List.length_replicate]; exact h), List.drop_replicate, ← List.append_assoc, List.replicate_append_replicate, show m + (k - m) = k by omega]
  · rw [Nat.max_eq_left h, List.drop_append, List.drop_eq_nil_of_le (by rw [List.length_replicate]; exact h), List.nil_append, List.length_replicate, List.drop_drop, show k + (m - k) = m by omega]
theorem num_over {s : List UInt8} {k : Nat} (h4 : 4 ≤ k) (hk : k ≤ 128) : num ((over s k).take 64) = 0 := by
  have e : ∀ i, i < 4 → ((over s k).take 64).getD i 0 = 0 := by
    intro i hi
    unfold over
    rw [zz_take k hk]
    simp only [List.getD_eq_getElem?_getD]
    rw [List.getElem?_take_of_lt (by omega), List.getElem?_append_left (by rw [List.length_replicate]; omega), List.getElem?_replicate, if_pos (by omega)]
    rfl
  unfold num
  rw [e 0 (by omega), e 1 (by omega), e 2 (by omega), e 3 (by omega)]
  rfl
theorem half_over (n : Nat) (hn : n < 256) (t : List UInt8) (k : Nat) (hk : k ≤ 3) : zz.take k ++ (half n t).drop k = half n t := by
  rw [zz_take k (by omega)]
  have e1 : UInt8.ofNat (n / 16777216) = 0 := by rw [show n / 16777216 = 0 by omega]; rfl
  have e2 : UInt8.ofNat (n / 65536) = 0 := by rw [show n / 65536 = 0 by omega]; rfl
  have e3 : UInt8.ofNat (n / 256) = 0 := by rw [show n / 256 = 0 by omega]; rfl
  unfold half b4
  rw [e1, e2, e3]
  have : k = 0 ∨ k = 1 ∨ k = 2 ∨ k = 3 := by omega
  rcases this with rfl | rfl | rfl | rfl <;> rfl
/-- New bytes, then old ones; zeros over their beginning: alike only if all are old, or new, or there is no number. -/
theorem alike_over {X : List UInt8} (hX : X.length = 64) (n : Nat) (hn : n < 256) (t : List UInt8) (ht : t.length ≤ 59) {m k : Nat} (hm : m ≤ 128) (hk : k ≤ 128)
    (h : alike (over ((two (half n t)).take m ++ (two X).drop m) k)) : let c := over ((two (half n t)).take m ++ (two X).drop m) k; c = two X ∨ c = two (half n t) ∨ num (c.take 64) = 0 := by
  intro c
  have hN := half_length n t ht
  have hc : c = two (c.take 64) := even_two h
  rcases Nat.lt_or_ge k 4 with h4 | h4
  · rcases Nat.lt_or_ge 64 m with h64 | h64
    · right; left
      rw [hc]
      congr 1
      show (over _ k).take 64 = _
      unfold over
      rw [List.take_append, List.take_of_length_le (by rw [List.length_take, zz_length]; omega), List.length_take, zz_length, show min k 128 = k by omega]
      conv => rhs; rw [← half_over n hn t k (by omega)]
      congr 1
      rw [List.drop_append_of_le_length (by rw [List.length_take, two_length hN]; omega), List.take_append_of_le_length (by rw [List.length_drop, List.length_take, two_length hN]; omega), List.take_drop, List.take_take, show k + (64 - k) = 64 by omega, show min 64 m = 64 by omega, two_first hN]
    · left
      rw [hc, h]
      congr 1
      show (over _ k).drop 64 = _
      unfold over
      rw [List.drop_append, List.drop_eq_nil_of_le (by rw [List.length_take, zz_length]; omega), List.nil_append, List.length_take, zz_length, show min k 128 = k by omega, List.drop_drop, show k + (64 - k) = 64 by omega, List.drop_append, List.drop_eq_nil_of_le (by rw [List.length_take, two_length hN]; omega), List.nil_append, List.length_take, two_length hN, show min m 128 = m by omega, List.drop_drop, show m + (64 - m) = 64 by omega, two_last hX]
  · exact .inr (.inr (num_over h4 hk))
/-! ### Which half counts -/
section
variable {F : List (List UInt8)} {f : Nat}
theorem says_D (h : Four F) {q k : Nat} (hq : q < 4) {A : List UInt8} (hA : A.length = 64) (e : F.getD q [] = two A) : saysB (D F f) (q : Int) k = (isCopy A && (num A % 2 == k)) ∧ hfirst (D F f) (q : Int) = A := by
  obtain ⟨g1, g2⟩ := halves_D (f := f) (u := []) h hq
  have n0 : nowOf F [] = F := rfl
  rw [n0, e, two_first hA] at g1
  rw [n0, e, two_last hA] at g2
  have hr : refuse (D F f) (q : Int) = 0 := refuse_D h hq
  refine ⟨?_, g1⟩
  unfold saysB
  rw [show hfirst (D F f) (q : Int) = A from g1, show hlast (D F f) (q : Int) = A from g2, hr]
  simp
theorem best_D (h : Four F) {A1 A2 : List UInt8} (h1 : A1.length = 64) (h2 : A2.length = 64) (e1 : F.getD 1 [] = two A1) (e2 : F.getD 2 [] = two A2) :
    best (D F f) 1 = (let b := if (isCopy A1 && (num A1 % 2 == 0)) = true ∧ 0 < num A1 then A1 else zeros64; if (isCopy A2 && (num A2 % 2 == 1)) = true ∧ num b < num A2 then A2 else b) := by
  obtain ⟨s1, g1⟩ := says_D (f := f) h (q := 1) (k := 0) (by omega) h1 e1
  obtain ⟨s2, g2⟩ := says_D (f := f) h (q := 2) (k := 1) (by omega) h2 e2
  have b1 : bestTo (D F f) 1 1 = if (isCopy A1 && (num A1 % 2 == 0)) = true ∧ 0 < num A1 then A1 else zeros64 := by
    rw [bestTo, bestTo]
    rw [show (1 : Int) + ((0 : Nat) : Int) = ((1 : Nat) : Int) from rfl, s1, g1, num_zeros]
  unfold best
  rw [bestTo]
  rw [show (1 : Int) + ((1 : Nat) : Int) = ((2 : Nat) : Int) from rfl, s2, g2, b1]
theorem copy_half {n : Nat} {t : List UInt8} (hn : n < 4294967296) (ht : t.length ≤ 55) (k : Nat) (hk : n % 2 = k) : (isCopy (half n t) && (num (half n t) % 2 == k)) = true := by
  rw [isCopy_half n t hn ht, num_half n t hn, hk]; simp
/-- What is said by n's sector counts against less. -/
theorem best_old (h : Four F) {n : Nat} (h1 : 1 ≤ n) (hn : n < 4294967296) {t Y : List UInt8} (ht : t.length ≤ 55) (hY : Y.length = 64) (ep : F.getD (pl n) [] = two (half n t)) (eq : F.getD (pl (n + 1)) [] = two Y) (hlt : num Y < n) : best (D F f) 1 = half n t := by
  have hl := half_length n t (by omega)
  have hnum := num_half n t hn
  rcases pl_cases n with ⟨e1, e2⟩ | ⟨e1, e2⟩
  · rw [e1] at ep; rw [e2] at eq
    rw [best_D h hl hY ep eq, copy_half hn ht 0 (by unfold pl at e1; omega), hnum]
    simp only [true_and]
    rw [show (if 0 < n then half n t else zeros64) = half n t from if_pos (by omega), hnum, if_neg (by omega)]
  · rw [e1] at ep; rw [e2] at eq
    rw [best_D h hY hl eq ep, copy_half hn ht 1 (by unfold pl at e1; omega), hnum]
    simp only [true_and]
    rw [if_pos]
    split
    · exact hlt
    · rw [num_zeros]; omega
theorem best_new (h : Four F) {n : Nat} (hn : n + 1 < 4294967296) {t u : List UInt8} (ht : t.length ≤ 55) (hu : u.length ≤ 55) (ep : F.getD (pl n) [] = two (half n t)) (eq : F.getD (pl (n + 1)) [] = two (half (n + 1) u)) : best (D F f) 1 = half (n + 1) u := by
  have hl := half_length n t (by omega)
  have hl2 := half_length (n + 1) u (by omega)
  have hnum := num_half n t (by omega)
  have hnum2 := num_half (n + 1) u hn
  rcases pl_cases n with ⟨e1, e2⟩ | ⟨e1, e2⟩
  · rw [e1] at ep; rw [e2] at eq
    rw [best_D h hl hl2 ep eq, copy_half hn hu 1 (by unfold pl at e1; omega), hnum2]
    simp only [true_and]
    rw [if_pos]
    split
    · rw [hnum]; omega
    · rw [num_zeros]; omega
  · rw [e1] at ep; rw [e2] at eq
    rw [best_D h hl2 hl eq ep, copy_half hn hu 0 (by unfold pl at e1; omega), hnum2]
    simp only [true_and]
    rw [show (if 0 < n + 1 then half (n + 1) u else zeros64) = half (n + 1) u from if_pos (by omega), hnum2, hnum, if_neg (by omega)]
end
/-! ### From one text to the next -/
/-- The twin says n and t; the other sector is alike, and says less. -/
structure Inv (F : List (List UInt8)) (n : Nat) (t : List UInt8) : Prop where
  four : Four F
  pos : 1 ≤ n
  small : n ≤ 200
  len : t.length ≤ 55
  fp : F.getD (pl n) [] = two (half n t)
  fq : ∃ X, X.length = 64 ∧ num X < n ∧ F.getD (pl (n + 1)) [] = two X
/-- In between: the other sector has new bytes, then old ones, zeros over their beginning; all of the new ones, if so. -/
structure Mid (F : List (List UInt8)) (n : Nat) (t u : List UInt8) (X : List UInt8) (ok : Prop) : Prop where
  four : Four F
  pos : 1 ≤ n
  small : n ≤ 200
  len : t.length ≤ 55
  len2 : u.length ≤ 55
  xl : X.length = 64
  xn : num X < n
  fp : F.getD (pl n) [] = two (half n t)
  fq : ∃ m k, m ≤ 128 ∧ k ≤ 128 ∧ F.getD (pl (n + 1)) [] = over ((two (half (n + 1) u)).take m ++ (two X).drop m) k
  all : ok → F.getD (pl (n + 1)) [] = two (half (n + 1) u)
section
variable {F : List (List UInt8)} {f n : Nat} {t u X : List UInt8} {ok : Prop}
theorem getD_set_ne {q p : Nat} (h : q ≠ p) (l : List UInt8) : (F.set q l).getD p [] = F.getD p [] := by
  simp only [List.getD_eq_getElem?_getD]; rw [List.getElem?_set_ne h]
theorem getD_set_at {q : Nat} (h : q < F.length) (l : List UInt8) : (F.set q l).getD q [] = l := by
  simp only [List.getD_eq_getElem?_getD]; rw [List.getElem?_set_self h]; rfl
theorem Inv.alike_p (h : Inv F n t) : alike (F.getD (pl n) []) := by rw [h.fp]; exact alike_two (half_length _ _ (by have := h.len; omega))
theorem Mid.alike_p (h : Mid F n t u X ok) : alike (F.getD (pl n) []) := by rw [h.fp]; exact alike_two (half_length _ _ (by have := h.len; omega))
theorem place_pl (n : Nat) : place 1 (n + 1) = ((pl (n + 1) : Nat) : Int) := by unfold place pl; omega
/-- A Set, power that goes in it, a Wake. -/
theorem set_mid (h : Inv F n t) (hu : u.length ≤ 55) (cs : List UInt8) : ∃ F' X, wakeS (off (setS (D F f) 1 (half n t) false u)) cs = D F' 0 ∧ Mid F' n t u X (setE (D F f) 1 (half n t) false u = 0) ∧ (setS (D F f) 1 (half n t) false u).un.length ≤ 1 := by
  obtain ⟨X, hX, hxn, hq⟩ := h.fq
  have hsm := h.small
  have hN := half_length (n + 1) u (by omega)
  have hnum : num (half n t) = n := num_half n t (by omega)
  have hmay : may (D F f) (half n t) false u = 0 := by
    unfold may
    rw [if_neg (by omega), if_neg (by simp [D]), hnum, if_neg (by omega)]
  have hnext : nextH (half n t) u = half (n + 1) u := by unfold nextH; rw [hnum]
  have hp1 : place 1 (num (half (n + 1) u)) = ((pl (n + 1) : Nat) : Int) := by rw [num_half _ _ (by omega), place_pl]
  have hE : setE (D F f) 1 (half n t) false u = wfE (D F f) (pl (n + 1) : Nat) (two (half (n + 1) u)) := by
    unfold setE stE wfE
    rw [if_neg (by simp [hmay]), hnext, hp1]
  have hS : setS (D F f) 1 (half n t) false u = wfS (D F f) (pl (n + 1) : Nat) (two (half (n + 1) u)) := by
    unfold setS stS wfS
    rw [if_neg (by simp [hmay]), hnext, hp1]
  rw [hE, hS]
  obtain ⟨m, hm, e, hok⟩ := wf_wake (f := f) h.four (pl_lt (n + 1)) (two_length hN) cs
  have hlen : pl (n + 1) < F.length := by rw [h.four.1]; exact pl_lt _
  have hrl : ((two (half (n + 1) u)).take m ++ (F.getD (pl (n + 1)) []).drop m).length = 128 := by
    rw [List.length_append, List.length_take, List.length_drop, h.four.row (pl_lt _), two_length hN]; omega
  refine ⟨_, X, e, ⟨h.four.set hrl, h.pos, h.small, h.len, hu, hX, hxn, ?_, ⟨m, 0, hm, by omega, ?_⟩, fun hz => ?_⟩, (wf_un h.four (pl_lt _) (two_length hN)).1⟩
  · rw [getD_set_ne (fun e => pl_ne n e.symm)]; exact h.fp
  · rw [getD_set_at hlen, hq, over_zero]
  · rw [getD_set_at hlen, hok hz, List.take_of_length_le (by rw [two_length hN]; omega), List.drop_eq_nil_of_le (by rw [h.four.row (pl_lt _)]; omega), List.append_nil]
/-- An Open in which power goes, a Wake. -/
theorem open_mid (h : Mid F n t u X ok) (cs : List UInt8) : ∃ F', wakeS (off (openS (D F f) 1)) cs = D F' 0 ∧ Mid F' n t u X ok ∧ (openS (D F f) 1).un.length ≤ 1 := by
  obtain ⟨F', e, hF⟩ := open_wake (f := f) h.four n h.alike_p cs
  refine ⟨F', e, ?_, open_few h.four n h.alike_p⟩
  rcases hF with rfl | ⟨hna, m', hm', rfl⟩
  · exact h
  · obtain ⟨m, k, hm, hk, hq⟩ := h.fq
    have hN := half_length (n + 1) u (by have := h.len2; omega)
    have hsl : ((two (half (n + 1) u)).take m ++ (two X).drop m).length = 128 := by
      rw [List.length_append, List.length_take, List.length_drop, two_length hN, two_length h.xl]; omega
    have hlen : pl (n + 1) < F.length := by rw [h.four.1]; exact pl_lt _
    rw [hq, over_over hk hm']
    refine ⟨h.four.set (over_length hsl (by omega)), h.pos, h.small, h.len, h.len2, h.xl, h.xn, ?_, ⟨m, _, hm, (show max m' k ≤ 128 by omega), getD_set_at hlen _⟩, fun ho => ?_⟩
    · rw [getD_set_ne (fun e => pl_ne n e.symm)]; exact h.fp
    · exact absurd (by rw [h.all ho]; exact alike_two hN) hna
/-- An Open that is done. -/
theorem end_mid (h : Mid F n t u X ok) (hn : n < 200) : openE (D F 0) 1 = 0 ∧ ∃ F' n' t', openS (D F 0) 1 = D F' 0 ∧ best (D F' 0) 1 = half n' t' ∧ Inv F' n' t' ∧ ((n' = n ∧ t' = t) ∨ (n' = n + 1 ∧ t' = u)) ∧ (ok → n' = n + 1) := by
  have hlen : pl (n + 1) < F.length := by rw [h.four.1]; exact pl_lt _
  have hN := half_length (n + 1) u (by have := h.len2; omega)
  have hH := half_length n t (by have := h.len; omega)
  have hsm := h.small
  have key : ∀ F', Four F' → openS (D F 0) 1 = D F' 0 → mendE (D F 0) 1 = 0 → ∀ n' t', best (D F' 0) 1 = half n' t' → 1 ≤ n' → n' ≤ 200 → openE (D F 0) 1 = 0 := by
    intro F' _ e1 e2 n' t' e3 h1 h2
    unfold openE
    rw [if_neg (by rw [ref_D h.four]; simp), if_neg (by rw [e2]; simp), ← openS_D h.four, e1, e3, num_half _ _ (by omega), if_neg (by omega)]
  have old : ∀ F' Y, Four F' → F'.getD (pl n) [] = two (half n t) → F'.getD (pl (n + 1)) [] = two Y → Y.length = 64 → num Y < n → best (D F' 0) 1 = half n t ∧ Inv F' n t := fun F' Y h4 ep eq hY hlt =>
    ⟨best_old h4 h.pos (by omega) h.len hY ep eq hlt, ⟨h4, h.pos, h.small, h.len, ep, Y, hY, hlt, eq⟩⟩
  by_cases ha : alike (F.getD (pl (n + 1)) [])
  · obtain ⟨e1, e2⟩ := mend_alike_all (f := 0) h.four n h.alike_p ha
    rw [← openS_D h.four] at e2
    obtain ⟨m, k, hm, hk, hq⟩ := h.fq
    have ha' := ha
    rw [hq] at ha'
    have hcase := alike_over h.xl (n + 1) (by omega) u (by have := h.len2; omega) hm hk ha'
    simp only [← hq] at hcase
    have hnew : F.getD (pl (n + 1)) [] = two (half (n + 1) u) → ∃ F' n' t', openS (D F 0) 1 = D F' 0 ∧ best (D F' 0) 1 = half n' t' ∧ Inv F' n' t' ∧ ((n' = n ∧ t' = t) ∨ (n' = n + 1 ∧ t' = u)) ∧ (ok → n' = n + 1) := by
      intro c
      refine ⟨F, n + 1, u, e2, best_new h.four (by omega) h.len h.len2 h.fp c, ⟨h.four, by omega, by omega, h.len2, c, half n t, hH, by rw [num_half _ _ (by omega)]; omega, ?_⟩, .inr ⟨rfl, rfl⟩, fun _ => rfl⟩
      rw [show pl (n + 1 + 1) = pl n by unfold pl; omega]
      exact h.fp
    have done : ∃ F' n' t', openS (D F 0) 1 = D F' 0 ∧ best (D F' 0) 1 = half n' t' ∧ Inv F' n' t' ∧ ((n' = n ∧ t' = t) ∨ (n' = n + 1 ∧ t' = u)) ∧ (ok → n' = n + 1) := by
      by_cases c : F.getD (pl (n + 1)) [] = two (half (n + 1) u)
      · exact hnew c
      · have hno : ok → n = n + 1 := fun ho => absurd (h.all ho) c
        rcases hcase with c1 | c1 | c1
        · obtain ⟨b, i⟩ := old F X h.four h.fp c1 h.xl h.xn
          exact ⟨F, n, t, e2, b, i, .inl ⟨rfl, rfl⟩, hno⟩
        · exact absurd c1 c
        · obtain ⟨b, i⟩ := old F _ h.four h.fp (even_two ha) (by rw [List.length_take, h.four.row (pl_lt _)]; rfl) (by rw [c1]; exact h.pos)
          exact ⟨F, n, t, e2, b, i, .inl ⟨rfl, rfl⟩, hno⟩
    refine ⟨?_, done⟩
    obtain ⟨F', n', t', q1, q2, q3, _, _⟩ := done
    exact key F' q3.four q1 e1 n' t' q2 q3.pos q3.small
  · obtain ⟨e1, e2⟩ := mend_unlike (f := 0) h.four n h.alike_p ha
    obtain ⟨w1, w2⟩ := wf_zero h.four (pl_lt (n + 1)) zz_length
    rw [w1] at e1
    rw [w2, ← openS_D h.four] at e2
    have h4 := h.four.set (q := pl (n + 1)) zz_length
    obtain ⟨b, i⟩ := old _ zeros64 h4 (by rw [getD_set_ne (fun e => pl_ne n e.symm)]; exact h.fp) (getD_set_at hlen zz) zeros64_length (by rw [num_zeros]; exact h.pos)
    refine ⟨key _ h4 e2 e1 n t b h.pos h.small, _, n, t, e2, b, i, .inl ⟨rfl, rfl⟩, fun ho => ?_⟩
    exact absurd (by rw [h.all ho]; exact alike_two hN) ha
end
end TQ
end Go.Proofs.Ytjdkmafbogaboaa
