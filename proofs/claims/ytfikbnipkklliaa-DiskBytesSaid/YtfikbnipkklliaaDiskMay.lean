/- Plain facts for the statement on bytes: what may be in a sector behind a wake, as a list. -/
import Derived.Test.YtfikbnipkklliaaDiskMath
namespace Go.Proofs.Ytfikbnipkklliaa
open DM
namespace DY
/-- What sector j may hold: what is flushed, then each write behind that, in their order. -/
def mayOf (f : List (List UInt8)) (u : List (Nat × List UInt8)) (j : Nat) : List (List UInt8) := f.getD j [] :: (u.filter fun x => x.1 == j).map (·.2)
theorem may_ne (f : List (List UInt8)) (u : List (Nat × List UInt8)) (j : Nat) : mayOf f u j ≠ [] := by unfold mayOf; simp
theorem may_pos (f : List (List UInt8)) (u : List (Nat × List UInt8)) (j : Nat) : 0 < (mayOf f u j).length := by unfold mayOf; simp
theorem may_len (f : List (List UInt8)) (u : List (Nat × List UInt8)) (j : Nat) : (mayOf f u j).length ≤ u.length + 1 := by
  unfold mayOf
  simp
  exact List.length_filter_le _ _
theorem may_fresh (f : List (List UInt8)) (j : Nat) : mayOf f [] j = [f.getD j []] := rfl
theorem may_write_at (f : List (List UInt8)) (u : List (Nat × List UInt8)) (q : Nat) (l : List UInt8) : mayOf f (u ++ [(q, l)]) q = mayOf f u q ++ [l] := by
  unfold mayOf
  simp [List.filter_append]
theorem may_write_off (f : List (List UInt8)) (u : List (Nat × List UInt8)) (q j : Nat) (l : List UInt8) (h : j ≠ q) : mayOf f (u ++ [(q, l)]) j = mayOf f u j := by
  unfold mayOf
  have : (q == j) = false := by simp; omega
  simp [List.filter_append, this]
/-- The last of them is what the sector reads as. -/
theorem may_last (j : Nat) : ∀ (u : List (Nat × List UInt8)) (f : List (List UInt8)), j < f.length → (mayOf f u j).getLast (may_ne f u j) = (nowOf f u).getD j []
  | [], f, _ => rfl
  | x :: u, f, hj => by
    have ih := may_last j u (put f x) (by unfold put; rw [List.length_set]; exact hj)
    have e : nowOf f (x :: u) = nowOf (put f x) u := rfl
    rw [e, ← ih]
    unfold mayOf put
    by_cases h : x.1 = j
    · have hb : (x.1 == j) = true := by simp [h]
      have hg : (f.set x.1 x.2).getD j [] = x.2 := by
        rw [h, List.getD_eq_getElem?_getD, List.getElem?_set_self hj]
        rfl
      simp only [List.filter_cons, hb, if_true, List.map_cons, hg]
      rw [List.getLast_cons (by simp)]
    · have hb : (x.1 == j) = false := by simp [h]
      have hg : (f.set x.1 x.2).getD j [] = f.getD j [] := by
        simp only [List.getD_eq_getElem?_getD]
        rw [List.getElem?_set_ne h]
      simp only [List.filter_cons, hb, hg]
      rfl
theorem drop_last (L : List (List UInt8)) (hne : L ≠ []) : L.drop (L.length - 1) = [L.getLast hne] := by
  have h0 := List.length_pos_iff.2 hne
  have e := List.drop_eq_getElem_cons (l := L) (i := L.length - 1) (by omega)
  rw [e, List.drop_of_length_le (by omega), List.getLast_eq_getElem]
/-- Behind a flush that one alone is left: the list from its last place on. -/
theorem may_flush (f : List (List UInt8)) (u : List (Nat × List UInt8)) (j : Nat) (hj : j < f.length) : (mayOf f u j).drop ((mayOf f u j).length - 1) = mayOf (nowOf f u) [] j := by
  rw [may_fresh, ← may_last j u f hj]
  exact drop_last _ (may_ne f u j)
/-- Each byte behind a wake is that byte of one of them. -/
theorem may_byte (f : List (List UInt8)) (u : List (Nat × List UInt8)) (cs : List UInt8) (hf : ∀ r ∈ f, r.length = 128) (hu : ∀ x ∈ u, x.1 < f.length ∧ x.2.length = 128) (j i : Nat) (hj : j < f.length) (hi : i < 128) :
    ∃ n, n < (mayOf f u j).length ∧ ((mayOf f u j).getD n []).getD i 0 = ((woken f u cs).getD j []).getD i 0 := by
  have key : ∃ x ∈ mayOf f u j, x.getD i 0 = ((woken f u cs).getD j []).getD i 0 := by
    rcases wokenTo_byte f u cs hf hu j i hj hi u.length (Nat.le_refl _) with h | ⟨x, hx, hxj, h⟩
    · exact ⟨_, List.mem_cons_self, h.symm⟩
    · exact ⟨x.2, List.mem_cons_of_mem _ (List.mem_map.2 ⟨x, List.mem_filter.2 ⟨hx, by simp [hxj]⟩, rfl⟩), h.symm⟩
  obtain ⟨x, hx, h⟩ := key
  obtain ⟨n, hn, e⟩ := List.getElem_of_mem hx
  refine ⟨n, hn, ?_⟩
  have e2 : (mayOf f u j).getD n [] = x := by rw [List.getD_eq_getElem?_getD, List.getElem?_eq_getElem hn, e]; rfl
  rw [e2]
  exact h
theorem may_rows (f : List (List UInt8)) (u : List (Nat × List UInt8)) (hf : ∀ r ∈ f, r.length = 128) (hu : ∀ x ∈ u, x.2.length = 128) (j : Nat) (hj : j < f.length) : ∀ r ∈ mayOf f u j, r.length = 128 := by
  intro r hr
  rcases List.mem_cons.1 hr with rfl | hr
  · rw [List.getD_eq_getElem?_getD, List.getElem?_eq_getElem hj]
    exact hf _ (List.getElem_mem hj)
  · obtain ⟨x, hx, rfl⟩ := List.mem_map.1 hr
    exact hu x (List.mem_filter.1 hx).1
end DY
end Go.Proofs.Ytfikbnipkklliaa
