/- Plain facts on a disk: what was flushed, and the writes behind it; what a Wake makes of them; rows of one length, one behind the other. -/
import Derived.Laws.CopyOwn
import Derived.Lib.UnsafeStr
namespace Go.Proofs.Ytkhdidhpcdlmcaa
open Go.RowKit Go.Lib
namespace DM

/-! ### Rows of one length, one behind the other -/
section
variable {α : Type}
theorem flat_length {m : Nat} : ∀ (L : List (List α)), (∀ r ∈ L, r.length = m) → L.flatten.length = m * L.length
  | [], _ => by simp
  | r :: L, h => by
    have ih := flat_length L (fun x hx => h x (by simp [hx]))
    have := h r (by simp)
    simp only [List.flatten_cons, List.length_append, List.length_cons, ih, this, Nat.mul_add]
    omega
theorem flat_take {m : Nat} : ∀ (L : List (List α)) (i : Nat) (h : i < L.length), (∀ r ∈ L, r.length = m) → (L.flatten.drop (m * i)).take m = L[i]
  | [], i, h, _ => by simp at h
  | r :: L, 0, h, hr => by
    have := hr r (by simp)
    simp only [Nat.mul_zero, List.drop_zero, List.flatten_cons, List.getElem_cons_zero]
    rw [List.take_append_of_le_length (by omega), List.take_of_length_le (by omega)]
  | r :: L, i + 1, h, hr => by
    have h1 := hr r (by simp)
    have ih := flat_take L i (by simpa using h) (fun x hx => hr x (by simp [hx]))
    simp only [List.flatten_cons, List.getElem_cons_succ]
    rw [show m * (i + 1) = r.length + m * i by rw [h1, Nat.mul_add]; omega, List.drop_append, List.drop_eq_nil_of_le (by omega), List.nil_append, Nat.add_sub_cancel_left, ih]
theorem flat_at {m : Nat} (L : List (List α)) (i : Nat) (h : i < L.length) (hr : ∀ r ∈ L, r.length = m) (j : Nat) (hj : j < m) : L.flatten[m * i + j]? = L[i][j]? := by
  rw [← flat_take L i h hr, List.getElem?_take_of_lt hj, List.getElem?_drop]
/-- A row's beginning, written anew. -/
theorem flat_splice {m : Nat} : ∀ (L : List (List α)) (i : Nat) (t : List α) (h : i < L.length), (∀ r ∈ L, r.length = m) → t.length ≤ m → splice L.flatten (m * i) t = (L.set i (t ++ L[i].drop t.length)).flatten
  | [], i, _, h, _, _ => by simp at h
  | r :: L, 0, t, h, hr, ht => by
    have := hr r (by simp)
    simp only [splice, Nat.mul_zero, List.take_zero, List.nil_append, Nat.zero_add, List.flatten_cons, List.set_cons_zero, List.getElem_cons_zero, List.append_assoc]
    rw [List.drop_append_of_le_length (by omega)]
  | r :: L, i + 1, t, h, hr, ht => by
    have h1 := hr r (by simp)
    have ih := flat_splice L i t (by simpa using h) (fun x hx => hr x (by simp [hx])) ht
    simp only [List.flatten_cons, List.getElem_cons_succ, List.set_cons_succ]
    rw [← ih]
    unfold splice
    rw [show m * (i + 1) = r.length + m * i by rw [h1, Nat.mul_add]; omega, List.take_append, List.take_of_length_le (by omega), Nat.add_sub_cancel_left, List.append_assoc, Nat.add_assoc, List.drop_append, List.drop_eq_nil_of_le (by omega), List.nil_append, Nat.add_sub_cancel_left]
theorem flat_set {m : Nat} (L : List (List α)) (i : Nat) (t : List α) (h : i < L.length) (hr : ∀ r ∈ L, r.length = m) (ht : t.length = m) : splice L.flatten (m * i) t = (L.set i t).flatten := by
  rw [flat_splice L i t h hr (by omega), List.drop_eq_nil_of_le (by have := hr _ (List.getElem_mem h); omega), List.append_nil]
theorem flat_snoc (L : List (List α)) (r : List α) : (L ++ [r]).flatten = L.flatten ++ r := by simp
theorem map_splice {β : Type} (f : α → β) (l : List α) (o : Nat) (t : List α) : (splice l o t).map f = splice (l.map f) o (t.map f) := by
  simp [splice]
theorem splice_append (l rest : List α) (o : Nat) (t : List α) (h : o + t.length ≤ l.length) : splice (l ++ rest) o t = splice l o t ++ rest := by
  unfold splice
  rw [List.take_append_of_le_length (by omega), List.drop_append_of_le_length (by omega)]
  simp
theorem splice_nil (l : List α) (o : Nat) : splice l o [] = l := by simp [splice]
end

/-! ### A disk -/
/-- What was flushed; what was written since, in its order; is the power on; the fuse (0: none). -/
structure St where
  fl : List (List UInt8)
  un : List (Nat × List UInt8)
  on : Bool
  fuse : Nat
/-- A write is done. -/
def put (f : List (List UInt8)) (x : Nat × List UInt8) : List (List UInt8) := f.set x.1 x.2
def nowOf (f : List (List UInt8)) (u : List (Nat × List UInt8)) : List (List UInt8) := u.foldl put f
def St.now (S : St) : List (List UInt8) := nowOf S.fl S.un
/-- All rows have 128 bytes, and writes go to rows that there are. -/
def St.Ok (S : St) : Prop := (∀ r ∈ S.fl, r.length = 128) ∧ (∀ x ∈ S.un, x.1 < S.fl.length ∧ x.2.length = 128) ∧ S.fl.length ≤ 4096 ∧ S.fuse ≤ 9223372036854775807

theorem nowOf_snoc (f : List (List UInt8)) (u : List (Nat × List UInt8)) (x : Nat × List UInt8) : nowOf f (u ++ [x]) = (nowOf f u).set x.1 x.2 := by
  simp [nowOf, put]
theorem nowOf_length (u : List (Nat × List UInt8)) : ∀ f : List (List UInt8), (nowOf f u).length = f.length := by
  induction u with
  | nil => intro f; rfl
  | cons x u ih => intro f; exact (ih (put f x)).trans (by simp [put])
theorem mem_set {f : List (List UInt8)} {i : Nat} {t r : List UInt8} (h : r ∈ f.set i t) : r ∈ f ∨ r = t := List.mem_or_eq_of_mem_set h
theorem nowOf_rows (u : List (Nat × List UInt8)) : ∀ f : List (List UInt8), (∀ r ∈ f, r.length = 128) → (∀ x ∈ u, x.2.length = 128) → ∀ r ∈ nowOf f u, r.length = 128 := by
  induction u with
  | nil => intro f hf _; exact hf
  | cons x u ih =>
    intro f hf hu
    refine ih (put f x) ?_ (fun y hy => hu y (by simp [hy]))
    intro r hr
    rcases mem_set hr with h | h
    · exact hf r h
    · rw [h]; exact hu x (by simp)
theorem nowOf_away (u : List (Nat × List UInt8)) (j : Nat) : ∀ f : List (List UInt8), (∀ x ∈ u, x.1 ≠ j) → (nowOf f u)[j]? = f[j]? := by
  induction u with
  | nil => intro f _; rfl
  | cons x u ih =>
    intro f h
    refine (ih (put f x) (fun y hy => h y (by simp [hy]))).trans ?_
    simp [put, List.getElem?_set_ne (h x (by simp))]
section
variable {S : St}
theorem St.Ok.rows (h : S.Ok) : ∀ r ∈ S.fl, r.length = 128 := h.1
theorem St.Ok.now_rows (h : S.Ok) : ∀ r ∈ S.now, r.length = 128 := nowOf_rows _ _ h.1 (fun x hx => (h.2.1 x hx).2)
theorem St.Ok.now_length (_ : S.Ok) : S.now.length = S.fl.length := nowOf_length _ _
end
theorem St.now_length (S : St) : S.now.length = S.fl.length := nowOf_length _ _

/-! ### Row by row, what one list has goes into another -/
def copyTo (src : List (List UInt8)) (dst : List (List UInt8)) (u : List (Nat × List UInt8)) : List (List UInt8) := u.foldl (fun f x => f.set x.1 (src.getD x.1 [])) dst
theorem copyTo_snoc (src dst : List (List UInt8)) (u : List (Nat × List UInt8)) (x : Nat × List UInt8) : copyTo src dst (u ++ [x]) = (copyTo src dst u).set x.1 (src.getD x.1 []) := by simp [copyTo]
theorem copyTo_length (src : List (List UInt8)) (u : List (Nat × List UInt8)) : ∀ dst, (copyTo src dst u).length = dst.length := by
  induction u with
  | nil => intro f; rfl
  | cons x u ih => intro f; exact (ih _).trans (by simp)
theorem copyTo_rows (src : List (List UInt8)) (hs : ∀ r ∈ src, r.length = 128) (u : List (Nat × List UInt8)) : ∀ dst, (∀ r ∈ dst, r.length = 128) → (∀ x ∈ u, x.1 < src.length) → ∀ r ∈ copyTo src dst u, r.length = 128 := by
  induction u with
  | nil => intro f hf _; exact hf
  | cons x u ih =>
    intro f hf hu
    refine ih _ ?_ (fun y hy => hu y (by simp [hy]))
    intro r hr
    rcases mem_set hr with h | h
    · exact hf r h
    · have := hu x (by simp)
      rw [h, List.getD_eq_getElem?_getD, List.getElem?_eq_getElem this]
      exact hs _ (List.getElem_mem this)
theorem copyTo_at (src : List (List UInt8)) (u : List (Nat × List UInt8)) (j : Nat) : ∀ dst : List (List UInt8), dst.length = src.length → (copyTo src dst u)[j]? = src[j]? ∨ ((copyTo src dst u)[j]? = dst[j]? ∧ ∀ x ∈ u, x.1 ≠ j) := by
  induction u with
  | nil => intro dst _; exact .inr ⟨rfl, by simp⟩
  | cons x u ih =>
    intro dst hl
    rcases ih (dst.set x.1 (src.getD x.1 [])) (by simpa using hl) with h | ⟨h, hn⟩
    · exact .inl h
    · by_cases hx : x.1 = j
      · subst hx
        left
        refine h.trans ?_
        rcases Nat.lt_or_ge x.1 src.length with hlt | hge
        · rw [List.getElem?_set_self (by omega), List.getD_eq_getElem?_getD, List.getElem?_eq_getElem hlt]; rfl
        · rw [List.getElem?_eq_none (by simpa [hl] using hge), List.getElem?_eq_none hge]
      · right
        refine ⟨h.trans (List.getElem?_set_ne hx), ?_⟩
        intro y hy
        rcases List.mem_cons.1 hy with rfl | hy
        · exact hx
        · exact hn y hy
/-- A Flush that copies what was written: all is flushed. -/
theorem flushed_all (f : List (List UInt8)) (u : List (Nat × List UInt8)) : copyTo (nowOf f u) f u = nowOf f u := by
  apply List.ext_getElem?
  intro j
  rcases copyTo_at (nowOf f u) u j f (nowOf_length u f).symm with h | ⟨h, hn⟩
  · exact h
  · rw [h, nowOf_away u j f hn]

/-! ### Fates -/
/-- How many bytes of a write stay. -/
def keep (f : UInt8) : Nat := if f = 1 then 128 else f.toNat % 128
theorem keep_le (f : UInt8) : keep f ≤ 128 := by unfold keep; split <;> omega
def tear (f : List (List UInt8)) (x : Nat × List UInt8) (c : UInt8) : List (List UInt8) := f.set x.1 (x.2.take (keep c) ++ (f.getD x.1 []).drop (keep c))
/-- What k writes have left of what was flushed. -/
def wokenTo (f : List (List UInt8)) (u : List (Nat × List UInt8)) (cs : List UInt8) : Nat → List (List UInt8)
  | 0 => f
  | k + 1 => tear (wokenTo f u cs k) (u.getD k (0, [])) (cs.getD k 0)
def woken (f : List (List UInt8)) (u : List (Nat × List UInt8)) (cs : List UInt8) : List (List UInt8) := wokenTo f u cs u.length
theorem tear_length (f : List (List UInt8)) (x : Nat × List UInt8) (c : UInt8) : (tear f x c).length = f.length := by simp [tear]
theorem tear_rows {f : List (List UInt8)} {x : Nat × List UInt8} {c : UInt8} (hf : ∀ r ∈ f, r.length = 128) (h1 : x.1 < f.length) (h2 : x.2.length = 128) : ∀ r ∈ tear f x c, r.length = 128 := by
  intro r hr
  rcases mem_set hr with h | h
  · exact hf r h
  · have hk := keep_le c
    rw [h, List.getD_eq_getElem?_getD, List.getElem?_eq_getElem h1]
    have := hf _ (List.getElem_mem h1)
    simp only [Option.getD_some, List.length_append, List.length_take, List.length_drop]
    omega
theorem wokenTo_length (f : List (List UInt8)) (u : List (Nat × List UInt8)) (cs : List UInt8) : ∀ k, (wokenTo f u cs k).length = f.length
  | 0 => rfl
  | k + 1 => (tear_length _ _ _).trans (wokenTo_length f u cs k)
theorem getD_mem {u : List (Nat × List UInt8)} {k : Nat} (h : k < u.length) : u.getD k (0, []) = u[k] := by
  rw [List.getD_eq_getElem?_getD, List.getElem?_eq_getElem h]; rfl
theorem wokenTo_rows {f : List (List UInt8)} {u : List (Nat × List UInt8)} (cs : List UInt8) (hf : ∀ r ∈ f, r.length = 128) (hu : ∀ x ∈ u, x.1 < f.length ∧ x.2.length = 128) : ∀ k, k ≤ u.length → ∀ r ∈ wokenTo f u cs k, r.length = 128
  | 0, _ => hf
  | k + 1, hk => by
    have h := hu _ (List.getElem_mem (show k < u.length by omega))
    have e := getD_mem (show k < u.length by omega)
    refine tear_rows (wokenTo_rows cs hf hu k (by omega)) ?_ ?_
    · rw [wokenTo_length, e]; exact h.1
    · rw [e]; exact h.2
theorem wokenTo_away {f : List (List UInt8)} {u : List (Nat × List UInt8)} (cs : List UInt8) (j : Nat) (hn : ∀ x ∈ u, x.1 ≠ j) : ∀ k, k ≤ u.length → (wokenTo f u cs k)[j]? = f[j]?
  | 0, _ => rfl
  | k + 1, hk => by
    have e := getD_mem (show k < u.length by omega)
    have h := hn _ (List.getElem_mem (show k < u.length by omega))
    refine Eq.trans ?_ (wokenTo_away cs j hn k (by omega))
    simp only [wokenTo, tear, e]
    exact List.getElem?_set_ne h
/-- A Wake that copies back what was written: all is as it was woken. -/
theorem woken_all (f : List (List UInt8)) (u : List (Nat × List UInt8)) (cs : List UInt8) : copyTo (woken f u cs) (nowOf f u) u = woken f u cs := by
  apply List.ext_getElem?
  intro j
  rcases copyTo_at (woken f u cs) u j (nowOf f u) ((nowOf_length u f).trans (wokenTo_length f u cs _).symm) with h | ⟨h, hn⟩
  · exact h
  · rw [h, nowOf_away u j f hn]
    exact (wokenTo_away cs j hn _ (Nat.le_refl _)).symm
/-- Each byte behind a Wake is what was flushed, or what a write behind that gave it. -/
theorem wokenTo_byte (f : List (List UInt8)) (u : List (Nat × List UInt8)) (cs : List UInt8) (hf : ∀ r ∈ f, r.length = 128) (hu : ∀ x ∈ u, x.1 < f.length ∧ x.2.length = 128) (j i : Nat) (hj : j < f.length) (hi : i < 128) :
    ∀ k, k ≤ u.length → ((wokenTo f u cs k).getD j []).getD i 0 = (f.getD j []).getD i 0 ∨ ∃ x ∈ u, x.1 = j ∧ ((wokenTo f u cs k).getD j []).getD i 0 = x.2.getD i 0
  | 0, _ => .inl rfl
  | k + 1, hk => by
    have ih := wokenTo_byte f u cs hf hu j i hj hi k (by omega)
    have e := getD_mem (show k < u.length by omega)
    have hx := hu _ (List.getElem_mem (show k < u.length by omega))
    have hm := List.getElem_mem (show k < u.length by omega)
    have hl := wokenTo_length f u cs k
    have hr := wokenTo_rows cs hf hu k (by omega)
    rw [wokenTo, e]
    generalize u[k] = x at *
    generalize wokenTo f u cs k = g at *
    have hkp := keep_le (cs.getD k 0)
    generalize keep (cs.getD k 0) = n at *
    by_cases hj' : x.1 = j
    · subst hj'
      have hg := hr _ (List.getElem_mem (show x.1 < g.length by omega))
      have e2 : (tear g x (cs.getD k 0)).getD x.1 [] = x.2.take (keep (cs.getD k 0)) ++ (g.getD x.1 []).drop (keep (cs.getD k 0)) := by
        unfold tear
        rw [List.getD_eq_getElem?_getD, List.getElem?_set_self (by omega)]; rfl
      rw [e2]
      generalize keep (cs.getD k 0) = n at *
      by_cases hin : i < n
      · right
        refine ⟨x, hm, rfl, ?_⟩
        simp only [List.getD_eq_getElem?_getD]
        rw [List.getElem?_append_left (by rw [List.length_take]; omega), List.getElem?_take_of_lt hin]
      · have e3 : (x.2.take n ++ (g.getD x.1 []).drop n).getD i 0 = (g.getD x.1 []).getD i 0 := by
          by_cases hn : n ≤ 128
          · simp only [List.getD_eq_getElem?_getD]
            rw [List.getElem?_append_right (by rw [List.length_take]; omega), List.getElem?_drop, List.length_take]
            congr 2
            omega
          · omega
        rw [e3]
        exact ih
    · have e2 : (tear g x (cs.getD k 0)).getD j [] = g.getD j [] := by
        unfold tear
        simp only [List.getD_eq_getElem?_getD]
        rw [List.getElem?_set_ne hj']
      rw [e2]
      exact ih
theorem keep_one : keep 1 = 128 := rfl
theorem keep_zero : keep 0 = 0 := rfl
/-- All stay. -/
theorem wokenTo_ones (f : List (List UInt8)) (u : List (Nat × List UInt8)) (cs : List UInt8) (hf : ∀ r ∈ f, r.length = 128) (hu : ∀ x ∈ u, x.1 < f.length ∧ x.2.length = 128) :
    ∀ k, k ≤ u.length → (∀ i, i < k → cs.getD i 0 = 1) → wokenTo f u cs k = nowOf f (u.take k)
  | 0, _, _ => by simp [wokenTo, nowOf]
  | k + 1, hk, h1 => by
    have ih := wokenTo_ones f u cs hf hu k (by omega) (fun i hi => h1 i (by omega))
    have e := getD_mem (show k < u.length by omega)
    have hx := hu _ (List.getElem_mem (show k < u.length by omega))
    rw [wokenTo, ih, e, h1 k (by omega), List.take_succ_eq_append_getElem (by omega), nowOf_snoc]
    have hl := nowOf_length (u.take k) f
    have hg : ((nowOf f (u.take k)).getD u[k].1 []).length = 128 := by
      rw [List.getD_eq_getElem?_getD, List.getElem?_eq_getElem (by omega), Option.getD_some]
      exact nowOf_rows _ f hf (fun y hy => (hu y (List.mem_of_mem_take hy)).2) _ (List.getElem_mem _)
    unfold tear
    have ht : u[k].2.take 128 = u[k].2 := List.take_of_length_le (by omega)
    rw [keep_one, List.drop_eq_nil_of_le (by omega), List.append_nil, ht]
/-- All are lost. -/
theorem wokenTo_none (f : List (List UInt8)) (u : List (Nat × List UInt8)) (hu : ∀ x ∈ u, x.1 < f.length ∧ x.2.length = 128) : ∀ k, k ≤ u.length → wokenTo f u [] k = f
  | 0, _ => rfl
  | k + 1, hk => by
    have hx := hu _ (List.getElem_mem (show k < u.length by omega))
    have e := getD_mem (show k < u.length by omega)
    rw [wokenTo, wokenTo_none f u hu k (by omega), e]
    unfold tear
    rw [show ([] : List UInt8).getD k 0 = 0 from rfl, keep_zero]
    rw [List.getD_eq_getElem?_getD, List.getElem?_eq_getElem hx.1]
    simp
end DM
end Go.Proofs.Ytkhdidhpcdlmcaa
