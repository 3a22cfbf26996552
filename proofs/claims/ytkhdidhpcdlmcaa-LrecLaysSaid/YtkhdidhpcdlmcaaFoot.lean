/- Words for memory that serve every layer: a row's beginning that is known; what a call may turn, as a list of blocks; rows that are written in their middle. -/
import Derived.Test.YtkhdidhpcdlmcaaMem
import Derived.Deep.MidRow
import Derived.Deep.AppendLies
import Derived.Lib.BufferWrite
namespace Go.Proofs.Ytkhdidhpcdlmcaa
open Go.RowKit Go.Lib MM
namespace MF
/-! ### Only these blocks may have turned, of those that there were -/
structure Fr (a b : World) (fs : List Nat) : Prop where
  os : b.os = a.os
  tape : b.tape = a.tape
  output : b.output = a.output
  size : a.heap.size ≤ b.heap.size
  block : ∀ k, k < a.heap.size → k ∉ fs → b.heap[k]? = a.heap[k]?
section
variable {a b c : World} {fs gs : List Nat} {B : Nat}
theorem Fr.refl (a : World) (fs : List Nat) : Fr a a fs := ⟨rfl, rfl, rfl, Nat.le_refl _, fun _ _ _ => rfl⟩
theorem Fr.trans (h : Fr a b fs) (k : Fr b c gs) (hg : ∀ x ∈ gs, x ∈ fs ∨ a.heap.size ≤ x) : Fr a c fs :=
  ⟨k.os.trans h.os, k.tape.trans h.tape, k.output.trans h.output, Nat.le_trans h.size k.size, fun i hi hn =>
    (k.block i (Nat.lt_of_lt_of_le hi h.size) (fun hm => by rcases hg i hm with h1 | h1; exact hn h1; omega)).trans (h.block i hi hn)⟩
theorem Fr.more (h : Fr a b fs) (hg : ∀ x ∈ fs, x < a.heap.size → x ∈ gs) : Fr a b gs :=
  ⟨h.os, h.tape, h.output, h.size, fun i hi hn => h.block i hi (fun hm => hn (hg i hm hi))⟩
theorem Fr.of_below (h : Below a.heap.size a b) (fs : List Nat) : Fr a b fs := ⟨h.os, h.tape, h.output, h.size, fun i hi _ => h.block i hi⟩
/-- What turned blocks from B on alone. -/
theorem Fr.below (h : Fr a b fs) (hf : ∀ x ∈ fs, B ≤ x) (hB : B ≤ a.heap.size) : Below B a b :=
  ⟨h.os, h.tape, h.output, h.size, fun i hi => h.block i (Nat.lt_of_lt_of_le hi hB) (fun hm => by have := hf i hm; omega)⟩
theorem Fr.of_grown {row : Option Nat} (h : a.grownBy b row) (hr : ∀ g, row = some g → g ∈ fs) : Fr a b fs :=
  ⟨h.os, h.tape, h.output, h.size, fun i hi hn => h.block i hi (fun e => hn (hr i e.symm))⟩
theorem Fr.alloc (h : Fr a b fs) (o : Obj) : Fr a (b.alloc o) fs :=
  ⟨h.os, h.tape, h.output, Nat.le_trans h.size (by simp), fun i hi hn => (Below.heap_alloc b o i (Nat.lt_of_lt_of_le hi h.size)).trans (h.block i hi hn)⟩
theorem Fr.drew (h : Fr a b fs) : Fr a b.drew fs := ⟨h.os, h.tape, h.output, h.size, h.block⟩
theorem Fr.drewN (h : Fr a b fs) (n : Nat) : Fr a (b.drewN n) fs := ⟨h.os, h.tape, h.output, h.size, h.block⟩
theorem Fr.setCell (h : Fr a b fs) {p : Addr} (hp : p.block ∈ fs ∨ a.heap.size ≤ p.block) (u : Value) : Fr a (b.setCell p u) fs :=
  ⟨h.os, h.tape, h.output, by simpa [World.setCell] using h.size, fun i hi hn => (Below.heap_setCell b p u i (by
    rintro rfl
    rcases hp with hp | hp
    · exact hn hp
    · omega)).trans (h.block i hi hn)⟩
theorem Fr.cell (h : Fr a b fs) {p : Addr} (hp : p.block < a.heap.size) (hn : p.block ∉ fs) : b.cell? p = a.cell? p := World.cell?_of_block (h.block _ hp hn)
theorem Fr.frozen (h : Fr a b fs) {p : Addr} (hp : p.block < a.heap.size) (hn : p.block ∉ fs) : b.frozen? p = a.frozen? p := World.frozen?_of_block (h.block _ hp hn)
theorem Fr.has {g : Nat} {t : TypeId} {cs : List Value} (h : Fr a b fs) (hh : Has a g t cs) (hn : g ∉ fs) : Has b g t cs := (h.block g hh.lt hn).trans hh
theorem Fr.owns {e : TypeId} {size n : Nat} {v : Value} {xs : List Value} (h : Fr a b fs) (hh : a.ownsRow B e size v n xs) (hn : ∀ g, v.ownBlock = some g → g ∉ fs) : b.ownsRow B e size v n xs := by
  refine ⟨hh.1, ?_⟩
  rcases hh.2 with hl | ⟨g, cap, cur, rfl, hb, hg, rest⟩
  · exact .inl hl
  · exact .inr ⟨g, cap, cur, rfl, hb, (h.block g (lt_of_block hg) (hn g rfl)).trans hg, rest⟩
end

/-! ### setCells, by blocks -/
theorem heap_setCells_other (g k : Nat) (hk : k ≠ g) : ∀ (vs : List Value) (o : Nat) (w : World), (w.setCells g o vs).heap[k]? = w.heap[k]?
  | [], _, _ => rfl
  | v :: r, o, w => (heap_setCells_other g k hk r (o + 1) _).trans (heap_setCell_other w _ k v hk)
theorem splice_cons (cs : List Value) (o : Nat) (v : Value) (r : List Value) (h : o < cs.length) : splice (cs.set o v) (o + 1) r = splice cs o (v :: r) := by
  unfold splice
  rw [List.take_set, List.drop_set_of_lt (by omega), List.length_cons, show o + 1 + r.length = o + (r.length + 1) by omega, List.take_succ_eq_append_getElem h]
  have : (cs.take o ++ [cs[o]]).set o v = cs.take o ++ [v] := by
    rw [List.set_append_right _ _ (by rw [List.length_take]; omega), List.length_take, show o - min o cs.length = 0 by omega]
    rfl
  rw [this]
  simp
theorem heap_setCells_same (g : Nat) (t : TypeId) : ∀ (vs : List Value) (o : Nat) (w : World) (cs : List Value), w.heap[g]? = some (.cells cs.toArray t (0, 0)) → o + vs.length ≤ cs.length →
    (w.setCells g o vs).heap[g]? = some (.cells (splice cs o vs).toArray t (0, 0))
  | [], o, w, cs, h, _ => by simpa [World.setCells, splice] using h
  | v :: r, o, w, cs, h, hl => by
    have h1 : Has (w.setCell ⟨g, o, none⟩ v) g t (cs.set o v) := Has.put h o v
    have := heap_setCells_same g t r (o + 1) _ (cs.set o v) h1 (by simp at hl ⊢; omega)
    rw [splice_cons _ _ _ _ (by simp at hl; omega)] at this
    exact this
theorem setCells_frame (g : Nat) : ∀ (vs : List Value) (o : Nat) (w : World), (w.setCells g o vs).os = w.os ∧ (w.setCells g o vs).tape = w.tape ∧ (w.setCells g o vs).output = w.output ∧ (w.setCells g o vs).heap.size = w.heap.size
  | [], _, _ => ⟨rfl, rfl, rfl, rfl⟩
  | v :: r, o, w => by
    obtain ⟨h1, h2, h3, h4⟩ := setCells_frame g r (o + 1) (w.setCell ⟨g, o, none⟩ v)
    exact ⟨h1, h2, h3, h4.trans (by simp [World.setCell])⟩
theorem Fr.setCells {a b : World} {fs : List Nat} (h : Fr a b fs) {g : Nat} (hg : g ∈ fs ∨ a.heap.size ≤ g) (o : Nat) (vs : List Value) : Fr a (b.setCells g o vs) fs := by
  obtain ⟨h1, h2, h3, h4⟩ := setCells_frame g vs o b
  refine ⟨h1.trans h.os, h2.trans h.tape, h3.trans h.output, by rw [h4]; exact h.size, fun i hi hn => ?_⟩
  refine (heap_setCells_other g i ?_ vs o b).trans (h.block i hi hn)
  rintro rfl
  rcases hg with hg | hg
  · exact hn hg
  · omega

/-! ### A row whose beginning is known -/
/-- Block g begins with these cells; none is frozen. -/
def Row (w : World) (g : Nat) (t : TypeId) (xs : List Value) : Prop := ∃ rest : List Value, w.heap[g]? = some (.cells (xs ++ rest).toArray t (0, 0))
section
variable {w w' : World} {g : Nat} {t : TypeId} {xs : List Value}
theorem Row.lt (h : Row w g t xs) : g < w.heap.size := by obtain ⟨_, h⟩ := h; exact lt_of_block h
theorem Row.of_has (h : Has w g t xs) : Row w g t xs := ⟨[], by rw [List.append_nil]; exact h⟩
theorem Row.of_block (h : Row w g t xs) (e : w'.heap[g]? = w.heap[g]?) : Row w' g t xs := by obtain ⟨r, h⟩ := h; exact ⟨r, e.trans h⟩
theorem Row.drew (h : Row w g t xs) : Row w.drew g t xs := h
theorem Row.kept {fs : List Nat} (h : Row w g t xs) (k : Fr w w' fs) (hn : g ∉ fs) : Row w' g t xs := h.of_block (k.block g h.lt hn)
theorem Row.cell (h : Row w g t xs) (i : Nat) (hi : i < xs.length) : w.cell? ⟨g, i, none⟩ = some xs[i] := by
  obtain ⟨r, h⟩ := h
  rw [cell_of_row w g i _ t (0, 0) h]
  simp [List.getElem?_append_left hi, hi]
theorem Row.free (h : Row w g t xs) (i : Nat) : w.frozen? ⟨g, i, none⟩ = false := by obtain ⟨r, h⟩ := h; exact frozen_of_row w g i _ t h
/-- Cells of it from o on. -/
theorem Row.range (h : Row w g t xs) (o : Nat) (cs : List Value) (hc : ∀ j, j < cs.length → xs[o + j]? = cs[j]?) : w.rangeAt g o cs := by
  intro j v hj
  have hjl : j < cs.length := (List.getElem?_eq_some_iff.1 hj).1
  have hx := (hc j hjl).trans hj
  obtain ⟨hl, rfl⟩ := List.getElem?_eq_some_iff.1 hx
  exact h.cell _ hl
theorem Row.there (h : Row w g t xs) (o n : Nat) (hn : o + n ≤ xs.length) : w.there g o n := fun j hj => by
  refine ⟨?_, h.free _⟩
  rw [h.cell (o + j) (by omega)]; rfl
theorem Row.put (h : Row w g t xs) (o : Nat) (vs : List Value) (hl : o + vs.length ≤ xs.length) : Row (w.setCells g o vs) g t (splice xs o vs) := by
  obtain ⟨r, h⟩ := h
  refine ⟨r, ?_⟩
  rw [heap_setCells_same g t vs o w (xs ++ r) h (by simp; omega)]
  congr 2
  unfold splice
  rw [List.take_append_of_le_length (by omega), List.drop_append_of_le_length (by omega)]
  simp
theorem Row.owns {e : TypeId} {size n cap B : Nat} (h : w.ownsRow B e size (.slice (some ⟨g, 0, none⟩) n cap) n xs) : Row w g e xs ∧ B ≤ g ∧ n ≤ cap ∧ cap ≤ maxLen := by
  rcases h.2 with ⟨hv, _⟩ | ⟨g', cap', cur, hv, hb, hg, h1, h2, hs, ht⟩
  · cases hv
  · injection hv with hv1 hv2 hv3
    injection hv1 with hv1
    injection hv1 with hv1
    subst hv1
    subst hv3
    refine ⟨⟨cur.toList.drop (n * size), ?_⟩, hb, h1, h2⟩
    rw [← ht, List.take_append_drop, Array.toArray_toList]
    exact hg
end
end MF
end Go.Proofs.Ytkhdidhpcdlmcaa
