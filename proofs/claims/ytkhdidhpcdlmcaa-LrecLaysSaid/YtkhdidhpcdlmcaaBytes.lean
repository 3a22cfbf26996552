/- Rows of bytes that a conversion made: more cells may stand behind the bytes; the last place is marked, no byte is. -/
import Derived.Test.YtkhdidhpcdlmcaaMem
import Derived.Laws.IdiomStrings
namespace Go.Proofs.Ytkhdidhpcdlmcaa
set_option maxRecDepth 100000
open Go.RowKit Go.Lib MM
namespace MB
/-- Block g begins with these bytes, and none of them is frozen. -/
def Byt (w : World) (g : Nat) (l : List UInt8) : Prop :=
  ∃ rest : List Value, w.heap[g]? = some (.cells (byteCells l ++ rest).toArray 5 ((byteCells l ++ rest).length, (byteCells l ++ rest).length + 1))

theorem cells_get {l : List UInt8} {rest : List Value} {i : Nat} (h : i < l.length) : (byteCells l ++ rest)[i]? = some (.int .u8 l[i].toNat) := by
  rw [List.getElem?_append_left (by simpa [byteCells] using h)]
  simp [byteCells, h]
section
variable {w w' : World} {g : Nat} {l : List UInt8}
theorem Byt.lt (h : Byt w g l) : g < w.heap.size := by
  obtain ⟨_, h⟩ := h; exact lt_of_block h
theorem Byt.cell (h : Byt w g l) (i : Nat) (hi : i < l.length) : w.cell? ⟨g, i, none⟩ = some (.int .u8 l[i].toNat) := by
  obtain ⟨rest, h⟩ := h
  have := cells_get (rest := rest) hi
  simp [World.cell?, h]
  simpa using this
theorem Byt.free (h : Byt w g l) (i : Nat) (hi : i < l.length) : w.frozen? ⟨g, i, none⟩ = false := by
  obtain ⟨rest, h⟩ := h
  simp [World.frozen?, h, byteCells]
  omega
theorem Byt.draw (h : Byt w g l) : Byt w.drew g l := h
theorem Byt.draws (h : Byt w g l) (n : Nat) : Byt (w.drewN n) g l := h
theorem Byt.under {B : Nat} (h : Byt w g l) (hb : Below B w w') (hg : g < B) : Byt w' g l := by
  obtain ⟨rest, h⟩ := h; exact ⟨rest, (hb.block g hg).trans h⟩
theorem Byt.grow (h : Byt w g l) (o : Obj) : Byt (w.alloc o) g l := h.under (Below.alloc (Below.refl _ _) (Nat.le_refl _) o) h.lt
theorem Byt.put (h : Byt w g l) (i : Nat) (hi : i < l.length) (c : UInt8) : Byt (w.setCell ⟨g, i, none⟩ (.int .u8 c.toNat)) g (l.set i c) := by
  obtain ⟨rest, h⟩ := h
  have e : (byteCells l ++ rest).toArray.setIfInBounds i (.int .u8 c.toNat) = (byteCells (l.set i c) ++ rest).toArray := by
    rw [List.setIfInBounds_toArray, List.set_append_left _ _ (by simpa [byteCells] using hi)]
    congr 1
    congr 1
    unfold byteCells
    rw [List.map_set]
  refine ⟨rest, ?_⟩
  simp only [World.setCell, Array.getElem?_modify, h]
  simp only [if_pos, Option.map_some]
  rw [show (none : Option Nat).isSome = false from rfl]
  simp only [Bool.false_eq_true, if_false]
  rw [e]
  simp [byteCells]
theorem Byt.far (h : Byt w g l) {p : Addr} (hp : g ≠ p.block) (u : Value) : Byt (w.setCell p u) g l := by
  obtain ⟨rest, h⟩ := h; exact ⟨rest, (heap_setCell_other w p g u hp).trans h⟩
end
/-- What '[]byte(s)' lays is such a row. -/
theorem byt_made (w : World) (l : List UInt8) (cap : Nat) :
    Byt (w.drew.alloc (.cells (bytesRow ⟨l.toArray⟩ cap) 5 ((bytesRow ⟨l.toArray⟩ cap).size, (bytesRow ⟨l.toArray⟩ cap).size + 1))) w.heap.size l := by
  have e : bytesRow ⟨l.toArray⟩ cap = (byteCells l ++ (List.replicate (cap - l.length) (Value.int .u8 0))).toArray := by
    simp [bytesRow, byteCells]
    rfl
  refine ⟨List.replicate (cap - l.length) (.int .u8 0), ?_⟩
  rw [e]
  refine (heap_alloc_new _ _).trans ?_
  simp
theorem byt_new (w : World) (l : List UInt8) (cap : Nat) :
    Byt (w.alloc (.cells (bytesRow ⟨l.toArray⟩ cap) 5 ((bytesRow ⟨l.toArray⟩ cap).size, (bytesRow ⟨l.toArray⟩ cap).size + 1))) w.heap.size l := byt_made w l cap
/-- '[]byte(s)', as the walk takes it. -/
theorem run_bytes (w : World) (l : List UInt8) (hl : l.length ≤ maxLen) : ∃ cap w', (convert 9 23 (.string ⟨l.toArray⟩)).run Try.prog w = .ok (.slice (some ⟨w.heap.size, 0, none⟩) l.length cap) w' ∧ Byt w' w.heap.size l ∧ Below w.heap.size w w' ∧ l.length ≤ cap ∧ cap ≤ maxLen := by
  refine ⟨_, _, run_bytes_of_string w 9 23 5 ⟨l.toArray⟩ rfl rfl rfl, byt_made w l _, Below.alloc (a := w) (w := w.drew) ⟨rfl, rfl, rfl, Nat.le_refl _, fun _ _ => rfl⟩ (Nat.le_refl _) _, ?_, ?_⟩
  · exact grownCap_ge _ _ _ _
  · exact grownCap_le_maxLen _ _ _ _ hl
/-- 'string(b)' of such a row. -/
theorem string_of_byt {w : World} {g : Nat} {l : List UInt8} (h : Byt w g l) (cap : Nat) :
    (convert 23 9 (.slice (some ⟨g, 0, none⟩) l.length cap)).run Try.prog w = .ok (.string ⟨l.toArray⟩) w :=
  run_convert_bytes_back w 23 9 5 ⟨g, 0, none⟩ cap l rfl rfl rfl fun j hj => by
    have e : (⟨g, 0, none⟩ : Addr).add j = ⟨g, j, none⟩ := by unfold Addr.add; split <;> simp_all
    rw [e]
    exact h.cell j hj
end MB
end Go.Proofs.Ytkhdidhpcdlmcaa
