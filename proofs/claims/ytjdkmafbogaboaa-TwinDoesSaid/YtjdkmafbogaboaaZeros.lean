/- Zeros that are made, and turned into a text. -/
import Derived.Test.YtjdkmafbogaboaaMem
import Derived.Test.YtjdkmafbogaboaaDiskNew
import Derived.Lib.UnsafeStr
namespace Go.Proofs.Ytjdkmafbogaboaa
open Go.RowKit Go.Lib MM DN
namespace ZE
def zs (n : Nat) : List UInt8 := List.replicate n 0
theorem zs_length (n : Nat) : (zs n).length = n := by simp [zs]
theorem made_zeros (m : Nat) : madeCells #[Value.int .u8 0] m = (List.replicate m (Value.int .u8 0)).toArray := by
  apply Array.ext
  · simp [madeCells]
  · intro i h1 h2
    simp [madeCells, Nat.mod_one]
theorem make_zeros (n : Nat) (hn : n ≤ 1000000) (W : World) : (Instr.makeSlice 36 (.int .i64 n) (.int .i64 n)).run Try.prog W = .ok (.slice (some ⟨W.heap.size, 0, none⟩) n n) (W.alloc (.cells (byteCells (zs n)).toArray 5)) := by
  obtain ⟨i0, hi, hz, hs, hb⟩ := info_parts byteInfo
  have := run_make_rowN (P := Try.prog) 36 5 i0 _ Try.underlying36 hi hz .i64 .i64 n n (Nat.le_refl _) (by rw [hb]; omega) (by omega) W
  rw [hs] at this
  simp only [Value.cells] at this
  rw [made_zeros] at this
  have e : byteCells (zs n) = List.replicate (n * 1) (Value.int .u8 0) := by unfold zs byteCells; rw [List.map_replicate, Nat.mul_one]; rfl
  rw [e]
  exact this
theorem zeros_text (n : Nat) (W : World) : (convert 36 9 (.slice (some ⟨W.heap.size, 0, none⟩) n n)).run Try.prog (W.alloc (.cells (byteCells (zs n)).toArray 5)) = .ok (.string ⟨(zs n).toArray⟩) (W.alloc (.cells (byteCells (zs n)).toArray 5)) := by
  have := string_of_row (l := zs n) (show Has (W.alloc (.cells (byteCells (zs n)).toArray 5)) _ _ _ from heap_alloc_new W _)
  rw [zs_length] at this
  exact this
end ZE
end Go.Proofs.Ytjdkmafbogaboaa
