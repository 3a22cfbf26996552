/- A new disk: disk.New. -/
import Derived.Test.YtkhdidhpcdlmcaaDiskMem
import Derived.RegionTactic
import Derived.Laws.MakeOwn
namespace Go.Proofs.Ytkhdidhpcdlmcaa
open Go.RowKit Go.Lib MM MF DM DK
namespace DN
theorem run_make_rowN {P : Program} (t e : TypeId) (i : TypeInfo) (z : Value) (ht : P.underlying t = some (.slice e)) (hi : P.info? e = some i) (hz : i.zero = some z)
    (kl kc : IntKind) (n c : Nat) (hnc : n ≤ c) (hbytes : i.bytes * c ≤ 281474976710656) (h63 : c ≤ 9223372036854775807) (w : World) :
    (Instr.makeSlice t (.int kl (n : Int)) (.int kc (c : Int))).run P w = .ok (.slice (some ⟨w.heap.size, 0, none⟩) n c) (w.alloc (.cells (madeCells z.cells (c * i.size)) e)) := by
  have hb : (i.bytes : Int) * (c : Int) ≤ 281474976710656 := by
    have h : ((i.bytes * c : Nat) : Int) ≤ 281474976710656 := by omega
    rwa [Int.natCast_mul] at h
  have hr := run_make (P := P) w t e i z ht hi hz kl kc n c (by omega) (by omega) hb (by omega)
  simp only [Int.toNat_natCast] at hr
  exact hr
theorem sectorInfo : (Try.prog.info? 71).map (fun i => (i.zero, i.size, i.bytes)) = some (some (.agg (Array.replicate 128 (.int .u8 0))), 128, 128) := by kernel_rfl
def zeros : List UInt8 := List.replicate 128 0
theorem zeros_length : zeros.length = 128 := List.length_replicate
theorem made_zeros (m : Nat) : madeCells (Array.replicate 128 (Value.int .u8 0)) m = (List.replicate m (Value.int .u8 0)).toArray := by
  apply Array.ext
  · simp [madeCells]
  · intro i h1 h2
    have hl : i % 128 < 128 := Nat.mod_lt _ (by omega)
    simp only [madeCells, Array.size_replicate, Array.getElem_map, Array.getElem_range, List.getElem_toArray, List.getElem_replicate]
    rw [getElem!_pos _ _ (by simpa using hl)]
    simp
theorem flat_zeros (n : Nat) : byteCells (List.replicate n zeros).flatten = List.replicate (n * 128) (Value.int .u8 0) := by
  unfold zeros byteCells
  rw [List.flatten_replicate_replicate, List.map_replicate]
  rfl

def fresh (n : Nat) : St := ⟨List.replicate n zeros, [], true, 0⟩
theorem fresh_ok (n : Nat) (h : n ≤ 4096) : (fresh n).Ok := by
  refine ⟨fun r hr => ?_, by simp [fresh], by simpa [fresh] using h, by simp [fresh]⟩
  rw [List.eq_of_mem_replicate hr, zeros_length]
/-- A disk was made. -/
def Made (w : World) (n : Nat) (e : Ending) (w' : World) : Prop := ∃ g fs, e = .returned (.pointer (some ⟨g, 0, none⟩)) ∧ Dk w' w.heap.size g (fresh n) fs ∧ Below w.heap.size w w'
theorem made_of {w' : World} {B n g gn gf : Nat} (h1 : 1 ≤ n) (h2 : n ≤ 4096) (hne : gn ≠ gf) (hg : Has w' g 68 [.slice (some ⟨gn, 0, none⟩) n n, .slice (some ⟨gf, 0, none⟩) n n, .slice none 0 0, .bool true, .int .i64 0])
    {zc : List Value} (hz : zc = List.replicate (n * 128) (.int .u8 0)) (hn : Has w' gn 71 zc) (hf : Has w' gf 71 zc) (b1 : B ≤ g) (b2 : B ≤ gn) (b3 : B ≤ gf) : ∃ fs, Dk w' B g (fresh n) fs := by
  have hl : (fresh n).fl.length = n := List.length_replicate
  refine ⟨_, gn, n, gf, n, .slice none 0 0, fresh_ok n h2, by simp [fresh], by omega, by omega, by omega, by unfold maxLen; omega, by unfold maxLen; omega, hne, ?_, Row.of_has ?_, Row.of_has ?_, World.ownsRow_nil _ _ _ _, b1, b2, b3, rfl⟩
  · rw [hl]; exact hg
  · show Has w' gn _ (byteCells (List.replicate n zeros).flatten)
    rw [flat_zeros, ← hz]; exact hn
  · show Has w' gf _ (byteCells (List.replicate n zeros).flatten)
    rw [flat_zeros, ← hz]; exact hf

theorem three (w : World) (a b c : List Value) (t u v : TypeId) :
    let w3 := (((w.alloc (.cells a.toArray t)).alloc (.cells b.toArray u)).alloc (.cells c.toArray v)).drew
    Has w3 w.heap.size t a ∧ Has w3 (w.heap.size + 1) u b ∧ Has w3 (w.heap.size + 1 + 1) v c ∧ Below w.heap.size w w3 := by
  have ha : Has (w.alloc (.cells a.toArray t)) w.heap.size t a := heap_alloc_new _ _
  have hb : Has ((w.alloc (.cells a.toArray t)).alloc (.cells b.toArray u)) (w.heap.size + 1) u b := by
    have h := heap_alloc_new (w.alloc (.cells a.toArray t)) (.cells b.toArray u)
    have e : (w.alloc (.cells a.toArray t)).heap.size = w.heap.size + 1 := by simp
    rw [e] at h; exact h
  have hc : Has (((w.alloc (.cells a.toArray t)).alloc (.cells b.toArray u)).alloc (.cells c.toArray v)) (w.heap.size + 1 + 1) v c := by
    have h := heap_alloc_new ((w.alloc (.cells a.toArray t)).alloc (.cells b.toArray u)) (.cells c.toArray v)
    have e : ((w.alloc (.cells a.toArray t)).alloc (.cells b.toArray u)).heap.size = w.heap.size + 1 + 1 := by simp
    rw [e] at h; exact h
  refine ⟨((ha.grow _).grow _).draw, (hb.grow _).draw, hc.draw, ?_⟩
  exact ((((Fr.refl w []).alloc _).alloc _).alloc _).drew.below (by simp) (Nat.le_refl _)

set_option maxRecDepth 100000 in
set_option maxHeartbeats 1000000 in
theorem new_walk (n : Nat) (h1 : 1 ≤ n) (h2 : n ≤ 4096) (w : World) : Calls Try.prog 27 #[.int .i64 n] w (Made w n) := by
  obtain ⟨i0, hi, hz, hs, hb⟩ := info_parts sectorInfo
  have hmk := fun W => run_make_rowN (P := Try.prog) 65 71 i0 _ Try.underlying65 hi hz .i64 .i64 n n (Nat.le_refl _) (by rw [hb]; omega) (by omega) W
  rw [hs] at hmk
  simp only [Value.cells] at hmk
  have hzc := made_zeros (n * 128)
  obtain ⟨ZC, hZ⟩ : ∃ ZC, ZC = List.replicate (n * 128) (Value.int .u8 0) := ⟨_, rfl⟩
  rw [hzc, ← hZ] at hmk
  have HZ := Lib.hid hZ
  clear hZ hzc hz hs hb hi
  go_enter Try.func27, Try.ntmps27
  go_wp2
  go_region
  · go_wp2
    obtain ⟨a, b, c, d⟩ := three w ZC ZC _ 71 71 68
    obtain ⟨fs, hd⟩ := made_of (B := w.heap.size) (gn := w.heap.size) (gf := w.heap.size + 1) h1 h2 (by omega) c HZ.out a b (by omega) (by omega) (by omega)
    go_ret
    exact ⟨_, fs, rfl, hd, d⟩
  · go_wp2
    obtain ⟨a, b, c, d⟩ := three w ZC ZC _ 71 71 68
    obtain ⟨fs, hd⟩ := made_of (B := w.heap.size) (gn := w.heap.size + 1) (gf := w.heap.size) h1 h2 (by omega) c HZ.out b a (by omega) (by omega) (by omega)
    go_ret
    exact ⟨_, fs, rfl, hd, d⟩

theorem new_none (n : Int) (h : n < 1 ∨ 4096 < n) (w : World) : Calls Try.prog 27 #[.int .i64 n] w fun e w' => e = .returned (.pointer none) ∧ w = w' := by
  rcases h with h | h
  · go_enter Try.func27, Try.ntmps27
    go_wp2
    go_ret
    exact ⟨rfl, rfl⟩
  · have h' : ¬ n < 1 := by omega
    go_enter Try.func27, Try.ntmps27
    go_wp2
    go_ret
    exact ⟨rfl, rfl⟩
end DN
end Go.Proofs.Ytkhdidhpcdlmcaa
