/- What the statements of layer 3 share: a sector full of a letter, a sector that is read, works. -/
import Derived.Test.YtfikbnipkklliaaDiskCopy
import Derived.Test.YtfikbnipkklliaaDiskNew
import Derived.Deep.RegionWith
namespace Go.Proofs.Ytfikbnipkklliaa
open Go.RowKit Go.Lib MM MF DM DK DN FL DW DF DU MS
namespace DL
/-- The bytes of a sector full of a letter. -/
def sectB (c : UInt8) : List UInt8 := (List.range 128).map fun i => c + UInt8.ofNat (i / 50)
theorem sectB_length (c : UInt8) : (sectB c).length = 128 := by simp [sectB]
def sectS (c : UInt8) (short : Bool) : List UInt8 := if short then (sectB c).drop 1 else sectB c
/-- The first k bytes are there. -/
def part (c : UInt8) (k : Nat) : List UInt8 := (sectB c).take k ++ List.replicate (128 - k) 0
theorem part_length (c : UInt8) (k : Nat) (h : k ≤ 128) : (part c k).length = 128 := by
  unfold part
  rw [List.length_append, List.length_take, List.length_replicate, sectB_length]; omega
theorem part_step (c : UInt8) (k : Nat) (h : k < 128) : (part c k).set k (c + UInt8.ofNat (k / 50)) = part c (k + 1) := by
  have hl : ((sectB c).take k).length = k := by rw [List.length_take, sectB_length]; omega
  have hk : (sectB c)[k]'(by rw [sectB_length]; exact h) = c + UInt8.ofNat (k / 50) := by simp [sectB]
  unfold part
  rw [List.set_append_right _ _ (by omega), hl, Nat.sub_self, show 128 - k = (128 - (k + 1)) + 1 by omega, List.replicate_succ, List.set_cons_zero, List.take_succ_eq_append_getElem (by rw [sectB_length]; exact h), hk, List.append_assoc]
  rfl
theorem part_end (c : UInt8) : part c 128 = sectB c := by
  unfold part
  rw [List.take_of_length_le (by rw [sectB_length]; exact Nat.le_refl _)]
  simp
theorem letter (c : UInt8) (k : Nat) : ((c.toNat : Int) + (k : Int) / 50) % 256 = ((c + UInt8.ofNat (k / 50)).toNat : Int) := by
  rw [UInt8.toNat_add, UInt8.toNat_ofNat']
  omega
theorem made_bytes (m : Nat) : madeCells #[Value.int .u8 0] m = (List.replicate m (Value.int .u8 0)).toArray := by
  apply Array.ext
  · simp [madeCells]
  · intro i h1 h2
    simp [madeCells, Nat.mod_one]
theorem make_bytes (W : World) : (Instr.makeSlice 30 (.int .i64 128) (.int .i64 128)).run Try.prog W = .ok (.slice (some ⟨W.heap.size, 0, none⟩) 128 128) (W.alloc (.cells (byteCells zeros).toArray 5)) := by
  obtain ⟨i0, hi, hz, hs, hb⟩ := info_parts byteInfo
  have := run_make_rowN (P := Try.prog) 30 5 i0 _ Try.underlying30 hi hz .i64 .i64 128 128 (Nat.le_refl _) (by rw [hb]; omega) (by omega) W
  rw [hs] at this
  simp only [Value.cells] at this
  rw [made_bytes] at this
  have e : byteCells zeros = List.replicate (128 * 1) (Value.int .u8 0) := by unfold zeros byteCells; rw [List.map_replicate]; rfl
  rw [e]
  exact this
def Rel (w : World) (g : Nat) (c : UInt8) (i : Value) (wr : World) : Prop := ∃ k : Nat, k ≤ 128 ∧ i = .int .i64 k ∧ Has wr g 5 (byteCells (part c k)) ∧ Below w.heap.size w wr
set_option maxRecDepth 100000 in
set_option maxHeartbeats 1000000 in
theorem sector_walk (c : UInt8) (short : Bool) (w : World) : Calls Try.prog 12 #[.int .u8 c.toNat, .bool short] w fun e w' => e = .returned (.string ⟨(sectS c short).toArray⟩) ∧ Below w.heap.size w w' := by
  have hmk := make_bytes
  have hz : byteCells zeros = byteCells (part c 0) := rfl
  obtain ⟨ZC, hZ⟩ : ∃ ZC, ZC = byteCells zeros := ⟨_, rfl⟩
  rw [← hZ] at hmk hz
  have HZ := Lib.hid hz
  clear hZ hz
  have hc := c.toNat_lt
  have hc0 : (0 : Int) ≤ c.toNat := by omega
  have hc1 : (c.toNat : Int) < 256 := by omega
  go_enter Try.func12, Try.ntmps12
  go_wp2
  go_loopw [6] (fun i wr => Rel w w.heap.size c i wr) (fun i _ => 128 - (RowKit.intOf i).toNat)
  case atStart => exact ⟨0, by omega, rfl, by rw [← HZ.out]; exact heap_alloc_new _ _, (Below.refl _ _).alloc (Nat.le_refl _) _⟩
  case round =>
    obtain ⟨k, hk, rfl, hrow, hb⟩ := hrel
    by_cases hlt : k < 128
    · have hcl : (byteCells (part c k)).length = 128 := by rw [byteCells_length, part_length c k hk]
      obtain ⟨u, hu⟩ : ∃ u, wr.cell? ⟨w.heap.size, k, none⟩ = some u := ⟨_, (hrow.cell k).trans (List.getElem?_eq_getElem (by omega))⟩
      have hfz := hrow.free k
      have hput := hrow.put k (.int .u8 ((c + UInt8.ofNat (k / 50)).toNat : Int))
      have e1 : (byteCells (part c k)).set k (.int .u8 ((c + UInt8.ofNat (k / 50)).toNat : Int)) = byteCells (part c (k + 1)) := by
        rw [← part_step c k hlt]; unfold byteCells; rw [List.map_set]
      rw [e1] at hput
      have hle := letter c k
      have HP := Lib.hid hput
      have HLE := Lib.hid hle
      clear hput hle e1 hcl
      go_wp2
      go_roundw
      case rel => exact ⟨k + 1, by omega, by go_num, by rw [HLE.out]; exact HP.out, hb.setCell (Nat.le_refl _) _⟩
      case measure => simp [RowKit.intOf]; omega
    · have hk128 : k = 128 := by omega
      subst hk128
      rw [part_end] at hrow
      have hr := Row.of_has hrow
      have hl := sectB_length c
      cases short with
      | false =>
        have hs := string_of_range (l := sectB c) (hr.range 0 (byteCells (sectB c)) (fun j hj => by rw [Nat.zero_add])) 128
        rw [hl] at hs
        go_wp2
        go_ret
        exact ⟨rfl, hb⟩
      | true =>
        have hl1 : ((sectB c).drop 1).length = 127 := by rw [List.length_drop, hl]
        have hs := string_of_range (l := (sectB c).drop 1) (hr.range 1 (byteCells ((sectB c).drop 1)) (fun j hj => by unfold byteCells; rw [List.map_drop, List.getElem?_drop])) 127
        rw [hl1] at hs
        generalize hd : (sectB c).drop 1 = l1 at *
        have HD := Lib.hid hd
        clear hd
        go_wp2
        go_ret
        exact ⟨by rw [← HD.out]; rfl, hb⟩

/-- A sector that reads so. -/
theorem reads_yes (w : World) (B g : Nat) (S : St) (fs : List Nat) (h : Dk w B g S fs) (i : Int) (l : List UInt8) (hr : refuse S i = 0) (hl : readT S i = l) :
    Calls Try.prog 14 #[.pointer (some ⟨g, 0, none⟩), .int .i64 i, .string ⟨l.toArray⟩] w fun e w' => e = .returned (.bool true) ∧ w = w' := by
  have HC := Lib.hid (read_walk h i)
  have HR := Lib.hid hr
  have HL := Lib.hid hl
  clear hr hl
  go_enter Try.func14, Try.ntmps14
  go_wp2_with fail
  refine HC.out.mono ?_
  rintro e w' ⟨rfl, rfl⟩
  rw [HR.out, HL.out]
  go_wp2
  go_ret
  exact ⟨rfl, rfl⟩

/-! ### One disk that the call itself made -/
/-- At block g lies a disk that is S, made since w0; what lay there then is as it was. -/
def On (w0 w : World) (g : Nat) (S : St) : Prop := ∃ fs, Dk w w0.heap.size g S fs ∧ Below w0.heap.size w0 w
section
variable {w0 w w' : World} {g : Nat} {S S' : St} {fs : List Nat}
theorem On.next (d : Dk w w0.heap.size g S fs) (b : Below w0.heap.size w0 w) (h : After w w' w0.heap.size g S' fs) : On w0 w' g S' := by
  obtain ⟨fs', d', f, _⟩ := h
  exact ⟨fs', d', b.trans (f.below (fun x hx => (d.mem x hx).1) d.base)⟩
theorem On.below (h : On w0 w g S) (b : Below w.heap.size w w') : On w0 w' g S := by
  obtain ⟨fs, d, k⟩ := h
  exact ⟨fs, d.below b, k.trans (b.mono d.base)⟩
theorem On.under (h : On w0 w g S) : Below w0.heap.size w0 w := by obtain ⟨_, _, k⟩ := h; exact k
theorem On.alloc (h : On w0 w g S) (o : Obj) : On w0 (w.alloc o) g S := h.below ((Below.refl _ _).alloc (Nat.le_refl _) o)
theorem On.drew (h : On w0 w g S) : On w0 w.drew g S := h.below ⟨rfl, rfl, rfl, Nat.le_refl _, fun _ _ => rfl⟩
theorem On.ok (h : On w0 w g S) : S.Ok := by obtain ⟨_, d, _⟩ := h; exact d.ok
theorem new_on (n : Nat) (i : Int) (hi : (n : Int) = i) (h1 : 1 ≤ n) (h2 : n ≤ 4096) (w0 w : World) (hb : Below w0.heap.size w0 w) : Calls Try.prog 5 #[.int .i64 i] w fun e w' => ∃ g, e = .returned (.pointer (some ⟨g, 0, none⟩)) ∧ On w0 w' g (fresh n) := by
  subst hi
  refine (new_walk n h1 h2 w).mono ?_
  rintro e w' ⟨g, fs, rfl, d, b⟩
  obtain ⟨gn, cn, gf, cf, vu, q1, q2, q3, q4, q5, q6, q7, q8, hg, hnn, hf, hu, b1, b2, b3, hfs⟩ := d
  have hs := hb.size
  refine ⟨g, rfl, fs, ⟨gn, cn, gf, cf, vu, q1, q2, q3, q4, q5, q6, q7, q8, hg, hnn, hf, ?_, by omega, by omega, by omega, hfs⟩, hb.trans (b.mono hs)⟩
  refine ⟨hu.1, ?_⟩
  rcases hu.2 with hl | ⟨g', cap, cur, hv, hB, rest⟩
  · exact .inl hl
  · exact .inr ⟨g', cap, cur, hv, by omega, rest⟩
theorem sector_on (c : UInt8) (i : Int) (hc : (c.toNat : Int) = i) (short : Bool) (w : World) : Calls Try.prog 12 #[.int .u8 i, .bool short] w fun e w' => e = .returned (.string ⟨(sectS c short).toArray⟩) ∧ Below w.heap.size w w' := by
  subst hc; exact sector_walk c short w
theorem write_on (h : On w0 w g S) (i : Int) (l : List UInt8) (hlen : S.un.length < 1000000000) : Calls Try.prog 13 #[.pointer (some ⟨g, 0, none⟩), .int .i64 i, .string ⟨l.toArray⟩] w fun e w' => e = .returned (.int .i64 (writeE S i l)) ∧ On w0 w' g (writeS S i l) := by
  obtain ⟨fs, d, b⟩ := h
  exact (write_walk w _ g S fs d i l hlen).mono fun e w' ⟨he, ha⟩ => ⟨he, On.next d b ha⟩
theorem flush_on (h : On w0 w g S) : Calls Try.prog 15 #[.pointer (some ⟨g, 0, none⟩)] w fun e w' => e = .returned (.int .i64 (flushE S)) ∧ On w0 w' g (flushS S) := by
  obtain ⟨fs, d, b⟩ := h
  exact (flush_walk w _ g S fs d).mono fun e w' ⟨he, ha⟩ => ⟨he, On.next d b ha⟩
theorem off_on (h : On w0 w g S) : Calls Try.prog 16 #[.pointer (some ⟨g, 0, none⟩)] w fun e w' => e = .returned (.tuple #[]) ∧ On w0 w' g { S with on := false, fuse := 0 } := by
  obtain ⟨fs, d, b⟩ := h
  exact (off_walk d).mono fun e w' ⟨he, ha⟩ => ⟨he, On.next d b ha⟩
theorem arm_on (h : On w0 w g S) (n : Int) (hn : n ≤ 9223372036854775807) : Calls Try.prog 23 #[.pointer (some ⟨g, 0, none⟩), .int .i64 n] w fun e w' => e = .returned (.tuple #[]) ∧ On w0 w' g { S with fuse := n.toNat } := by
  obtain ⟨fs, d, b⟩ := h
  exact (arm_walk d n hn).mono fun e w' ⟨he, ha⟩ => ⟨he, On.next d b ha⟩
theorem read_on (h : On w0 w g S) (i : Int) : Calls Try.prog 18 #[.pointer (some ⟨g, 0, none⟩), .int .i64 i] w fun e w' => e = .returned (.tuple #[.string ⟨(readT S i).toArray⟩, .int .i64 (refuse S i)]) ∧ w = w' := by
  obtain ⟨fs, d, b⟩ := h
  exact read_walk d i
theorem on_on (h : On w0 w g S) : Calls Try.prog 28 #[.pointer (some ⟨g, 0, none⟩)] w fun e w' => e = .returned (.bool S.on) ∧ w = w' := by
  obtain ⟨fs, d, b⟩ := h
  exact on_walk d
theorem len_on (h : On w0 w g S) : Calls Try.prog 29 #[.pointer (some ⟨g, 0, none⟩)] w fun e w' => e = .returned (.int .i64 S.fl.length) ∧ w = w' := by
  obtain ⟨fs, d, b⟩ := h
  exact len_walk d
theorem reads_on (h : On w0 w g S) (i : Int) (l : List UInt8) (hr : refuse S i = 0) (hl : readT S i = l) : Calls Try.prog 14 #[.pointer (some ⟨g, 0, none⟩), .int .i64 i, .string ⟨l.toArray⟩] w fun e w' => e = .returned (.bool true) ∧ w = w' := by
  obtain ⟨fs, d, b⟩ := h
  exact reads_yes w _ g S fs d i l hr hl
/-- Fates that lie apart from the disk's blocks stay. -/
theorem src_stays {v : Value} {l : List UInt8} (h : Src w v l) (k : Fr w w' fs) (hn : 0 < l.length → ∀ x ∈ fs, v.ownBlock ≠ some x) : Src w' v l := by
  rcases h with h | ⟨h0, b, off, cap, rfl, h1, h2, h3, h4⟩
  · exact .inl h
  · exact .inr ⟨h0, b, off, cap, rfl, h1, h2, Nat.lt_of_lt_of_le h3 k.size, fun i hi => (k.cell (p := ⟨b, off + i, none⟩) h3 (fun hm => hn h0 b hm rfl)).trans (h4 i hi)⟩
theorem wake_any (h : On w0 w g S) (v : Value) (cs : List UInt8) (hcs : cs.length ≤ 9223372036854775807) (hs : Src w v cs) (hn : ∀ fs, Dk w w0.heap.size g S fs → 0 < cs.length → ∀ x ∈ fs, v.ownBlock ≠ some x) : Calls Try.prog 17 #[.pointer (some ⟨g, 0, none⟩), v] w fun e w' => e = .returned (.tuple #[]) ∧ On w0 w' g (wakeS S cs) := by
  obtain ⟨fs, d, b⟩ := h
  exact (wake_walk w _ g S fs d v cs hcs (fun w' k => src_stays hs k (hn fs d))).mono fun e w' ⟨he, ha⟩ => ⟨he, On.next d b ha⟩
theorem wake_nil (h : On w0 w g S) : Calls Try.prog 17 #[.pointer (some ⟨g, 0, none⟩), .slice none 0 0] w fun e w' => e = .returned (.tuple #[]) ∧ On w0 w' g (wakeS S []) :=
  wake_any h _ [] (by simp) (.inl ⟨rfl, none, 0, rfl⟩) (fun _ _ h0 => by simp at h0)
/-- Fates that lay there ahead of all. -/
theorem src_under {v : Value} {l : List UInt8} (h : Src w0 v l) (b : Below w0.heap.size w0 w) : Src w v l := src_stays h (Fr.of_below b []) (by simp)
theorem wake_old (h : On w0 w g S) (v : Value) (cs : List UInt8) (hcs : cs.length ≤ 9223372036854775807) (hs : Src w0 v cs) : Calls Try.prog 17 #[.pointer (some ⟨g, 0, none⟩), v] w fun e w' => e = .returned (.tuple #[]) ∧ On w0 w' g (wakeS S cs) := by
  refine wake_any h v cs hcs (src_under hs h.under) ?_
  intro fs d h0 x hx e
  rcases hs with ⟨rfl, _⟩ | ⟨_, b, off, cap, rfl, _, _, h3, _⟩
  · simp at h0
  · have := (d.mem x hx).1
    simp [Value.ownBlock] at e
    omega
/-- Fates that the caller has just laid. -/
theorem wake_new (h : On w0 w g S) (cs : List UInt8) (h0 : 0 < cs.length) (hcs : cs.length ≤ maxLen) (cells : Array Value) (hc : cells = (byteCells cs).toArray) (n c : Nat) (hn : n = cs.length) (hcap : c = cs.length) : Calls Try.prog 17 #[.pointer (some ⟨g, 0, none⟩), .slice (some ⟨w.heap.size, 0, none⟩) n c] (w.alloc (.cells cells 5)) fun e w' => e = .returned (.tuple #[]) ∧ On w0 w' g (wakeS S cs) := by
  subst hc hn hcap
  have hw : Has (w.alloc (.cells (byteCells cs).toArray 5)) w.heap.size 5 (byteCells cs) := heap_alloc_new w _
  obtain ⟨fs0, d0, b0⟩ := h
  refine (wake_walk _ _ g S fs0 (d0.alloc _) _ cs (by unfold maxLen at hcs; omega) (fun w' k => src_stays ?_ k ?_)).mono fun e w' ⟨he, ha⟩ => ⟨he, On.next (d0.alloc _) ((b0.alloc d0.base _)) ha⟩
  · exact .inr ⟨h0, _, _, _, rfl, Nat.le_refl _, hcs, hw.lt, fun i hi => by rw [Nat.zero_add, hw.cell i]; simp [byteCells, hi]⟩
  · intro _ x hx e
    have := (d0.mem x hx).2
    simp [Value.ownBlock] at e
    omega
end
end DL
end Go.Proofs.Ytfikbnipkklliaa
