/- Format and Open on no disk; the statement's bytes. -/
import Derived.Test.YtkhdidhpcdlmcaaTapeNil
import Derived.Test.YtkhdidhpcdlmcaaTapeWorks
namespace Go.Proofs.Ytkhdidhpcdlmcaa
set_option maxRecDepth 100000
open Go.RowKit Go.Lib MM MF DM DK MY TM DP TP RN TF TR TQ BL FL TA TZ TK TN2 TO2 TNo
namespace TNd
theorem first_one (w : World) (g n : Nat) (hn : n ≤ 4) (f : Nat) (bnd caps : Array Value) (fs : List Value) (hb : Has w g 51 (.func (.func f) bnd caps :: fs)) (he : Ent f) (hl : fs.length + 1 = n) (hc : Calls Try.prog f (bnd ++ caps) w fun e w' => e = .returned (.int .i64 1) ∧ w' = w) :
    Calls Try.prog 38 #[.slice (some ⟨g, 0, none⟩) n n] w fun e w' => e = .returned (.int .i64 1) ∧ Below w.heap.size w w' := by
  refine (first_walk w g n n (Nat.le_refl _) (by unfold maxLen; omega) (fun i W => i = 0 ∧ W = w) (fun c W => c = 1 ∧ W = w) (.func (.func f) bnd caps :: fs) hl ?_ ⟨rfl, rfl⟩ ?_).mono ?_
  · rintro i W ⟨_, rfl⟩ k hk
    exact hb.cell k
  · rintro i W v ⟨rfl, rfl⟩ hv
    cases hv
    exact ⟨_, _, _, rfl, he, hc.mono fun e w' ⟨he, hw⟩ => ⟨1, he, .inr ⟨by decide, rfl, hw⟩⟩⟩
  · rintro e w' ⟨c, rfl, hx⟩
    rcases hx with ⟨rfl, h, _⟩ | ⟨_, rfl, rfl⟩
    · omega
    · exact ⟨rfl, Below.refl _ _⟩
section
variable {w : World}
theorem fmt1_nil (bd ba bn : Nat) (a n : Int) (c1 : w.cell? ⟨bd, 0, none⟩ = some (.pointer none)) (c2 : w.cell? ⟨ba, 0, none⟩ = some (.int .i64 a)) (c3 : w.cell? ⟨bn, 0, none⟩ = some (.int .i64 n)) :
    Calls Try.prog 67 #[.pointer (some ⟨bd, 0, none⟩), .pointer (some ⟨ba, 0, none⟩), .pointer (some ⟨bn, 0, none⟩)] w fun e w' => e = .returned (.int .i64 1) ∧ w' = w := by
  have HR := Lib.hid (refusal_nil (w := w) a n)
  go_enter Try.func67, Try.ntmps67
  go_wp2_with (go_at_call 40; refine HR.out.mono ?_; rintro e w1 ⟨rfl, rfl⟩)
  go_ret
  exact ⟨rfl, rfl⟩
theorem opn1_nil (bd ba bn : Nat) (a n : Int) (c1 : w.cell? ⟨bd, 0, none⟩ = some (.pointer none)) (c2 : w.cell? ⟨ba, 0, none⟩ = some (.int .i64 a)) (c3 : w.cell? ⟨bn, 0, none⟩ = some (.int .i64 n)) :
    Calls Try.prog 39 #[.pointer (some ⟨bd, 0, none⟩), .pointer (some ⟨ba, 0, none⟩), .pointer (some ⟨bn, 0, none⟩)] w fun e w' => e = .returned (.int .i64 1) ∧ w' = w := by
  have HR := Lib.hid (refusal_nil (w := w) a n)
  go_enter Try.func39, Try.ntmps39
  go_wp2_with (go_at_call 40; refine HR.out.mono ?_; rintro e w1 ⟨rfl, rfl⟩)
  go_ret
  exact ⟨rfl, rfl⟩
theorem format_nil (a n : Int) : Calls Try.prog 28 #[.pointer none, .int .i64 a, .int .i64 n] w fun e w' => e = .returned (.int .i64 1) ∧ Below w.heap.size w w' := by
  have A5 := bl_new (bl_new (bl_new (bl_new (All.start w) 25 [.pointer none]) 3 [.int .i64 a]) 3 [.int .i64 n]) 51 [.func (.func 67) #[] #[.pointer (some ⟨w.heap.size, 0, none⟩), .pointer (some ⟨w.heap.size + 1, 0, none⟩), .pointer (some ⟨w.heap.size + 1 + 1, 0, none⟩)], .func (.func 68) #[] #[.pointer (some ⟨w.heap.size, 0, none⟩), .pointer (some ⟨w.heap.size + 1, 0, none⟩)]]
  simp only [World.size_alloc] at A5
  have HF := Lib.hid (first_one _ _ 2 (by decide) _ _ _ _ (all_has A5 (List.mem_cons_self ..)) ent_f1 rfl (fmt1_nil w.heap.size (w.heap.size + 1) (w.heap.size + 1 + 1) a n ((all_has A5 (g := w.heap.size) (t := 25) (cs := [.pointer none]) (by simp)).cell 0) ((all_has A5 (g := w.heap.size + 1) (t := 3) (cs := [.int .i64 a]) (by simp)).cell 0) ((all_has A5 (g := w.heap.size + 1 + 1) (t := 3) (cs := [.int .i64 n]) (by simp)).cell 0)))
  have HU := Lib.hid A5.under
  clear A5
  go_enter Try.func28, Try.ntmps28
  go_wp2_with (go_at_call 38; refine HF.out.mono ?_; rintro e w1 ⟨rfl, hb⟩)
  go_ret
  exact ⟨rfl, HU.out.trans (hb.mono HU.out.size)⟩
theorem open_nil (a n : Int) : Calls Try.prog 11 #[.pointer none, .int .i64 a, .int .i64 n] w fun e w' => e = .returned (.tuple #[.pointer none, .int .i64 1]) ∧ Below w.heap.size w w' := by
  have A5 := bl_new (bl_new (bl_new (bl_new (bl_new (bl_new (All.start w) 25 [.pointer none]) 3 [.int .i64 a]) 3 [.int .i64 n]) 80 [.pointer none, .pointer none, .int .i64 a, .slice none 0 0, .int .u64 0, .int .u64 0, .int .u64 0, .string ⟨#[]⟩, .bool false]) 26 [.pointer (some ⟨w.heap.size + 1 + 1 + 1, 0, none⟩)]) 51 (fsO (w.heap.size + 1 + 1 + 1) w.heap.size (w.heap.size + 1) (w.heap.size + 1 + 1) (w.heap.size + 1 + 1 + 1 + 1))
  simp only [World.size_alloc] at A5
  have HF := Lib.hid (first_one _ _ 4 (by decide) _ _ _ _ (all_has A5 (List.mem_cons_self ..)) ent1 rfl (opn1_nil w.heap.size (w.heap.size + 1) (w.heap.size + 1 + 1) a n ((all_has A5 (g := w.heap.size) (t := 25) (cs := [.pointer none]) (by simp)).cell 0) ((all_has A5 (g := w.heap.size + 1) (t := 3) (cs := [.int .i64 a]) (by simp)).cell 0) ((all_has A5 (g := w.heap.size + 1 + 1) (t := 3) (cs := [.int .i64 n]) (by simp)).cell 0)))
  have HU := Lib.hid A5.under
  clear A5
  go_enter Try.func11, Try.ntmps11
  go_wp2_with (go_at_call 38; refine HF.out.mono ?_; rintro e w1 ⟨rfl, hb⟩)
  go_ret2
  exact ⟨rfl, HU.out.trans (hb.mono HU.out.size)⟩
end
/-- The statement's bytes: m letters, each by its place. -/
def bytesL (c : UInt8) (m : Nat) : List UInt8 := (List.range m).map fun i => c + UInt8.ofNat (i % 7)
theorem bytesL_length (c : UInt8) (m : Nat) : (bytesL c m).length = m := by simp [bytesL]
theorem bytesL_next (c : UInt8) (m : Nat) : bytesL c (m + 1) = bytesL c m ++ [c + UInt8.ofNat (m % 7)] := by
  unfold bytesL
  rw [List.range_succ, List.map_append]
  rfl
theorem u8Info : (Try.prog.info? 5).map (fun i => (i.zero, i.size, i.bytes)) = some (some (.int .u8 0), 1, 1) := by kernel_rfl
theorem made_u8 (m : Nat) : madeCells #[Value.int .u8 0] m = (byteCells (List.replicate m 0)).toArray := by
  apply Array.ext
  · simp [madeCells, byteCells]
  · intro i h1 h2
    simp [madeCells, byteCells, Nat.mod_one]
theorem byte_next (c : UInt8) (q : Nat) : IntKind.u8.wrap ((c.toNat : Int) + (q : Int)) = ((c + UInt8.ofNat q).toNat : Int) := by
  rw [UInt8.toNat_add, UInt8.toNat_ofNat']
  unfold IntKind.wrap
  simp [IntKind.bits, IntKind.signed]
section
variable {w : World}
/-- k of m bytes have been laid. -/
def RelB (w : World) (c : UInt8) (m : Nat) (i : Value) (wr : World) : Prop := ∃ k : Nat, k ≤ m ∧ i = .int .i64 k ∧ Has wr w.heap.size 5 (byteCells (bytesL c k ++ List.replicate (m - k) 0)) ∧ Below w.heap.size w wr
set_option maxHeartbeats 4000000 in
theorem bytes_walk (m : Nat) (hm : m ≤ 700) (c : UInt8) : Calls Try.prog 21 #[.int .i64 m, .int .u8 c.toNat] w fun e w' => e = .returned (.string ⟨(bytesL c m).toArray⟩) ∧ Below w.heap.size w w' := by
  obtain ⟨i0, hi, hz, hs, hb⟩ := info_parts u8Info
  have hmk := fun W => DN.run_make_rowN (P := Try.prog) 23 5 i0 _ Try.underlying23 hi hz .i64 .i64 m m (Nat.le_refl _) (by rw [hb]; omega) (by omega) W
  rw [hs] at hmk
  simp only [Value.cells, Nat.mul_one] at hmk
  rw [made_u8] at hmk
  have hmin : min (m : Int) 700 = (m : Int) := by omega
  have hmax : max (0 : Int) (m : Int) = (m : Int) := by omega
  have h0 : Has (w.alloc (.cells (byteCells (List.replicate m 0)).toArray 5)) w.heap.size 5 (byteCells (List.replicate m 0)) := has_fresh _ _ _
  have b0 : Below w.heap.size w (w.alloc (.cells (byteCells (List.replicate m 0)).toArray 5)) := (Below.refl _ _).alloc (Nat.le_refl _) _
  clear hi hz hs hb
  go_enter Try.func21, Try.ntmps21
  go_wp2
  go_loopw [6] (fun i wr => RelB w c m i wr) (fun i _ => m - (RowKit.intOf i).toNat)
  case atStart => exact ⟨0, Nat.zero_le _, rfl, by simpa [bytesL] using h0, b0⟩
  case round =>
    obtain ⟨k, hk, rfl, hB, hb⟩ := hrel
    by_cases hlt : k < m
    · have hl : (byteCells (bytesL c k ++ List.replicate (m - k) 0)).length = m := by rw [byteCells_length, List.length_append, bytesL_length, List.length_replicate]; omega
      have x1 : ∃ u, wr.cell? ⟨w.heap.size, k, none⟩ = some u := ⟨_, (hB.cell k).trans (List.getElem?_eq_getElem (by omega))⟩
      obtain ⟨u, x1⟩ := x1
      have x2 := hB.free k
      have e1 : (k : Int).tmod 7 = ((k % 7 : Nat) : Int) := by rw [Int.tmod_eq_emod_of_nonneg (by omega)]; omega
      have e2 : IntKind.u8.wrap ((k % 7 : Nat) : Int) = ((k % 7 : Nat) : Int) := by unfold IntKind.wrap; simp [IntKind.bits, IntKind.signed]; omega
      have e3 := byte_next c (k % 7)
      have hP := hB.put k (.int .u8 ((c + UInt8.ofNat (k % 7)).toNat : Int))
      have hb2 : Below w.heap.size w (wr.setCell ⟨w.heap.size, k, none⟩ (.int .u8 ((c + UInt8.ofNat (k % 7)).toNat : Int))) := hb.setCell (Nat.le_refl _) _
      have hnx : (byteCells (bytesL c k ++ List.replicate (m - k) 0)).set k (.int .u8 ((c + UInt8.ofNat (k % 7)).toNat : Int)) = byteCells (bytesL c (k + 1) ++ List.replicate (m - (k + 1)) 0) := by
        rw [bytesL_next]
        unfold byteCells
        rw [← List.map_set, List.set_append_right _ _ (by rw [bytesL_length]; omega), bytesL_length, Nat.sub_self, show m - k = (m - (k + 1)) + 1 by omega, List.replicate_succ]
        simp
      rw [hnx] at hP
      have HP := Lib.hid hP
      have HB2 := Lib.hid hb2
      clear hP hb2 hnx hl
      generalize (c + UInt8.ofNat (k % 7)).toNat = d at *
      generalize k % 7 = q at *
      go_wp2
      go_roundw
      case rel => exact ⟨k + 1, by omega, by go_num, HP.out, HB2.out⟩
      case measure => simp [RowKit.intOf]; omega
    · have hkm : k = m := by omega
      rw [hkm, Nat.sub_self, List.replicate_zero, List.append_nil] at hB
      have hcv := string_of_row hB
      rw [bytesL_length] at hcv
      go_wp2
      go_ret
      exact ⟨rfl, hb⟩
end
end TNd
end Go.Proofs.Ytkhdidhpcdlmcaa
