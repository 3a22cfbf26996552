/- The walks over wire.numBytes, PutNum, PutText: a number's bytes, a text's bytes, behind what stands ahead. -/
import Derived.Test.YtkhdidhpcdlmcaaWireWords
import Derived.Laws.OwnMore
import Derived.Laws.BytesString
import Derived.Laws.Concat
namespace Go.Proofs.Ytkhdidhpcdlmcaa
open Go.RowKit Go.Lib WM WW
namespace WP

/-- The array of the digits, as the loop has filled it. -/
def arr (pre : List UInt8) : List Value := byteCells pre ++ List.replicate (10 - pre.length) (.int .u8 0)
theorem arr_nil : (arr []).toArray = #[.int .u8 0, .int .u8 0, .int .u8 0, .int .u8 0, .int .u8 0, .int .u8 0, .int .u8 0, .int .u8 0, .int .u8 0, .int .u8 0] := by
  simp [arr, byteCells, List.replicate]
theorem arr_get {pre : List UInt8} (h : pre.length < 10) : (arr pre)[pre.length]? = some (.int .u8 0) := by
  unfold arr
  rw [List.getElem?_append_right (by simp [byteCells])]
  rw [show pre.length - (byteCells pre).length = 0 by simp [byteCells], List.getElem?_replicate, if_pos (by omega)]
theorem arr_set {pre : List UInt8} (h : pre.length < 10) (c : UInt8) : (arr pre).set pre.length (.int .u8 c.toNat) = arr (pre ++ [c]) := by
  unfold arr
  rw [List.set_append_right _ _ (by simp [byteCells])]
  obtain ⟨m, hm⟩ : ∃ m, 10 - pre.length = m + 1 := ⟨9 - pre.length, by omega⟩
  have h2 : 10 - (pre.length + 1) = m := by omega
  simp [byteCells, hm, h2, List.replicate_succ]
theorem arr_take (pre : List UInt8) : (arr pre).take pre.length = byteCells pre := by
  unfold arr
  rw [List.take_append_of_le_length (by simp [byteCells])]
  rw [List.take_of_length_le (by simp [byteCells])]
theorem arr_length (pre : List UInt8) (h : pre.length ≤ 10) : (arr pre).length = 10 := by simp [arr, byteCells]; omega

/-- What numBytes leaves: a new row with just the number's bytes. -/
def NumBytesEnd (n : Nat) (w : World) (e : Ending) (w' : World) : Prop :=
  ∃ g, e = .returned (.slice (some ⟨g, 0, none⟩) (numB n).length (numB n).length) ∧ w.heap.size ≤ g ∧ Has w' g 5 (byteCells (numB n)) ∧ Below w.heap.size w w'

theorem last_digit {k q : Nat} (hq : q < 128) : numF (9 - k) q = [UInt8.ofNat q] := by
  rcases h : 9 - k with _ | f
  · rfl
  · simp [numF, hq]

set_option maxRecDepth 100000 in
set_option maxHeartbeats 400000 in
theorem numBytes_walk (n : Nat) (hn : U64 n) (w : World) :
    Calls Try.prog 131 #[.int .u64 n] w (NumBytesEnd n w) := by
  obtain ⟨i0, hi, hz0, hz1, hz2⟩ := info_parts byteInfo
  go_enter Try.func131, Try.ntmps131
  go_wp2
  go_loopw [0, 4] (fun x i wr => ∃ (pre : List UInt8) (q : Nat), pre.length ≤ 9 ∧ U64 q ∧ i = .int .i64 pre.length ∧ x = .int .u64 q ∧ Hid (numB n = pre ++ numF (9 - pre.length) q) ∧ Hid (q * 128 ^ pre.length ≤ n) ∧ wr = w.alloc (.cells (arr pre).toArray 154)) (fun _ i _ => 10 - (intOf i).toNat)
  case atStart => exact ⟨[], n, by simp, hn, rfl, rfl, (by simp [numB] : numB n = [] ++ numF 9 n), (by simp : n * 128 ^ 0 ≤ n), by rw [arr_nil]⟩
  case round =>
    obtain ⟨pre, q, hk, hq, rfl, rfl, HB, HQ, rfl⟩ := hrel
    have hg := arr_get (pre := pre) (by omega)
    by_cases h128 : 128 ≤ q
    · have hset := arr_set (pre := pre) (by omega) (UInt8.ofNat (q % 128 + 128))
      rw [toNat_ofNat_lt (by omega)] at hset
      have Hset := Lib.hid hset
      clear hset
      have hw : IntKind.u64.wrap ((q : Int) / 128) = ((q / 128 : Nat) : Int) := by
        have := IntWalk.u64_in ((q : Int) / 128) ⟨by omega, by unfold U64 at hq; omega⟩
        omega
      have h9 : pre.length + 1 ≤ 9 := by
        have := HQ.out
        unfold U64 at hn
        by_cases h : pre.length = 9
        · rw [h] at this
          have e9 : (128 : Nat) ^ 9 = 9223372036854775808 := by decide
          rw [e9] at this
          omega
        · omega
      have hf : numF (9 - pre.length) q = UInt8.ofNat (q % 128 + 128) :: numF (9 - (pre.length + 1)) (q / 128) := by
        obtain ⟨f, hf⟩ : ∃ f, 9 - pre.length = f + 1 := ⟨8 - pre.length, by omega⟩
        rw [hf]
        simp only [numF]
        rw [if_neg (by omega), show 9 - (pre.length + 1) = f by omega]
      have Hf := Lib.hid hf
      clear hf
      go_wp2
      go_roundw
      case rel =>
        refine ⟨pre ++ [UInt8.ofNat (q % 128 + 128)], q / 128, by simpa using h9, ?_, by simp, rfl, ?_, ?_, ?_⟩
        · unfold U64 at hq ⊢; omega
        · show numB n = _
          rw [HB.out, Hf.out]; simp
        · show _ ≤ n
          refine Nat.le_trans ?_ HQ.out
          simp only [List.length_append, List.length_cons, List.length_nil, Nat.zero_add]
          rw [pow128_succ, Nat.mul_comm (128 ^ pre.length) 128, ← Nat.mul_assoc]
          exact Nat.mul_le_mul_right _ (by omega)
        · have := Hset.out
          rw [show (((q % 128 + 128 : Nat) : Int)) = (q : Int) % 128 + 128 by omega] at this
          rw [this]
      case measure => simp [intOf]; omega
    · have hset := arr_set (pre := pre) (by omega) (UInt8.ofNat q)
      rw [toNat_ofNat_lt (by omega)] at hset
      have hmk := fun W : World => run_make (P := Try.prog) W 23 5 i0 (.int .u8 0) rfl hi hz0 .i64 .i64 ((pre.length : Int) + 1) ((pre.length : Int) + 1) (by omega) (by omega) (by rw [hz2]; omega) (by omega)
      have hn1 : ((pre.length : Int) + 1).toNat = pre.length + 1 := by omega
      rw [hn1] at hmk
      clear hn1
      have hend : numB n = pre ++ [UInt8.ofNat q] := by rw [HB.out, last_digit (by omega)]
      have Hend := Lib.hid hend
      clear hend HB HQ
      have hmc : madeCells #[Value.int IntKind.u8 0] (pre.length + 1) = (List.replicate (pre.length + 1) (Value.int IntKind.u8 0)).toArray := by
        rw [← toList_madeCells_one]
      go_wp2_with (with_reducible refine wpList_copy_splice rfl (.tmp 25) (.tmp 26) 23 23 rfl 5 rfl (by kernel_rfl) _ _ _ _ _ _ rfl rfl (w.heap.size + 1) 0 (List.replicate (pre.length + 1) (Value.int IntKind.u8 0)) 5 ?c1 (byteCells (numB n)) ?c2 ?c3 ?c4 ?c5 w.heap.size w ?c6 ?c7 ?_)
      case c1 =>
        exact (heap_alloc2_new _ _ _).trans (by simp)
      case c2 => rw [Hend.out]; simp [byteCells, Nat.min_def]; omega
      case c3 =>
        intro _ j v hj
        rw [Hend.out] at hj
        unfold arr
        rw [List.getElem?_append_left (by exact (List.getElem?_eq_some_iff.1 hj).1)]
        exact hj
      case c4 => rw [Hend.out]; simp [byteCells]
      case c5 =>
        intro v hv
        simp only [byteCells, List.mem_map] at hv
        obtain ⟨b, _, rfl⟩ := hv
        rfl
      case c6 => exact ((Below.refl _ _).alloc (Nat.le_refl _) _).alloc (by simp) _
      case c7 => omega
      intro w4 hw4 hb4
      have hlen : (numB n).length = pre.length + 1 := by rw [Hend.out]; simp
      have Hlen := Lib.hid hlen
      clear hlen hset hmk hmc
      go_wp2
      go_ret
      refine ⟨w.heap.size + 1, by rw [Hlen.out]; rfl, by omega, ?_, hb4⟩
      unfold Has
      rw [hw4.out]
      congr 3
      simp only [splice, List.take_zero, List.nil_append, Nat.zero_add]
      rw [List.drop_eq_nil_of_le (by simp [byteCells, Hlen.out]), List.append_nil]

set_option maxRecDepth 100000 in
/-- 'string(b)', b a row of bytes that is known whole. -/
theorem string_of_row {w : World} {g : Nat} {l : List UInt8} (h : Has w g 5 (byteCells l)) :
    (convert 23 9 (.slice (some ⟨g, 0, none⟩) l.length l.length)).run Try.prog w = .ok (.string ⟨l.toArray⟩) w := by
  rw [run_convert_bytes_string w 23 9 5 _ _ _ rfl rfl rfl]
  have hl : (loadCells ⟨g, 0, none⟩ l.length).run Try.prog w = .ok ((l.map fun b => (b.toNat : Int)).map (Value.int .u8)).toArray w := by
    have := run_loadCells_list (P := Try.prog) w ⟨g, 0, none⟩ (byteCells l) (fun j v hj => by
      have e : (⟨g, 0, none⟩ : Addr).add j = ⟨g, j, none⟩ := by unfold Addr.add; split <;> simp_all
      rw [e, h.cell]; exact hj)
    rw [show (byteCells l).length = l.length by simp [byteCells]] at this
    rw [this]
    simp [byteCells]
  rw [run_bytesToString w _ _ _ _ hl]
  congr 2
  have e : ∀ (l : List UInt8) (r : ByteArray), (l.map fun b => (b.toNat : Int)).foldl (fun r n => r.push (UInt8.ofNat n.toNat)) r = ⟨r.data ++ l.toArray⟩ := by
    intro l
    induction l with
    | nil => intro r; simp
    | cons c l ih =>
      intro r
      simp only [List.map_cons, List.foldl_cons, ih]
      congr 1
      simp [ByteArray.push]
  rw [e]
  simp [ByteArray.empty, ByteArray.emptyWithCapacity]
  rfl

set_option maxHeartbeats 400000 in
theorem putNum_walk (s : List UInt8) (n : Nat) (hn : U64 n) (hs : s.length ≤ 4611686018427387904) (w : World) :
    Calls Try.prog 114 #[.string ⟨s.toArray⟩, .int .u64 n] w fun e w' => e = .returned (.string ⟨(s ++ numB n).toArray⟩) ∧ Below w.heap.size w w' := by
  have hle := numB_le n
  go_enter Try.func114, Try.ntmps114
  go_wp2_with fail
  refine (numBytes_walk n hn _).mono ?_
  rintro e w1 ⟨g, rfl, hg, hrow, hb⟩
  have hconv := string_of_row hrow
  have hadd := run_string_add_sum (P := Try.prog) (w := w1) ⟨s.toArray⟩ ⟨(numB n).toArray⟩ (by show s.length + (numB n).length ≤ _; omega)
  rw [ByteArray.mk_append_mk] at hadd
  go_wp2
  go_ret
  exact ⟨rfl, hb⟩

set_option maxHeartbeats 400000 in
theorem putText_walk (s t : List UInt8) (hs : s.length ≤ 4611686018427387000) (ht : t.length ≤ 1073741824) (w : World) :
    Calls Try.prog 70 #[.string ⟨s.toArray⟩, .string ⟨t.toArray⟩] w fun e w' => e = .returned (.string ⟨(s ++ textB t).toArray⟩) ∧ Below w.heap.size w w' := by
  have hle := numB_le t.length
  go_enter Try.func70, Try.ntmps70
  go_wp2_with fail
  refine (putNum_walk s t.length (by unfold U64; omega) (by omega) _).mono ?_
  rintro e w1 ⟨rfl, hb⟩
  have hadd := run_string_add_sum (P := Try.prog) (w := w1) ⟨(s ++ numB t.length).toArray⟩ ⟨t.toArray⟩ (by show (s ++ numB t.length).length + t.length ≤ _; rw [List.length_append]; omega)
  rw [ByteArray.mk_append_mk, List.append_assoc] at hadd
  go_wp2
  go_ret
  exact ⟨rfl, hb⟩
end WP
end Go.Proofs.Ytkhdidhpcdlmcaa
