/- The walks over crc.Seal, crc.Open and the document's ones. -/
import Derived.Test.YtkhdidhpcdlmcaaCrcSum
namespace Go.Proofs.Ytkhdidhpcdlmcaa
set_option maxRecDepth 100000
open Go.RowKit Go.Lib CM MM CS
namespace CE

theorem four_cells (n : Nat) : byteCells (four n) = [.int .u8 ((n : Int) % 256), .int .u8 ((n : Int) / 256 % 256), .int .u8 ((n : Int) / 65536 % 256), .int .u8 ((n : Int) / 16777216 % 256)] := by
  simp [byteCells, four]

theorem put_walk (s t : List UInt8) (hs : s.length ≤ 4611686018427387904) (ht : t.length ≤ 1073741824) (g : Nat) (w : World) (h : Has w g 5 (byteCells t)) :
    Calls Try.prog 118 #[.string ⟨s.toArray⟩, .slice (some ⟨g, 0, none⟩) t.length t.length] w fun e w' => e = .returned (.string ⟨(s ++ t).toArray⟩) ∧ w = w' := by
  have hconv := string_of_row h
  have hadd := run_string_add_sum (P := Try.prog) (w := w) ⟨s.toArray⟩ ⟨t.toArray⟩ (by show s.length + t.length ≤ _; omega)
  rw [ByteArray.mk_append_mk] at hadd
  go_enter Try.func118, Try.ntmps118
  go_wp2
  go_ret
  exact ⟨rfl, rfl⟩

set_option maxHeartbeats 400000 in
theorem seal_walk (s : List UInt8) (hs : s.length ≤ 4611686018427387904) (w : World) :
    Calls Try.prog 71 #[.string ⟨s.toArray⟩] w fun e w' => e = .returned (.string ⟨(sealB s).toArray⟩) ∧ Below w.heap.size w w' := by
  have h4 := four_cells (sumB s)
  have H4 := Lib.hid h4
  clear h4
  go_enter Try.func71, Try.ntmps71
  go_wp2_with fail
  refine (sum_walk s (by omega) _).mono ?_
  rintro e w1 ⟨rfl, hb⟩
  go_wp2_with fail
  have hrow : Has (w1.alloc (.cells #[.int .u8 ((sumB s : Nat) % 256 : Int), .int .u8 ((sumB s : Nat) / 256 % 256 : Int), .int .u8 ((sumB s : Nat) / 65536 % 256 : Int), .int .u8 ((sumB s : Nat) / 16777216 % 256 : Int)] 5)) w1.heap.size 5 (byteCells (four (sumB s))) := by
    rw [H4.out]; exact heap_alloc_new _ _
  refine (put_walk s (four (sumB s)) hs (by rw [four_length]; omega) _ _ hrow).mono ?_
  rintro e w2 ⟨rfl, rfl⟩
  go_wp2
  go_ret
  exact ⟨rfl, hb.alloc hb.size _⟩

theorem four_text (n : Nat) (w : World) : (convert 23 9 (.slice (some ⟨w.heap.size, 0, none⟩) 4 4)).run Try.prog (w.alloc (.cells #[.int .u8 ((n : Int) % 256), .int .u8 ((n : Int) / 256 % 256), .int .u8 ((n : Int) / 65536 % 256), .int .u8 ((n : Int) / 16777216 % 256)] 5)) =
    .ok (.string ⟨(four n).toArray⟩) (w.alloc (.cells #[.int .u8 ((n : Int) % 256), .int .u8 ((n : Int) / 256 % 256), .int .u8 ((n : Int) / 65536 % 256), .int .u8 ((n : Int) / 16777216 % 256)] 5)) := by
  have hrow : Has (w.alloc (.cells #[.int .u8 ((n : Int) % 256), .int .u8 ((n : Int) / 256 % 256), .int .u8 ((n : Int) / 65536 % 256), .int .u8 ((n : Int) / 16777216 % 256)] 5)) w.heap.size 5 (byteCells (four n)) := by
    rw [four_cells]; exact heap_alloc_new _ _
  exact string_of_row hrow

set_option maxHeartbeats 400000 in
theorem refSeal_walk (s : List UInt8) (hs : s.length ≤ 4611686018427387904) (w : World) :
    Calls Try.prog 76 #[.string ⟨s.toArray⟩] w fun e w' => e = .returned (.string ⟨(sealB s).toArray⟩) ∧ Below w.heap.size w w' := by
  have hconv := four_text (sumB s) w
  have hadd := fun W : World => run_string_add_sum (P := Try.prog) (w := W) ⟨s.toArray⟩ ⟨(four (sumB s)).toArray⟩ (by show s.length + 4 ≤ _; omega)
  rw [ByteArray.mk_append_mk] at hadd
  go_enter Try.func76, Try.ntmps76
  go_wp2_with fail
  refine (ref_walk s (by omega) _).mono ?_
  rintro e w1 ⟨rfl, rfl⟩
  go_wp2
  go_ret
  exact ⟨rfl, (Below.refl _ _).alloc (Nat.le_refl _) _⟩

theorem take_str (s : List UInt8) (k : Nat) : (⟨s.toArray⟩ : ByteArray).extract 0 k = ⟨(s.take k).toArray⟩ := by
  rw [ByteArray.extract_mk]; simp
/-- What Open tells. -/
def opened (s : List UInt8) : List UInt8 := if isSealed s then s.take (s.length - 4) else []
theorem opened_short {s : List UInt8} (h : s.length < 4) : opened s = [] ∧ isSealed s = false := by
  have : isSealed s = false := by unfold isSealed; simp; omega
  unfold opened; rw [this]; exact ⟨rfl, rfl⟩
def OpenEnd (s : List UInt8) (w : World) (e : Ending) (w' : World) : Prop := e = .returned (.tuple #[.string ⟨(opened s).toArray⟩, .bool (isSealed s)]) ∧ Below w.heap.size w w'
theorem ret_open {s l : List UInt8} {b : Bool} {e : Ending} (he : e = .returned (.tuple #[.string ⟨l.toArray⟩, .bool b])) (h1 : opened s = l) (h2 : isSealed s = b) : e = .returned (.tuple #[.string ⟨(opened s).toArray⟩, .bool (isSealed s)]) := by
  rw [he, h1, h2]

set_option maxHeartbeats 400000 in
theorem open_walk (s : List UInt8) (hs : s.length ≤ 4611686018427387904) (w : World) :
    Calls Try.prog 124 #[.string ⟨s.toArray⟩] w (OpenEnd s w) := by
  by_cases h4 : s.length < 4
  · obtain ⟨h1, h2⟩ := opened_short h4
    have H1 := Lib.hid h1
    have H2 := Lib.hid h2
    clear h1 h2
    go_enter Try.func124, Try.ntmps124
    go_wp2
    go_ret2
    exact ⟨ret_open rfl H1.out H2.out, Below.refl _ _⟩
  · have htk := take_str s (s.length - 4)
    have hlen : (s.take (s.length - 4)).length = s.length - 4 := by rw [List.length_take]; omega
    cases hq : isSealed s with
    | true =>
      have he : sealB (s.take (s.length - 4)) = s := by
        simp only [isSealed, Bool.and_eq_true, decide_eq_true_eq] at hq; exact hq.2
      have ho : opened s = s.take (s.length - 4) := by unfold opened; rw [hq]; rfl
      have HE := Lib.hid he
      have HO := Lib.hid ho
      have HQ := Lib.hid hq
      clear he ho hq hlen
      go_enter Try.func124, Try.ntmps124
      go_wp2_with fail
      refine (seal_walk (s.take (s.length - 4)) (by rw [List.length_take]; omega) _).mono ?_
      rintro e w1 ⟨rfl, hb⟩
      rw [HE.out]
      go_wp2
      go_ret2
      rw [take_str]
      exact ⟨ret_open rfl HO.out HQ.out, hb⟩
    | false =>
      have he : sealB (s.take (s.length - 4)) ≠ s := by
        simp only [isSealed, Bool.and_eq_false_iff, decide_eq_false_iff_not] at hq
        rcases hq with h | h
        · omega
        · exact h
      have hne : (sealB (s.take (s.length - 4)) == s) = false := beq_eq_false_iff_ne.2 he
      have ho : opened s = [] := by unfold opened; rw [hq]; rfl
      have HO := Lib.hid ho
      have HQ := Lib.hid hq
      clear he ho hq hlen
      go_enter Try.func124, Try.ntmps124
      go_wp2_with fail
      refine (seal_walk (s.take (s.length - 4)) (by rw [List.length_take]; omega) _).mono ?_
      rintro e w1 ⟨rfl, hb⟩
      go_wp2
      go_ret2
      exact ⟨ret_open rfl HO.out HQ.out, hb⟩
end CE
end Go.Proofs.Ytkhdidhpcdlmcaa
