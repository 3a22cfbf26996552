/- The document's own PutNum and PutText (out of XWireItems: for seats that have no Reader of the document). -/
import Derived.Test.YtkhdidhpcdlmcaaWirePut
import Derived.Deep.LoopGhost
import Derived.IntWalk
namespace Go.Proofs.Ytkhdidhpcdlmcaa
set_option maxRecDepth 100000
open Go.RowKit Go.Lib WM WW WP
namespace WI
theorem one_byte (W : World) (m : Int) (c : UInt8) (hm : m = (c.toNat : Int)) :
    (convert 23 9 (.slice (some ⟨W.heap.size, 0, none⟩) 1 1)).run Try.prog (W.alloc (.cells #[.int .u8 m] 5)) = .ok (.string ⟨#[c]⟩) (W.alloc (.cells #[.int .u8 m] 5)) := by
  subst hm
  exact string_of_row (l := [c]) (heap_alloc_new _ _)
theorem cat_byte (l : List UInt8) (c : UInt8) (h : l.length ≤ 4611686018427388000) (W : World) :
    (Op.stringOp .add ⟨l.toArray⟩ ⟨#[c]⟩).run Try.prog W = .ok (.string ⟨(l ++ [c]).toArray⟩) W := by
  have := run_string_add_sum (P := Try.prog) (w := W) ⟨l.toArray⟩ ⟨[c].toArray⟩ (by show l.length + 1 ≤ _; omega)
  rw [ByteArray.mk_append_mk] at this
  exact this

set_option maxRecDepth 100000 in
set_option maxHeartbeats 400000 in
theorem refNum_walk (s : List UInt8) (n : Nat) (hn : U64 n) (hs : s.length ≤ 4611686018427387000) (w : World) :
    Calls Try.prog 73 #[.string ⟨s.toArray⟩, .int .u64 n] w fun e w' => e = .returned (.string ⟨(s ++ numB n).toArray⟩) ∧ Below w.heap.size w w' := by
  go_enter Try.func73, Try.ntmps73
  go_wp2
  go_loopg [0, 1] 10 (fun g x y wr => ∃ (pre : List UInt8) (q : Nat), pre.length + g = 10 ∧ pre.length ≤ 9 ∧ U64 q ∧ x = .string ⟨(s ++ pre).toArray⟩ ∧ y = .int .u64 q ∧ Hid (numB n = pre ++ numF (9 - pre.length) q) ∧ Hid (q * 128 ^ pre.length ≤ n) ∧ Below w.heap.size w wr)
  case atStart => exact ⟨[], n, by simp, by simp, hn, by simp, rfl, (by simp [numB] : numB n = [] ++ numF 9 n), (by simp : n * 128 ^ 0 ≤ n), Below.refl _ _⟩
  case round =>
    obtain ⟨pre, q, hgk, hk, hq, rfl, rfl, HB, HQ, hbel⟩ := hrel
    by_cases h128 : 128 ≤ q
    · have h9 : pre.length + 1 ≤ 9 := by
        have := HQ.out
        unfold U64 at hn
        by_cases h : pre.length = 9
        · rw [h] at this
          have e9 : (128 : Nat) ^ 9 = 9223372036854775808 := by decide
          rw [e9] at this
          omega
        · omega
      have hf : numF (9 - pre.length) q = UInt8.ofNat (q % 128 + 128) :: numF (9 - (pre.length + 1)) (q / 128) := by
        obtain ⟨f, hf⟩ : ∃ f, 9 - pre.length = f + 1 := ⟨8 - pre.length, by omega⟩
        rw [hf]
        simp only [numF]
        rw [if_neg (by omega), show 9 - (pre.length + 1) = f by omega]
      have hcn : (UInt8.ofNat (q % 128 + 128)).toNat = q % 128 + 128 := toNat_ofNat_lt (by omega)
      generalize UInt8.ofNat (q % 128 + 128) = c at *
      have Hf := Lib.hid hf
      have hconv := one_byte wr (128 + (q : Int) % 128) c (by rw [hcn]; omega)
      have hcat := cat_byte (s ++ pre) (c) (by rw [List.length_append]; omega)
      have hw : IntKind.u64.wrap ((q : Int) / 128) = ((q / 128 : Nat) : Int) := by
        have := IntWalk.u64_in ((q : Int) / 128) ⟨by omega, by unfold U64 at hq; omega⟩
        omega
      clear hf hcn
      go_wp2
      cases gk with
      | zero => omega
      | succ gk =>
        go_roundg gk
        case measure => omega
        case rel =>
          refine ⟨pre ++ [c], q / 128, by simp; omega, by simpa using h9, ?_, by simp, rfl, ?_, ?_, hbel.alloc hbel.size _⟩
          · unfold U64 at hq ⊢; omega
          · show numB n = _
            rw [HB.out, Hf.out]; simp
          · show _ ≤ n
            refine Nat.le_trans ?_ HQ.out
            simp only [List.length_append, List.length_cons, List.length_nil, Nat.zero_add]
            rw [pow128_succ, Nat.mul_comm (128 ^ pre.length) 128, ← Nat.mul_assoc]
            exact Nat.mul_le_mul_right _ (by omega)
    · have hend : numB n = pre ++ [UInt8.ofNat q] := by rw [HB.out, last_digit (by omega)]
      have Hend := Lib.hid hend
      have hcn : (UInt8.ofNat q).toNat = q := toNat_ofNat_lt (by omega)
      clear hend HB HQ
      generalize UInt8.ofNat q = c at *
      have hconv := one_byte wr (q : Int) c (by rw [hcn])
      have hcat := cat_byte (s ++ pre) c (by rw [List.length_append]; omega)
      clear hcn
      go_wp2
      go_ret
      rw [Hend.out, ← List.append_assoc]
      exact ⟨rfl, hbel.alloc hbel.size _⟩

theorem refText_walk (s t : List UInt8) (hs : s.length ≤ 4611686018427386000) (ht : t.length ≤ 1073741824) (w : World) :
    Calls Try.prog 74 #[.string ⟨s.toArray⟩, .string ⟨t.toArray⟩] w fun e w' => e = .returned (.string ⟨(s ++ textB t).toArray⟩) ∧ Below w.heap.size w w' := by
  have hle := numB_le t.length
  go_enter Try.func74, Try.ntmps74
  go_wp2_with fail
  refine (refNum_walk s t.length (by unfold U64; omega) (by omega) _).mono ?_
  rintro e w1 ⟨rfl, hb⟩
  have hadd := run_string_add_sum (P := Try.prog) (w := w1) ⟨(s ++ numB t.length).toArray⟩ ⟨t.toArray⟩ (by show (s ++ numB t.length).length + t.length ≤ _; rw [List.length_append]; omega)
  rw [ByteArray.mk_append_mk, List.append_assoc] at hadd
  go_wp2
  go_ret
  exact ⟨rfl, hb⟩
end WI
end Go.Proofs.Ytkhdidhpcdlmcaa
