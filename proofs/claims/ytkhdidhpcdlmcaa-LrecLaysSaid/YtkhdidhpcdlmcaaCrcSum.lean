/- The walks over crc.Sum and the document's Sum. -/
import Derived.Test.YtkhdidhpcdlmcaaMem
import Derived.Test.YtkhdidhpcdlmcaaCrcMath
import Derived.Deep.QuietTactic
import Derived.BigQuiet
import Derived.Deep.LoopGhost
namespace Go.Proofs.Ytkhdidhpcdlmcaa
open Go.RowKit Go.Lib CM MM
namespace CS
theorem put_put (w : World) (g i : Nat) (u v : Value) : (w.setCell ⟨g, i, none⟩ u).setCell ⟨g, i, none⟩ v = w.setCell ⟨g, i, none⟩ v := by
  unfold World.setCell
  simp only
  congr 1
  apply Array.ext
  · simp
  intro k h1 h2
  simp only [Array.getElem_modify]
  split
  · cases w.heap[k]'(by simpa using h2) <;> simp
  · rfl

theorem and_even {m : Nat} (hm : m < 4294967296) (h : m % 2 = 0) : bits .and .u32 (m : Int) 1 = 0 := by
  have := u32_and_nat m 1 hm (by omega)
  rw [nat_mask1, h] at this
  exact this
theorem and_odd {m : Nat} (hm : m < 4294967296) (h : m % 2 = 1) : bits .and .u32 (m : Int) 1 = 1 := by
  have := u32_and_nat m 1 hm (by omega)
  rw [nat_mask1, h] at this
  exact this
theorem shf_even {m : Nat} (h : m % 2 = 0) : ((shf m : Nat) : Int) = (m : Int) / 2 := by unfold shf; rw [if_neg (by omega)]; rfl
theorem shf_odd {m : Nat} (hm : m < 4294967296) (h : m % 2 = 1) : bits .xor .u32 ((m : Int) / 2) 3988292384 = ((shf m : Nat) : Int) := by
  have := u32_xor_nat (m / 2) 3988292384 (by omega) (by omega)
  unfold shf
  rw [if_pos h]
  exact this

theorem take_walk (n : Nat) (hn : n < 4294967296) (b : Bool) (g : Nat) (w : World) (hc : w.cell? ⟨g, 0, none⟩ = some (.int .u32 n)) (hf : w.frozen? ⟨g, 0, none⟩ = false) :
    Calls Try.prog 132 #[.int .u32 b.toNat, .pointer (some ⟨g, 0, none⟩)] w fun e w' => e = .returned (.tuple #[]) ∧ w' = w.setCell ⟨g, 0, none⟩ (.int .u32 (stp n b)) := by
  have hb : b.toNat < 4294967296 := by cases b <;> decide
  have hx := u32_xor_nat n b.toNat hn hb
  have hm : n ^^^ b.toNat < 4294967296 := Nat.xor_lt_two_pow (n := 32) hn hb
  have hs : stp n b = shf (n ^^^ b.toNat) := rfl
  have HS := Lib.hid hs
  clear hs
  generalize n ^^^ b.toNat = m at *
  rcases Nat.mod_two_eq_zero_or_one m with h2 | h2
  · have ha := and_even hm h2
    have HE := Lib.hid (shf_even h2)
    clear h2
    go_enter Try.func132, Try.ntmps132
    go_wp2
    go_end0
    refine ⟨rfl, ?_⟩
    rw [put_put, HS.out, HE.out]
  · have ha := and_odd hm h2
    have hy := shf_odd hm h2
    generalize shf m = p at *
    clear h2
    go_enter Try.func132, Try.ntmps132
    go_wp2
    go_end0
    refine ⟨rfl, ?_⟩
    rw [put_put, put_put, HS.out]

theorem index_walk (s : List UInt8) (k : Nat) (hk : k < s.length) (w : World) :
    (Instr.index 9 (.string ⟨s.toArray⟩) (.int .i64 k)).run Try.prog w = .ok (.int .u8 (s[k]).toNat) w := by
  simp [go_sem, hk]
  rfl

theorem bit_and (l : List UInt8) (k j : Nat) (hk : k < l.length) (hj : j < 8) : bits .and .u32 ((l[k].toNat : Int) / 2 ^ j % 4294967296) 1 = ((bitAt l (8 * k + j)).toNat : Int) := by
  have hc := byte_lt l[k]
  have hle : l[k].toNat / 2 ^ j ≤ l[k].toNat := Nat.div_le_self _ _
  have e : (l[k].toNat : Int) / 2 ^ j % 4294967296 = ((l[k].toNat / 2 ^ j : Nat) : Int) := by
    have e1 : (l[k].toNat : Int) / 2 ^ j = ((l[k].toNat / 2 ^ j : Nat) : Int) := by simp
    rw [e1]
    generalize l[k].toNat / 2 ^ j = q at *
    omega
  have := u32_and_nat (l[k].toNat / 2 ^ j) 1 (by omega) (by omega)
  rw [e]
  refine this.trans ?_
  rw [nat_mask1]
  congr 1
  unfold bitAt
  rw [show (8 * k + j) / 8 = k by omega, show (8 * k + j) % 8 = j by omega, List.getD_eq_getElem?_getD, List.getElem?_eq_getElem hk, Option.getD_some, testBit_toNat]
theorem turn (n : Nat) (hn : n < 4294967296) : bits .xor .u32 IntKind.u32.max (n : Int) = ((0xffffffff - n : Nat) : Int) := by
  have := u32_xor_nat 4294967295 n (by omega) hn
  refine Eq.trans (by rfl) (this.trans ?_)
  congr 1
  apply Nat.eq_of_testBit_eq
  intro i
  rw [Nat.testBit_xor]
  by_cases hi : i < 32
  · rw [compl_testBit hn hi, show (4294967295 : Nat) = 2 ^ 32 - 1 from rfl, Nat.testBit_two_pow_sub_one]
    simp [hi]
  · have hp : (2:Nat) ^ 32 ≤ 2 ^ i := Nat.pow_le_pow_right (by omega) (by omega)
    rw [Nat.testBit_lt_two_pow (by omega), Nat.testBit_lt_two_pow (by omega), Nat.testBit_lt_two_pow (by omega)]
    rfl

set_option maxRecDepth 100000 in
set_option maxHeartbeats 400000 in
theorem sum_walk (l : List UInt8) (hl : l.length ≤ 9223372036854775807) (w : World) :
    Calls Try.prog 117 #[.string ⟨l.toArray⟩] w fun e w' => e = .returned (.int .u32 (sumB l)) ∧ Below w.heap.size w w' := by
  go_enter Try.func117, Try.ntmps117
  go_wp2
  go_loopw [10] (fun i wr => ∃ k : Nat, k ≤ l.length ∧ i = .int .i64 k ∧ wr = w.alloc (.cells #[.int .u32 (st l (8 * k))] 133)) (fun i _ => l.length - (intOf i).toNat)
  case atStart => exact ⟨0, by omega, rfl, rfl⟩
  case round =>
    obtain ⟨k, hk, rfl, rfl⟩ := hrel
    by_cases hlt : k < l.length
    · have hix := index_walk l k hlt
      go_wp2
      go_loopw [13] (fun i wr => ∃ j : Nat, j ≤ 8 ∧ i = .int .i64 j ∧ wr = w.alloc (.cells #[.int .u32 (st l (8 * k + j))] 133)) (fun i _ => 8 - (intOf i).toNat)
      case atStart => exact ⟨0, by omega, rfl, rfl⟩
      case round =>
        obtain ⟨j, hj, rfl, rfl⟩ := hrel
        by_cases hj8 : j < 8
        · have hbit := bit_and l k j hlt hj8
          have hst := st_lt l (8 * k + j)
          have hnx : st l (8 * k + (j + 1)) = stp (st l (8 * k + j)) (bitAt l (8 * k + j)) := rfl
          have HN := Lib.hid hnx
          clear hnx
          generalize bitAt l (8 * k + j) = b at *
          generalize st l (8 * k + j) = n at *
          go_wp2_with (go_at_call 132; refine (take_walk n hst b _ _ (by simp) (by simp)).mono ?_; rintro e w' ⟨rfl, rfl⟩)
          go_roundw
          case rel => exact ⟨j + 1, by omega, by go_num, by rw [HN.out]⟩
          case measure => simp [intOf]; omega
        · have hj : 8 * k + j = 8 * (k + 1) := by omega
          have HJ := Lib.hid hj
          clear hj
          go_wp2
          go_roundw
          case rel => exact ⟨k + 1, by omega, by go_num, by rw [HJ.out]⟩
          case measure => simp [intOf]; omega
    · have hend : bits .xor .u32 IntKind.u32.max ((st l (8 * k) : Nat) : Int) = ((sumB l : Nat) : Int) := by
        rw [turn _ (st_lt _ _), show k = l.length by omega]; rfl
      go_wp2
      go_ret
      exact ⟨rfl, (Below.refl _ _).alloc (Nat.le_refl _) _⟩

set_option maxRecDepth 100000 in
set_option maxHeartbeats 400000 in
theorem ref_walk (l : List UInt8) (hl : l.length ≤ 9223372036854775807) (w : World) :
    Calls Try.prog 120 #[.string ⟨l.toArray⟩] w fun e w' => e = .returned (.int .u32 (sumB l)) ∧ w' = w := by
  go_enter Try.func120, Try.ntmps120
  go_wp2
  go_loop [3, 4] (fun x i => ∃ k : Nat, k ≤ l.length ∧ i = .int .i64 k ∧ x = .int .u32 (st l (8 * k))) (fun _ i => l.length - (intOf i).toNat)
  case atStart => exact ⟨0, by omega, rfl, rfl⟩
  case round =>
    obtain ⟨k, hk, rfl, rfl⟩ := hrel
    by_cases hlt : k < l.length
    · have hix := index_walk l k hlt
      go_wp2
      go_loop [3, 5] (fun x i => ∃ j : Nat, j ≤ 8 ∧ i = .int .i64 j ∧ x = .int .u32 (st l (8 * k + j))) (fun _ i => 8 - (intOf i).toNat)
      case atStart => exact ⟨0, by omega, rfl, rfl⟩
      case round =>
        obtain ⟨j, hj, rfl, rfl⟩ := hrel
        by_cases hj8 : j < 8
        · have hbit := bit_and l k j hlt hj8
          have hst := st_lt l (8 * k + j)
          have hnx : st l (8 * k + (j + 1)) = shf (st l (8 * k + j) ^^^ (bitAt l (8 * k + j)).toNat) := rfl
          generalize bitAt l (8 * k + j) = b at *
          generalize st l (8 * k + j) = n at *
          have hb : b.toNat < 4294967296 := by cases b <;> decide
          have hx := u32_xor_nat n b.toNat hst hb
          have hm : n ^^^ b.toNat < 4294967296 := Nat.xor_lt_two_pow (n := 32) hst hb
          generalize n ^^^ b.toNat = m at *
          have HN := Lib.hid hnx
          clear hnx
          rcases Nat.mod_two_eq_zero_or_one m with h2 | h2
          · have ha := and_even hm h2
            have HE := Lib.hid (shf_even h2)
            clear h2
            go_wp2
            go_round
            case rel => exact ⟨j + 1, by omega, by go_num, by rw [HN.out, HE.out]⟩
            case measure => simp [intOf]; omega
          · have ha := and_odd hm h2
            have hy := shf_odd hm h2
            generalize shf m = p at *
            clear h2
            go_wp2
            go_round
            case rel => exact ⟨j + 1, by omega, by go_num, by rw [HN.out]⟩
            case measure => simp [intOf]; omega
        · have hj : 8 * k + j = 8 * (k + 1) := by omega
          have HJ := Lib.hid hj
          clear hj
          go_wp2
          go_round
          case rel => exact ⟨k + 1, by omega, by go_num, by rw [HJ.out]⟩
          case measure => simp [intOf]; omega
    · have hend : bits .xor .u32 IntKind.u32.max ((st l (8 * k) : Nat) : Int) = ((sumB l : Nat) : Int) := by
        rw [turn _ (st_lt _ _), show k = l.length by omega]; rfl
      go_wp2
      go_ret
      exact ⟨rfl, rfl⟩
end CS
end Go.Proofs.Ytkhdidhpcdlmcaa
