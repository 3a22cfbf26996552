/- The walks over wire's Reader. -/
import Derived.Test.YtkhdidhpcdlmcaaWirePut
import Derived.Deep.QuietTactic
import Derived.BigQuiet
import Derived.Deep.LoopGhost
import Derived.Laws.BitsAllLaws
import Derived.Laws.Bits64
import Derived.Laws.Strings2
import Derived.Lib.BufferWrite
namespace Go.Proofs.Ytkhdidhpcdlmcaa
set_option maxRecDepth 100000
open Go.RowKit Go.Lib WM WW
namespace WR

/-- Block g is a reader with 's' left, which has failed, or not. -/
def Rd (w : World) (g : Nat) (s : List UInt8) (bad : Bool) : Prop := Has w g 144 [.string ⟨s.toArray⟩, .bool bad]

theorem newReader_walk (s : List UInt8) (w : World) :
    Calls Try.prog 102 #[.string ⟨s.toArray⟩] w fun e w' => e = .returned (.pointer (some ⟨w.heap.size, 0, none⟩)) ∧ Rd w' w.heap.size s false ∧ Below w.heap.size w w' := by
  go_enter Try.func102, Try.ntmps102
  go_wp2
  go_ret
  exact ⟨rfl, heap_alloc_new _ _, (Below.refl _ _).alloc (Nat.le_refl _) _⟩

theorem ok_walk (s : List UInt8) (bad : Bool) (g : Nat) (w : World) (h : Rd w g s bad) :
    Calls Try.prog 123 #[.pointer (some ⟨g, 0, none⟩)] w fun e w' => e = .returned (.bool !bad) ∧ w = w' := by
  have h1 := h.cell 1
  simp only [List.getElem?_cons_succ, List.getElem?_cons_zero] at h1
  go_enter Try.func123, Try.ntmps123
  go_wp2
  go_ret
  exact ⟨rfl, rfl⟩
theorem ok_none (w : World) :
    Calls Try.prog 123 #[.pointer none] w fun e w' => e = .returned (.bool false) ∧ w = w' := by
  go_enter Try.func123, Try.ntmps123
  go_wp2
  go_ret
  exact ⟨rfl, rfl⟩
theorem end_none (w : World) :
    Calls Try.prog 105 #[.pointer none] w fun e w' => e = .returned (.bool false) ∧ w = w' := by
  go_enter Try.func105, Try.ntmps105
  go_wp2_with fail
  refine (ok_none _).mono ?_
  rintro e w1 ⟨rfl, rfl⟩
  go_wp2
  go_ret
  exact ⟨rfl, rfl⟩
theorem end_walk (s : List UInt8) (bad : Bool) (g : Nat) (w : World) (h : Rd w g s bad) :
    Calls Try.prog 105 #[.pointer (some ⟨g, 0, none⟩)] w fun e w' => e = .returned (.bool (!bad && s.isEmpty)) ∧ w = w' := by
  have h0 := h.cell 0
  simp only [List.getElem?_cons_zero] at h0
  cases bad
  all_goals
    go_enter Try.func105, Try.ntmps105
    go_wp2_with fail
    refine (ok_walk s _ g _ h).mono ?_
    rintro e w1 ⟨rfl, rfl⟩
    go_wp2
    go_ret
    exact ⟨rfl, rfl⟩
theorem fail_walk (s : List UInt8) (bad : Bool) (g : Nat) (w : World) (h : Rd w g s bad) :
    Calls Try.prog 128 #[.pointer (some ⟨g, 0, none⟩)] w fun e w' => e = .returned (.tuple #[]) ∧ Rd w' g [] true ∧ w.grownBy w' (some g) := by
  have h0 := h.cell 0
  have h1 := h.cell 1
  have f0 := h.free 0
  have f1 := h.free 1
  simp only [List.getElem?_cons_succ, List.getElem?_cons_zero] at h0 h1
  go_enter Try.func128, Try.ntmps128
  go_wp2
  go_end0
  exact ⟨rfl, (h.put 0 _).put 1 _, only_step (only_write _ _ _ _) (only_write _ _ _ _)⟩

/-- Is the digit an odd one, at this place? -/
def odd (k : Nat) (c : UInt8) : Bool := decide ((0 < k ∧ c.toNat = 0) ∨ (k = 9 ∧ 1 < c.toNat))
theorem odd_walk (k : Nat) (hk : k ≤ 9) (c : UInt8) (b : Nat) (w : World) (hc : w.cell? ⟨b, 0, none⟩ = some (.int .i64 k)) :
    Calls Try.prog 134 #[.int .u8 c.toNat, .pointer (some ⟨b, 0, none⟩)] w fun e w' => e = .returned (.bool (odd k c)) ∧ w = w' := by
  have hlt := c.toNat_lt
  unfold odd
  by_cases h1 : 0 < k <;> by_cases h2 : c.toNat = 0 <;> by_cases h3 : k = 9 <;> by_cases h4 : 1 < c.toNat
  all_goals first | (exfalso; omega) | skip
  all_goals
    go_enter Try.func134, Try.ntmps134
    go_wp2
    go_ret
    refine ⟨?_, rfl⟩
    first
      | (simp [h1, h2, h3, h4]; done)
      | (simp [h2, h3, h4]; omega)

theorem index_walk (s : List UInt8) (k : Nat) (hk : k < s.length) (w : World) :
    (Instr.index 9 (.string ⟨s.toArray⟩) (.int .i64 k)).run Try.prog w = .ok (.int .u8 (s[k]).toNat) w := by
  simp [go_sem, hk]
  rfl

theorem first_end {s : List UInt8} {k N : Nat} (h : first s = parse k N (s.drop k)) (hk : s.length ≤ k) : first s = none := by
  rw [h, List.drop_eq_nil_of_le hk]; rfl
theorem first_odd {s : List UInt8} {k N : Nat} (h : first s = parse k N (s.drop k)) (hk : k < s.length) (ho : odd k s[k] = true) : first s = none := by
  rw [h, List.drop_eq_getElem_cons hk, parse, if_pos (by simpa [odd] using ho)]
theorem first_last {s : List UInt8} {k N : Nat} (h : first s = parse k N (s.drop k)) (hk : k < s.length) (ho : odd k s[k] = false) (hc : s[k].toNat < 128) :
    first s = some (N + s[k].toNat * 128 ^ k, k + 1) := by
  rw [h, List.drop_eq_getElem_cons hk, parse, if_neg (by simpa [odd] using ho), if_pos hc]
theorem first_more {s : List UInt8} {k N : Nat} (h : first s = parse k N (s.drop k)) (hk : k < s.length) (ho : odd k s[k] = false) (hc : ¬ s[k].toNat < 128) :
    first s = parse (k + 1) (N + (s[k].toNat - 128) * 128 ^ k) (s.drop (k + 1)) := by
  rw [h, List.drop_eq_getElem_cons hk, parse, if_neg (by simpa [odd] using ho), if_neg hc]
theorem odd_nine {k : Nat} {c : UInt8} (hk : k = 9) (ho : odd k c = false) : c.toNat < 128 := by
  have : ¬ ((0 < k ∧ c.toNat = 0) ∨ (k = 9 ∧ 1 < c.toNat)) := by simpa [odd] using ho
  omega

/-- A digit is laid above the ones that are there. -/
theorem or_digit {N d k : Nat} (hN : N < 128 ^ k) (hs : N + d * 128 ^ k < 2 ^ 64) :
    bits .or .u64 (N : Int) (IntKind.u64.wrap ((d : Int) * 2 ^ (7 * k))) = ((N + d * 128 ^ k : Nat) : Int) := by
  have e : (128 : Nat) ^ k = 2 ^ (7 * k) := by rw [Nat.pow_mul]
  have ei : (d : Int) * 2 ^ (7 * k) = ((d * 128 ^ k : Nat) : Int) := by rw [e]; simp
  have h1 : d * 128 ^ k < 18446744073709551616 := by omega
  have hw : IntKind.u64.wrap ((d * 128 ^ k : Nat) : Int) = ((d * 128 ^ k : Nat) : Int) := by
    rw [IntKind.wrap_u64]
    exact Int.emod_eq_of_lt (by omega) (by omega)
  rw [ei, hw, u64_or_nat _ _ (by omega) h1]
  congr 1
  rw [Nat.or_comm, Nat.mul_comm, e, ← Nat.two_pow_add_eq_or_of_lt (by rw [← e]; exact hN)]
  omega
theorem digit_fits {N d k : Nat} (hk : k ≤ 9) (hN : N < 128 ^ k) (hd : d < 128) (h9 : k = 9 → d ≤ 1) : N + d * 128 ^ k < 2 ^ 64 ∧ N + d * 128 ^ k < 128 ^ (k + 1) := by
  have e9 : (128 : Nat) ^ 9 = 9223372036854775808 := by decide
  have h1 : d * 128 ^ k ≤ 127 * 128 ^ k := Nat.mul_le_mul_right _ (by omega)
  refine ⟨?_, by rw [pow128_succ]; omega⟩
  by_cases h : k = 9
  · subst h
    have : d * 128 ^ 9 ≤ 1 * 128 ^ 9 := Nat.mul_le_mul_right _ (h9 rfl)
    omega
  · have : 128 ^ (k + 1) ≤ 128 ^ 9 := Nat.pow_le_pow_right (by omega) (by omega)
    rw [pow128_succ] at this
    omega
theorem odd_not {k : Nat} {c : UInt8} (ho : odd k c = false) : k = 9 → c.toNat ≤ 1 := by
  have : ¬ ((0 < k ∧ c.toNat = 0) ∨ (k = 9 ∧ 1 < c.toNat)) := by simpa [odd] using ho
  omega

set_option maxRecDepth 100000 in
set_option maxHeartbeats 400000 in
theorem firstNum_walk (s : List UInt8) (_hs : s.length ≤ 9223372036854775807) (w : World) :
    Calls Try.prog 127 #[.string ⟨s.toArray⟩] w fun e w' => e = .returned (.tuple #[.int .u64 ((first s).getD (0, 0)).1, .int .i64 ((first s).getD (0, 0)).2]) ∧ Below w.heap.size w w' := by
  go_enter Try.func127, Try.ntmps127
  go_wp2
  go_step3
  go_wp2
  go_step3
  go_wp2
  go_loopg [4] s.length (fun g n wr => ∃ k N : Nat, k + g = s.length ∧ k ≤ 9 ∧ n = .int .u64 N ∧ Hid (N < 128 ^ k) ∧ Hid (first s = parse k N (s.drop k)) ∧ wr = w.alloc (.cells #[.int .i64 k] 3))
  case atStart => exact ⟨0, 0, by omega, by omega, rfl, (by simp : 0 < 128 ^ 0), (by simp [first] : first s = parse 0 0 (s.drop 0)), rfl⟩
  case round =>
    obtain ⟨k, N, hkg, hk, rfl, HN, HF, rfl⟩ := hrel
    by_cases hlt : k < s.length
    · have hix := index_walk s k hlt
      have hB : Below w.heap.size w (w.alloc (.cells #[.int .i64 (k : Int)] 3)) := (Below.refl _ _).alloc (Nat.le_refl _) _
      cases ho : odd k s[k] with
      | true =>
        have HV := Lib.hid (first_odd HF.out hlt ho)
        clear HF
        go_wp2_with (go_at_call 134; refine (odd_walk k hk s[k] w.heap.size _ (by simp)).mono ?_; rintro e w' ⟨rfl, rfl⟩)
        rw [Exit.noGoto_ret]
        go_ret2
        exact ⟨by rw [HV.out]; rfl, hB⟩
      | false =>
        by_cases hc : s[k].toNat < 128
        · have hfit := digit_fits hk HN.out hc (odd_not ho)
          have HV := Lib.hid (first_last HF.out hlt ho hc)
          have hor := or_digit HN.out hfit.1
          have HB := Lib.hid hB
          clear HF hfit hB
          generalize N + s[k].toNat * 128 ^ k = M at *
          go_wp2_with (go_at_call 134; refine (odd_walk k hk s[k] w.heap.size _ (by simp)).mono ?_; rintro e w' ⟨rfl, rfl⟩)
          go_quiet (fail)
          go_wp2
          rw [Exit.noGoto_ret]
          go_ret2
          exact ⟨by rw [HV.out]; rfl, HB.out.trans ⟨rfl, rfl, rfl, Nat.le_refl _, fun _ _ => rfl⟩⟩
        · have hlo : 128 ≤ s[k].toNat := by omega
          have hhi := s[k].toNat_lt
          have hfit := digit_fits hk HN.out (d := s[k].toNat - 128) (by omega) (by have := odd_not ho; omega)
          have hk9 : k + 1 ≤ 9 := by have := odd_not ho; omega
          have hor := or_digit HN.out hfit.1
          have HF2 := Lib.hid (first_more HF.out hlt ho hc)
          have HN2 := Lib.hid hfit.2
          have hsub : (s[k].toNat : Int) - 128 = ((s[k].toNat - 128 : Nat) : Int) := by omega
          clear HF HN hfit hB
          generalize N + (s[k].toNat - 128) * 128 ^ k = M at *
          generalize s[k].toNat - 128 = d at *
          go_wp2_with (go_at_call 134; refine (odd_walk k hk s[k] w.heap.size _ (by simp)).mono ?_; rintro e w' ⟨rfl, rfl⟩)
          cases gk with
          | zero => omega
          | succ gk =>
            go_roundg gk
            case measure => omega
            case rel => exact ⟨k + 1, M, by omega, hk9, rfl, HN2.out, HF2.out, rfl⟩
    · have HV := Lib.hid (first_end HF.out (by omega))
      clear HF
      go_wp2
      rw [Exit.noGoto_ret]
      go_ret2
      exact ⟨by rw [HV.out]; rfl, (Below.refl _ _).alloc (Nat.le_refl _) _⟩

theorem drop_str (s : List UInt8) (k : Nat) : (⟨s.toArray⟩ : ByteArray).extract k s.length = ⟨(s.drop k).toArray⟩ := by
  rw [ByteArray.extract_mk, List.take_of_length_le (by simp)]
theorem take_str (s : List UInt8) (k : Nat) : (⟨s.toArray⟩ : ByteArray).extract 0 k = ⟨(s.take k).toArray⟩ := by
  rw [ByteArray.extract_mk]; simp

/-- What a call of Num, or of Text, does to its reader. -/
def Took (w : World) (g : Nat) (v : Value) (s : List UInt8) (bad : Bool) (e : Ending) (w' : World) : Prop := e = .returned v ∧ Rd w' g s bad ∧ w.grownBy w' (some g)

theorem num_none (w : World) :
    Calls Try.prog 103 #[.pointer none] w fun e w' => e = .returned (.int .u64 0) ∧ w = w' := by
  go_enter Try.func103, Try.ntmps103
  go_wp2_with fail
  refine (ok_none _).mono ?_
  rintro e w1 ⟨rfl, rfl⟩
  go_wp2
  go_ret
  exact ⟨rfl, rfl⟩

theorem num_bad (s : List UInt8) (g : Nat) (w : World) (h : Rd w g s true) :
    Calls Try.prog 103 #[.pointer (some ⟨g, 0, none⟩)] w (Took w g (.int .u64 0) s true) := by
  go_enter Try.func103, Try.ntmps103
  go_wp2_with fail
  refine (ok_walk s true g _ h).mono ?_
  rintro e w1 ⟨rfl, rfl⟩
  go_wp2
  go_ret
  exact ⟨rfl, h, only_refl _ _⟩

set_option maxHeartbeats 400000 in
theorem num_fails (s : List UInt8) (hs : s.length ≤ 9223372036854775807) (g : Nat) (w : World) (h : Rd w g s false) (hf : first s = none) :
    Calls Try.prog 103 #[.pointer (some ⟨g, 0, none⟩)] w (Took w g (.int .u64 0) [] true) := by
  have h0 := h.cell 0
  simp only [List.getElem?_cons_zero] at h0
  have HF := Lib.hid hf
  clear hf
  go_enter Try.func103, Try.ntmps103
  go_wp2_with fail
  refine (ok_walk s false g _ h).mono ?_
  rintro e w1 ⟨rfl, rfl⟩
  go_wp2_with fail
  refine (firstNum_walk s hs _).mono ?_
  rintro e w1 ⟨rfl, hb⟩
  rw [HF.out]
  have h1 : Rd w1 g s false := h.under hb h.lt
  go_wp2_with fail
  refine (fail_walk s false g _ h1).mono ?_
  rintro e w2 ⟨rfl, h2, hg⟩
  go_wp2
  go_ret
  exact ⟨rfl, h2, only_step (only_of_under hb _) hg⟩

set_option maxHeartbeats 400000 in
theorem num_takes (s : List UInt8) (hs : s.length ≤ 9223372036854775807) (g : Nat) (w : World) (h : Rd w g s false) (n k : Nat) (hf : first s = some (n, k)) :
    Calls Try.prog 103 #[.pointer (some ⟨g, 0, none⟩)] w (Took w g (.int .u64 n) (s.drop k) false) := by
  have h0 := h.cell 0
  simp only [List.getElem?_cons_zero] at h0
  obtain ⟨hk0, hkl, -, -, -, -⟩ := first_some hf
  have HF := Lib.hid hf
  clear hf
  go_enter Try.func103, Try.ntmps103
  go_wp2_with fail
  refine (ok_walk s false g _ h).mono ?_
  rintro e w1 ⟨rfl, rfl⟩
  go_wp2_with fail
  refine (firstNum_walk s hs _).mono ?_
  rintro e w1 ⟨rfl, hb⟩
  rw [HF.out]
  have h1 : Rd w1 g s false := h.under hb h.lt
  have h10 := h1.cell 0
  have f10 := h1.free 0
  simp only [List.getElem?_cons_zero] at h10
  have hne : ((k : Int) == 0) = false := by simp; omega
  go_wp2
  go_ret
  rw [drop_str]
  exact ⟨rfl, h1.put 0 _, only_step (only_of_under hb _) (only_write _ _ _ _)⟩

set_option maxHeartbeats 400000 in
theorem clone_some (s : List UInt8) (hs : s.length ≤ 140737488355328) (h0 : 0 < s.length) (w : World) :
    Calls Try.prog 115 #[.string ⟨s.toArray⟩] w fun e w' => e = .returned (.string ⟨s.toArray⟩) ∧ Below w.heap.size w w' := by
  obtain ⟨i0, hi, hz0, hz1, hz2⟩ := info_parts byteInfo
  have hmk := fun W : World => run_make (P := Try.prog) W 23 5 i0 (.int .u8 0) rfl hi hz0 .i64 .i64 (s.length : Int) (s.length : Int) (by omega) (by omega) (by rw [hz2]; omega) (by omega)
  have hne : ((s.length : Int) == 0) = false := by simp; intro h; rw [h] at h0; simp at h0
  have hmc : madeCells #[Value.int IntKind.u8 0] s.length = (List.replicate s.length (Value.int IntKind.u8 0)).toArray := by
    rw [← toList_madeCells_one]
  have hcp : ∃ W1, (Builtin.copy_ #[23, 9] 3 #[.slice (some ⟨w.heap.size, 0, none⟩) s.length s.length, .string ⟨s.toArray⟩]).run Try.prog (w.alloc (.cells (Array.replicate s.length (.int .u8 0)) 5)) = .ok (.int .i64 s.length) W1 ∧
      Has W1 w.heap.size 5 (byteCells s) ∧ Below w.heap.size w W1 := by
    have hg : (w.alloc (.cells (Array.replicate s.length (.int .u8 0)) 5)).heap[w.heap.size]? = some (.cells (Array.replicate s.length (.int .u8 0)) 5 (0, 0)) := heap_alloc_new _ _
    refine ⟨_, run_copy_row_string (P := Try.prog) _ 23 9 3 5 w.heap.size 0 s.length s.length ⟨s.toArray⟩ _ 5 rfl (by kernel_rfl) hg (Nat.le_refl _) (by simp [ByteArray.size]), ?_, below_setRow ((Below.refl _ _).alloc (Nat.le_refl _) _) (Nat.le_refl _) _⟩
    unfold Has
    rw [setRow_heap _ _ _ _ _ _ hg]
    congr 3
    rw [List.drop_eq_nil_of_le (by simp [ByteArray.size])]
    simp
  obtain ⟨W1, hcp, hrow, hb⟩ := hcp
  have hus := run_unsafeString_row (P := Try.prog) W1 128 3 9 5 rfl (by kernel_rfl) w.heap.size s.length (by simp [World.shape?, show W1.heap[w.heap.size]? = _ from hrow, byteCells]) s (by rintro rfl; simp at h0) (Nat.le_refl _) (by omega) (fun j x hj => by
    have e : (⟨w.heap.size, 0, none⟩ : Addr).add j = ⟨w.heap.size, j, none⟩ := by unfold Addr.add; split <;> simp_all
    rw [e, hrow.cell]; simp [byteCells, hj])
  have hi0 : 0 < (s.length : Int) := by omega
  have HB := Lib.hid (below_freeze hb (p := ⟨w.heap.size, 0, none⟩) (Nat.le_refl _) s.length)
  clear hb hrow
  go_enter Try.func115, Try.ntmps115
  go_wp2
  go_ret
  exact ⟨rfl, HB.out⟩
theorem clone_nil (w : World) :
    Calls Try.prog 115 #[.string ⟨[].toArray⟩] w fun e w' => e = .returned (.string ⟨[].toArray⟩) ∧ Below w.heap.size w w' := by
  go_enter Try.func115, Try.ntmps115
  go_wp2
  go_ret
  exact ⟨rfl, Below.refl _ _⟩
theorem clone_walk (s : List UInt8) (hs : s.length ≤ 140737488355328) (w : World) :
    Calls Try.prog 66 #[.string ⟨s.toArray⟩] w fun e w' => e = .returned (.string ⟨s.toArray⟩) ∧ Below w.heap.size w w' := by
  have H : Calls Try.prog 115 #[.string ⟨s.toArray⟩] w fun e w' => e = .returned (.string ⟨s.toArray⟩) ∧ Below w.heap.size w w' := by
    rcases Nat.eq_zero_or_pos s.length with h | h
    · obtain rfl : s = [] := List.eq_nil_of_length_eq_zero h
      exact clone_nil w
    · exact clone_some s hs h w
  have HH := Lib.hid H
  clear H
  go_enter Try.func66, Try.ntmps66
  go_wp2_with fail
  refine HH.out.mono ?_
  rintro e w1 ⟨rfl, hb⟩
  go_wp2
  go_ret
  exact ⟨rfl, hb⟩

theorem text_none (w : World) :
    Calls Try.prog 104 #[.pointer none] w fun e w' => e = .returned (.string ⟨[].toArray⟩) ∧ w = w' := by
  go_enter Try.func104, Try.ntmps104
  go_wp2_with fail
  refine (num_none _).mono ?_
  rintro e w1 ⟨rfl, rfl⟩
  go_wp2_with fail
  refine (ok_none _).mono ?_
  rintro e w1 ⟨rfl, rfl⟩
  go_wp2
  go_ret
  exact ⟨rfl, rfl⟩

theorem text_bad (s : List UInt8) (g : Nat) (w : World) (h : Rd w g s true) :
    Calls Try.prog 104 #[.pointer (some ⟨g, 0, none⟩)] w (Took w g (.string ⟨[].toArray⟩) s true) := by
  go_enter Try.func104, Try.ntmps104
  go_wp2_with fail
  refine (num_bad s g _ h).mono ?_
  rintro e w1 ⟨rfl, h1, g1⟩
  go_wp2_with fail
  refine (ok_walk s true g _ h1).mono ?_
  rintro e w2 ⟨rfl, rfl⟩
  go_wp2
  go_ret
  exact ⟨rfl, h1, g1⟩

theorem text_fails (s : List UInt8) (hs : s.length ≤ 9223372036854775807) (g : Nat) (w : World) (h : Rd w g s false) (hf : first s = none) :
    Calls Try.prog 104 #[.pointer (some ⟨g, 0, none⟩)] w (Took w g (.string ⟨[].toArray⟩) [] true) := by
  have HF := Lib.hid hf
  clear hf
  go_enter Try.func104, Try.ntmps104
  go_wp2_with fail
  refine (num_fails s hs g _ h HF.out).mono ?_
  rintro e w1 ⟨rfl, h1, g1⟩
  go_wp2_with fail
  refine (ok_walk [] true g _ h1).mono ?_
  rintro e w2 ⟨rfl, rfl⟩
  go_wp2
  go_ret
  exact ⟨rfl, h1, g1⟩

set_option maxHeartbeats 400000 in
theorem text_long (s : List UInt8) (hs : s.length ≤ 9223372036854775807) (g : Nat) (w : World) (h : Rd w g s false) (n k : Nat) (hf : first s = some (n, k)) (hl : (s.drop k).length < n) :
    Calls Try.prog 104 #[.pointer (some ⟨g, 0, none⟩)] w (Took w g (.string ⟨[].toArray⟩) [] true) := by
  have HF := Lib.hid hf
  clear hf
  have hd : (s.drop k).length ≤ 9223372036854775807 := by rw [List.length_drop]; omega
  generalize hr : s.drop k = r at *
  have HR := Lib.hid hr
  clear hr
  go_enter Try.func104, Try.ntmps104
  go_wp2_with fail
  refine (num_takes s hs g _ h n k HF.out).mono ?_
  rintro e w1 ⟨rfl, h1, g1⟩
  rw [HR.out] at h1
  have h10 := h1.cell 0
  simp only [List.getElem?_cons_zero] at h10
  go_wp2_with fail
  refine (ok_walk r false g _ h1).mono ?_
  rintro e w2 ⟨rfl, rfl⟩
  go_wp2_with fail
  refine (fail_walk r false g _ h1).mono ?_
  rintro e w2 ⟨rfl, h2, g2⟩
  go_wp2
  go_ret
  exact ⟨rfl, h2, only_step g1 g2⟩

set_option maxHeartbeats 400000 in
theorem text_takes (s : List UInt8) (hs : s.length ≤ 140737488355328) (g : Nat) (w : World) (h : Rd w g s false) (n k : Nat) (hf : first s = some (n, k)) (hl : n ≤ (s.drop k).length) :
    Calls Try.prog 104 #[.pointer (some ⟨g, 0, none⟩)] w (Took w g (.string ⟨((s.drop k).take n).toArray⟩) ((s.drop k).drop n) false) := by
  have HF := Lib.hid hf
  clear hf
  have hd : (s.drop k).length ≤ 140737488355328 := by rw [List.length_drop]; omega
  generalize hr : s.drop k = r at *
  have HR := Lib.hid hr
  clear hr
  go_enter Try.func104, Try.ntmps104
  go_wp2_with fail
  refine (num_takes s (by omega) g _ h n k HF.out).mono ?_
  rintro e w1 ⟨rfl, h1, g1⟩
  rw [HR.out] at h1
  have h10 := h1.cell 0
  simp only [List.getElem?_cons_zero] at h10
  go_wp2_with fail
  refine (ok_walk r false g _ h1).mono ?_
  rintro e w2 ⟨rfl, rfl⟩
  go_wp2_with fail
  rw [take_str]
  refine (clone_walk (r.take n) (by rw [List.length_take]; omega) _).mono ?_
  rintro e w2 ⟨rfl, hb⟩
  have h2 : Rd w2 g r false := h1.under hb h1.lt
  have h20 := h2.cell 0
  have f20 := h2.free 0
  simp only [List.getElem?_cons_zero] at h20
  go_wp2
  go_ret
  rw [drop_str]
  exact ⟨rfl, h2.put 0 _, only_step g1 (only_step (only_of_under hb _) (only_write _ _ _ _))⟩

/-- Num, whatever the reader. -/
theorem num_walk (s : List UInt8) (bad : Bool) (hs : s.length ≤ 140737488355328) (g : Nat) (w : World) (h : Rd w g s bad) :
    Calls Try.prog 103 #[.pointer (some ⟨g, 0, none⟩)] w (Took w g (.int .u64 (numS s bad).1) (numS s bad).2.1 (numS s bad).2.2) := by
  cases bad with
  | true => exact num_bad s g w h
  | false =>
    rcases hf : first s with _ | ⟨n, k⟩
    · rw [numS_none hf]; exact num_fails s (by omega) g w h hf
    · rw [numS_some hf]; exact num_takes s (by omega) g w h n k hf
/-- Text, whatever the reader. -/
theorem text_walk (s : List UInt8) (bad : Bool) (hs : s.length ≤ 140737488355328) (g : Nat) (w : World) (h : Rd w g s bad) :
    Calls Try.prog 104 #[.pointer (some ⟨g, 0, none⟩)] w (Took w g (.string ⟨(textS s bad).1.toArray⟩) (textS s bad).2.1 (textS s bad).2.2) := by
  cases bad with
  | true => exact text_bad s g w h
  | false =>
    rcases hf : first s with _ | ⟨n, k⟩
    · rw [textS_none hf]; exact text_fails s (by omega) g w h hf
    · rcases Nat.lt_or_ge (s.drop k).length n with hl | hl
      · rw [textS_long hf hl]; exact text_long s (by omega) g w h n k hf hl
      · rw [textS_some hf hl]; exact text_takes s hs g w h n k hf hl
end WR
end Go.Proofs.Ytkhdidhpcdlmcaa
