/- The walks over the document's answer of layer 1 (coupletref01): its reader, and its PutNum, PutText. -/
import Derived.Test.YtdpkgmcjofddnaaWireRead
namespace Go.Proofs.Ytdpkgmcjofddnaa
open Go.RowKit Go.Lib WM WW WP WR
namespace RF
/-- Block g is the document's reader with 's' left, which has failed, or not. -/
def Rf (w : World) (g : Nat) (s : List UInt8) (bad : Bool) : Prop := Has w g 37 [.string ⟨s.toArray⟩, .bool bad]
/-- What a call does to it. -/
def Took (w : World) (g : Nat) (v : Value) (s : List UInt8) (bad : Bool) (e : Ending) (w' : World) : Prop := e = .returned v ∧ Rf w' g s bad ∧ w.grownBy w' (some g)

theorem ok_walk (s : List UInt8) (bad : Bool) (g : Nat) (w : World) (h : Rf w g s bad) :
    Calls Try.prog 20 #[.pointer (some ⟨g, 0, none⟩)] w fun e w' => e = .returned (.bool !bad) ∧ w = w' := by
  have h1 := h.cell 1
  simp only [List.getElem?_cons_succ, List.getElem?_cons_zero] at h1
  go_enter Try.func20, Try.ntmps20
  go_wp2
  go_ret
  exact ⟨rfl, rfl⟩
theorem end_walk (s : List UInt8) (bad : Bool) (g : Nat) (w : World) (h : Rf w g s bad) :
    Calls Try.prog 22 #[.pointer (some ⟨g, 0, none⟩)] w fun e w' => e = .returned (.bool (!bad && s.isEmpty)) ∧ w = w' := by
  have h0 := h.cell 0
  have h1 := h.cell 1
  simp only [List.getElem?_cons_succ, List.getElem?_cons_zero] at h0 h1
  cases bad
  all_goals
    go_enter Try.func22, Try.ntmps22
    go_wp2
    go_ret
    exact ⟨rfl, rfl⟩
theorem fail_walk (s : List UInt8) (bad : Bool) (g : Nat) (w : World) (h : Rf w g s bad) :
    Calls Try.prog 29 #[.pointer (some ⟨g, 0, none⟩)] w (Took w g (.int .u64 0) [] true) := by
  have h0 := h.cell 0
  have h1 := h.cell 1
  have f0 := h.free 0
  have f1 := h.free 1
  simp only [List.getElem?_cons_succ, List.getElem?_cons_zero] at h0 h1
  go_enter Try.func29, Try.ntmps29
  go_wp2
  go_ret
  exact ⟨rfl, (h.put 0 _).put 1 _, only_step (only_write _ _ _ _) (only_write _ _ _ _)⟩

theorem beq0 (n : Nat) : ((n : Int) == 0) = decide (n = 0) := by
  rw [Bool.eq_iff_iff]; simp
theorem beq9 (n : Nat) : ((n : Int) == 9) = decide (n = 9) := by
  rw [Bool.eq_iff_iff]; simp; omega
theorem odd_yes {k : Nat} {c : UInt8} (ho : odd k c = true) : (0 < k ∧ c.toNat = 0) ∨ (k = 9 ∧ 1 < c.toNat) := by simpa [odd] using ho
theorem odd_no {k : Nat} {c : UInt8} (ho : odd k c = false) : ¬ ((0 < k ∧ c.toNat = 0) ∨ (k = 9 ∧ 1 < c.toNat)) := by simpa [odd] using ho

theorem num_end (g : Nat) (bad : Bool) (w : World) (h : Rf w g [] bad) :
    Calls Try.prog 18 #[.pointer (some ⟨g, 0, none⟩)] w (Took w g (.int .u64 0) [] true) := by
  have h0 := h.cell 0
  simp only [List.getElem?_cons_zero] at h0
  go_enter Try.func18, Try.ntmps18
  go_wp2
  refine wp_loop_rounds 1 ?_
  rw [rounds_succ]
  go_wp2_with fail
  refine (fail_walk [] bad g _ h).mono ?_
  rintro e w1 ⟨rfl, h1, g1⟩
  go_wp2
  go_ret
  exact ⟨rfl, h1, g1⟩

set_option maxRecDepth 100000 in
set_option maxHeartbeats 2000000 in
theorem num_some (s : List UInt8) (g : Nat) (w : World) (h : Rf w g s false) :
    Calls Try.prog 18 #[.pointer (some ⟨g, 0, none⟩)] w (Took w g (.int .u64 (numS s false).1) (numS s false).2.1 (numS s false).2.2) := by
  have h0 := h.cell 0
  have f0 := h.free 0
  simp only [List.getElem?_cons_zero] at h0
  go_enter Try.func18, Try.ntmps18
  go_wp2
  go_loop [3, 4, 5] (fun n t i => ∃ k N T : Nat, k ≤ s.length ∧ k ≤ 9 ∧ n = .int .u64 N ∧ t = .int .u64 T ∧ i = .int .i64 k ∧ Hid (T = 128 ^ k) ∧ Hid (N < 128 ^ k) ∧ Hid (first s = parse k N (s.drop k))) (fun _ _ i => 10 - (intOf i).toNat)
  case atStart => exact ⟨0, 0, 1, by omega, by omega, rfl, rfl, rfl, (by simp : 1 = 128 ^ 0), (by simp : 0 < 128 ^ 0), (by simp [first] : first s = parse 0 0 (s.drop 0))⟩
  case round =>
    obtain ⟨k, N, T, hkl, hk, rfl, rfl, rfl, HT, HN, HF⟩ := hrel
    by_cases hlt : k < s.length
    · have hix := index_walk s k hlt
      generalize hc : s[k] = c at *
      have HC := Lib.hid hc
      clear hc
      have b2 : ((c.toNat : Int) == 0) = decide (c.toNat = 0) := beq0 _
      have b3 : ((k : Int) == 9) = decide (k = 9) := beq9 _
      have hc8 : c.toNat ≤ 255 := by have := c.toNat_lt; omega
      cases ho : odd k c with
      | true =>
        have HV := Lib.hid (numS_none (first_odd HF.out hlt (by rw [HC.out]; exact ho)))
        have Ho := Lib.hid (odd_yes ho)
        clear HF ho
        by_cases h1 : 0 < k <;> by_cases h2 : c.toNat = 0 <;> by_cases h3 : k = 9 <;> by_cases h4 : 1 < c.toNat
        all_goals first | (exfalso; have := Ho.out; omega) | skip
        all_goals
          first | rw [decide_eq_true h2] at b2 | rw [decide_eq_false h2] at b2
          first | rw [decide_eq_true h3] at b3 | rw [decide_eq_false h3] at b3
          have H2 := Lib.hid h2
          have H3 := Lib.hid h3
          clear h2 h3
          go_wp2_with fail
          refine (fail_walk s false g _ h).mono ?_
          rintro e w1 ⟨rfl, h', g'⟩
          go_wp2
          go_ret
          rw [HV.out]
          exact ⟨rfl, h', g'⟩
      | false =>
        have ho' := odd_no ho
        have hd : c.toNat % 128 < 128 := by omega
        have hfit := digit_fits hk HN.out hd (by intro h9; have := odd_not ho h9; omega)
        have hPdef : c.toNat % 128 * 128 ^ k < 2 ^ 64 := by omega
        have hTc := HT.out
        rw [← hTc] at hfit hPdef
        have hm : IntKind.u64.wrap (((c.toNat : Int) % 128) * (T : Int)) = ((c.toNat % 128 * T : Nat) : Int) := by
          rw [Int.natCast_mul, Int.natCast_emod]
          exact IntWalk.u64_in _ ⟨Int.mul_nonneg (by omega) (by omega), by
            have e : ((c.toNat : Int) % 128) * (T : Int) = ((c.toNat % 128 * T : Nat) : Int) := by rw [Int.natCast_mul, Int.natCast_emod]; rfl
            rw [e]; omega⟩
        have hs : IntKind.u64.wrap ((N : Int) + ((c.toNat % 128 * T : Nat) : Int)) = ((N + c.toNat % 128 * T : Nat) : Int) := by
          rw [Int.natCast_add]
          exact IntWalk.u64_in _ ⟨by omega, by omega⟩
        have HSum : Hid (N + c.toNat % 128 * T = N + c.toNat % 128 * 128 ^ k) := by rw [hTc]; rfl
        have HFit := Lib.hid hfit
        clear hTc hPdef hfit hd
        generalize N + c.toNat % 128 * T = M at *
        generalize c.toNat % 128 * T = P at *
        by_cases hc128 : c.toNat < 128
        · have hfl := first_last HF.out hlt (by rw [HC.out]; exact ho) (by rw [HC.out]; exact hc128)
          have HV : Hid (numS s false = (M, s.drop (k + 1), false)) := by
            show _ = _
            rw [numS_some hfl, HSum.out, HC.out, Nat.mod_eq_of_lt hc128]
          have Ho := Lib.hid ho'
          clear HF ho ho' hfl
          by_cases h1 : 0 < k <;> by_cases h2 : c.toNat = 0 <;> by_cases h3 : k = 9 <;> by_cases h4 : 1 < c.toNat
          all_goals first | (exfalso; have := Ho.out; omega) | skip
          all_goals
            first | rw [decide_eq_true h2] at b2 | rw [decide_eq_false h2] at b2
            first | rw [decide_eq_true h3] at b3 | rw [decide_eq_false h3] at b3
            have H2 := Lib.hid h2
            have H3 := Lib.hid h3
            clear h2 h3
            go_wp2
            go_ret
            rw [HV.out, drop_str]
            exact ⟨rfl, h.put 0 _, only_write _ _ _ _⟩
        · have hk9 : k + 1 ≤ 9 := by
            have h256 : 128 ≤ c.toNat := by omega
            by_cases h9 : k = 9
            · exfalso; omega
            · omega
          have hT2 : T * 128 = 128 ^ (k + 1) := by rw [pow128_succ, ← HT.out]
          have hle : 128 ^ (k + 1) ≤ 128 ^ 9 := Nat.pow_le_pow_right (by omega) hk9
          have e9 : (128 : Nat) ^ 9 = 9223372036854775808 := by decide
          have hwT : IntKind.u64.wrap ((T : Int) * 128) = ((T * 128 : Nat) : Int) := by
            rw [Int.natCast_mul]
            exact IntWalk.u64_in _ ⟨by omega, by omega⟩
          have HT2 := Lib.hid hT2
          clear hle e9 hT2
          generalize T * 128 = T2 at *
          have hfm := first_more HF.out hlt (by rw [HC.out]; exact ho) (by rw [HC.out]; exact hc128)
          have HF2 : Hid (first s = parse (k + 1) M (s.drop (k + 1))) := by
            show _ = _
            rw [hfm, HSum.out, HC.out]
            congr 3
            omega
          have HN2 : Hid (M < 128 ^ (k + 1)) := by
            have e : T * 128 = 128 ^ (k + 1) := by rw [pow128_succ, ← HT.out]
            exact HFit.out.2
          have Ho := Lib.hid ho'
          clear HF ho ho' hfm HFit
          by_cases h1 : 0 < k <;> by_cases h2 : c.toNat = 0 <;> by_cases h3 : k = 9 <;> by_cases h4 : 1 < c.toNat
          all_goals first | (exfalso; have := Ho.out; omega) | skip
          all_goals
            first | rw [decide_eq_true h2] at b2 | rw [decide_eq_false h2] at b2
            first | rw [decide_eq_true h3] at b3 | rw [decide_eq_false h3] at b3
            have H2 := Lib.hid h2
            have H3 := Lib.hid h3
            clear h2 h3
            go_wp2
            go_round
            case rel => exact ⟨k + 1, M, T2, by omega, hk9, rfl, rfl, by go_num, HT2, HN2, HF2⟩
            case measure => simp [intOf]; omega
    · have HV := Lib.hid (numS_none (first_end HF.out (by omega)))
      clear HF
      go_wp2_with fail
      refine (fail_walk s false g _ h).mono ?_
      rintro e w1 ⟨rfl, h', g'⟩
      go_wp2
      go_ret
      rw [HV.out]
      exact ⟨rfl, h', g'⟩

/-- Num: of one that has failed nothing is left. -/
theorem num_walk (s : List UInt8) (bad : Bool) (hb : bad = true → s = []) (g : Nat) (w : World) (h : Rf w g s bad) :
    Calls Try.prog 18 #[.pointer (some ⟨g, 0, none⟩)] w (Took w g (.int .u64 (numS s bad).1) (numS s bad).2.1 (numS s bad).2.2) := by
  cases bad with
  | true =>
    obtain rfl := hb rfl
    rw [numS_bad]
    exact num_end g true w h
  | false => exact num_some s g w h

/-- Of one that has failed nothing is left; no call makes more of what is left. -/
theorem numS_left {s : List UInt8} {bad : Bool} (hb : bad = true → s = []) : ((numS s bad).2.2 = true → (numS s bad).2.1 = [] ∧ (numS s bad).1 = 0) ∧ (numS s bad).2.1.length ≤ s.length := by
  cases bad with
  | true => obtain rfl := hb rfl; simp [numS]
  | false =>
    rcases hf : first s with _ | ⟨n, k⟩
    · rw [numS_none hf]; simp
    · rw [numS_some hf]; simp
theorem textS_left {s : List UInt8} {bad : Bool} (hb : bad = true → s = []) : ((textS s bad).2.2 = true → (textS s bad).2.1 = [] ∧ (textS s bad).1 = []) ∧ (textS s bad).2.1.length ≤ s.length := by
  have h := numS_left hb
  unfold textS
  by_cases h1 : (numS s bad).2.2 = true
  · simp only [h1, if_true]
    exact ⟨fun _ => ⟨(h.1 h1).1, trivial⟩, h.2⟩
  · by_cases h2 : (numS s bad).2.1.length < (numS s bad).1
    · simp [h1, h2]
    · simp only [h1, h2, if_false]
      refine ⟨fun h => by simp at h, ?_⟩
      simp only [Bool.false_eq_true, if_false, List.length_drop]
      omega

set_option maxHeartbeats 1000000 in
theorem text_walk (s : List UInt8) (bad : Bool) (hb : bad = true → s = []) (hs : s.length ≤ 140737488355328) (g : Nat) (w : World) (h : Rf w g s bad) :
    Calls Try.prog 16 #[.pointer (some ⟨g, 0, none⟩)] w (Took w g (.string ⟨(textS s bad).1.toArray⟩) (textS s bad).2.1 (textS s bad).2.2) := by
  have hl := numS_left hb
  have hnum := num_walk s bad hb g w h
  have hT : Hid (textS s bad = if (numS s bad).2.2 then ([], (numS s bad).2.1, true) else if (numS s bad).2.1.length < (numS s bad).1 then ([], [], true) else ((numS s bad).2.1.take (numS s bad).1, (numS s bad).2.1.drop (numS s bad).1, false)) := by
    show _ = _
    rfl
  generalize numS s bad = x at *
  obtain ⟨n, s1, b1⟩ := x
  simp only at hl hnum hT
  have hs1 : s1.length ≤ 140737488355328 := by omega
  have HL := Lib.hid hl
  have HN := Lib.hid hnum
  clear hl hnum
  cases b1 with
  | true =>
    obtain ⟨rfl, rfl⟩ := HL.out.1 rfl
    have HT : Hid (textS s bad = ([], [], true)) := by show _ = _; rw [hT.out]; rfl
    clear hT
    go_enter Try.func16, Try.ntmps16
    go_wp2_with fail
    refine HN.out.mono ?_
    rintro e w1 ⟨rfl, h1, g1⟩
    have h10 := h1.cell 0
    have h11 := h1.cell 1
    simp only [List.getElem?_cons_succ, List.getElem?_cons_zero] at h10 h11
    go_wp2_with fail
    refine (fail_walk _ _ g _ h1).mono ?_
    rintro e w2 ⟨rfl, h2, g2⟩
    go_wp2
    go_ret
    rw [HT.out]
    exact ⟨rfl, h2, only_step g1 g2⟩
  | false =>
    by_cases hlong : s1.length < n
    · have HT : Hid (textS s bad = ([], [], true)) := by show _ = _; rw [hT.out]; simp [hlong]
      clear hT
      go_enter Try.func16, Try.ntmps16
      go_wp2_with fail
      refine HN.out.mono ?_
      rintro e w1 ⟨rfl, h1, g1⟩
      have h10 := h1.cell 0
      have h11 := h1.cell 1
      simp only [List.getElem?_cons_succ, List.getElem?_cons_zero] at h10 h11
      go_wp2_with fail
      refine (fail_walk _ _ g _ h1).mono ?_
      rintro e w2 ⟨rfl, h2, g2⟩
      go_wp2
      go_ret
      rw [HT.out]
      exact ⟨rfl, h2, only_step g1 g2⟩
    · have HT : Hid (textS s bad = (s1.take n, s1.drop n, false)) := by show _ = _; rw [hT.out]; simp [hlong]
      clear hT
      go_enter Try.func16, Try.ntmps16
      go_wp2_with fail
      refine HN.out.mono ?_
      rintro e w1 ⟨rfl, h1, g1⟩
      have h10 := h1.cell 0
      have h11 := h1.cell 1
      have f10 := h1.free 0
      simp only [List.getElem?_cons_succ, List.getElem?_cons_zero] at h10 h11
      go_wp2
      go_ret
      rw [HT.out, drop_str, take_str]
      exact ⟨rfl, h1.put 0 _, only_step g1 (only_write _ _ _ _)⟩
end RF
end Go.Proofs.Ytdpkgmcjofddnaa
