/- The document's twin: Format, Open and Set, among other things. -/
import Derived.Test.YtjdkmafbogaboaaRefTwin
import Derived.Test.YtjdkmafbogaboaaTwinMany
namespace Go.Proofs.Ytjdkmafbogaboaa
open Go.RowKit Go.Lib MM MS MF DM DK TM FL TH DN DW DF DU MY DP RM RD RW RI TD TN TS TO TT TU TP RT
namespace RU
theorem getD_take (s : List UInt8) (k : Nat) (hk : k < 64) : (s.take 64).getD k 0 = s.getD k 0 := by
  rw [List.getD_eq_getElem?_getD, List.getD_eq_getElem?_getD, List.getElem?_take, if_pos hk]
theorem num_take (s : List UInt8) : num (s.take 64) = num s := by
  unfold num
  rw [getD_take s 0 (by omega), getD_take s 1 (by omega), getD_take s 2 (by omega), getD_take s 3 (by omega)]
theorem txt_take (s : List UInt8) (h : (s.getD 4 0).toNat ≤ 55) : txt (s.take 64) = (s.drop 5).take (s.getD 4 0).toNat := by
  unfold txt tlen
  rw [getD_take s 4 (by omega), Nat.min_eq_left h, List.drop_take, List.take_take, Nat.min_eq_left (by omega)]
theorem isCopy_len (F : List UInt8) (h : isCopy F = true) : (F.getD 4 0).toNat ≤ 55 := by
  unfold isCopy at h
  rw [beq_iff_eq] at h
  have ht := txt_le F
  generalize txt F = t at *
  rw [h]
  simp [half, b4]
  omega
theorem two_iff (s : List UInt8) (hs : s.length = 128) (h : List UInt8) (hh : h.length = 64) : two h = s ↔ s.take 64 = h ∧ s.drop 64 = h := by
  constructor
  · rintro rfl
    exact ⟨two_first hh, two_last hh⟩
  · rintro ⟨h1, h2⟩
    unfold two
    conv => rhs; rw [← List.take_append_drop 64 s, h1, h2]
/-- What a sector of two like copies says. -/
theorem loud_iff (s : List UInt8) (hs : s.length = 128) (k : Nat) : ¬ silent (s.getD 4 0).toNat (num s) k s ((s.drop 5).take (s.getD 4 0).toNat) ↔ (s.take 64 = s.drop 64 ∧ isCopy (s.take 64) = true ∧ num (s.take 64) % 2 = k ∧ num (s.take 64) ≠ 0) := by
  have e4 := getD_take s 4 (by omega)
  have en := num_take s
  unfold silent
  constructor
  · intro h
    have h1 : (s.getD 4 0).toNat ≤ 55 := by rcases Nat.lt_or_ge 55 (s.getD 4 0).toNat with q | q; exact absurd (.inl q) h; exact q
    have h2 : num s ≠ 0 := fun q => h (.inr (.inl q))
    have h3 : num s % 2 = k := Classical.byContradiction fun q => h (.inr (.inr (.inl q)))
    have h4 : two (half (num s) ((s.drop 5).take (s.getD 4 0).toNat)) = s := Classical.byContradiction fun q => h (.inr (.inr (.inr q)))
    rw [← txt_take s h1] at h4
    obtain ⟨q1, q2⟩ := (two_iff s hs _ (half_length _ _ (by have := txt_le (s.take 64); omega))).1 h4
    refine ⟨q1.trans q2.symm, ?_, by rw [en]; exact h3, by rw [en]; exact h2⟩
    unfold isCopy
    rw [beq_iff_eq, en]
    exact q1
  · rintro ⟨h1, h2, h3, h4⟩ h
    have h5 := isCopy_len _ h2
    rw [e4] at h5
    rw [en] at h3 h4
    rcases h with h | h | h | h
    · omega
    · exact h4 h
    · exact h h3
    · apply h
      rw [← txt_take s h5]
      unfold isCopy at h2
      rw [beq_iff_eq, en] at h2
      exact (two_iff s hs _ (half_length _ _ (by have := txt_le (s.take 64); omega))).2 ⟨h2, h1.symm.trans h2⟩
/-- A round of the search. -/
theorem best_quiet (S : St) (a : Int) (k : Nat) (hr : refuse S (a + k) = 0) (hl : (readT S (a + k)).length = 128) (s : List UInt8) (hs : s = readT S (a + k)) (h : silent (s.getD 4 0).toNat (num s) k s ((s.drop 5).take (s.getD 4 0).toNat)) : bestTo S a (k + 1) = bestTo S a k := by
  subst hs
  rw [bestTo]
  refine if_neg ?_
  rintro ⟨h1, h2⟩
  refine ((loud_iff _ hl k).2 ?_) h
  unfold saysB at h1
  simp only [hfirst, hlast, if_pos hr, Bool.and_eq_true, beq_iff_eq] at h1 h2
  exact ⟨h1.1.1.2, h1.1.2, h1.2, by omega⟩
theorem best_loud (S : St) (a : Int) (k : Nat) (hr : refuse S (a + k) = 0) (hl : (readT S (a + k)).length = 128) (s : List UInt8) (hs : s = readT S (a + k)) (h : ¬ silent (s.getD 4 0).toNat (num s) k s ((s.drop 5).take (s.getD 4 0).toNat)) :
    bestTo S a (k + 1) = (if num (bestTo S a k) < num s then s.take 64 else bestTo S a k) ∧ (s.drop 5).take (s.getD 4 0).toNat = txt (s.take 64) := by
  have hq := (loud_iff s (by rw [hs]; exact hl) k).1 h
  refine ⟨?_, ?_⟩
  · rw [bestTo]
    have e1 : saysB S (a + k) k = true := by
      unfold saysB
      simp only [hfirst, hlast, if_pos hr, Bool.and_eq_true, beq_iff_eq, ← hs]
      exact ⟨⟨⟨by simpa using hr, hq.1⟩, hq.2.1⟩, hq.2.2.1⟩
    have e2 : hfirst S (a + k) = s.take 64 := by rw [hs]; unfold hfirst; rw [if_pos hr]
    rw [e1, e2, num_take]
    simp
  · have h5 := isCopy_len _ hq.2.1
    rw [getD_take s 4 (by omega)] at h5
    exact (txt_take s h5).symm
theorem refuse_at {S : St} (hon : S.on = true) (a : Int) (h0 : 0 ≤ a) (h1 : a < S.fl.length) : refuse S a = 0 := refuse_in hon h0 h1
theorem write_went {S : St} {i : Int} {l : List UInt8} (h : writeE S i l = 0) : (writeS S i l).on = true ∧ (writeS S i l).fl = S.fl := by
  unfold writeE at h
  unfold writeS
  by_cases hr : refuse S i ≠ 0
  · rw [if_pos hr] at h; exact absurd h hr
  · rw [if_neg hr] at h
    rw [if_neg hr]
    have hon : S.on = true := by
      cases hS : S.on with
      | true => rfl
      | false => have q := refuse_off (i := i) hS; omega
    by_cases hl : l.length ≠ 128
    · rw [if_pos hl] at h; exact absurd h (by decide)
    · rw [if_neg hl] at h
      rw [if_neg hl]
      by_cases ho : opOk S = true
      · rw [if_pos ho]
        exact ⟨(opS_on S ho).trans hon, opS_fl S⟩
      · rw [if_neg ho] at h; exact absurd h (by decide)
theorem flush_went {S : St} (h : flushE S = 0) : (flushS S).on = true ∧ (flushS S).fl = S.now := by
  unfold flushE at h
  unfold flushS
  by_cases hc : S.on = true ∧ opOk S = true
  · rw [if_pos hc.1, if_pos hc.2]
    exact ⟨(opS_on S hc.2).trans hc.1, rfl⟩
  · rw [if_neg hc] at h; exact absurd h (by decide)
section
variable {w0 w w' : World} {g : Nat} {S S' : St} {Ps : List (World → List Nat → Prop)}
theorem ri_ok (h : All w0 w (Rf w0.heap.size g S :: Ps)) : S.Ok := by
  obtain ⟨f, d, _⟩ := h.opened
  obtain ⟨vf, vw, h1, h2, h3, hg, hf, hu, hb, e⟩ := d
  exact h1
set_option maxRecDepth 100000 in
theorem ru_fits (h : All w0 w (Rf w0.heap.size g S :: Ps)) (a : Int) : Calls Try.prog 38 #[.pointer (some ⟨g, 0, none⟩), .int .i64 a] w fun e w' => e = .returned (.bool (decide (refE S a = 0))) ∧ w = w' := by
  obtain ⟨vf, A, cap, rfl, c0, c2, hn⟩ := ri_cells h
  clear h
  rcases Int.lt_or_le a 0 with ha | ha
  · have HE := Lib.hid (show decide (refE S a = 0) = false by rw [refE_out (.inl ha)]; rfl)
    have hd : decide (0 ≤ a) = false := by rw [decide_eq_false_iff_not]; omega
    generalize decide (refE S a = 0) = re at *
    go_enter Try.func38, Try.ntmps38
    go_wp2
    go_ret
    exact ⟨by rw [HE.out]; rfl, rfl⟩
  · have HE := Lib.hid (show decide (refE S a = 0) = decide (a < (S.fl.length : Int) - 1) by
      rcases refE_eq S a with q | q
      · rw [q.1, decide_eq_true (by omega : a < (S.fl.length : Int) - 1)]; rfl
      · rw [q.1, decide_eq_false (by omega : ¬ a < (S.fl.length : Int) - 1)]; rfl)
    have hd : decide (0 ≤ a) = true := by rw [decide_eq_true_eq]; omega
    generalize decide (refE S a = 0) = re at *
    generalize S.fl.length = n at *
    go_enter Try.func38, Try.ntmps38
    go_wp2
    go_ret
    exact ⟨by rw [HE.out]; rfl, rfl⟩
set_option maxRecDepth 100000 in
set_option maxHeartbeats 4000000 in
theorem ru_format (h : All w0 w (Rf w0.heap.size g S :: Ps)) (a : Int) (hlen : S.un.length < 999999990) : Calls Try.prog 10 #[.pointer (some ⟨g, 0, none⟩), .int .i64 a] w fun e w' => e = .returned (.int .i64 (fmtE S a)) ∧ All w0 w' (Rf w0.heap.size g (fmtS S a) :: Ps) := by
  have HR := Lib.hid (ru_fits h a)
  have hn := (ri_ok h).2.2.1
  have HA := Lib.hid h
  have hl1 := writeS_un S a (two zeros64)
  have HZ := Lib.hid (fun w => zeros_walk 128 (by omega) w)
  rw [show ZE.zs 128 = two zeros64 from rfl] at HZ
  have HS := Lib.hid (show ∀ w, Calls Try.prog 40 #[.int .u64 1, .string ⟨#[]⟩] w fun e w' => e = .returned (.string ⟨(two (half 1 [])).toArray⟩) ∧ Below w.heap.size w w' from fun w => sector_walk 1 [] (by simp) w)
  by_cases hr : refE S a = 0
  · have hin : 0 ≤ a ∧ a + 1 < S.fl.length := by rcases refE_eq S a with q | q <;> omega
    have h0 : 0 ≤ a := hin.1
    have h1 : a ≤ 4096 := by omega
    rw [hr] at HR
    have hwa : IntKind.i64.wrap (a + 1) = a + 1 := by simp [IntKind.wrap, IntKind.bits, IntKind.signed]; omega
    by_cases he1 : writeE S a (two zeros64) = 0
    · by_cases he2 : writeE (fmt1 S a) (a + 1) (two (half 1 [])) = 0
      · have e1 : fmtE S a = flushE (fmt2 S a) := by simp [fmtE, hr, he1, he2]
        have e2 : fmtS S a = flushS (fmt2 S a) := by simp [fmtS, hr, he1, he2]
        rw [e1, e2]
        have HW := Lib.hid (fun (w1 : World) (h : All w0 w1 (Rf w0.heap.size g S :: Ps)) => ri_write h a (two zeros64) (by omega))
        rw [he1] at HW
        have HW2 := Lib.hid (fun (w1 : World) (h : All w0 w1 (Rf w0.heap.size g (fmt1 S a) :: Ps)) => ri_write h (a + 1) (two (half 1 [])) (by have : (fmt1 S a).un.length ≤ S.un.length + 1 := hl1; omega))
        rw [he2] at HW2
        replace HW2 := Lib.hid (show ∀ w1, All w0 w1 (Rf w0.heap.size g (fmt1 S a) :: Ps) → Calls Try.prog 21 #[.pointer (some ⟨g, 0, none⟩), .int .i64 (a + 1), .string ⟨(two (half 1 [])).toArray⟩] w1 fun e w' => e = .returned (.int .i64 0) ∧ All w0 w' (Rf w0.heap.size g (fmt2 S a) :: Ps) from HW2.out)
        replace HW := Lib.hid (show ∀ w1, All w0 w1 (Rf w0.heap.size g S :: Ps) → Calls Try.prog 21 #[.pointer (some ⟨g, 0, none⟩), .int .i64 a, .string ⟨(two zeros64).toArray⟩] w1 fun e w' => e = .returned (.int .i64 0) ∧ All w0 w' (Rf w0.heap.size g (fmt1 S a) :: Ps) from HW.out)
        generalize fmt1 S a = S1 at *
        have HF := Lib.hid (fun (w1 : World) (h : All w0 w1 (Rf w0.heap.size g (fmt2 S a) :: Ps)) => ri_flush h)
        generalize fmt2 S a = S2 at *
        generalize flushE S2 = fe at *
        generalize flushS S2 = S3 at *
        generalize two (half 1 []) = t1 at *
        generalize two zeros64 = t0 at *
        clear h hl1 he1 he2 e1 e2 hr
        go_enter Try.func10, Try.ntmps10
        go_wp2_with fail
        refine HR.out.mono ?_
        rintro e w1 ⟨rfl, rfl⟩
        go_wp2_with fail
        refine (HZ.out _).mono ?_
        rintro e w2 ⟨rfl, b2⟩
        have A2 := Lib.hid (HA.out.below b2)
        go_wp2_with fail
        refine (HW.out _ A2.out).mono ?_
        rintro e w3 ⟨rfl, a3⟩
        have A3 := Lib.hid a3
        clear a3
        go_wp2_with fail
        refine (HS.out _).mono ?_
        rintro e w4 ⟨rfl, b4⟩
        have A4 := Lib.hid (A3.out.below b4)
        go_wp2_with fail
        refine (HW2.out _ A4.out).mono ?_
        rintro e w5 ⟨rfl, a5⟩
        have A5 := Lib.hid a5
        clear a5
        go_wp2_with fail
        refine (HF.out _ A5.out).mono ?_
        rintro e w6 ⟨rfl, a6⟩
        have A6 := Lib.hid a6
        clear a6
        go_wp2
        go_ret
        exact ⟨rfl, A6.out⟩
      · have e1 : fmtE S a = writeE (fmt1 S a) (a + 1) (two (half 1 [])) := by simp [fmtE, hr, he1, he2]
        have e2 : fmtS S a = fmt2 S a := by simp [fmtS, hr, he1, he2]
        have hne : (writeE (fmt1 S a) (a + 1) (two (half 1 [])) == 0) = false := by simpa using he2
        rw [e1, e2]
        have HW := Lib.hid (fun (w1 : World) (h : All w0 w1 (Rf w0.heap.size g S :: Ps)) => ri_write h a (two zeros64) (by omega))
        rw [he1] at HW
        have HW2 := Lib.hid (fun (w1 : World) (h : All w0 w1 (Rf w0.heap.size g (fmt1 S a) :: Ps)) => ri_write h (a + 1) (two (half 1 [])) (by have : (fmt1 S a).un.length ≤ S.un.length + 1 := hl1; omega))
        generalize writeE (fmt1 S a) (a + 1) (two (half 1 [])) = fe at *
        replace HW2 := Lib.hid (show ∀ w1, All w0 w1 (Rf w0.heap.size g (fmt1 S a) :: Ps) → Calls Try.prog 21 #[.pointer (some ⟨g, 0, none⟩), .int .i64 (a + 1), .string ⟨(two (half 1 [])).toArray⟩] w1 fun e w' => e = .returned (.int .i64 fe) ∧ All w0 w' (Rf w0.heap.size g (fmt2 S a) :: Ps) from HW2.out)
        replace HW := Lib.hid (show ∀ w1, All w0 w1 (Rf w0.heap.size g S :: Ps) → Calls Try.prog 21 #[.pointer (some ⟨g, 0, none⟩), .int .i64 a, .string ⟨(two zeros64).toArray⟩] w1 fun e w' => e = .returned (.int .i64 0) ∧ All w0 w' (Rf w0.heap.size g (fmt1 S a) :: Ps) from HW.out)
        generalize fmt1 S a = S1 at *
        generalize fmt2 S a = S2 at *
        generalize two (half 1 []) = t1 at *
        generalize two zeros64 = t0 at *
        clear h hl1 he1 he2 e1 e2 hr
        go_enter Try.func10, Try.ntmps10
        go_wp2_with fail
        refine HR.out.mono ?_
        rintro e w1 ⟨rfl, rfl⟩
        go_wp2_with fail
        refine (HZ.out _).mono ?_
        rintro e w2 ⟨rfl, b2⟩
        have A2 := Lib.hid (HA.out.below b2)
        go_wp2_with fail
        refine (HW.out _ A2.out).mono ?_
        rintro e w3 ⟨rfl, a3⟩
        have A3 := Lib.hid a3
        clear a3
        go_wp2_with fail
        refine (HS.out _).mono ?_
        rintro e w4 ⟨rfl, b4⟩
        have A4 := Lib.hid (A3.out.below b4)
        go_wp2_with fail
        refine (HW2.out _ A4.out).mono ?_
        rintro e w5 ⟨rfl, a5⟩
        have A5 := Lib.hid a5
        clear a5
        go_wp2
        go_ret
        exact ⟨rfl, A5.out⟩
    · have e1 : fmtE S a = writeE S a (two zeros64) := by simp [fmtE, hr, he1]
      have e2 : fmtS S a = writeS S a (two zeros64) := by simp [fmtS, hr, he1, fmt1]
      have hne : (writeE S a (two zeros64) == 0) = false := by simpa using he1
      rw [e1, e2]
      have HW := Lib.hid (fun (w1 : World) (h : All w0 w1 (Rf w0.heap.size g S :: Ps)) => ri_write h a (two zeros64) (by omega))
      generalize writeE S a (two zeros64) = fe at *
      generalize writeS S a (two zeros64) = S2 at *
      generalize two zeros64 = t0 at *
      clear h hl1 he1 e1 e2 hr
      go_enter Try.func10, Try.ntmps10
      go_wp2_with fail
      refine HR.out.mono ?_
      rintro e w1 ⟨rfl, rfl⟩
      go_wp2_with fail
      refine (HZ.out _).mono ?_
      rintro e w2 ⟨rfl, b2⟩
      have A2 := Lib.hid (HA.out.below b2)
      go_wp2_with fail
      refine (HW.out _ A2.out).mono ?_
      rintro e w3 ⟨rfl, a3⟩
      have A3 := Lib.hid a3
      clear a3
      go_wp2
      go_ret
      exact ⟨rfl, A3.out⟩
  · have e0 : refE S a = 6 := by rcases refE_eq S a with q | q <;> omega
    have e1 : fmtE S a = 6 := by simp [fmtE, e0]
    have e2 : fmtS S a = S := by simp [fmtS, e0]
    rw [e1, e2]
    rw [e0] at HR
    clear h hl1 e1 e2 hr e0
    go_enter Try.func10, Try.ntmps10
    go_wp2_with fail
    refine HR.out.mono ?_
    rintro e w1 ⟨rfl, rfl⟩
    go_wp2
    go_ret
    exact ⟨rfl, HA.out⟩
end
/-! ### The document's twin as a thing -/
def rtc (g : Nat) (a : Int) (H : List UInt8) (lost : Bool) : List Value := [.pointer (some ⟨g, 0, none⟩), .int .i64 a, .int .u64 (num H), .string ⟨(txt H).toArray⟩, .bool lost]
def Ru (B gu g : Nat) (a : Int) (H : List UInt8) (lost : Bool) (w : World) (fs : List Nat) : Prop := Has w gu 47 (rtc g a H lost) ∧ B ≤ gu ∧ fs = [gu]
theorem ru_kp (B gu g : Nat) (a : Int) (H : List UInt8) (lost : Bool) : Kp B (Ru B gu g a H lost) := by
  refine ⟨?_, ?_⟩
  · rintro w fs ⟨r, hB, rfl⟩ x hx
    rw [List.mem_singleton] at hx
    subst hx
    exact ⟨hB, (Row.of_has r).lt⟩
  · rintro w w' fs gs ⟨r, hB, rfl⟩ k hn
    exact ⟨k.has r (hn gu (by simp)), hB, rfl⟩
section
variable {w0 w w' : World} {g gu : Nat} {S S' : St} {a : Int} {H : List UInt8} {lost : Bool} {Ps : List (World → List Nat → Prop)}
theorem ru_has (h : All w0 w (Ru w0.heap.size gu g a H lost :: Ps)) : Has w gu 47 (rtc g a H lost) := by
  obtain ⟨f, d, _⟩ := h.opened
  exact d.1
theorem ru_put (h : All w0 w (Ru w0.heap.size gu g a H lost :: Ps)) (F : List UInt8) : All w0 ((w.setCell ⟨gu, 2, none⟩ (.int .u64 (num F))).setCell ⟨gu, 3, none⟩ (.string ⟨(txt F).toArray⟩)) (Ru w0.heap.size gu g a F lost :: Ps) := by
  obtain ⟨f, ⟨r, hB, rfl⟩, k⟩ := h.opened
  exact k _ (Ru w0.heap.size gu g a F lost) [gu] (ru_kp _ _ _ _ _ _) ⟨(r.put 2 _).put 3 _, hB, rfl⟩ (((Fr.refl w [gu]).setCell (by simp) _).setCell (by simp) _) (fun x hx => .inl hx)
theorem ru_lose (h : All w0 w (Ru w0.heap.size gu g a H lost :: Ps)) : All w0 (w.setCell ⟨gu, 4, none⟩ (.bool true)) (Ru w0.heap.size gu g a H true :: Ps) := by
  obtain ⟨f, ⟨r, hB, rfl⟩, k⟩ := h.opened
  exact k _ (Ru w0.heap.size gu g a H true) [gu] (ru_kp _ _ _ _ _ _) ⟨r.put 4 _, hB, rfl⟩ ((Fr.refl w [gu]).setCell (by simp) _) (fun x hx => .inl hx)
theorem ru_made (h : All w0 w Ps) (g : Nat) (a : Int) : All w0 (w.alloc (.cells (rtc g a zeros64 false).toArray 47)) (Ru w0.heap.size w.heap.size g a zeros64 false :: Ps) :=
  h.made ((Below.refl _ _).alloc (Nat.le_refl _) _) (f := [w.heap.size]) (ru_kp _ _ _ _ _ _) ⟨heap_alloc_new _ _, h.under.size, rfl⟩ (fun x hx => by rw [List.mem_singleton] at hx; omega)
def RuEnd (w0 : World) (g : Nat) (S : St) (a : Int) (Ps : List (World → List Nat → Prop)) (v : Value) (w' : World) : Prop :=
  (openE S a ≠ 0 ∧ v = .pointer none ∧ All w0 w' (Rf w0.heap.size g (openS S a) :: Ps)) ∨
  (openE S a = 0 ∧ ∃ gu, v = .pointer (some ⟨gu, 0, none⟩) ∧ All w0 w' (Ru w0.heap.size gu g a (best (openS S a) a) false :: Rf w0.heap.size g (openS S a) :: Ps))
def RelA (w0 : World) (g : Nat) (S : St) (a : Int) (Ps : List (World → List Nat → Prop)) (m i : Value) (wr : World) : Prop := ∃ (k : Nat) (T : St) (b : Bool), k ≤ 2 ∧ i = .int .i64 k ∧ m = .bool b ∧ mendTo S a k = ⟨T, b, 0⟩ ∧ T.on = true ∧ T.fl.length = S.fl.length ∧ All w0 wr (Rf w0.heap.size g T :: Ps)
def RelB (w0 : World) (g : Nat) (M : St) (a : Int) (gu : Nat) (Ps : List (World → List Nat → Prop)) (i : Value) (wr : World) : Prop := ∃ k : Nat, k ≤ 2 ∧ i = .int .i64 k ∧ All w0 wr (Ru w0.heap.size gu g a (bestTo M a k) false :: Rf w0.heap.size g M :: Ps)
theorem mend_off (hoff : S.on = false) : mendE S a = 8 ∧ mendS S a = S := by
  have h0 : mendTo S a 0 = ⟨S, false, 0⟩ := rfl
  have h1 : mendTo S a 1 = ⟨S, false, 8⟩ := by rw [mend_refuse h0 (by rw [refuse_off hoff]; decide), refuse_off hoff]
  exact mendE_stop (by omega) h1 (by decide)
theorem slice_first (s : List UInt8) (hs : s.length = 128) (w : World) : (Instr.slice 9 (.string ⟨s.toArray⟩) none (some (.int .i64 64)) none).run Try.prog w = .ok (.string ⟨(s.take 64).toArray⟩) w := by
  have e : (⟨s.toArray⟩ : ByteArray).size = s.length := rfl
  rw [run_slice_string_h (P := Try.prog) (w := w) (t := 9) (s := ⟨s.toArray⟩) (kh := .i64) (h := 64) Try.underlying9 (by omega) (by rw [e]; omega), show (64 : Int).toNat = 64 from rfl, ByteArray.extract_mk]
  simp
theorem slice_rest (s : List UInt8) (hs : s.length = 128) (w : World) : (Instr.slice 9 (.string ⟨s.toArray⟩) (some (.int .i64 64)) none none).run Try.prog w = .ok (.string ⟨(s.drop 64).toArray⟩) w := by
  have e : (⟨s.toArray⟩ : ByteArray).size = s.length := rfl
  rw [run_slice_string_l (P := Try.prog) (w := w) (t := 9) (s := ⟨s.toArray⟩) (kl := .i64) (l := 64) Try.underlying9 (by omega) (by rw [e]; omega), show (64 : Int).toNat = 64 from rfl, ByteArray.extract_mk]
  simp [e, hs]
  rw [List.take_of_length_le (by rw [List.length_drop]; omega)]
set_option maxRecDepth 100000 in
set_option maxHeartbeats 4000000 in
theorem ru_open_not (h : All w0 w (Rf w0.heap.size g S :: Ps)) (a : Int) (hno : refE S a ≠ 0 ∨ S.on = false) : Calls Try.prog 12 #[.pointer (some ⟨g, 0, none⟩), .int .i64 a] w fun e w' => ∃ v, e = .returned (.tuple #[v, .int .i64 (openE S a)]) ∧ RuEnd w0 g S a Ps v w' := by
  have HR := Lib.hid (ru_fits h a)
  obtain ⟨vf, A, cap, rfl, c0, c2, hn⟩ := ri_cells h
  have HA := Lib.hid h
  clear h c0 hn
  by_cases hr : refE S a = 0
  · have hoff : S.on = false := hno.resolve_left (fun q => q hr)
    have hm := mend_off (a := a) hoff
    have ho := opened_mend hr (by rw [hm.1]; decide)
    rw [hm.1, hm.2] at ho
    have HX := Lib.hid ho
    rw [ho.1]
    rw [hr] at HR
    rw [hoff] at c2
    clear hr hno hoff hm ho
    go_enter Try.func12, Try.ntmps12
    go_wp2_with fail
    refine HR.out.mono ?_
    rintro e w1 ⟨rfl, rfl⟩
    go_wp2
    go_ret2
    refine ⟨_, rfl, .inl ⟨by rw [HX.out.1]; decide, rfl, ?_⟩⟩
    rw [HX.out.2]
    exact HA.out
  · have e0 : refE S a = 6 := by rcases refE_eq S a with q | q <;> omega
    have ho := opened_ref hr
    rw [e0] at ho
    have HX := Lib.hid ho
    rw [ho.1]
    rw [e0] at HR
    clear hr hno ho e0
    go_enter Try.func12, Try.ntmps12
    go_wp2_with fail
    refine HR.out.mono ?_
    rintro e w1 ⟨rfl, rfl⟩
    go_wp2
    go_ret2
    refine ⟨_, rfl, .inl ⟨by rw [HX.out.1]; decide, rfl, ?_⟩⟩
    rw [HX.out.2]
    exact HA.out
set_option maxRecDepth 100000 in
set_option maxHeartbeats 4000000 in
theorem ru_open_on (h : All w0 w (Rf w0.heap.size g S :: Ps)) (a : Int) (hr : refE S a = 0) (hon : S.on = true) (hlen : S.un.length < 999999990) : Calls Try.prog 12 #[.pointer (some ⟨g, 0, none⟩), .int .i64 a] w fun e w' => ∃ v, e = .returned (.tuple #[v, .int .i64 (openE S a)]) ∧ RuEnd w0 g S a Ps v w' := by
  have HR := Lib.hid (ru_fits h a)
  have hin : 0 ≤ a ∧ a + 1 < S.fl.length := by rcases refE_eq S a with q | q <;> omega
  have hn := (ri_ok h).2.2.1
  have h0 : 0 ≤ a := hin.1
  have h1 : a ≤ 4095 := by omega
  obtain ⟨vf, A, cap, rfl, c0, c2, _⟩ := ri_cells h
  rw [hon] at c2
  have HA := Lib.hid h
  have HZ := Lib.hid (fun w => zeros_walk 128 (by omega) w)
  rw [show ZE.zs 128 = two zeros64 from rfl] at HZ
  have HM := Lib.hid (fun (hm : mendE S a ≠ 0) => opened_mend hr hm)
  have HNO := Lib.hid (fun hm hb => opened_none hr hm hb)
  have HYES := Lib.hid (fun hm hb => opened_some hr hm hb)
  have HSTART := Lib.hid (show mendTo S a 0 = ⟨S, false, 0⟩ from rfl)
  have HON := Lib.hid hon
  rw [hr] at HR
  clear h c0 hr hon
  go_enter Try.func12, Try.ntmps12
  go_wp2_with fail
  refine HR.out.mono ?_
  rintro e w1 ⟨rfl, rfl⟩
  go_wp2
  go_loopw [6, 7, 8, 9, 10] (fun m i _ _ _ wr => RelA w0 g S a Ps m i wr) (fun _ i _ _ _ _ => 2 - (RowKit.intOf i).toNat)
  case atStart => exact ⟨0, S, false, by omega, rfl, rfl, HSTART.out, HON.out, rfl, HA.out⟩
  case round =>
    obtain ⟨k, T, b, hk, rfl, rfl, hM, hTon, hTl, hA⟩ := hrel
    by_cases hlt : k < 2
    · have hrf : refuse T (a + k) = 0 := refuse_in hTon (by omega) (by omega)
      have hs := read_length (ri_ok hA) hrf
      have HREAD := Lib.hid (ri_read hA (a + k))
      rw [hrf] at HREAD
      have hun : T.un.length < 999999995 := by have := mendTo_un S a k; rw [hM] at this; simp at this; omega
      have hf1 : hfirst T (a + k) = (readT T (a + k)).take 64 := by unfold hfirst; rw [if_pos hrf]
      have hf2 : hlast T (a + k) = (readT T (a + k)).drop 64 := by unfold hlast; rw [if_pos hrf]
      have H2 := Lib.hid (fun he => mend_alike hM hrf he)
      have H3 := Lib.hid (fun he hw => mend_fail hM hrf he hw)
      have H4 := Lib.hid (fun he hw => mend_ok hM hrf he hw)
      rw [hf1, hf2] at H2 H3 H4
      generalize readT T (a + k) = s at *
      have g1 := slice_first s hs
      have g2 := slice_rest s hs
      have HAK := Lib.hid hA
      have HW := Lib.hid (fun (w1 : World) (h : All w0 w1 (Rf w0.heap.size g T :: Ps)) => ri_write h (a + k) (two zeros64) (by omega))
      have HT := Lib.hid (And.intro hTon hTl)
      have HWENT := Lib.hid (fun h => write_went (S := T) (i := a + k) (l := two zeros64) h)
      clear hA hf1 hf2 hrf hTon hTl
      by_cases he : s.take 64 = s.drop 64
      · have hq : (s.take 64 == s.drop 64) = true := by rw [beq_iff_eq]; exact he
        have H5 := Lib.hid (H2.out he)
        clear he H2 H3 H4 HW HWENT
        generalize s.take 64 = F at *
        generalize s.drop 64 = L at *
        go_wp2_with fail
        refine HREAD.out.mono ?_
        rintro e w1 ⟨rfl, rfl⟩
        go_wp2_with fail
        go_region
        go_wp2
        go_roundw
        case rel => exact ⟨k + 1, T, b, by omega, by go_num, rfl, H5.out, HT.out.1, HT.out.2, HAK.out.drew⟩
        case measure => simp [RowKit.intOf]; omega
      · have hq : (s.take 64 == s.drop 64) = false := by rw [beq_eq_false_iff_ne]; exact he
        by_cases hw : writeE T (a + k) (two zeros64) = 0
        · have H5 := Lib.hid (H4.out he hw)
          have HT2 := Lib.hid (HWENT.out hw)
          rw [hw] at HW
          clear he hw H2 H3 H4 HWENT
          generalize writeS T (a + k) (two zeros64) = T2 at *
          generalize two zeros64 = t0 at *
          generalize s.take 64 = F at *
          generalize s.drop 64 = L at *
          go_wp2_with fail
          refine HREAD.out.mono ?_
          rintro e w1 ⟨rfl, rfl⟩
          go_wp2_with fail
          go_region
          go_wp2_with fail
          refine (HZ.out _).mono ?_
          rintro e w2 ⟨rfl, b2⟩
          have A2 := Lib.hid (HAK.out.drew.below b2)
          go_wp2_with fail
          refine (HW.out _ A2.out).mono ?_
          rintro e w3 ⟨rfl, a3⟩
          have A3 := Lib.hid a3
          clear a3
          go_wp2
          go_roundw
          case rel => exact ⟨k + 1, T2, true, by omega, by go_num, rfl, H5.out, HT2.out.1, by rw [HT2.out.2]; exact HT.out.2, A3.out⟩
          case measure => simp [RowKit.intOf]; omega
        · have H5 := Lib.hid (H3.out he hw)
          have H6 := Lib.hid (mendE_stop (by omega) H5.out hw)
          have HNE := Lib.hid hw
          have hne : (writeE T (a + k) (two zeros64) != 0) = true := by simpa using hw
          clear he hw H2 H3 H4 HWENT H5
          generalize writeE T (a + k) (two zeros64) = fe at *
          generalize writeS T (a + k) (two zeros64) = T2 at *
          generalize two zeros64 = t0 at *
          generalize s.take 64 = F at *
          generalize s.drop 64 = L at *
          go_wp2_with fail
          refine HREAD.out.mono ?_
          rintro e w1 ⟨rfl, rfl⟩
          go_wp2_with fail
          go_region
          go_wp2_with fail
          refine (HZ.out _).mono ?_
          rintro e w2 ⟨rfl, b2⟩
          have A2 := Lib.hid (HAK.out.drew.below b2)
          go_wp2_with fail
          refine (HW.out _ A2.out).mono ?_
          rintro e w3 ⟨rfl, a3⟩
          have A3 := Lib.hid a3
          clear a3
          go_wp2
          go_ret2
          have HO := HM.out (by rw [H6.out.1]; exact HNE.out)
          refine ⟨_, by rw [HO.1, H6.out.1]; rfl, .inl ⟨by rw [HO.1, H6.out.1]; exact HNE.out, rfl, ?_⟩⟩
          rw [HO.2, H6.out.2]
          exact A3.out
    · have hk2 : k = 2 := by omega
      have HMD := Lib.hid (show mendTo S a 2 = ⟨T, b, 0⟩ by rw [← hk2]; exact hM)
      clear hk2 hM
      have HAK := Lib.hid hA
      clear hA
      cases b with
      | false =>
        have HME := Lib.hid (mendE_none HMD.out)
        have HMON := Lib.hid hTon
        have HML := Lib.hid hTl
        clear hTon hTl
        generalize T = M at *
        go_wp2
        have A4 : All w0 (wr.alloc (.cells #[.pointer (some ⟨g, 0, none⟩), .int .i64 a, .int .u64 0, .string ⟨#[]⟩, .bool false] 47)) (Ru w0.heap.size wr.heap.size g a (bestTo M a 0) false :: Rf w0.heap.size g M :: Ps) := ru_made HAK.out g a
        obtain ⟨gu, hgu⟩ : ∃ gu, gu = wr.heap.size := ⟨_, rfl⟩
        rw [← hgu] at A4
        rw [← hgu]
        have HA4 := Lib.hid A4
        clear A4 hgu HAK
        go_loopw [13, 14, 15, 16, 17] (fun i _ _ _ _ wr => RelB w0 g M a gu Ps i wr) (fun i _ _ _ _ _ => 2 - (RowKit.intOf i).toNat)
        case atStart => exact ⟨0, by omega, rfl, HA4.out⟩
        case round =>
          obtain ⟨k, hk, rfl, hA⟩ := hrel
          by_cases hlt : k < 2
          · have hrf : refuse M (a + k) = 0 := refuse_in HMON.out (by omega) (by have := HML.out; omega)
            have hs := read_length (ri_ok (All.swap hA)) hrf
            have HREAD := Lib.hid (ri_read (All.swap hA) (a + k))
            rw [hrf] at HREAD
            have HQ := Lib.hid (best_quiet M a k hrf hs _ rfl)
            have HL := Lib.hid (best_loud M a k hrf hs _ rfl)
            have HSAY := Lib.hid (fun w => says_walk (readT M (a + k)) hs k hlt w)
            generalize readT M (a + k) = s at *
            have HAK := Lib.hid hA
            have hwk : IntKind.u64.wrap (k : Int) = (k : Int) := by simp [IntKind.wrap, IntKind.bits, IntKind.signed]; omega
            clear hA
            generalize hHb : bestTo M a k = H at *
            clear hHb
            by_cases hsi : silent (s.getD 4 0).toNat (num s) k s ((s.drop 5).take (s.getD 4 0).toNat)
            · rw [saidV_not _ _ _ _ _ hsi] at HSAY
              have HB := Lib.hid (HQ.out hsi)
              have hcmp : decide ((num H : Int) < 0) = false := by rw [decide_eq_false_iff_not]; omega
              clear hsi HQ HL
              go_wp2_with fail
              refine HREAD.out.mono ?_
              rintro e w1 ⟨rfl, rfl⟩
              go_wp2_with fail
              refine (HSAY.out _).mono ?_
              rintro e w2 ⟨rfl, b2⟩
              have A2 := Lib.hid (HAK.out.below b2)
              have c2 : w2.cell? ⟨gu, 2, none⟩ = some (.int .u64 (num H)) := (ru_has A2.out).cell 2
              go_wp2
              go_roundw
              case rel => exact ⟨k + 1, by omega, by go_num, by rw [HB.out]; exact A2.out⟩
              case measure => simp [RowKit.intOf]; omega
            · rw [saidV_yes _ _ _ _ _ hsi] at HSAY
              obtain ⟨hb, ht⟩ := HL.out hsi
              rw [ht, ← num_take s] at HSAY
              rw [← num_take s] at hb
              clear hsi HQ HL ht
              generalize s.take 64 = F at *
              by_cases hc : num H < num F
              · have hcmp : decide (num H < num F) = true := by rw [decide_eq_true_eq]; omega
                rw [if_pos hc] at hb
                have HB := Lib.hid hb
                have HP := Lib.hid (fun (w2 : World) (h : All w0 w2 (Ru w0.heap.size gu g a H false :: Rf w0.heap.size g M :: Ps)) => ru_put h F)
                have HH := Lib.hid (fun (w2 : World) (h : All w0 w2 (Ru w0.heap.size gu g a H false :: Rf w0.heap.size g M :: Ps)) => ru_has h)
                generalize num F = n at *
                generalize txt F = T at *
                clear hb hc
                go_wp2_with fail
                refine HREAD.out.mono ?_
                rintro e w1 ⟨rfl, rfl⟩
                go_wp2_with fail
                refine (HSAY.out _).mono ?_
                rintro e w2 ⟨rfl, b2⟩
                have A2 := Lib.hid (HAK.out.below b2)
                have c2 : w2.cell? ⟨gu, 2, none⟩ = some (.int .u64 (num H)) := (HH.out _ A2.out).cell 2
                have f2 := (HH.out _ A2.out).free 2
                have f3 := (HH.out _ A2.out).free 3
                have c3 : w2.cell? ⟨gu, 3, none⟩ = some (.string ⟨(txt H).toArray⟩) := (HH.out _ A2.out).cell 3
                go_wp2
                go_roundw
                case rel => exact ⟨k + 1, by omega, by go_num, by rw [HB.out]; exact HP.out _ A2.out⟩
                case measure => simp [RowKit.intOf]; omega
              · have hcmp : decide (num H < num F) = false := by rw [decide_eq_false_iff_not]; omega
                rw [if_neg hc] at hb
                have HB := Lib.hid hb
                generalize num F = n at *
                generalize txt F = T at *
                clear hb hc
                go_wp2_with fail
                refine HREAD.out.mono ?_
                rintro e w1 ⟨rfl, rfl⟩
                go_wp2_with fail
                refine (HSAY.out _).mono ?_
                rintro e w2 ⟨rfl, b2⟩
                have A2 := Lib.hid (HAK.out.below b2)
                have c2 : w2.cell? ⟨gu, 2, none⟩ = some (.int .u64 (num H)) := (ru_has A2.out).cell 2
                go_wp2
                go_roundw
                case rel => exact ⟨k + 1, by omega, by go_num, by rw [HB.out]; exact A2.out⟩
                case measure => simp [RowKit.intOf]; omega
          · have hk2 : k = 2 := by omega
            have hA2 : All w0 wr (Ru w0.heap.size gu g a (best M a) false :: Rf w0.heap.size g M :: Ps) := by unfold best; rw [← hk2]; exact hA
            have c2 : wr.cell? ⟨gu, 2, none⟩ = some (.int .u64 (num (best M a))) := (ru_has hA2).cell 2
            have HA2 := Lib.hid hA2
            have HNO2 := Lib.hid (show num (best M a) = 0 → _ from fun h => HNO.out HME.out.1 (by rw [HME.out.2]; exact h))
            have HYES2 := Lib.hid (show num (best M a) ≠ 0 → _ from fun h => HYES.out HME.out.1 (by rw [HME.out.2]; exact h))
            rw [HME.out.2] at HNO2 HYES2
            clear hk2 hA hA2
            by_cases hz : num (best M a) = 0
            · have hq : ((num (best M a) : Int) == 0) = true := by rw [hz]; rfl
              have HX := Lib.hid (HNO2.out hz)
              generalize num (best M a) = nb at *
              clear hz
              go_wp2
              go_ret2
              refine ⟨_, by rw [HX.out.1]; rfl, .inl ⟨by rw [HX.out.1]; decide, rfl, ?_⟩⟩
              rw [HX.out.2]
              exact All.tail HA2.out
            · have hq : ((num (best M a) : Int) == 0) = false := by rw [beq_eq_false_iff_ne]; omega
              have HX := Lib.hid (HYES2.out hz)
              generalize num (best M a) = nb at *
              clear hz
              go_wp2
              go_ret2
              refine ⟨_, by rw [HX.out.1]; rfl, .inr ⟨HX.out.1, gu, rfl, ?_⟩⟩
              rw [HX.out.2]
              exact HA2.out
      | true =>
        have HME0 := Lib.hid (mendE_some HMD.out)
        have HF := Lib.hid (ri_flush HAK.out)
        have HWENT := Lib.hid (fun h => flush_went (S := T) h)
        by_cases hfl : flushE T = 0
        · have HMON := Lib.hid (HWENT.out hfl).1
          have HML := Lib.hid (show (flushS T).fl.length = S.fl.length by rw [(HWENT.out hfl).2]; exact (St.now_length T).trans hTl)
          have HME := Lib.hid (show mendE S a = 0 ∧ mendS S a = flushS T by rw [HME0.out.1, HME0.out.2]; exact ⟨hfl, rfl⟩)
          rw [hfl] at HF
          clear hTon hTl HWENT HME0 hfl HAK
          generalize flushS T = M at *
          go_wp2_with fail
          refine HF.out.mono ?_
          rintro e w5 ⟨rfl, a5⟩
          have HAK := Lib.hid a5
          clear a5
          go_wp2
          have A4 : All w0 (w5.alloc (.cells #[.pointer (some ⟨g, 0, none⟩), .int .i64 a, .int .u64 0, .string ⟨#[]⟩, .bool false] 47)) (Ru w0.heap.size w5.heap.size g a (bestTo M a 0) false :: Rf w0.heap.size g M :: Ps) := ru_made HAK.out g a
          obtain ⟨gu, hgu⟩ : ∃ gu, gu = w5.heap.size := ⟨_, rfl⟩
          rw [← hgu] at A4
          rw [← hgu]
          have HA4 := Lib.hid A4
          clear A4 hgu HAK
          go_loopw [13, 14, 15, 16, 17] (fun i _ _ _ _ wr => RelB w0 g M a gu Ps i wr) (fun i _ _ _ _ _ => 2 - (RowKit.intOf i).toNat)
          case atStart => exact ⟨0, by omega, rfl, HA4.out⟩
          case round =>
            obtain ⟨k, hk, rfl, hA⟩ := hrel
            by_cases hlt : k < 2
            · have hrf : refuse M (a + k) = 0 := refuse_in HMON.out (by omega) (by have := HML.out; omega)
              have hs := read_length (ri_ok (All.swap hA)) hrf
              have HREAD := Lib.hid (ri_read (All.swap hA) (a + k))
              rw [hrf] at HREAD
              have HQ := Lib.hid (best_quiet M a k hrf hs _ rfl)
              have HL := Lib.hid (best_loud M a k hrf hs _ rfl)
              have HSAY := Lib.hid (fun w => says_walk (readT M (a + k)) hs k hlt w)
              generalize readT M (a + k) = s at *
              have HAK := Lib.hid hA
              have hwk : IntKind.u64.wrap (k : Int) = (k : Int) := by simp [IntKind.wrap, IntKind.bits, IntKind.signed]; omega
              clear hA
              generalize hHb : bestTo M a k = H at *
              clear hHb
              by_cases hsi : silent (s.getD 4 0).toNat (num s) k s ((s.drop 5).take (s.getD 4 0).toNat)
              · rw [saidV_not _ _ _ _ _ hsi] at HSAY
                have HB := Lib.hid (HQ.out hsi)
                have hcmp : decide ((num H : Int) < 0) = false := by rw [decide_eq_false_iff_not]; omega
                clear hsi HQ HL
                go_wp2_with fail
                refine HREAD.out.mono ?_
                rintro e w1 ⟨rfl, rfl⟩
                go_wp2_with fail
                refine (HSAY.out _).mono ?_
                rintro e w2 ⟨rfl, b2⟩
                have A2 := Lib.hid (HAK.out.below b2)
                have c2 : w2.cell? ⟨gu, 2, none⟩ = some (.int .u64 (num H)) := (ru_has A2.out).cell 2
                go_wp2
                go_roundw
                case rel => exact ⟨k + 1, by omega, by go_num, by rw [HB.out]; exact A2.out⟩
                case measure => simp [RowKit.intOf]; omega
              · rw [saidV_yes _ _ _ _ _ hsi] at HSAY
                obtain ⟨hb, ht⟩ := HL.out hsi
                rw [ht, ← num_take s] at HSAY
                rw [← num_take s] at hb
                clear hsi HQ HL ht
                generalize s.take 64 = F at *
                by_cases hc : num H < num F
                · have hcmp : decide (num H < num F) = true := by rw [decide_eq_true_eq]; omega
                  rw [if_pos hc] at hb
                  have HB := Lib.hid hb
                  have HP := Lib.hid (fun (w2 : World) (h : All w0 w2 (Ru w0.heap.size gu g a H false :: Rf w0.heap.size g M :: Ps)) => ru_put h F)
                  have HH := Lib.hid (fun (w2 : World) (h : All w0 w2 (Ru w0.heap.size gu g a H false :: Rf w0.heap.size g M :: Ps)) => ru_has h)
                  generalize num F = n at *
                  generalize txt F = T at *
                  clear hb hc
                  go_wp2_with fail
                  refine HREAD.out.mono ?_
                  rintro e w1 ⟨rfl, rfl⟩
                  go_wp2_with fail
                  refine (HSAY.out _).mono ?_
                  rintro e w2 ⟨rfl, b2⟩
                  have A2 := Lib.hid (HAK.out.below b2)
                  have c2 : w2.cell? ⟨gu, 2, none⟩ = some (.int .u64 (num H)) := (HH.out _ A2.out).cell 2
                  have f2 := (HH.out _ A2.out).free 2
                  have f3 := (HH.out _ A2.out).free 3
                  have c3 : w2.cell? ⟨gu, 3, none⟩ = some (.string ⟨(txt H).toArray⟩) := (HH.out _ A2.out).cell 3
                  go_wp2
                  go_roundw
                  case rel => exact ⟨k + 1, by omega, by go_num, by rw [HB.out]; exact HP.out _ A2.out⟩
                  case measure => simp [RowKit.intOf]; omega
                · have hcmp : decide (num H < num F) = false := by rw [decide_eq_false_iff_not]; omega
                  rw [if_neg hc] at hb
                  have HB := Lib.hid hb
                  generalize num F = n at *
                  generalize txt F = T at *
                  clear hb hc
                  go_wp2_with fail
                  refine HREAD.out.mono ?_
                  rintro e w1 ⟨rfl, rfl⟩
                  go_wp2_with fail
                  refine (HSAY.out _).mono ?_
                  rintro e w2 ⟨rfl, b2⟩
                  have A2 := Lib.hid (HAK.out.below b2)
                  have c2 : w2.cell? ⟨gu, 2, none⟩ = some (.int .u64 (num H)) := (ru_has A2.out).cell 2
                  go_wp2
                  go_roundw
                  case rel => exact ⟨k + 1, by omega, by go_num, by rw [HB.out]; exact A2.out⟩
                  case measure => simp [RowKit.intOf]; omega
            · have hk2 : k = 2 := by omega
              have hA2 : All w0 wr (Ru w0.heap.size gu g a (best M a) false :: Rf w0.heap.size g M :: Ps) := by unfold best; rw [← hk2]; exact hA
              have c2 : wr.cell? ⟨gu, 2, none⟩ = some (.int .u64 (num (best M a))) := (ru_has hA2).cell 2
              have HA2 := Lib.hid hA2
              have HNO2 := Lib.hid (show num (best M a) = 0 → _ from fun h => HNO.out HME.out.1 (by rw [HME.out.2]; exact h))
              have HYES2 := Lib.hid (show num (best M a) ≠ 0 → _ from fun h => HYES.out HME.out.1 (by rw [HME.out.2]; exact h))
              rw [HME.out.2] at HNO2 HYES2
              clear hk2 hA hA2
              by_cases hz : num (best M a) = 0
              · have hq : ((num (best M a) : Int) == 0) = true := by rw [hz]; rfl
                have HX := Lib.hid (HNO2.out hz)
                generalize num (best M a) = nb at *
                clear hz
                go_wp2
                go_ret2
                refine ⟨_, by rw [HX.out.1]; rfl, .inl ⟨by rw [HX.out.1]; decide, rfl, ?_⟩⟩
                rw [HX.out.2]
                exact All.tail HA2.out
              · have hq : ((num (best M a) : Int) == 0) = false := by rw [beq_eq_false_iff_ne]; omega
                have HX := Lib.hid (HYES2.out hz)
                generalize num (best M a) = nb at *
                clear hz
                go_wp2
                go_ret2
                refine ⟨_, by rw [HX.out.1]; rfl, .inr ⟨HX.out.1, gu, rfl, ?_⟩⟩
                rw [HX.out.2]
                exact HA2.out
        · have HNE := Lib.hid hfl
          have hne : (flushE T != 0) = true := by simpa using hfl
          clear hTon hTl HWENT hfl HAK
          generalize flushE T = fe at *
          generalize flushS T = M at *
          go_wp2_with fail
          refine HF.out.mono ?_
          rintro e w5 ⟨rfl, a5⟩
          have HAK := Lib.hid a5
          clear a5
          go_wp2
          go_ret2
          have HO := HM.out (by rw [HME0.out.1]; exact HNE.out)
          refine ⟨_, by rw [HO.1, HME0.out.1]; rfl, .inl ⟨by rw [HO.1, HME0.out.1]; exact HNE.out, rfl, ?_⟩⟩
          rw [HO.2, HME0.out.2]
          exact HAK.out
theorem rtc_cell0 {w : World} {gu g : Nat} {a : Int} {H : List UInt8} {lost : Bool} {t : TypeId} (h : Has w gu t (rtc g a H lost)) : w.cell? ⟨gu, 0, none⟩ = some (.pointer (some ⟨g, 0, none⟩)) := h.cell 0
theorem rtc_cell1 {w : World} {gu g : Nat} {a : Int} {H : List UInt8} {lost : Bool} {t : TypeId} (h : Has w gu t (rtc g a H lost)) : w.cell? ⟨gu, 1, none⟩ = some (.int .i64 a) := h.cell 1
theorem rtc_cell2 {w : World} {gu g : Nat} {a : Int} {H : List UInt8} {lost : Bool} {t : TypeId} (h : Has w gu t (rtc g a H lost)) : w.cell? ⟨gu, 2, none⟩ = some (.int .u64 (num H)) := h.cell 2
theorem rtc_cell3 {w : World} {gu g : Nat} {a : Int} {H : List UInt8} {lost : Bool} {t : TypeId} (h : Has w gu t (rtc g a H lost)) : w.cell? ⟨gu, 3, none⟩ = some (.string ⟨(txt H).toArray⟩) := h.cell 3
theorem rtc_cell4 {w : World} {gu g : Nat} {a : Int} {H : List UInt8} {lost : Bool} {t : TypeId} (h : Has w gu t (rtc g a H lost)) : w.cell? ⟨gu, 4, none⟩ = some (.bool lost) := h.cell 4
theorem ru_open (h : All w0 w (Rf w0.heap.size g S :: Ps)) (a : Int) (hlen : S.un.length < 999999990) : Calls Try.prog 12 #[.pointer (some ⟨g, 0, none⟩), .int .i64 a] w fun e w' => ∃ v, e = .returned (.tuple #[v, .int .i64 (openE S a)]) ∧ RuEnd w0 g S a Ps v w' := by
  by_cases hr : refE S a = 0
  · cases hon : S.on with
    | true => exact ru_open_on h a hr hon hlen
    | false => exact ru_open_not h a (.inr hon)
  · exact ru_open_not h a (.inl hr)
set_option maxRecDepth 100000 in
set_option maxHeartbeats 4000000 in
theorem ru_set_not (h : All w0 w (Ru w0.heap.size gu g a H lost :: Rf w0.heap.size g S :: Ps)) (t : List UInt8) (ht : t.length ≤ 9223372036854775807) (hm : may S H lost t ≠ 0) :
    Calls Try.prog 23 #[.pointer (some ⟨gu, 0, none⟩), .string ⟨t.toArray⟩] w fun e w' => e = .returned (.int .i64 (setE S a H lost t)) ∧ All w0 w' (Ru w0.heap.size gu g a (setH S a H lost t) (setL S a H lost t) :: Rf w0.heap.size g (setS S a H lost t) :: Ps) := by
  obtain ⟨q1, q2, q3, q4⟩ := set_not (a := a) (S := S) (H := H) (lost := lost) (t := t) rfl hm
  rw [q1, q2, q3, q4]
  clear q1 q2 q3 q4
  have hc := ru_has h
  have c0 := rtc_cell0 hc
  have c2 := rtc_cell2 hc
  have c4 := rtc_cell4 hc
  obtain ⟨vf, A, cap, rfl, _, c8, _⟩ := ri_cells (All.swap h)
  have HA := Lib.hid h
  clear h hc
  unfold may at hm ⊢
  by_cases m1 : 55 < t.length
  · rw [if_pos m1]
    clear hm
    have hd : decide (55 < (t.length : Int)) = true := by rw [decide_eq_true_eq]; omega
    go_enter Try.func23, Try.ntmps23
    go_wp2
    go_ret
    exact ⟨rfl, HA.out⟩
  rw [if_neg m1] at hm ⊢
  by_cases m2 : lost = true ∨ S.on = false
  · rw [if_pos m2]
    clear hm
    cases lost with
    | true =>
      clear m2 c8
      go_enter Try.func23, Try.ntmps23
      go_wp2
      go_ret
      exact ⟨rfl, HA.out⟩
    | false =>
      rw [m2.resolve_left (by decide)] at c8
      clear m2
      go_enter Try.func23, Try.ntmps23
      go_wp2
      go_ret
      exact ⟨rfl, HA.out⟩
  rw [if_neg m2] at hm ⊢
  by_cases m3 : num H = 4294967295
  · rw [if_pos m3]
    have hon : S.on = true := by cases q : S.on with | true => rfl | false => exact absurd (.inr q) m2
    have hlo : lost = false := by cases q : lost with | false => rfl | true => exact absurd (.inl q) m2
    rw [hon] at c8
    subst hlo
    rw [m3] at c2
    clear hm m2 m3 hon
    go_enter Try.func23, Try.ntmps23
    go_wp2
    go_ret
    exact ⟨rfl, HA.out⟩
  · exact absurd (by rw [if_neg m3]) hm
set_option maxRecDepth 100000 in
set_option maxHeartbeats 4000000 in
theorem ru_set_do (h : All w0 w (Ru w0.heap.size gu g a H lost :: Rf w0.heap.size g S :: Ps)) (h0 : 0 ≤ a) (h1 : a ≤ 4096) (t : List UInt8) (hlen : S.un.length < 999999990) (hm : may S H lost t = 0) :
    Calls Try.prog 23 #[.pointer (some ⟨gu, 0, none⟩), .string ⟨t.toArray⟩] w fun e w' => e = .returned (.int .i64 (setE S a H lost t)) ∧ All w0 w' (Ru w0.heap.size gu g a (setH S a H lost t) (setL S a H lost t) :: Rf w0.heap.size g (setS S a H lost t) :: Ps) := by
  have ht : t.length ≤ 55 := by unfold may at hm; by_cases q : 55 < t.length; rw [if_pos q] at hm; exact absurd hm (by decide); omega
  have hm2 : ¬ (lost = true ∨ S.on = false) := by intro q; unfold may at hm; rw [if_neg (by omega), if_pos q] at hm; exact absurd hm (by decide)
  have hm3 : num H ≠ 4294967295 := by intro q; unfold may at hm; rw [if_neg (by omega), if_neg hm2, if_pos q] at hm; exact absurd hm (by decide)
  have hon : S.on = true := by cases q : S.on with | true => rfl | false => exact absurd (.inr q) hm2
  have hlo : lost = false := by cases q : lost with | false => rfl | true => exact absurd (.inl q) hm2
  subst hlo
  have hnl := num_lt H
  have HOK := Lib.hid (fun he => set_ok (a := a) hm he)
  have HBAD := Lib.hid (fun he => set_bad (a := a) hm he)
  have hN : num (nextH H t) = num H + 1 := num_half _ _ (by omega)
  have hT : txt (nextH H t) = t := txt_half _ _ ht
  have hc := ru_has h
  have c0 := rtc_cell0 hc
  have c2 := rtc_cell2 hc
  have c4 := rtc_cell4 hc
  obtain ⟨vf, A, cap, rfl, _, c8, _⟩ := ri_cells (All.swap h)
  rw [hon] at c8
  have HA := Lib.hid h
  have HSEC := Lib.hid (fun w => sector_walk (num H + 1) t ht w)
  have HW := Lib.hid (fun (w1 : World) (h : All w0 w1 (Ru w0.heap.size gu g a H false :: Rf w0.heap.size g S :: Ps)) => (ri_write (All.swap h) (place a (num (nextH H t))) (two (nextH H t)) (by omega)).mono fun e w' (q : _ ∧ _) => And.intro q.1 (All.swap q.2))
  have HFL := Lib.hid (fun (w1 : World) (T : St) (h : All w0 w1 (Ru w0.heap.size gu g a H false :: Rf w0.heap.size g T :: Ps)) => (ri_flush (All.swap h)).mono fun e w' (q : _ ∧ _) => And.intro q.1 (All.swap q.2))
  have HP := Lib.hid (fun (w1 : World) (T : St) (h : All w0 w1 (Ru w0.heap.size gu g a H false :: Rf w0.heap.size g T :: Ps)) => ru_put h (nextH H t))
  rw [hT, hN] at HP
  have hpl : place a (num (nextH H t)) = a + (((num H + 1) % 2 : Nat) : Int) := by rw [hN]; rfl
  have htm : ((num H + 1 : Nat) : Int).tmod 2 = (((num H + 1) % 2 : Nat) : Int) := by rw [Int.tmod_eq_emod_of_nonneg (by omega)]; omega
  have htm2 : ((num H + 1 : Nat) : Int) % 2 = (((num H + 1) % 2 : Nat) : Int) := by omega
  have hn2 : (num H + 1) % 2 < 2 := Nat.mod_lt _ (by omega)
  have hwn : IntKind.u64.wrap ((num H : Int) + 1) = ((num H + 1 : Nat) : Int) := by simp [IntKind.wrap, IntKind.bits, IntKind.signed]; omega
  have hd55 : decide (55 < (t.length : Int)) = false := by rw [decide_eq_false_iff_not]; omega
  have hq3 : ((num H : Int) == 4294967295) = false := by rw [beq_eq_false_iff_ne]; omega
  unfold stE stS at HOK HBAD
  rw [hpl] at HW HOK HBAD
  replace HSEC := Lib.hid (show ∀ w, Calls Try.prog 40 #[.int .u64 ((num H + 1 : Nat) : Int), .string ⟨t.toArray⟩] w fun e w' => e = .returned (.string ⟨(two (nextH H t)).toArray⟩) ∧ Below w.heap.size w w' from HSEC.out)
  generalize (num H + 1) % 2 = od at *
  generalize num H + 1 = n1 at *
  have hwd : IntKind.i64.wrap (od : Int) = od := by simp [IntKind.wrap, IntKind.bits, IntKind.signed]; omega
  have hwo : IntKind.i64.wrap (a + (od : Int)) = a + (od : Int) := by simp [IntKind.wrap, IntKind.bits, IntKind.signed]; omega
  generalize hEs : setE S a H false t = se at *
  generalize hSs : setS S a H false t = sS at *
  generalize hHs : setH S a H false t = sH at *
  generalize hLs : setL S a H false t = sL at *
  generalize writeE S (a + (od : Int)) (two (nextH H t)) = we at *
  generalize writeS S (a + (od : Int)) (two (nextH H t)) = S1 at *
  generalize two (nextH H t) = tx at *
  clear h hc hm hm2 hm3 hN hT hpl hEs hSs hHs hLs hon
  by_cases hw : we = 0
  · subst hw
    by_cases hf : flushE S1 = 0
    · obtain ⟨q1, q2, q3, q4⟩ := HOK.out (by rw [if_neg (by simp)]; exact hf)
      rw [if_neg (by simp)] at q2
      rw [q1, q2, q3, q4]
      clear q1 q2 q3 q4
      have HF := Lib.hid (fun w1 h => HFL.out w1 S1 h)
      rw [hf] at HF
      clear HFL HOK HBAD hf
      go_enter Try.func23, Try.ntmps23
      go_wp2_with fail
      refine wp_region_held_drew (S := fun w' => Has w' gu 47 (rtc g a H false)) (by kernel_rfl) (ru_has HA.out.drew) (fun hS => ?_)
      refine wpAnyH_take (i := 0) (v := (.pointer (some ⟨gu, 0, none⟩))) (lit rfl) (by kernel_rfl) (by kernel_rfl) (by kernel_rfl) (fun _ _ _ h => h) (Or.inl ⟨by rfl, fun w _ => by go_simp⟩) hS ?_
      simp only [Act.put, List.setIfInBounds_toArray, List.set_cons_zero, List.set_cons_succ]
      refine wpAnyH_take (i := 1) (v := (.pointer (some ⟨gu, 0, none⟩))) (lit rfl) (by kernel_rfl) (by kernel_rfl) (by kernel_rfl) (fun _ _ _ h => h) (Or.inl ⟨by rfl, fun w _ => by go_simp⟩) hS ?_
      simp only [Act.put, List.setIfInBounds_toArray, List.set_cons_zero, List.set_cons_succ]
      refine wpAnyH_take (i := 2) (v := (.pointer (some ⟨gu, 0, none⟩))) (lit rfl) (by kernel_rfl) (by kernel_rfl) (by kernel_rfl) (fun _ _ _ h => h) (Or.inl ⟨by rfl, fun w _ => by go_simp⟩) hS ?_
      simp only [Act.put, List.setIfInBounds_toArray, List.set_cons_zero, List.set_cons_succ]
      refine wpAnyH_take (i := 3) (v := (.pointer (some ⟨g, 0, none⟩))) (lit rfl) (by kernel_rfl) (by kernel_rfl) (by kernel_rfl) (fun _ _ _ h => h) (Or.inl ⟨by rfl, fun w hw => by have hc := rtc_cell0 hw; go_simp⟩) hS ?_
      simp only [Act.put, List.setIfInBounds_toArray, List.set_cons_zero, List.set_cons_succ]
      refine wpAnyH_take (i := 4) (v := (.pointer (some ⟨gu, 0, none⟩))) (lit rfl) (by kernel_rfl) (by kernel_rfl) (by kernel_rfl) (fun _ _ _ h => h) (Or.inl ⟨by rfl, fun w _ => by go_simp⟩) hS ?_
      simp only [Act.put, List.setIfInBounds_toArray, List.set_cons_zero, List.set_cons_succ]
      refine wpAnyH_take (i := 5) (v := (.pointer (some ⟨gu, 0, none⟩))) (lit rfl) (by kernel_rfl) (by kernel_rfl) (by kernel_rfl) (fun _ _ _ h => h) (Or.inl ⟨by rfl, fun w _ => by go_simp⟩) hS ?_
      simp only [Act.put, List.setIfInBounds_toArray, List.set_cons_zero, List.set_cons_succ]
      refine wpAnyH_take (i := 6) (v := (.pointer (some ⟨gu, 1, none⟩))) (lit rfl) (by kernel_rfl) (by kernel_rfl) (by kernel_rfl) (fun _ _ _ h => h) (Or.inl ⟨by rfl, fun w _ => by go_simp⟩) hS ?_
      simp only [Act.put, List.setIfInBounds_toArray, List.set_cons_zero, List.set_cons_succ]
      refine wpAnyH_take (i := 7) (v := (.int .i64 a)) (lit rfl) (by kernel_rfl) (by kernel_rfl) (by kernel_rfl) (fun _ _ _ h => h) (Or.inl ⟨by rfl, fun w hw => by have hc := rtc_cell1 hw; go_simp⟩) hS ?_
      simp only [Act.put, List.setIfInBounds_toArray, List.set_cons_zero, List.set_cons_succ]
      refine wpAnyH_take (i := 8) (v := (.int .u64 n1)) (lit rfl) (by kernel_rfl) (by kernel_rfl) (by kernel_rfl) (fun _ _ _ h => h) (Or.inl ⟨by rfl, fun w _ => by go_simp⟩) hS ?_
      simp only [Act.put, List.setIfInBounds_toArray, List.set_cons_zero, List.set_cons_succ]
      refine wpAnyH_take (i := 9) (v := (.int .u64 od)) (lit rfl) (by kernel_rfl) (by kernel_rfl) (by kernel_rfl) (fun _ _ _ h => h) (Or.inl ⟨by rfl, fun w _ => by go_simp⟩) hS ?_
      simp only [Act.put, List.setIfInBounds_toArray, List.set_cons_zero, List.set_cons_succ]
      refine wpAnyH_take (i := 10) (v := (.int .i64 od)) (lit rfl) (by kernel_rfl) (by kernel_rfl) (by kernel_rfl) (fun _ _ _ h => h) (Or.inl ⟨by rfl, fun w _ => by go_simp⟩) hS ?_
      simp only [Act.put, List.setIfInBounds_toArray, List.set_cons_zero, List.set_cons_succ]
      refine wpAnyH_take (i := 11) (v := (.int .i64 (a + od))) (lit rfl) (by kernel_rfl) (by kernel_rfl) (by kernel_rfl) (fun _ _ _ h => h) (Or.inl ⟨by rfl, fun w _ => by go_simp⟩) hS ?_
      simp only [Act.put, List.setIfInBounds_toArray, List.set_cons_zero, List.set_cons_succ]
      refine wpAnyH_take (i := 12) (v := (.int .u64 n1)) (lit rfl) (by kernel_rfl) (by kernel_rfl) (by kernel_rfl) (fun _ _ _ h => h) (Or.inl ⟨by rfl, fun w _ => by go_simp⟩) hS ?_
      simp only [Act.put, List.setIfInBounds_toArray, List.set_cons_zero, List.set_cons_succ]
      refine wpAnyH_take (i := 13) (v := (.string ⟨t.toArray⟩)) (lit rfl) (by kernel_rfl) (by kernel_rfl) (by kernel_rfl) (fun _ _ _ h => h) (Or.inl ⟨by rfl, fun w _ => by go_simp⟩) hS ?_
      simp only [Act.put, List.setIfInBounds_toArray, List.set_cons_zero, List.set_cons_succ]
      refine wpAnyH_ready (rs := [14]) (by kernel_rfl) (by simp) (AllReadyH.cons (lit rfl) (fun K hK => ?_) AllReadyH.nil)
      go_simp
      go_wp2_with (go_at_call 40; refine (HSEC.out _).mono ?_; rintro e w4 ⟨rfl, b4⟩)
      have A4 := Lib.hid (HA.out.drew.below b4)
      refine hK.out _ _ (ru_has A4.out) (fun _ => ?_)
      clear hK K
      refine wpAnyH_ready (rs := [15]) (by kernel_rfl) (by simp) (AllReadyH.cons (lit rfl) (fun K hK => ?_) AllReadyH.nil)
      go_simp
      go_wp2_with (go_at_call 21; refine (HW.out _ A4.out).mono ?_; rintro e w5 ⟨rfl, a5⟩)
      have A5 := Lib.hid a5
      clear a5
      refine hK.out _ _ (ru_has A5.out) (fun _ => ?_)
      clear hK K
      refine wpAnyH_ready (rs := [16]) (by kernel_rfl) (by simp) (AllReadyH.cons (lit rfl) (fun K hK => ?_) AllReadyH.nil)
      go_simp
      refine hK.out _ _ (ru_has A5.out) (fun _ => ?_)
      clear hK K
      refine wpAnyH_done (by kernel_rfl) ?_ _
      have c9 := rtc_cell0 (ru_has A5.out)
      go_wp2_with fail
      refine (HF.out _ A5.out).mono ?_
      rintro e w6 ⟨rfl, a6⟩
      have A6 := Lib.hid a6
      clear a6
      have d2 := rtc_cell2 (ru_has A6.out)
      have d3 := rtc_cell3 (ru_has A6.out)
      have f2 := (ru_has A6.out).free 2
      have f3 := (ru_has A6.out).free 3
      generalize txt H = tH at *
      go_wp2
      go_ret
      exact ⟨rfl, HP.out _ _ A6.out⟩
    · obtain ⟨q1, q2, q3, q4⟩ := HBAD.out (by rw [if_neg (by simp)]; exact hf)
      rw [if_neg (by simp)] at q1 q2
      rw [q1, q2, q3, q4]
      clear q1 q2 q3 q4
      have HF := Lib.hid (fun w1 h => HFL.out w1 S1 h)
      have hne : (flushE S1 != 0) = true := by simpa using hf
      generalize flushE S1 = fe at *
      generalize flushS S1 = fS at *
      clear HFL HOK HBAD hf
      go_enter Try.func23, Try.ntmps23
      go_wp2_with fail
      refine wp_region_held_drew (S := fun w' => Has w' gu 47 (rtc g a H false)) (by kernel_rfl) (ru_has HA.out.drew) (fun hS => ?_)
      refine wpAnyH_take (i := 0) (v := (.pointer (some ⟨gu, 0, none⟩))) (lit rfl) (by kernel_rfl) (by kernel_rfl) (by kernel_rfl) (fun _ _ _ h => h) (Or.inl ⟨by rfl, fun w _ => by go_simp⟩) hS ?_
      simp only [Act.put, List.setIfInBounds_toArray, List.set_cons_zero, List.set_cons_succ]
      refine wpAnyH_take (i := 1) (v := (.pointer (some ⟨gu, 0, none⟩))) (lit rfl) (by kernel_rfl) (by kernel_rfl) (by kernel_rfl) (fun _ _ _ h => h) (Or.inl ⟨by rfl, fun w _ => by go_simp⟩) hS ?_
      simp only [Act.put, List.setIfInBounds_toArray, List.set_cons_zero, List.set_cons_succ]
      refine wpAnyH_take (i := 2) (v := (.pointer (some ⟨gu, 0, none⟩))) (lit rfl) (by kernel_rfl) (by kernel_rfl) (by kernel_rfl) (fun _ _ _ h => h) (Or.inl ⟨by rfl, fun w _ => by go_simp⟩) hS ?_
      simp only [Act.put, List.setIfInBounds_toArray, List.set_cons_zero, List.set_cons_succ]
      refine wpAnyH_take (i := 3) (v := (.pointer (some ⟨g, 0, none⟩))) (lit rfl) (by kernel_rfl) (by kernel_rfl) (by kernel_rfl) (fun _ _ _ h => h) (Or.inl ⟨by rfl, fun w hw => by have hc := rtc_cell0 hw; go_simp⟩) hS ?_
      simp only [Act.put, List.setIfInBounds_toArray, List.set_cons_zero, List.set_cons_succ]
      refine wpAnyH_take (i := 4) (v := (.pointer (some ⟨gu, 0, none⟩))) (lit rfl) (by kernel_rfl) (by kernel_rfl) (by kernel_rfl) (fun _ _ _ h => h) (Or.inl ⟨by rfl, fun w _ => by go_simp⟩) hS ?_
      simp only [Act.put, List.setIfInBounds_toArray, List.set_cons_zero, List.set_cons_succ]
      refine wpAnyH_take (i := 5) (v := (.pointer (some ⟨gu, 0, none⟩))) (lit rfl) (by kernel_rfl) (by kernel_rfl) (by kernel_rfl) (fun _ _ _ h => h) (Or.inl ⟨by rfl, fun w _ => by go_simp⟩) hS ?_
      simp only [Act.put, List.setIfInBounds_toArray, List.set_cons_zero, List.set_cons_succ]
      refine wpAnyH_take (i := 6) (v := (.pointer (some ⟨gu, 1, none⟩))) (lit rfl) (by kernel_rfl) (by kernel_rfl) (by kernel_rfl) (fun _ _ _ h => h) (Or.inl ⟨by rfl, fun w _ => by go_simp⟩) hS ?_
      simp only [Act.put, List.setIfInBounds_toArray, List.set_cons_zero, List.set_cons_succ]
      refine wpAnyH_take (i := 7) (v := (.int .i64 a)) (lit rfl) (by kernel_rfl) (by kernel_rfl) (by kernel_rfl) (fun _ _ _ h => h) (Or.inl ⟨by rfl, fun w hw => by have hc := rtc_cell1 hw; go_simp⟩) hS ?_
      simp only [Act.put, List.setIfInBounds_toArray, List.set_cons_zero, List.set_cons_succ]
      refine wpAnyH_take (i := 8) (v := (.int .u64 n1)) (lit rfl) (by kernel_rfl) (by kernel_rfl) (by kernel_rfl) (fun _ _ _ h => h) (Or.inl ⟨by rfl, fun w _ => by go_simp⟩) hS ?_
      simp only [Act.put, List.setIfInBounds_toArray, List.set_cons_zero, List.set_cons_succ]
      refine wpAnyH_take (i := 9) (v := (.int .u64 od)) (lit rfl) (by kernel_rfl) (by kernel_rfl) (by kernel_rfl) (fun _ _ _ h => h) (Or.inl ⟨by rfl, fun w _ => by go_simp⟩) hS ?_
      simp only [Act.put, List.setIfInBounds_toArray, List.set_cons_zero, List.set_cons_succ]
      refine wpAnyH_take (i := 10) (v := (.int .i64 od)) (lit rfl) (by kernel_rfl) (by kernel_rfl) (by kernel_rfl) (fun _ _ _ h => h) (Or.inl ⟨by rfl, fun w _ => by go_simp⟩) hS ?_
      simp only [Act.put, List.setIfInBounds_toArray, List.set_cons_zero, List.set_cons_succ]
      refine wpAnyH_take (i := 11) (v := (.int .i64 (a + od))) (lit rfl) (by kernel_rfl) (by kernel_rfl) (by kernel_rfl) (fun _ _ _ h => h) (Or.inl ⟨by rfl, fun w _ => by go_simp⟩) hS ?_
      simp only [Act.put, List.setIfInBounds_toArray, List.set_cons_zero, List.set_cons_succ]
      refine wpAnyH_take (i := 12) (v := (.int .u64 n1)) (lit rfl) (by kernel_rfl) (by kernel_rfl) (by kernel_rfl) (fun _ _ _ h => h) (Or.inl ⟨by rfl, fun w _ => by go_simp⟩) hS ?_
      simp only [Act.put, List.setIfInBounds_toArray, List.set_cons_zero, List.set_cons_succ]
      refine wpAnyH_take (i := 13) (v := (.string ⟨t.toArray⟩)) (lit rfl) (by kernel_rfl) (by kernel_rfl) (by kernel_rfl) (fun _ _ _ h => h) (Or.inl ⟨by rfl, fun w _ => by go_simp⟩) hS ?_
      simp only [Act.put, List.setIfInBounds_toArray, List.set_cons_zero, List.set_cons_succ]
      refine wpAnyH_ready (rs := [14]) (by kernel_rfl) (by simp) (AllReadyH.cons (lit rfl) (fun K hK => ?_) AllReadyH.nil)
      go_simp
      go_wp2_with (go_at_call 40; refine (HSEC.out _).mono ?_; rintro e w4 ⟨rfl, b4⟩)
      have A4 := Lib.hid (HA.out.drew.below b4)
      refine hK.out _ _ (ru_has A4.out) (fun _ => ?_)
      clear hK K
      refine wpAnyH_ready (rs := [15]) (by kernel_rfl) (by simp) (AllReadyH.cons (lit rfl) (fun K hK => ?_) AllReadyH.nil)
      go_simp
      go_wp2_with (go_at_call 21; refine (HW.out _ A4.out).mono ?_; rintro e w5 ⟨rfl, a5⟩)
      have A5 := Lib.hid a5
      clear a5
      refine hK.out _ _ (ru_has A5.out) (fun _ => ?_)
      clear hK K
      refine wpAnyH_ready (rs := [16]) (by kernel_rfl) (by simp) (AllReadyH.cons (lit rfl) (fun K hK => ?_) AllReadyH.nil)
      go_simp
      refine hK.out _ _ (ru_has A5.out) (fun _ => ?_)
      clear hK K
      refine wpAnyH_done (by kernel_rfl) ?_ _
      have c9 := rtc_cell0 (ru_has A5.out)
      go_wp2_with fail
      refine (HF.out _ A5.out).mono ?_
      rintro e w6 ⟨rfl, a6⟩
      have A6 := Lib.hid a6
      clear a6
      have d4 := rtc_cell4 (ru_has A6.out)
      have f4 := (ru_has A6.out).free 4
      go_wp2
      go_ret
      exact ⟨rfl, ru_lose A6.out⟩
  · obtain ⟨q1, q2, q3, q4⟩ := HBAD.out (by rw [if_pos hw]; exact hw)
    rw [if_pos hw] at q1 q2
    rw [q1, q2, q3, q4]
    clear q1 q2 q3 q4
    have hne : (we != 0) = true := by simpa using hw
    have hne2 : (we == 0) = false := by simpa using hw
    clear HFL HOK HBAD hw
    go_enter Try.func23, Try.ntmps23
    go_wp2_with fail
    refine wp_region_held_drew (S := fun w' => Has w' gu 47 (rtc g a H false)) (by kernel_rfl) (ru_has HA.out.drew) (fun hS => ?_)
    refine wpAnyH_take (i := 0) (v := (.pointer (some ⟨gu, 0, none⟩))) (lit rfl) (by kernel_rfl) (by kernel_rfl) (by kernel_rfl) (fun _ _ _ h => h) (Or.inl ⟨by rfl, fun w _ => by go_simp⟩) hS ?_
    simp only [Act.put, List.setIfInBounds_toArray, List.set_cons_zero, List.set_cons_succ]
    refine wpAnyH_take (i := 1) (v := (.pointer (some ⟨gu, 0, none⟩))) (lit rfl) (by kernel_rfl) (by kernel_rfl) (by kernel_rfl) (fun _ _ _ h => h) (Or.inl ⟨by rfl, fun w _ => by go_simp⟩) hS ?_
    simp only [Act.put, List.setIfInBounds_toArray, List.set_cons_zero, List.set_cons_succ]
    refine wpAnyH_take (i := 2) (v := (.pointer (some ⟨gu, 0, none⟩))) (lit rfl) (by kernel_rfl) (by kernel_rfl) (by kernel_rfl) (fun _ _ _ h => h) (Or.inl ⟨by rfl, fun w _ => by go_simp⟩) hS ?_
    simp only [Act.put, List.setIfInBounds_toArray, List.set_cons_zero, List.set_cons_succ]
    refine wpAnyH_take (i := 3) (v := (.pointer (some ⟨g, 0, none⟩))) (lit rfl) (by kernel_rfl) (by kernel_rfl) (by kernel_rfl) (fun _ _ _ h => h) (Or.inl ⟨by rfl, fun w hw => by have hc := rtc_cell0 hw; go_simp⟩) hS ?_
    simp only [Act.put, List.setIfInBounds_toArray, List.set_cons_zero, List.set_cons_succ]
    refine wpAnyH_take (i := 4) (v := (.pointer (some ⟨gu, 0, none⟩))) (lit rfl) (by kernel_rfl) (by kernel_rfl) (by kernel_rfl) (fun _ _ _ h => h) (Or.inl ⟨by rfl, fun w _ => by go_simp⟩) hS ?_
    simp only [Act.put, List.setIfInBounds_toArray, List.set_cons_zero, List.set_cons_succ]
    refine wpAnyH_take (i := 5) (v := (.pointer (some ⟨gu, 0, none⟩))) (lit rfl) (by kernel_rfl) (by kernel_rfl) (by kernel_rfl) (fun _ _ _ h => h) (Or.inl ⟨by rfl, fun w _ => by go_simp⟩) hS ?_
    simp only [Act.put, List.setIfInBounds_toArray, List.set_cons_zero, List.set_cons_succ]
    refine wpAnyH_take (i := 6) (v := (.pointer (some ⟨gu, 1, none⟩))) (lit rfl) (by kernel_rfl) (by kernel_rfl) (by kernel_rfl) (fun _ _ _ h => h) (Or.inl ⟨by rfl, fun w _ => by go_simp⟩) hS ?_
    simp only [Act.put, List.setIfInBounds_toArray, List.set_cons_zero, List.set_cons_succ]
    refine wpAnyH_take (i := 7) (v := (.int .i64 a)) (lit rfl) (by kernel_rfl) (by kernel_rfl) (by kernel_rfl) (fun _ _ _ h => h) (Or.inl ⟨by rfl, fun w hw => by have hc := rtc_cell1 hw; go_simp⟩) hS ?_
    simp only [Act.put, List.setIfInBounds_toArray, List.set_cons_zero, List.set_cons_succ]
    refine wpAnyH_take (i := 8) (v := (.int .u64 n1)) (lit rfl) (by kernel_rfl) (by kernel_rfl) (by kernel_rfl) (fun _ _ _ h => h) (Or.inl ⟨by rfl, fun w _ => by go_simp⟩) hS ?_
    simp only [Act.put, List.setIfInBounds_toArray, List.set_cons_zero, List.set_cons_succ]
    refine wpAnyH_take (i := 9) (v := (.int .u64 od)) (lit rfl) (by kernel_rfl) (by kernel_rfl) (by kernel_rfl) (fun _ _ _ h => h) (Or.inl ⟨by rfl, fun w _ => by go_simp⟩) hS ?_
    simp only [Act.put, List.setIfInBounds_toArray, List.set_cons_zero, List.set_cons_succ]
    refine wpAnyH_take (i := 10) (v := (.int .i64 od)) (lit rfl) (by kernel_rfl) (by kernel_rfl) (by kernel_rfl) (fun _ _ _ h => h) (Or.inl ⟨by rfl, fun w _ => by go_simp⟩) hS ?_
    simp only [Act.put, List.setIfInBounds_toArray, List.set_cons_zero, List.set_cons_succ]
    refine wpAnyH_take (i := 11) (v := (.int .i64 (a + od))) (lit rfl) (by kernel_rfl) (by kernel_rfl) (by kernel_rfl) (fun _ _ _ h => h) (Or.inl ⟨by rfl, fun w _ => by go_simp⟩) hS ?_
    simp only [Act.put, List.setIfInBounds_toArray, List.set_cons_zero, List.set_cons_succ]
    refine wpAnyH_take (i := 12) (v := (.int .u64 n1)) (lit rfl) (by kernel_rfl) (by kernel_rfl) (by kernel_rfl) (fun _ _ _ h => h) (Or.inl ⟨by rfl, fun w _ => by go_simp⟩) hS ?_
    simp only [Act.put, List.setIfInBounds_toArray, List.set_cons_zero, List.set_cons_succ]
    refine wpAnyH_take (i := 13) (v := (.string ⟨t.toArray⟩)) (lit rfl) (by kernel_rfl) (by kernel_rfl) (by kernel_rfl) (fun _ _ _ h => h) (Or.inl ⟨by rfl, fun w _ => by go_simp⟩) hS ?_
    simp only [Act.put, List.setIfInBounds_toArray, List.set_cons_zero, List.set_cons_succ]
    refine wpAnyH_ready (rs := [14]) (by kernel_rfl) (by simp) (AllReadyH.cons (lit rfl) (fun K hK => ?_) AllReadyH.nil)
    go_simp
    go_wp2_with (go_at_call 40; refine (HSEC.out _).mono ?_; rintro e w4 ⟨rfl, b4⟩)
    have A4 := Lib.hid (HA.out.drew.below b4)
    refine hK.out _ _ (ru_has A4.out) (fun _ => ?_)
    clear hK K
    refine wpAnyH_ready (rs := [15]) (by kernel_rfl) (by simp) (AllReadyH.cons (lit rfl) (fun K hK => ?_) AllReadyH.nil)
    go_simp
    go_wp2_with (go_at_call 21; refine (HW.out _ A4.out).mono ?_; rintro e w5 ⟨rfl, a5⟩)
    have A5 := Lib.hid a5
    clear a5
    refine hK.out _ _ (ru_has A5.out) (fun _ => ?_)
    clear hK K
    refine wpAnyH_ready (rs := [16]) (by kernel_rfl) (by simp) (AllReadyH.cons (lit rfl) (fun K hK => ?_) AllReadyH.nil)
    go_simp
    refine hK.out _ _ (ru_has A5.out) (fun _ => ?_)
    clear hK K
    refine wpAnyH_done (by kernel_rfl) ?_ _
    have d4 := rtc_cell4 (ru_has A5.out)
    have f4 := (ru_has A5.out).free 4
    go_wp2
    go_ret
    exact ⟨rfl, ru_lose A5.out⟩
theorem ru_set (h : All w0 w (Ru w0.heap.size gu g a H lost :: Rf w0.heap.size g S :: Ps)) (h0 : 0 ≤ a) (h1 : a ≤ 4096) (t : List UInt8) (ht : t.length ≤ 9223372036854775807) (hlen : S.un.length < 999999990) :
    Calls Try.prog 23 #[.pointer (some ⟨gu, 0, none⟩), .string ⟨t.toArray⟩] w fun e w' => e = .returned (.int .i64 (setE S a H lost t)) ∧ All w0 w' (Ru w0.heap.size gu g a (setH S a H lost t) (setL S a H lost t) :: Rf w0.heap.size g (setS S a H lost t) :: Ps) := by
  by_cases hm : may S H lost t = 0
  · exact ru_set_do h h0 h1 t hlen hm
  · exact ru_set_not h t ht hm
end
end RU
end Go.Proofs.Ytjdkmafbogaboaa
