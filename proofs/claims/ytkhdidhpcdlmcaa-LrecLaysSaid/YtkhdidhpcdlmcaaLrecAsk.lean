/- What speaks against an entry: Check. -/
import Derived.Test.YtkhdidhpcdlmcaaLrecCheck
namespace Go.Proofs.Ytkhdidhpcdlmcaa
set_option maxRecDepth 100000
open Go.RowKit Go.Lib MM MS DE LM LQ LC
namespace LA
/-- An entry's cells; its operations lie at v. -/
def ecells (e : En) (v : Value) : List Value := [.int .u64 e.ts, .int .u64 e.fst, v]
/-- An entry in memory: what it is, and that its numbers are such. -/
def Ew (w : World) (e : En) (v : Value) : Prop := Lst w 4 QO v e.ops ∧ e.ts < 18446744073709551616 ∧ e.fst < 18446744073709551616
theorem Ew.under {w w' : World} {e : En} {v : Value} (h : Ew w e v) (hb : Below w.heap.size w w') : Ew w' e v := ⟨h.1.under qo_firm hb, h.2⟩
section
variable {w : World} {b : Nat} {e : En} {v : Value}
theorem chk1_walk (hb : Has w b 60 (ecells e v)) (hE : Ew w e v) : Calls Try.prog 81 #[.pointer (some ⟨b, 0, none⟩)] w fun r w' => r = .returned (.bool (decide (6 < e.ops.length) || someO 3 e.ops)) ∧ Below w.heap.size w w' := by
  obtain ⟨hL, _, _⟩ := hE
  have c2 : w.cell? ⟨b, 2, none⟩ = some v := hb.cell 2
  have HS := Lib.hid (some_walk w v e.ops hL 3)
  obtain ⟨A, cap, rfl, hol⟩ := hL.form
  clear hb hL
  by_cases h1 : 6 < e.ops.length
  · have d1 : decide ((6 : Int) < (e.ops.length : Int)) = true := decide_eq_true (by omega)
    rw [decide_eq_true h1, Bool.true_or]
    clear h1
    go_enter Try.func81, Try.ntmps81
    go_wp2_with (go_at_call 82; refine HS.out.mono ?_; rintro r w2 ⟨rfl, b2⟩)
    go_ret
    exact ⟨rfl, Below.refl _ _⟩
  · have d1 : decide ((6 : Int) < (e.ops.length : Int)) = false := decide_eq_false (by omega)
    rw [decide_eq_false h1, Bool.false_or]
    clear h1
    go_enter Try.func81, Try.ntmps81
    go_wp2_with (go_at_call 82; refine HS.out.mono ?_; rintro r w2 ⟨rfl, b2⟩)
    go_ret
    exact ⟨rfl, b2⟩
theorem chk2_walk (hb : Has w b 60 (ecells e v)) (hE : Ew w e v) : Calls Try.prog 83 #[.pointer (some ⟨b, 0, none⟩)] w fun r w' => r = .returned (.bool (!stampB e.ts || !stampB e.fst)) ∧ Below w.heap.size w w' := by
  obtain ⟨_, h1, h2⟩ := hE
  have c0 : w.cell? ⟨b, 0, none⟩ = some (.int .u64 e.ts) := hb.cell 0
  have c1 : w.cell? ⟨b, 1, none⟩ = some (.int .u64 e.fst) := hb.cell 1
  have H1 := Lib.hid (stamp_walk w e.ts h1)
  have H2 := Lib.hid (stamp_walk w e.fst h2)
  clear hb h1 h2
  cases q1 : stampB e.ts with
  | false =>
    rw [q1] at H1
    go_enter Try.func83, Try.ntmps83
    go_wp2_with fail
    refine H1.out.mono ?_
    rintro r w2 ⟨rfl, rfl⟩
    go_wp2
    go_ret
    exact ⟨rfl, Below.refl _ _⟩
  | true =>
    rw [q1] at H1
    go_enter Try.func83, Try.ntmps83
    go_wp2_with fail
    refine H1.out.mono ?_
    rintro r w2 ⟨rfl, rfl⟩
    go_wp2_with fail
    refine H2.out.mono ?_
    rintro r w2 ⟨rfl, rfl⟩
    go_wp2
    go_ret
    exact ⟨by cases stampB e.fst <;> rfl, Below.refl _ _⟩
theorem chk3_walk (hb : Has w b 60 (ecells e v)) (hE : Ew w e v) : Calls Try.prog 85 #[.pointer (some ⟨b, 0, none⟩)] w fun r w' => r = .returned (.bool (decide (e.ops.length = 0) || someO 2 e.ops)) ∧ Below w.heap.size w w' := by
  obtain ⟨hL, _, _⟩ := hE
  have c2 : w.cell? ⟨b, 2, none⟩ = some v := hb.cell 2
  have HS := Lib.hid (some_walk w v e.ops hL 2)
  obtain ⟨A, cap, rfl, hol⟩ := hL.form
  clear hb hL
  by_cases h1 : e.ops.length = 0
  · have d1 : ((e.ops.length : Int) == 0) = true := beq_iff_eq.2 (by omega)
    have d2 : (e.ops.length == 0) = true := beq_iff_eq.2 h1
    rw [decide_eq_true h1, Bool.true_or]
    rw [h1] at c2
    clear d1 d2 h1 hol
    go_enter Try.func85, Try.ntmps85
    go_wp2_with (go_at_call 82; refine HS.out.mono ?_; rintro r w2 ⟨rfl, b2⟩)
    go_ret
    exact ⟨rfl, Below.refl _ _⟩
  · have d1 : ((e.ops.length : Int) == 0) = false := beq_eq_false_iff_ne.2 (by omega)
    have d2 : (e.ops.length == 0) = false := beq_eq_false_iff_ne.2 h1
    rw [decide_eq_false h1, Bool.false_or]
    go_enter Try.func85, Try.ntmps85
    go_wp2_with (go_at_call 82; refine HS.out.mono ?_; rintro r w2 ⟨rfl, b2⟩)
    go_ret
    exact ⟨rfl, b2⟩
theorem chk4_walk (hb : Has w b 60 (ecells e v)) (hE : Ew w e v) (hl : e.ops.length ≤ 6) : Calls Try.prog 86 #[.pointer (some ⟨b, 0, none⟩)] w fun r w' => r = .returned (.bool (twiceO [] e.ops)) ∧ Below w.heap.size w w' := by
  obtain ⟨hL, _, _⟩ := hE
  have c2 : w.cell? ⟨b, 2, none⟩ = some v := hb.cell 2
  have HS := Lib.hid (twice_walk w v e.ops hL hl)
  clear hb hL hl
  go_enter Try.func86, Try.ntmps86
  go_wp2_with (go_at_call 87; refine HS.out.mono ?_; rintro r w2 ⟨rfl, b2⟩)
  go_ret
  exact ⟨rfl, b2⟩
theorem chk5_walk (hb : Has w b 60 (ecells e v)) (hE : Ew w e v) (hl : e.ops.length ≤ 6) (hf : e.fst ≤ 1099511627776) : Calls Try.prog 88 #[.pointer (some ⟨b, 0, none⟩)] w fun r w' => r = .returned (.bool (!rowO e.fst e.ops)) ∧ Below w.heap.size w w' := by
  obtain ⟨hL, _, _⟩ := hE
  have c1 : w.cell? ⟨b, 1, none⟩ = some (.int .u64 e.fst) := hb.cell 1
  have c2 : w.cell? ⟨b, 2, none⟩ = some v := hb.cell 2
  have HS := Lib.hid (row_walk w v e.ops hL e.fst hf hl)
  clear hb hL hl hf
  go_enter Try.func88, Try.ntmps88
  go_wp2_with (go_at_call 89; refine HS.out.mono ?_; rintro r w2 ⟨rfl, b2⟩)
  go_ret
  exact ⟨rfl, b2⟩
end
theorem ent_chk1 : Ent 81 := enters_of Try.func81 (by kernel_rfl) rfl
theorem ent_chk2 : Ent 83 := enters_of Try.func83 (by kernel_rfl) rfl
theorem ent_chk3 : Ent 85 := enters_of Try.func85 (by kernel_rfl) rfl
theorem ent_chk4 : Ent 86 := enters_of Try.func86 (by kernel_rfl) rfl
theorem ent_chk5 : Ent 88 := enters_of Try.func88 (by kernel_rfl) rfl
def isBad (e : En) : List Bool := [!stampB e.ts || !stampB e.fst, decide (e.ops.length = 0) || someO 2 e.ops, twiceO [] e.ops, !rowO e.fst e.ops]
theorem checkE_judge (e : En) : checkE e = judgeOf (decide (6 < e.ops.length) || someO 3 e.ops) (isBad e) := by
  unfold checkE judgeOf isBad
  by_cases h1 : 6 < e.ops.length ∨ someO 3 e.ops = true
  · have hb : (decide (6 < e.ops.length) || someO 3 e.ops) = true := by simpa [Bool.or_eq_true, decide_eq_true_eq] using h1
    rw [hb, if_pos h1]
    rfl
  · have hb : (decide (6 < e.ops.length) || someO 3 e.ops) = false := by
      cases hq : (decide (6 < e.ops.length) || someO 3 e.ops) with
      | false => rfl
      | true => exact absurd (by simpa [Bool.or_eq_true, decide_eq_true_eq] using hq) h1
    rw [hb, if_neg h1]
    clear h1 hb
    simp only [List.any_cons, List.any_nil, id, Bool.or_false, Bool.false_eq_true, if_false]
    cases stampB e.ts <;> cases stampB e.fst <;> cases someO 2 e.ops <;> cases twiceO [] e.ops <;> cases rowO e.fst e.ops <;> by_cases h : e.ops = [] <;> simp [h]
def fours (b : Nat) : List Value := [.func (.func 83) #[] #[.pointer (some ⟨b, 0, none⟩)], .func (.func 85) #[] #[.pointer (some ⟨b, 0, none⟩)], .func (.func 86) #[] #[.pointer (some ⟨b, 0, none⟩)], .func (.func 88) #[] #[.pointer (some ⟨b, 0, none⟩)]]
theorem check_walk (w : World) (e : En) (v : Value) (hE : Ew w e v) : Calls Try.prog 33 #[.agg (ecells e v).toArray] w fun r w' => r = .returned (.int .i64 (checkE e)) ∧ Below w.heap.size w w' := by
  have hmf : ∀ (fn : Fn) (first cap : Array Value) (w : World), (Instr.makeFunc fn first cap).run Try.prog w = .ok (.func fn first cap) w := fun _ _ _ _ => rfl
  have HJ : ∀ w2 : World, w2 = (w.alloc (.cells (ecells e v).toArray 60)).alloc (.cells (fours w.heap.size).toArray 45) →
      Calls Try.prog 77 #[.func (.func 81) #[] #[.pointer (some ⟨w.heap.size, 0, none⟩)], .slice (some ⟨w.heap.size + 1, 0, none⟩) 4 4] w2 fun r w' => r = .returned (.int .i64 (checkE e)) ∧ Below w.heap.size w w' := by
    rintro w2 rfl
    have b1 : Below w.heap.size w (w.alloc (.cells (ecells e v).toArray 60)) := (Below.refl _ _).alloc (Nat.le_refl _) _
    have h1 : Has (w.alloc (.cells (ecells e v).toArray 60)) w.heap.size 60 (ecells e v) := heap_alloc_new _ _
    have h2 := h1.grow (.cells (fours w.heap.size).toArray 45)
    have h3 : Has ((w.alloc (.cells (ecells e v).toArray 60)).alloc (.cells (fours w.heap.size).toArray 45)) (w.heap.size + 1) 45 (fours w.heap.size) := by
      have := heap_alloc_new (w.alloc (.cells (ecells e v).toArray 60)) (.cells (fours w.heap.size).toArray 45)
      rw [World.size_alloc] at this
      exact this
    have b2 := b1.alloc (by rw [World.size_alloc]; exact Nat.le_succ _) (.cells (fours w.heap.size).toArray 45)
    have hE2 := hE.under b2
    rw [checkE_judge]
    refine (judge_walk _ _ (w.heap.size + 1) 4 _ (isBad e) _ (by decide) rfl rfl 45 h3 (so_of ent_chk1 (chk1_walk h2 hE2)) ?_).mono fun r w' ⟨he, hb⟩ => ⟨he, b2.trans (hb.mono b2.size)⟩
    intro hlong i W v' b hB hv hbv hj
    have h4 := h2.under hB h2.lt
    have hE3 := hE2.under hB
    have hl6 : e.ops.length ≤ 6 := by
      simp only [Bool.or_eq_false_iff, decide_eq_false_iff_not] at hlong
      omega
    match i, hv, hbv, hj with
    | 0, hv, hbv, _ =>
      injection hv with hv
      injection hbv with hbv
      subst hv hbv
      exact so_of ent_chk2 (chk2_walk h4 hE3)
    | 1, hv, hbv, _ =>
      injection hv with hv
      injection hbv with hbv
      subst hv hbv
      exact so_of ent_chk3 (chk3_walk h4 hE3)
    | 2, hv, hbv, _ =>
      injection hv with hv
      injection hbv with hbv
      subst hv hbv
      exact so_of ent_chk4 (chk4_walk h4 hE3 hl6)
    | 3, hv, hbv, hj =>
      injection hv with hv
      injection hbv with hbv
      subst hv hbv
      have h0 := hj 0 (by omega)
      simp only [isBad, List.getElem?_cons_zero, Option.some.injEq, Bool.or_eq_false_iff, Bool.not_eq_false'] at h0
      exact so_of ent_chk5 (chk5_walk h4 hE3 hl6 (stamp_le h0.2).2)
    | i + 4, hv, hbv, _ => simp [fours] at hv
  have HJ := Lib.hid HJ
  unfold fours at HJ
  unfold ecells at HJ ⊢
  clear hE
  go_enter Try.func33, Try.ntmps33
  go_wp2_with fail
  refine (HJ.out _ rfl).mono ?_
  rintro r w' ⟨rfl, hb⟩
  go_wp2
  go_ret
  exact ⟨rfl, hb⟩
end LA
end Go.Proofs.Ytkhdidhpcdlmcaa
