/- Bytes are read as an entry: must, readOp, read. -/
import Derived.Test.YtkhdidhpcdlmcaaLrecAsk
import Derived.Test.YtkhdidhpcdlmcaaWireRead
import Derived.Test.YtkhdidhpcdlmcaaResults
import Derived.Recover
import Derived.Defers
import Derived.WalkLawsBesides
namespace Go.Proofs.Ytkhdidhpcdlmcaa
set_option maxRecDepth 100000
open Go.RowKit Go.Lib MM MS DE WM WP WR CM CE LM LQ LC LA RS
namespace LR
/-- It gives up. -/
def Gave (e : Ending) : Prop := ∃ v : Value, e = .panicked [{ v := .iface 36 v, recovered := false }]
theorem must_yes (w : World) : Calls Try.prog 122 #[.bool true] w fun e w' => e = .returned (.tuple #[]) ∧ w' = w := by
  go_enter Try.func122, Try.ntmps122
  go_wp2
  go_end0
  exact ⟨rfl, rfl⟩
theorem must_no (w : World) : Calls Try.prog 122 #[.bool false] w fun e w' => Gave e ∧ w' = w := by
  go_enter Try.func122, Try.ntmps122
  go_wp2
  exact ⟨rfl, ⟨_, rfl⟩, rfl⟩
theorem numS_le (s : List UInt8) (b : Bool) : (numS s b).2.1.length ≤ s.length := by
  cases b with
  | true => rw [numS_bad]; exact Nat.le_refl _
  | false =>
    rcases hf : first s with _ | ⟨n, k⟩
    · rw [numS_none hf]; exact Nat.zero_le _
    · rw [numS_some hf]; simp
theorem textS_le (s : List UInt8) (b : Bool) : (textS s b).2.1.length ≤ s.length ∧ (textS s b).1.length ≤ s.length := by
  cases b with
  | true => rw [textS_bad]; exact ⟨Nat.le_refl _, Nat.zero_le _⟩
  | false =>
    rcases hf : first s with _ | ⟨n, k⟩
    · rw [textS_none hf]; exact ⟨Nat.zero_le _, Nat.zero_le _⟩
    · rcases Nat.lt_or_ge (s.drop k).length n with hl | hl
      · rw [textS_long hf hl]; exact ⟨Nat.zero_le _, Nat.zero_le _⟩
      · rw [textS_some hf hl]
        simp
        omega
theorem numS_u64 (s : List UInt8) (b : Bool) : (numS s b).1 < 18446744073709551616 := by
  cases b with
  | true => rw [numS_bad]; show (0 : Nat) < _; decide
  | false =>
    rcases hf : first s with _ | ⟨n, k⟩
    · rw [numS_none hf]; show (0 : Nat) < _; decide
    · rw [numS_some hf]; have := (first_some hf).2.2.2.1; simpa using this
/-- What readOp leaves. -/
def OpEnd (w : World) (g : Nat) (o : Option (Ro × List UInt8 × Bool)) (e : Ending) (w' : World) : Prop :=
  w.grownBy w' (some g) ∧ match o with
    | some (x, s1, b1) => e = .returned (.agg (ocells x).toArray) ∧ Rd w' g s1 b1
    | none => Gave e
set_option maxHeartbeats 1000000 in
theorem readOp_walk (w : World) (g : Nat) (s : List UInt8) (bad : Bool) (n : Nat) (hs : s.length ≤ 140737488355328) (h : Rd w g s bad) :
    Calls Try.prog 133 #[.pointer (some ⟨g, 0, none⟩), .int .u64 n] w (OpEnd w g (opS s bad n)) := by
  obtain ⟨w0, hw0⟩ : ∃ w0, w0 = w.alloc (.cells #[.string ⟨#[]⟩, .int .u64 0, .bool false, .string ⟨#[]⟩] 57) := ⟨_, rfl⟩
  have h0 : Rd w0 g s bad := by rw [hw0]; exact h.grow _
  have g0 : w.grownBy w0 (some g) := by rw [hw0]; exact only_of_under ((Below.refl _ _).alloc (Nat.le_refl _) _) _
  obtain ⟨bx, ebx⟩ : ∃ bx, bx = w.heap.size := ⟨_, rfl⟩
  have hr0 : Has w0 bx 57 [.string ⟨#[]⟩, .int .u64 0, .bool false, .string ⟨#[]⟩] := by rw [hw0, ebx]; exact heap_alloc_new _ _
  have hgx : some bx ≠ some g := by
    have := h.lt
    intro e
    injection e with e
    omega
  rcases hk : textS s bad with ⟨k, s1, b1⟩
  rcases hd : numS s1 b1 with ⟨d, s2, b2⟩
  rcases hv : textS s2 b2 with ⟨v, s3, b3⟩
  have l1 := textS_le s bad
  rw [hk] at l1
  have l2 := numS_le s1 b1
  rw [hd] at l2
  simp only at l1 l2
  have T1 := text_walk s bad hs g w0 h0
  rw [hk] at T1
  have T2 := Lib.hid (fun (w1 : World) (h1 : Rd w1 g s1 b1) => num_walk s1 b1 (by omega) g w1 h1)
  rw [hd] at T2
  have T3 := Lib.hid (fun (w1 : World) (h1 : Rd w1 g s2 b2) => text_walk s2 b2 (by omega) g w1 h1)
  rw [hv] at T3
  have ho : opS s bad n = if 1 < d then none else some (⟨k, n, d == 1, v⟩, s3, b3) := by
    unfold opS
    simp only [hk, hd, hv]
  have HO := Lib.hid ho
  have H1 := Lib.hid T1
  have HG0 := Lib.hid g0
  have HR0 := Lib.hid hr0
  clear ho T1 l1 l2 hk hd hv hs h0 g0 h hr0
  go_enter Try.func133, Try.ntmps133
  go_wp2_with fail
  rw [← hw0]
  clear hw0
  refine H1.out.mono ?_
  rintro e w1 ⟨rfl, r1, g1⟩
  have HG1 := Lib.hid (only_step HG0.out g1)
  have HR1 := Lib.hid (HR0.out.but g1 hgx)
  clear g1 HG0 HR0 H1
  go_wp2_with fail
  refine (T2.out w1 r1).mono ?_
  rintro e w2 ⟨rfl, r2, g2⟩
  have HG2 := Lib.hid (only_step HG1.out g2)
  have HR2 := Lib.hid (HR1.out.but g2 hgx)
  clear g2 HG1 HR1 T2 r1
  go_wp2_with fail
  refine (T3.out w2 r2).mono ?_
  rintro e w3 ⟨rfl, r3, g3⟩
  have HG3 := Lib.hid (only_step HG2.out g3)
  have HR3 := Lib.hid (HR2.out.but g3 hgx)
  clear g3 HG2 HR2 T3 r2
  by_cases hd1 : 1 < d
  · have dd : decide ((d : Int) ≤ 1) = false := decide_eq_false (by omega)
    have HON : Hid (opS s bad n = none) := Lib.hid (by rw [HO.out, if_pos hd1])
    clear hd1
    go_wp2_with (go_at_call 122; refine (must_no _).mono ?_; rintro e w4 ⟨⟨pv, rfl⟩, rfl⟩)
    refine ⟨rfl, ?_⟩
    unfold OpEnd
    rw [HON.out]
    exact ⟨HG3.out, ⟨_, rfl⟩⟩
  · have dd : decide ((d : Int) ≤ 1) = true := decide_eq_true (by omega)
    have HON : Hid (opS s bad n = some (⟨k, n, d == 1, v⟩, s3, b3)) := Lib.hid (by rw [HO.out, if_neg hd1])
    subst ebx
    have f0 := HR3.out.free 0
    have f1 := HR3.out.free 1
    have f2 := HR3.out.free 2
    have f3 := HR3.out.free 3
    have c0 : w3.cell? ⟨w.heap.size, 0, none⟩ = some (.string ⟨#[]⟩) := HR3.out.cell 0
    have c1 : w3.cell? ⟨w.heap.size, 1, none⟩ = some (.int .u64 0) := HR3.out.cell 1
    have c2 : w3.cell? ⟨w.heap.size, 2, none⟩ = some (.bool false) := HR3.out.cell 2
    have c3 : w3.cell? ⟨w.heap.size, 3, none⟩ = some (.string ⟨#[]⟩) := HR3.out.cell 3
    have hdd : d = 0 ∨ d = 1 := by omega
    clear hd1
    have hg : g ≠ w.heap.size := fun e => hgx (by rw [e])
    rcases hdd with rfl | rfl
    · go_wp2_with (go_at_call 122; refine (must_yes _).mono ?_; rintro e w4 ⟨rfl, rfl⟩)
      have HR4 := Lib.hid ((((HR3.out.put 0 (.string ⟨k.toArray⟩)).put 1 (.int .u64 n)).put 2 (.bool false)).put 3 (.string ⟨v.toArray⟩))
      refine bodyPost_ret (results_cell rfl _ _ w.heap.size 0 (ocells ⟨k, n, false, v⟩) _ rfl (has_range HR4.out) Try.underlying57 rfl (by kernel_rfl)) rfl ?_
      unfold OpEnd
      rw [HON.out]
      exact ⟨grow_new (grow_new (grow_new (grow_new HG3.out _ (Nat.le_refl _) _) _ (Nat.le_refl _) _) _ (Nat.le_refl _) _) _ (Nat.le_refl _) _, rfl, (((r3.far hg _).far hg _).far hg _).far hg _⟩
    · go_wp2_with (go_at_call 122; refine (must_yes _).mono ?_; rintro e w4 ⟨rfl, rfl⟩)
      have HR4 := Lib.hid ((((HR3.out.put 0 (.string ⟨k.toArray⟩)).put 1 (.int .u64 n)).put 2 (.bool true)).put 3 (.string ⟨v.toArray⟩))
      refine bodyPost_ret (results_cell rfl _ _ w.heap.size 0 (ocells ⟨k, n, true, v⟩) _ rfl (has_range HR4.out) Try.underlying57 rfl (by kernel_rfl)) rfl ?_
      unfold OpEnd
      rw [HON.out]
      exact ⟨grow_new (grow_new (grow_new (grow_new HG3.out _ (Nat.le_refl _) _) _ (Nat.le_refl _) _) _ (Nat.le_refl _) _) _ (Nat.le_refl _) _, rfl, (((r3.far hg _).far hg _).far hg _).far hg _⟩
end LR
end Go.Proofs.Ytkhdidhpcdlmcaa
