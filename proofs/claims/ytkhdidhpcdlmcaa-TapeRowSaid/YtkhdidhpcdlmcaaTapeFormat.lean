/- A tape's Format, and what speaks against a place. -/
import Derived.Test.YtkhdidhpcdlmcaaTapeTools
namespace Go.Proofs.Ytkhdidhpcdlmcaa
set_option maxRecDepth 100000
open Go.RowKit Go.Lib MM MF DM DK DW DF MY TM DP TP RN TF TR TQ BL FL TA TZ TT
namespace TK
/-- What speaks against a tape there, on a disk of L sectors. -/
def refT (L : Nat) (a n : Int) : Int := if a < 0 ∨ n < 1 ∨ (L : Int) < n ∨ (L : Int) - n - 2 < a then 2 else 0
section
variable {w0 w : World} {g : Nat} {S : St} {Ps : List (World → List Nat → Prop)}
theorem refusal_walk (hA : All w0 w (Di w0.heap.size g S :: Ps)) (a n : Int) :
    Calls Try.prog 40 #[.pointer (some ⟨g, 0, none⟩), .int .i64 a, .int .i64 n] w fun e w' => e = .returned (.int .i64 (refT S.fl.length a n)) ∧ w' = w := by
  have hL : S.fl.length ≤ 4096 := (di_ok hA).2.2.1
  have HD := Lib.hid (di_len hA)
  obtain ⟨L, eL⟩ : ∃ L, L = S.fl.length := ⟨_, rfl⟩
  rw [← eL] at hL HD ⊢
  clear eL
  by_cases h1 : a < 0
  · have hr : refT L a n = 2 := by unfold refT; rw [if_pos (.inl h1)]
    rw [hr]
    have d1 : decide (a < 0) = true := decide_eq_true h1
    go_enter Try.func40, Try.ntmps40
    go_wp2
    go_ret
    exact ⟨rfl, rfl⟩
  have d1 : decide (a < 0) = false := decide_eq_false h1
  by_cases h2 : n < 1
  · have hr : refT L a n = 2 := by unfold refT; rw [if_pos (.inr (.inl h2))]
    rw [hr]
    go_enter Try.func40, Try.ntmps40
    go_wp2
    go_ret
    exact ⟨rfl, rfl⟩
  have d2 : decide (n < 1) = false := decide_eq_false h2
  by_cases h3 : (L : Int) < n
  · have hr : refT L a n = 2 := by unfold refT; rw [if_pos (.inr (.inr (.inl h3)))]
    rw [hr]
    go_enter Try.func40, Try.ntmps40
    go_wp2_with (go_at_call 94; refine HD.out.mono ?_; rintro e w1 ⟨rfl, rfl⟩)
    go_ret
    exact ⟨rfl, rfl⟩
  have d3 : decide ((L : Int) < n) = false := decide_eq_false h3
  obtain ⟨m, rfl⟩ : ∃ m : Nat, n = m := ⟨n.toNat, by omega⟩
  by_cases h4 : (L : Int) - (m : Int) - 2 < a
  · have hr : refT L a m = 2 := by unfold refT; rw [if_pos (.inr (.inr (.inr h4)))]
    rw [hr]
    have d4 : decide ((L : Int) - (m : Int) - 2 < a) = true := decide_eq_true h4
    go_enter Try.func40, Try.ntmps40
    go_wp2_with (go_at_call 94; refine HD.out.mono ?_; rintro e w1 ⟨rfl, rfl⟩)
    go_ret
    exact ⟨rfl, rfl⟩
  · have hr : refT L a m = 0 := by unfold refT; rw [if_neg (by omega)]
    rw [hr]
    have d4 : decide ((L : Int) - (m : Int) - 2 < a) = false := decide_eq_false h4
    go_enter Try.func40, Try.ntmps40
    go_wp2_with (go_at_call 94; refine HD.out.mono ?_; rintro e w1 ⟨rfl, rfl⟩)
    go_ret
    exact ⟨rfl, rfl⟩
theorem fmt1_walk (bd ba bn : Nat) (a n : Int) (hA : All w0 w (Di w0.heap.size g S :: Bl w0.heap.size bn 3 [.int .i64 n] :: Bl w0.heap.size ba 3 [.int .i64 a] :: Bl w0.heap.size bd 25 [.pointer (some ⟨g, 0, none⟩)] :: Ps)) :
    Calls Try.prog 67 #[.pointer (some ⟨bd, 0, none⟩), .pointer (some ⟨ba, 0, none⟩), .pointer (some ⟨bn, 0, none⟩)] w fun e w' => e = .returned (.int .i64 (refT S.fl.length a n)) ∧ w' = w := by
  have c1 := (all_has hA (g := bd) (t := 25) (cs := [.pointer (some ⟨g, 0, none⟩)]) (by simp)).cell 0
  have c2 := (all_has hA (g := ba) (t := 3) (cs := [.int .i64 a]) (by simp)).cell 0
  have c3 := (all_has hA (g := bn) (t := 3) (cs := [.int .i64 n]) (by simp)).cell 0
  have HR := Lib.hid (refusal_walk hA a n)
  clear hA
  go_enter Try.func67, Try.ntmps67
  go_wp2_with (go_at_call 40; refine HR.out.mono ?_; rintro e w1 ⟨rfl, rfl⟩)
  go_ret
  exact ⟨rfl, rfl⟩
theorem fmt2_walk (bd ba bn : Nat) (a n : Int) (hA : All w0 w (Di w0.heap.size g S :: Bl w0.heap.size bn 3 [.int .i64 n] :: Bl w0.heap.size ba 3 [.int .i64 a] :: Bl w0.heap.size bd 25 [.pointer (some ⟨g, 0, none⟩)] :: Ps)) (hlen : S.un.length < 999999990) :
    Calls Try.prog 68 #[.pointer (some ⟨bd, 0, none⟩), .pointer (some ⟨ba, 0, none⟩)] w fun e w' => e = .returned (.int .i64 (fmtE S a)) ∧ All w0 w' (Di w0.heap.size g (fmtS S a) :: Bl w0.heap.size bn 3 [.int .i64 n] :: Bl w0.heap.size ba 3 [.int .i64 a] :: Bl w0.heap.size bd 25 [.pointer (some ⟨g, 0, none⟩)] :: Ps) := by
  have c1 := (all_has hA (g := bd) (t := 25) (cs := [.pointer (some ⟨g, 0, none⟩)]) (by simp)).cell 0
  have c2 := (all_has hA (g := ba) (t := 3) (cs := [.int .i64 a]) (by simp)).cell 0
  have HR := Lib.hid (ti_format hA a hlen)
  clear hA
  go_enter Try.func68, Try.ntmps68
  go_wp2_with (go_at_call 69; refine HR.out.mono ?_; rintro e w1 ⟨rfl, A1⟩)
  have HA := Lib.hid A1
  clear A1
  go_wp2
  go_ret
  exact ⟨rfl, HA.out⟩
/-- What Format answers, and leaves. -/
def tfE (S : St) (a n : Int) : Int := if refT S.fl.length a n ≠ 0 then refT S.fl.length a n else fmtE S a
def tfS (S : St) (a n : Int) : St := if refT S.fl.length a n ≠ 0 then S else fmtS S a
theorem ent_f1 : Ent 67 := enters_of Try.func67 (by kernel_rfl) rfl
theorem ent_f2 : Ent 68 := enters_of Try.func68 (by kernel_rfl) rfl
theorem format_walk2 (hA : All w0 w (Di w0.heap.size g S :: Ps)) (a n : Int) (hlen : S.un.length < 999999990) :
    Calls Try.prog 28 #[.pointer (some ⟨g, 0, none⟩), .int .i64 a, .int .i64 n] w fun e w' => e = .returned (.int .i64 (tfE S a n)) ∧ All w0 w' (Di w0.heap.size g (tfS S a n) :: Ps) := by
  have hA3 := bl_new (bl_new (bl_new hA 25 [.pointer (some ⟨g, 0, none⟩)]) 3 [.int .i64 a]) 3 [.int .i64 n]
  simp only [World.size_alloc] at hA3
  obtain ⟨bd, ebd⟩ : ∃ bd, bd = w.heap.size := ⟨_, rfl⟩
  obtain ⟨ba, eba⟩ : ∃ ba, ba = w.heap.size + 1 := ⟨_, rfl⟩
  obtain ⟨bn, ebn⟩ : ∃ bn, bn = w.heap.size + 1 + 1 := ⟨_, rfl⟩
  have A5 := bl_new hA3 51 [.func (.func 67) #[] #[.pointer (some ⟨bd, 0, none⟩), .pointer (some ⟨ba, 0, none⟩), .pointer (some ⟨bn, 0, none⟩)], .func (.func 68) #[] #[.pointer (some ⟨bd, 0, none⟩), .pointer (some ⟨ba, 0, none⟩)]]
  simp only [World.size_alloc] at A5
  rw [← ebn, ← eba, ← ebd] at A5
  go_enter Try.func28, Try.ntmps28
  go_wp2_with fail
  rw [← ebn, ← eba, ← ebd]
  clear ebn eba ebd hA3
  change All w0 ((((w.alloc (Obj.cells #[Value.pointer (some { block := g, off := 0 })] 25)).alloc (Obj.cells #[Value.int IntKind.i64 a] 3)).alloc (Obj.cells #[Value.int IntKind.i64 n] 3)).alloc (Obj.cells #[.func (.func 67) #[] #[.pointer (some ⟨bd, 0, none⟩), .pointer (some ⟨ba, 0, none⟩), .pointer (some ⟨bn, 0, none⟩)], .func (.func 68) #[] #[.pointer (some ⟨bd, 0, none⟩), .pointer (some ⟨ba, 0, none⟩)]] 51)) _ at A5
  generalize ((((w.alloc (Obj.cells #[Value.pointer (some { block := g, off := 0 })] 25)).alloc (Obj.cells #[Value.int IntKind.i64 a] 3)).alloc (Obj.cells #[Value.int IntKind.i64 n] 3)).alloc (Obj.cells #[.func (.func 67) #[] #[.pointer (some ⟨bd, 0, none⟩), .pointer (some ⟨ba, 0, none⟩), .pointer (some ⟨bn, 0, none⟩)], .func (.func 68) #[] #[.pointer (some ⟨bd, 0, none⟩), .pointer (some ⟨ba, 0, none⟩)]] 51)) = y at *
  generalize bn + 1 = gb at *
  have A6 : All w0 y (Di w0.heap.size g S :: Bl w0.heap.size bn 3 [.int .i64 n] :: Bl w0.heap.size ba 3 [.int .i64 a] :: Bl w0.heap.size bd 25 [.pointer (some ⟨g, 0, none⟩)] :: Bl w0.heap.size gb 51 [.func (.func 67) #[] #[.pointer (some ⟨bd, 0, none⟩), .pointer (some ⟨ba, 0, none⟩), .pointer (some ⟨bn, 0, none⟩)], .func (.func 68) #[] #[.pointer (some ⟨bd, 0, none⟩), .pointer (some ⟨ba, 0, none⟩)]] :: Ps) := all_idx [_, _, _, _, _] 5 [4, 1, 2, 3, 0] A5 rfl (by decide)
  refine (first_walk y gb 2 2 (by decide) (by decide) (fun i W => if i = 0 then All w0 W (Di w0.heap.size g S :: Bl w0.heap.size bn 3 [.int .i64 n] :: Bl w0.heap.size ba 3 [.int .i64 a] :: Bl w0.heap.size bd 25 [.pointer (some ⟨g, 0, none⟩)] :: Bl w0.heap.size gb 51 [.func (.func 67) #[] #[.pointer (some ⟨bd, 0, none⟩), .pointer (some ⟨ba, 0, none⟩), .pointer (some ⟨bn, 0, none⟩)], .func (.func 68) #[] #[.pointer (some ⟨bd, 0, none⟩), .pointer (some ⟨ba, 0, none⟩)]] :: Ps) else if i = 1 then (refT S.fl.length a n = 0 ∧ All w0 W (Di w0.heap.size g S :: Bl w0.heap.size bn 3 [.int .i64 n] :: Bl w0.heap.size ba 3 [.int .i64 a] :: Bl w0.heap.size bd 25 [.pointer (some ⟨g, 0, none⟩)] :: Bl w0.heap.size gb 51 [.func (.func 67) #[] #[.pointer (some ⟨bd, 0, none⟩), .pointer (some ⟨ba, 0, none⟩), .pointer (some ⟨bn, 0, none⟩)], .func (.func 68) #[] #[.pointer (some ⟨bd, 0, none⟩), .pointer (some ⟨ba, 0, none⟩)]] :: Ps)) else (refT S.fl.length a n = 0 ∧ fmtE S a = 0 ∧ All w0 W (Di w0.heap.size g (fmtS S a) :: Bl w0.heap.size bn 3 [.int .i64 n] :: Bl w0.heap.size ba 3 [.int .i64 a] :: Bl w0.heap.size bd 25 [.pointer (some ⟨g, 0, none⟩)] :: Bl w0.heap.size gb 51 [.func (.func 67) #[] #[.pointer (some ⟨bd, 0, none⟩), .pointer (some ⟨ba, 0, none⟩), .pointer (some ⟨bn, 0, none⟩)], .func (.func 68) #[] #[.pointer (some ⟨bd, 0, none⟩), .pointer (some ⟨ba, 0, none⟩)]] :: Ps)))
    (fun c W => c = tfE S a n ∧ All w0 W (Di w0.heap.size g (tfS S a n) :: Bl w0.heap.size bn 3 [.int .i64 n] :: Bl w0.heap.size ba 3 [.int .i64 a] :: Bl w0.heap.size bd 25 [.pointer (some ⟨g, 0, none⟩)] :: Bl w0.heap.size gb 51 [.func (.func 67) #[] #[.pointer (some ⟨bd, 0, none⟩), .pointer (some ⟨ba, 0, none⟩), .pointer (some ⟨bn, 0, none⟩)], .func (.func 68) #[] #[.pointer (some ⟨bd, 0, none⟩), .pointer (some ⟨ba, 0, none⟩)]] :: Ps)) [.func (.func 67) #[] #[.pointer (some ⟨bd, 0, none⟩), .pointer (some ⟨ba, 0, none⟩), .pointer (some ⟨bn, 0, none⟩)], .func (.func 68) #[] #[.pointer (some ⟨bd, 0, none⟩), .pointer (some ⟨ba, 0, none⟩)]] rfl ?_ A6 ?_).mono ?_
  · have key : ∀ W (Qs : List (World → List Nat → Prop)), All w0 W Qs → Bl w0.heap.size gb 51 [.func (.func 67) #[] #[.pointer (some ⟨bd, 0, none⟩), .pointer (some ⟨ba, 0, none⟩), .pointer (some ⟨bn, 0, none⟩)], .func (.func 68) #[] #[.pointer (some ⟨bd, 0, none⟩), .pointer (some ⟨ba, 0, none⟩)]] ∈ Qs → ∀ k, k < 2 → W.cell? ⟨gb, k, none⟩ = [.func (.func 67) #[] #[.pointer (some ⟨bd, 0, none⟩), .pointer (some ⟨ba, 0, none⟩), .pointer (some ⟨bn, 0, none⟩)], .func (.func 68) #[] #[.pointer (some ⟨bd, 0, none⟩), .pointer (some ⟨ba, 0, none⟩)]][k]? := fun W Qs hA hm k hk => (all_has hA hm).cell k
    intro i W hi
    by_cases i0 : i = 0
    · rw [if_pos i0] at hi
      exact key W _ hi (by simp)
    · rw [if_neg i0] at hi
      by_cases i1 : i = 1
      · rw [if_pos i1] at hi
        exact key W _ hi.2 (by simp)
      · rw [if_neg i1] at hi
        exact key W _ hi.2.2 (by simp)
  · intro i W v hi hv
    match i, hi, hv with
    | 0, hi, hv =>
      rw [if_pos rfl] at hi
      simp only [List.getElem?_cons_zero, Option.some.injEq] at hv
      subst hv
      refine ⟨_, _, _, rfl, ent_f1, (fmt1_walk bd ba bn a n hi).mono ?_⟩
      rintro e W' ⟨rfl, rfl⟩
      refine ⟨_, rfl, ?_⟩
      by_cases hz : refT S.fl.length a n = 0
      · exact .inl ⟨hz, by rw [if_neg (by decide), if_pos rfl]; exact ⟨hz, hi⟩⟩
      · exact .inr ⟨hz, by unfold tfE; rw [if_pos hz], by unfold tfS; rw [if_pos hz]; exact hi⟩
    | 1, hi, hv =>
      rw [if_neg (by decide), if_pos rfl] at hi
      simp only [List.getElem?_cons_zero, List.getElem?_cons_succ, Option.some.injEq] at hv
      subst hv
      refine ⟨_, _, _, rfl, ent_f2, (fmt2_walk bd ba bn a n hi.2 hlen).mono ?_⟩
      rintro e W' ⟨rfl, hW⟩
      refine ⟨_, rfl, ?_⟩
      by_cases hz : fmtE S a = 0
      · exact .inl ⟨hz, by rw [if_neg (by decide), if_neg (by decide)]; exact ⟨hi.1, hz, hW⟩⟩
      · exact .inr ⟨hz, by unfold tfE; rw [if_neg (by rw [hi.1]; decide)], by unfold tfS; rw [if_neg (by rw [hi.1]; decide)]; exact hW⟩
    | i + 2, hi, hv => simp at hv
  · rintro e W' ⟨c, rfl, hx⟩
    have hfin : c = tfE S a n ∧ All w0 W' (Di w0.heap.size g (tfS S a n) :: Bl w0.heap.size bn 3 [.int .i64 n] :: Bl w0.heap.size ba 3 [.int .i64 a] :: Bl w0.heap.size bd 25 [.pointer (some ⟨g, 0, none⟩)] :: Bl w0.heap.size gb 51 [.func (.func 67) #[] #[.pointer (some ⟨bd, 0, none⟩), .pointer (some ⟨ba, 0, none⟩), .pointer (some ⟨bn, 0, none⟩)], .func (.func 68) #[] #[.pointer (some ⟨bd, 0, none⟩), .pointer (some ⟨ba, 0, none⟩)]] :: Ps) := by
      rcases hx with ⟨rfl, h1⟩ | ⟨h1, h2⟩
      · rw [if_neg (by decide), if_neg (by decide)] at h1
        exact ⟨by unfold tfE; rw [if_neg (by rw [h1.1]; decide)]; exact h1.2.1.symm, by unfold tfS; rw [if_neg (by rw [h1.1]; decide)]; exact h1.2.2⟩
      · exact h2
    have HW := Lib.hid (all_idx [_, _, _, _, _] 5 [1, 2, 3, 4, 0] hfin.2 rfl (by decide) : All w0 W' (Bl w0.heap.size bn 3 [.int .i64 n] :: Bl w0.heap.size ba 3 [.int .i64 a] :: Bl w0.heap.size bd 25 [.pointer (some ⟨g, 0, none⟩)] :: Bl w0.heap.size gb 51 [.func (.func 67) #[] #[.pointer (some ⟨bd, 0, none⟩), .pointer (some ⟨ba, 0, none⟩), .pointer (some ⟨bn, 0, none⟩)], .func (.func 68) #[] #[.pointer (some ⟨bd, 0, none⟩), .pointer (some ⟨ba, 0, none⟩)]] :: Di w0.heap.size g (tfS S a n) :: Ps))
    have hc := hfin.1
    rw [hc]
    clear hx hfin A6 A5 hc
    go_wp2
    go_ret
    exact ⟨rfl, HW.out.tail.tail.tail.tail⟩
end
end TK
end Go.Proofs.Ytkhdidhpcdlmcaa
