/- The document's own answers on records and entries: May, stamp, bit. -/
import Derived.Test.YtkhdidhpcdlmcaaLrecAsk
namespace Go.Proofs.Ytkhdidhpcdlmcaa
set_option maxRecDepth 100000
open Go.RowKit Go.Lib MM MS DE LM LQ LC LA
namespace LF
theorem refStamp_walk (w : World) (n : Nat) (hn : n < 18446744073709551616) : Calls Try.prog 90 #[.int .u64 n] w fun e w' => e = .returned (.bool (stampB n)) ∧ w' = w := by
  unfold stampB
  by_cases h1 : 1 ≤ n
  · rw [decide_eq_true h1, Bool.true_and]
    have d1 : decide ((1 : Int) ≤ (n : Int)) = true := decide_eq_true (by omega)
    have d2 : decide ((n : Int) ≤ 1099511627776) = decide (n ≤ 1099511627776) := decide_eq_decide.2 (by omega)
    have D2 := Lib.hid d2
    clear d2
    go_enter Try.func90, Try.ntmps90
    go_wp2
    go_ret
    exact ⟨by rw [← D2.out]; rfl, rfl⟩
  · rw [decide_eq_false h1, Bool.false_and]
    have d1 : decide ((1 : Int) ≤ (n : Int)) = false := decide_eq_false (by omega)
    go_enter Try.func90, Try.ntmps90
    go_wp2
    go_ret
    exact ⟨rfl, rfl⟩
theorem refBit_walk (w : World) (b : Bool) : Calls Try.prog 75 #[.bool b] w fun r w' => r = .returned (.int .u64 (digit b)) ∧ w' = w := by
  cases b
  all_goals
    go_enter Try.func75, Try.ntmps75
    go_wp2
    go_ret
    exact ⟨rfl, rfl⟩
theorem refMay_walk (w : World) (x : Ro) : Calls Try.prog 32 #[.agg (ocells x).toArray] w fun e w' => e = .returned (.int .i64 (mayO x)) ∧ Below w.heap.size w w' := by
  obtain ⟨key, lsn, dl, val⟩ := x
  unfold ocells mayO
  have hz1 : (⟨key.toArray⟩ : ByteArray).size = key.length := rfl
  have hz2 : (⟨val.toArray⟩ : ByteArray).size = val.length := rfl
  have b1 : Below w.heap.size w (w.alloc (.cells #[.string ⟨key.toArray⟩, .int .u64 lsn, .bool dl, .string ⟨val.toArray⟩] 57)) := (Below.refl _ _).alloc (Nat.le_refl _) _
  have B1 := Lib.hid b1
  clear b1
  by_cases h1 : 16 < key.length
  · have d1 : decide ((16 : Int) < (key.length : Int)) = true := decide_eq_true (by omega)
    rw [if_pos (Or.inl h1)]
    go_enter Try.func32, Try.ntmps32
    go_wp2
    go_ret
    exact ⟨rfl, B1.out⟩
  · have d1 : decide ((16 : Int) < (key.length : Int)) = false := decide_eq_false (by omega)
    by_cases h2 : 24 < val.length
    · have d2 : decide ((24 : Int) < (val.length : Int)) = true := decide_eq_true (by omega)
      rw [if_pos (Or.inr h2)]
      go_enter Try.func32, Try.ntmps32
      go_wp2
      go_ret
      exact ⟨rfl, B1.out⟩
    · have d2 : decide ((24 : Int) < (val.length : Int)) = false := decide_eq_false (by omega)
      rw [if_neg (show ¬ (16 < key.length ∨ 24 < val.length) by omega)]
      by_cases h3 : key = []
      · subst h3
        rw [if_pos rfl]
        go_enter Try.func32, Try.ntmps32
        go_wp2
        go_ret
        exact ⟨rfl, B1.out⟩
      · rw [if_neg h3]
        obtain ⟨c, r, rfl⟩ := no_text h3
        have d1b : decide ((16 : Int) < (r.length : Int) + 1) = false := by
          rw [← d1]
          simp
        clear h3 h1
        cases dl with
        | false =>
          rw [if_neg (by simp)]
          go_enter Try.func32, Try.ntmps32
          go_wp2
          go_ret
          exact ⟨rfl, B1.out⟩
        | true =>
          by_cases h4 : val = []
          · subst h4
            rw [if_neg (by simp)]
            go_enter Try.func32, Try.ntmps32
            go_wp2
            go_ret
            exact ⟨rfl, B1.out⟩
          · rw [if_pos ⟨rfl, h4⟩]
            obtain ⟨c2, r2, rfl⟩ := no_text h4
            have d2b : decide ((24 : Int) < (r2.length : Int) + 1) = false := by
              rw [← d2]
              simp
            clear h4
            go_enter Try.func32, Try.ntmps32
            go_wp2
            go_ret
            exact ⟨rfl, B1.out⟩
end LF
end Go.Proofs.Ytkhdidhpcdlmcaa
