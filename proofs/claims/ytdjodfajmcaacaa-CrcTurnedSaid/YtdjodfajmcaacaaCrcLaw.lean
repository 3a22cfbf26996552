/- The walk over what the statements of layer 2 share: works. -/
import Derived.Test.YtdjodfajmcaacaaCrcSeal
namespace Go.Proofs.Ytdjodfajmcaacaa
open Go.RowKit Go.Lib CM MM CS CE
namespace CL
theorem seal_a : sealB [97] = [97, 67, 190, 183, 232] := by decide +kernel
theorem seal_9 : sealB [49, 50, 51, 52, 53, 54, 55, 56, 57] = [49, 50, 51, 52, 53, 54, 55, 56, 57, 38, 57, 244, 203] := by decide +kernel
theorem sum_0 : sumB [] = 0 := by decide +kernel
theorem sum_9 : sumB [49, 50, 51, 52, 53, 54, 55, 56, 57] = 3421780262 := by decide +kernel
theorem open_a : opened [97, 67, 190, 183, 232] = [97] ∧ isSealed [97, 67, 190, 183, 232] = true := by decide +kernel
theorem open_0 : opened [] = [] ∧ isSealed [] = false := by decide +kernel
theorem open_abc : opened [97, 98, 99] = [] ∧ isSealed [97, 98, 99] = false := by decide +kernel
theorem open_00 : opened [0, 0, 0, 0] = [] ∧ isSealed [0, 0, 0, 0] = true := by decide +kernel

/-- Sum, of a text that is known. -/
theorem sum_at (l : List UInt8) (n : Nat) (h : sumB l = n) (hl : l.length ≤ 9223372036854775807) (w : World) :
    Calls Try.prog 9 #[.string ⟨l.toArray⟩] w fun e w' => e = .returned (.int .u32 n) ∧ Below w.heap.size w w' := by
  have := sum_walk l hl w
  rw [h] at this
  exact this
theorem seal_at (l t : List UInt8) (h : sealB l = t) (hl : l.length ≤ 4611686018427387904) (w : World) :
    Calls Try.prog 11 #[.string ⟨l.toArray⟩] w fun e w' => e = .returned (.string ⟨t.toArray⟩) ∧ Below w.heap.size w w' := by
  have := seal_walk l hl w
  rw [h] at this
  exact this
theorem open_at (l t : List UInt8) (b : Bool) (h : opened l = t ∧ isSealed l = b) (hl : l.length ≤ 4611686018427387904) (w : World) :
    Calls Try.prog 14 #[.string ⟨l.toArray⟩] w fun e w' => e = .returned (.tuple #[.string ⟨t.toArray⟩, .bool b]) ∧ Below w.heap.size w w' := by
  have := open_walk l hl w
  unfold OpenEnd at this
  rw [h.1, h.2] at this
  exact this

set_option maxRecDepth 100000 in
set_option maxHeartbeats 1000000 in
theorem works_walk (w : World) :
    Calls Try.prog 13 #[] w fun e w' => e = .returned (.bool true) ∧ Below w.heap.size w w' := by
  go_enter Try.func13, Try.ntmps13
  go_wp2_with fail
  refine (seal_at _ _ seal_a (by simp) _).mono ?_
  rintro e w1 ⟨rfl, b1⟩
  go_wp2_with fail
  refine (open_at _ _ _ open_a (by simp) _).mono ?_
  rintro e w2 ⟨rfl, b2⟩
  go_wp2_with fail
  refine (open_at _ _ _ open_0 (by simp) _).mono ?_
  rintro e w3 ⟨rfl, b3⟩
  go_wp2_with fail
  refine (open_at _ _ _ open_abc (by simp) _).mono ?_
  rintro e w4 ⟨rfl, b4⟩
  go_wp2_with fail
  refine (open_at _ _ _ open_00 (by simp) _).mono ?_
  rintro e w5 ⟨rfl, b5⟩
  have B2 := b1.trans (b2.mono b1.size)
  have B3 := B2.trans (b3.mono B2.size)
  have B4 := B3.trans (b4.mono B3.size)
  have B5 := B4.trans (b5.mono B4.size)
  clear b1 b2 b3 b4 b5 B2 B3 B4
  go_wp2_with fail
  refine (sum_at _ _ sum_0 (by simp) _).mono ?_
  rintro e w6 ⟨rfl, b6⟩
  have B6 := B5.trans (b6.mono B5.size)
  clear b6 B5
  go_wp2_with fail
  refine (sum_at _ _ sum_9 (by simp) _).mono ?_
  rintro e w7 ⟨rfl, b7⟩
  have B7 := B6.trans (b7.mono B6.size)
  clear b7 B6
  go_wp2_with fail
  refine (seal_at _ _ seal_9 (by simp) _).mono ?_
  rintro e w8 ⟨rfl, b8⟩
  have B8 := B7.trans (b8.mono B7.size)
  clear b8 B7
  go_wp2
  go_ret
  exact ⟨rfl, B8⟩
end CL
end Go.Proofs.Ytdjodfajmcaacaa
