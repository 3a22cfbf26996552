/- The examples of the chapter, and others that are known: all as the document has them. No condition. -/
import Derived.Test.YtdjodfajmcaacaaCrcLaw
import Derived.Test.YtdjodfajmcaacaaLawKit
namespace Go.Proofs.Ytdjodfajmcaacaa
open Go.ChangeShapes Go.WideShapes Go.ChangeAt Go.RowKit Go.Lib CM MM CS CE CL LK
namespace CrcKnown
/-- The law answers true, and leaves what was there. -/
def Done (w : World) (e : Ending) (w' : World) : Prop := e = .returned (.bool true) ∧ Below w.heap.size w w'

theorem open_9 : opened [49, 50, 51, 52, 53, 54, 55, 56, 57, 38, 57, 244, 203] = [49, 50, 51, 52, 53, 54, 55, 56, 57] ∧ isSealed [49, 50, 51, 52, 53, 54, 55, 56, 57, 38, 57, 244, 203] = true := by decide +kernel
theorem open_turned : opened [49, 50, 51, 52, 53, 54, 55, 56, 57, 203, 244, 57, 38] = [] ∧ isSealed [49, 50, 51, 52, 53, 54, 55, 56, 57, 203, 244, 57, 38] = false := by decide +kernel
theorem open_three : opened [0, 0, 0] = [] ∧ isSealed [0, 0, 0] = false := by decide +kernel
theorem sum_a : sumB [97] = 3904355907 := by decide +kernel
theorem sum_abc : sumB [97, 98, 99] = 891568578 := by decide +kernel
theorem sum_fox : sumB [84, 104, 101, 32, 113, 117, 105, 99, 107, 32, 98, 114, 111, 119, 110, 32, 102, 111, 120, 32, 106, 117, 109, 112, 115, 32, 111, 118, 101, 114, 32, 116, 104, 101, 32, 108, 97, 122, 121, 32, 100, 111, 103] = 1095738169 := by decide +kernel
theorem sum_0000 : sumB [0, 0, 0, 0] = 558161692 := by decide +kernel

set_option maxRecDepth 100000 in
set_option maxHeartbeats 1000000 in
theorem walk (w : World) : Calls Try.prog 8 #[] w (Done w) := by
  go_enter Try.func8, Try.ntmps8
  go_wp2_with fail
  refine (open_at _ _ _ open_9 (by simp) _).mono ?_
  rintro e w1 ⟨rfl, b1⟩
  go_wp2_with fail
  refine (open_at _ _ _ open_turned (by simp) _).mono ?_
  rintro e w2 ⟨rfl, b2⟩
  go_wp2_with fail
  refine (open_at _ _ _ open_three (by simp) _).mono ?_
  rintro e w3 ⟨rfl, b3⟩
  go_wp2_with fail
  refine (works_walk _).mono ?_
  rintro e w4 ⟨rfl, b4⟩
  have B2 := b1.trans (b2.mono b1.size)
  have B3 := B2.trans (b3.mono B2.size)
  have B4 := B3.trans (b4.mono B3.size)
  clear b1 b2 b3 b4 B2 B3
  go_wp2_with fail
  refine (sum_at _ _ sum_a (by simp) _).mono ?_
  rintro e w5 ⟨rfl, b5⟩
  go_wp2_with fail
  refine (sum_at _ _ sum_abc (by simp) _).mono ?_
  rintro e w6 ⟨rfl, b6⟩
  go_wp2_with fail
  refine (sum_at _ _ sum_fox (by simp) _).mono ?_
  rintro e w7 ⟨rfl, b7⟩
  go_wp2_with fail
  refine (sum_at _ _ sum_0000 (by simp) _).mono ?_
  rintro e w8 ⟨rfl, b8⟩
  have B5 := B4.trans (b5.mono B4.size)
  have B6 := B5.trans (b6.mono B5.size)
  have B7 := B6.trans (b7.mono B6.size)
  have B8 := B7.trans (b8.mono B7.size)
  clear b5 b6 b7 b8 B4 B5 B6 B7
  go_wp2
  go_ret
  exact ⟨rfl, B8⟩

set_option maxRecDepth 100000 in
theorem lifted (os : Os) (started : os.Started) (H : Type) (enc : TypeId × Value → H) :
    ReturnsInHanded {} Try.checked os 8 .any (Rows.crcKnownSpec.pre6 enc Try.prog Try.f8 Rows.crcKnownRow.domain false) (Rows.crcKnownSpec.post enc Try.prog Try.f8 false true false false) := by
  refine returnsInHanded_of_change (C := Try.checked) own started (by kernel_rfl) Try.func8
    (ChangeSpec.witness6 (enc := enc) (C := Try.checked) false ⟨#[], #[], []⟩ 8 (by kernel_rfl) (by kernel_rfl) (by kernel_rfl) (by kernel_rfl)) ?_
  intro W base args ds gs before hval0 hW hcnd _
  have hval : ∀ (j : Nat) t v, Try.f8.params[j]? = some t → args[j]? = some v → Value.okWide Try.prog W .any base t v := hval0
  have hW' := hW
  obtain ⟨p, q, hA0, hV, rfl, hfz, hnd⟩ := hW
  have hA : DataW.TrodAll enc Try.prog W 0 (fun _ => true) true Try.f8.params.toList args.toList ds p := hA0
  rw [Try.params8] at hA hval
  obtain ⟨hargs, rfl, rfl⟩ := trodAll_nil hA
  obtain rfl : args = #[] := by cases args; simp_all
  obtain ⟨rfl, rfl⟩ := trodVars_none hV
  clear hA0 hval0
  have hc := walk W
  try rw [Array.toArray_toList] at hc
  refine hc.mono fun e W' ⟨he, hg⟩ => ?_
  subst he
  exact ⟨_, rfl, law_post rfl (by decide +kernel) (by kernel_rfl) rfl hW' hg⟩

theorem over : Rows.crcKnownRow.holds Try.pinned (OpenSpec.ofChange Rows.crcKnownSpec) :=
  OpenClaim.holds_of_wide 8 Try.f8 rfl rfl rfl rfl rfl rfl rfl ⟨rfl, rfl, rfl, rfl, rfl⟩ rfl rfl rfl rfl rfl (by kernel_rfl) Try.func8 (by kernel_rfl)
    (of_decide_eq_true (by kernel_rfl)) (by unfold Func.isWrapper; first | (rw [if_pos (by decide +kernel)]; kernel_rfl) | (rw [if_neg (by decide +kernel)]; exact ⟨rfl, rfl⟩))
    (fun os started H enc _ => lifted os started H enc)

theorem proved : Rows.CrcKnownSaid :=
  over
#print axioms proved
end CrcKnown
end Go.Proofs.Ytdjodfajmcaacaa
