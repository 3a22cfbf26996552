/- A tape works: what every statement ends with. -/
import Derived.Test.YtkhdidhpcdlmcaaTapeBegin
namespace Go.Proofs.Ytkhdidhpcdlmcaa
set_option maxRecDepth 100000
open Go.RowKit Go.Lib MM MF DM DK DN MY TM TO TD DP TP RN PL TF TR TQ BL FL TA TZ TI TJ TK TN2 TO2 TD2 TV TU TT DW DF DU TG TW
namespace TX
def wT1 : TS := appT 1 T0 [97, 98]
def wR : Int × St × List UInt8 × Bool := flR 1 0 wT1 (S1 1) (half 1 []) false
def wT2 : TS := flT 1 0 wT1 (S1 1) (half 1 []) false
def wT3 : TS := appT 1 wT2 [99]
def wS4 : St := wakeS { wR.2.1 with on := false, fuse := 0 } []
theorem v1 : appE 1 T0 ([97, 98] : List UInt8).length = 0 := by kernel_rfl
theorem v2 : wR.1 = 0 := by kernel_rfl
theorem v3 : appE 1 wT2 ([99] : List UInt8).length = 0 := by kernel_rfl
theorem v4 : wT3.bs = [97, 98, 99] := by kernel_rfl
theorem v5 : wT3.over = false := by kernel_rfl
theorem v6 : openTE wS4 0 1 = 0 := by kernel_rfl
theorem v7 : (topT wS4 0 1).bs = [97, 98] := by kernel_rfl
theorem v8 : (topT wS4 0 1).over = false := by kernel_rfl
theorem v9 : (topT wS4 0 1).stable = 2 := by kernel_rfl
theorem u4 : wS4.un = [] := by kernel_rfl
section
variable {w0 w : World} {Ps : List (World → List Nat → Prop)}
set_option maxHeartbeats 4000000 in
theorem works_walk (hA : All w0 w Ps) : Calls Try.prog 20 #[] w fun e w' => e = .returned (.bool true) ∧ All w0 w' Ps := by
  have HB := Lib.hid (begun_walk hA 1 (by decide) (by decide))
  clear hA
  go_enter Try.func20, Try.ntmps20
  go_wp2_with (go_at_call 7; refine HB.out.mono ?_; rintro e w1 ⟨g, gT, gR, gt, rfl, A1⟩)
  have H2 := Lib.hid (ta_append A1 [97, 98] (by decide))
  rw [v1] at H2
  clear A1 HB
  go_wp2_with (go_at_call 15; refine H2.out.mono ?_; rintro e w2 ⟨rfl, A2⟩)
  have H3 : Hid (Calls Try.prog 24 #[.pointer (some ⟨gT, 0, none⟩)] w2 fun e w' => e = .returned (.int .i64 wR.1) ∧ All w0 w' (Tp w0.heap.size gT gR g gt 0 1 wT2 :: Ti w0.heap.size gt g 0 wR.2.2.1 wR.2.2.2 :: Di w0.heap.size g wR.2.1 :: Ps)) := Lib.hid (TG.flush_walk (T := wT1) A2 (by decide) (by decide) (by rw [un_z1]; decide))
  rw [v2] at H3
  clear A2 H2
  go_wp2_with (go_at_call 24; refine H3.out.mono ?_; rintro e w3 ⟨rfl, A3⟩)
  have H4 := Lib.hid (ta_append A3 [99] (by decide))
  rw [v3] at H4
  clear A3 H3
  go_wp2_with (go_at_call 15; refine H4.out.mono ?_; rintro e w4 ⟨rfl, A4⟩)
  have A5 : All w0 w4 (Di w0.heap.size g wR.2.1 :: Tp w0.heap.size gT gR g gt 0 1 wT3 :: Ti w0.heap.size gt g 0 wR.2.2.1 wR.2.2.2 :: Ps) := all_idx [_, _, _] 3 [2, 0, 1] A4 rfl (by decide)
  have H5 := Lib.hid (di_off A5)
  clear A5 A4 H4
  go_wp2_with (go_at_call 18; refine H5.out.mono ?_; rintro e w5 ⟨rfl, A6⟩)
  have H6 := Lib.hid (di_wake_nil A6)
  clear A6 H5
  go_wp2_with (go_at_call 19; refine H6.out.mono ?_; rintro e w6 ⟨rfl, A7⟩)
  have A8 : All w0 w6 (Di w0.heap.size g wS4 :: Tp w0.heap.size gT gR g gt 0 1 wT3 :: Ti w0.heap.size gt g 0 wR.2.2.1 wR.2.2.2 :: Ps) := A7
  have H7 := Lib.hid (open_walk2 A8 0 1 (by rw [u4]; decide))
  rw [v6] at H7
  clear A7 A8 H6
  go_wp2_with fail
  refine H7.out.mono ?_
  rintro e w7 ⟨v, rfl, hv⟩
  obtain ⟨gU, gRu, gtu, rfl, A9⟩ : ∃ gU gRu gtu, v = .pointer (some ⟨gU, 0, none⟩) ∧ All w0 w7 (Tp w0.heap.size gU gRu g gtu 0 1 (topT wS4 0 1) :: Ti w0.heap.size gtu g 0 (best (openS wS4 0) 0) false :: Di w0.heap.size g (openTS wS4 0 1) :: Tp w0.heap.size gT gR g gt 0 1 wT3 :: Ti w0.heap.size gt g 0 wR.2.2.1 wR.2.2.2 :: Ps) := by
    rcases hv with ⟨h1, _⟩ | ⟨_, gU, gRu, gtu, hv, h2⟩
    · exact absurd v6 h1
    · exact ⟨gU, gRu, gtu, hv, h2⟩
  clear hv H7
  have A10 : All w0 w7 (Tp w0.heap.size gT gR g gt 0 1 wT3 :: Tp w0.heap.size gU gRu g gtu 0 1 (topT wS4 0 1) :: Ti w0.heap.size gtu g 0 (best (openS wS4 0) 0) false :: Di w0.heap.size g (openTS wS4 0 1) :: Ti w0.heap.size gt g 0 wR.2.2.1 wR.2.2.2 :: Ps) := all_idx [_, _, _, _, _] 5 [3, 0, 1, 2, 4] A9 rfl (by decide)
  have H8 := Lib.hid (all_walk A10 v5)
  rw [v4] at H8
  clear A9 A10
  go_wp2_with (go_at_call 23; refine H8.out.mono ?_; rintro e w8 ⟨rfl, A11⟩; clear H8)
  have H9 := Lib.hid (all_walk A11.swap v8)
  rw [v7] at H9
  clear A11
  go_wp2_with (go_at_call 23; refine H9.out.mono ?_; rintro e w9 ⟨rfl, A12⟩; clear H9)
  have H10 := Lib.hid (ta_stable A12)
  rw [v9] at H10
  have HA := Lib.hid A12
  clear A12
  go_wp2_with (go_at_call 13; refine H10.out.mono ?_; rintro e w10 ⟨rfl, rfl⟩)
  go_ret
  exact ⟨rfl, HA.out.tail.tail.tail.tail.tail⟩
end
end TX
end Go.Proofs.Ytkhdidhpcdlmcaa
