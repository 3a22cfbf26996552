/- The chapter's examples of tapes. -/
import Derived.Test.YtkenebghgapaaaaTapeNoDisk
import Derived.Test.YtkenebghgapaaaaLawKit
namespace Go.Proofs.Ytkenebghgapaaaa
set_option maxRecDepth 100000
open Go.ChangeShapes Go.WideShapes Go.ChangeAt Go.RowKit Go.Lib MM MF DM DK DN MY TM TO TD DP TP RN PL TF TR TQ BL FL TA TZ TI TJ TK TN2 TO2 TD2 TV TU TT DW DF DU TG TB TW TX TNo TNd LK
namespace TapeKnown
def sA : St := wR.2.1
def hA : List UInt8 := wR.2.2.1
def jA : Bool := wR.2.2.2
def t3 : TS := appT 1 wT2 (bytesL 120 126)
def t4 : TS := pubT sA 0 hA jA t3 2 [109]
def sB : St := pubS sA 0 hA jA t3 2 [109]
def hB : List UInt8 := pubH sA 0 hA jA t3 2 [109]
def jB : Bool := pubL sA 0 hA jA t3 2 [109]
def t5 : TS := appT 1 t4 [121, 122]
def rC : Int × St × List UInt8 × Bool := flR 1 0 t5 sB hB jB
def t6 : TS := flT 1 0 t5 sB hB jB
def sD : St := pubS rC.2.1 0 rC.2.2.1 rC.2.2.2 t6 3 [109]
def hD : List UInt8 := pubH rC.2.1 0 rC.2.2.1 rC.2.2.2 t6 3 [109]
def jD : Bool := pubL rC.2.1 0 rC.2.2.1 rC.2.2.2 t6 3 [109]
def t7 : TS := pubT rC.2.1 0 rC.2.2.1 rC.2.2.2 t6 3 [109]
def sE : St := { sD with on := false, fuse := 0 }
def t8 : TS := appT 1 t7 [113]
def rF : Int × St × List UInt8 × Bool := flR 1 0 t8 sE hD jD
def t9 : TS := flT 1 0 t8 sE hD jD
def sG : St := wakeS rF.2.1 []
def tU : TS := topT sG 0 1
theorem f1 : wT1.fin = 2 ∧ wT1.stable = 0 := by decide +kernel
theorem f2 : readL wT1 0 2 = [97, 98] ∧ readE wT1 0 2 = 0 ∧ readE wT1 1 2 = 6 ∧ readL wT1 1 2 = [] := by decide +kernel
theorem f3 : wT2.stable = 2 ∧ appE 1 wT2 (bytesL 120 126).length = 0 ∧ appE 1 t3 1 = 7 := by decide +kernel
theorem f4 : pubE sA 0 hA jA t3 3 [] = 2 ∧ pubE sA 0 hA jA t3 2 (List.replicate 33 0) = 3 ∧ pubE sA 0 hA jA t3 2 [109] = 0 := by decide +kernel
theorem f5 : appE 1 t4 2 = 0 ∧ rC.1 = 0 ∧ pubE rC.2.1 0 rC.2.2.1 rC.2.2.2 t6 1 [] = 2 := by decide +kernel
theorem f6 : readL t6 2 3 = [120, 121, 122] ∧ readE t6 2 3 = 0 ∧ readE t6 1 1 = 6 ∧ readE t6 2 (-1) = 6 ∧ readE t6 131 0 = 6 := by decide +kernel
theorem f7 : pubE rC.2.1 0 rC.2.2.1 rC.2.2.2 t6 3 [109] = 0 ∧ (flR 1 0 t7 sE hD jD).1 = 0 ∧ appE 1 t7 1 = 0 ∧ rF.1 = 8 := by decide +kernel
theorem f8 : appE 1 t9 1 = 8 ∧ (flR 1 0 t9 sG hD jD).1 = 8 ∧ openTE sG 0 1 = 0 ∧ tU.start = 3 ∧ tU.fin = 130 ∧ tU.more = [109] := by decide +kernel
theorem f9 : readL tU 128 2 = [121, 122] ∧ readE tU 128 2 = 0 ∧ readE t9 2 1 = 8 := by decide +kernel
theorem g1 : openTE (fresh 3) 0 1 = 9 ∧ tfE (openTS (fresh 3) 0 1) 0 2 = 2 ∧ tfE (openTS (fresh 3) 0 1) (-1) 1 = 2 ∧ tfE (openTS (fresh 3) 0 1) 0 0 = 2 ∧ tfE (openTS (fresh 3) 0 1) 0 1 = 0 := by decide +kernel
/-- 33 bytes that are zero. -/
def z33 : List UInt8 := List.replicate 33 0
theorem e1 : appT 1 t3 [121] = t3 := by kernel_rfl
theorem e2a : pubT sA 0 hA jA t3 3 [] = t3 := by kernel_rfl
theorem e2b : pubH sA 0 hA jA t3 3 [] = hA := by kernel_rfl
theorem e2c : pubL sA 0 hA jA t3 3 [] = jA := by kernel_rfl
theorem e2d : pubS sA 0 hA jA t3 3 [] = sA := by kernel_rfl
theorem e2 : pubT sA 0 hA jA t3 3 [] = t3 ∧ pubH sA 0 hA jA t3 3 [] = hA ∧ pubL sA 0 hA jA t3 3 [] = jA ∧ pubS sA 0 hA jA t3 3 [] = sA := ⟨e2a, e2b, e2c, e2d⟩
theorem e3a : pubT sA 0 hA jA t3 2 z33 = t3 := by kernel_rfl
theorem e3b : pubH sA 0 hA jA t3 2 z33 = hA := by kernel_rfl
theorem e3c : pubL sA 0 hA jA t3 2 z33 = jA := by kernel_rfl
theorem e3d : pubS sA 0 hA jA t3 2 z33 = sA := by kernel_rfl
theorem e3 : pubT sA 0 hA jA t3 2 z33 = t3 ∧ pubH sA 0 hA jA t3 2 z33 = hA ∧ pubL sA 0 hA jA t3 2 z33 = jA ∧ pubS sA 0 hA jA t3 2 z33 = sA := ⟨e3a, e3b, e3c, e3d⟩
theorem e4a : pubT rC.2.1 0 rC.2.2.1 rC.2.2.2 t6 1 [] = t6 := by kernel_rfl
theorem e4b : pubH rC.2.1 0 rC.2.2.1 rC.2.2.2 t6 1 [] = rC.2.2.1 := by kernel_rfl
theorem e4c : pubL rC.2.1 0 rC.2.2.1 rC.2.2.2 t6 1 [] = rC.2.2.2 := by kernel_rfl
theorem e4d : pubS rC.2.1 0 rC.2.2.1 rC.2.2.2 t6 1 [] = rC.2.1 := by kernel_rfl
theorem e4 : pubT rC.2.1 0 rC.2.2.1 rC.2.2.2 t6 1 [] = t6 ∧ pubH rC.2.1 0 rC.2.2.1 rC.2.2.2 t6 1 [] = rC.2.2.1 ∧ pubL rC.2.1 0 rC.2.2.1 rC.2.2.2 t6 1 [] = rC.2.2.2 ∧ pubS rC.2.1 0 rC.2.2.1 rC.2.2.2 t6 1 [] = rC.2.1 := ⟨e4a, e4b, e4c, e4d⟩
theorem e5a : flT 1 0 t7 sE hD jD = t7 := by kernel_rfl
theorem e5b : (flR 1 0 t7 sE hD jD).2.2.1 = hD := by kernel_rfl
theorem e5c : (flR 1 0 t7 sE hD jD).2.2.2 = jD := by kernel_rfl
theorem e5d : (flR 1 0 t7 sE hD jD).2.1 = sE := by kernel_rfl
theorem e5 : flT 1 0 t7 sE hD jD = t7 ∧ (flR 1 0 t7 sE hD jD).2.2.1 = hD ∧ (flR 1 0 t7 sE hD jD).2.2.2 = jD ∧ (flR 1 0 t7 sE hD jD).2.1 = sE := ⟨e5a, e5b, e5c, e5d⟩
theorem e6 : appT 1 t9 [113] = t9 := by kernel_rfl
theorem o9 : t9.over = true := by kernel_rfl
theorem e7 (S : St) (h : List UInt8) (j : Bool) : (flR 1 0 t9 S h j).1 = 8 ∧ flT 1 0 t9 S h j = t9 ∧ (flR 1 0 t9 S h j).2.2.1 = h ∧ (flR 1 0 t9 S h j).2.2.2 = j ∧ (flR 1 0 t9 S h j).2.1 = S := by
  unfold flR flT
  rw [if_pos o9, if_pos o9]
  exact ⟨rfl, rfl, rfl, rfl, rfl⟩
theorem r1 : readL t6 1 1 = [] := by kernel_rfl
theorem r2 : readL t6 2 (-1) = [] := by kernel_rfl
theorem r3 : readL t6 131 0 = [] := by kernel_rfl
theorem r4 : readL t9 2 1 = [] := by kernel_rfl
theorem uA : sA.un = [] := by kernel_rfl
theorem uB : sB.un = [] := by kernel_rfl
theorem uC : rC.2.1.un = [] := by kernel_rfl
theorem uE : sE.un = [] := by kernel_rfl
theorem uG : sG.un = [] := by kernel_rfl
theorem uH : (openTS sG 0 1).un = [] := by kernel_rfl
theorem uX : (openTS (fresh 3) 0 1).un = [] := by kernel_rfl
theorem k1 : tfS (openTS (fresh 3) 0 1) 0 2 = openTS (fresh 3) 0 1 := by kernel_rfl
theorem k2 : tfS (openTS (fresh 3) 0 1) (-1) 1 = openTS (fresh 3) 0 1 := by kernel_rfl
theorem k3 : tfS (openTS (fresh 3) 0 1) 0 0 = openTS (fresh 3) 0 1 := by kernel_rfl
theorem bytes126 (w : World) : Calls Try.prog 20 #[.int .i64 126, .int .u8 120] w fun e w' => e = .returned (.string ⟨(bytesL 120 126).toArray⟩) ∧ Below w.heap.size w w' := bytes_walk 126 (by decide) 120
theorem make33 (W : World) : (Instr.makeSlice 23 (.int .i64 33) (.int .i64 33)).run Try.prog W = .ok (.slice (some ⟨W.heap.size, 0, none⟩) 33 33) (W.alloc (.cells (byteCells z33).toArray 5)) := by
  obtain ⟨i0, hi, hz, hs, hb⟩ := info_parts u8Info
  have hmk := DN.run_make_rowN (P := Try.prog) 23 5 i0 _ Try.underlying23 hi hz .i64 .i64 33 33 (Nat.le_refl _) (by rw [hb]; omega) (by omega) W
  rw [hs] at hmk
  simp only [Value.cells, Nat.mul_one] at hmk
  rw [made_u8] at hmk
  exact hmk
theorem conv33 (W : World) : (convert 23 9 (.slice (some ⟨W.heap.size, 0, none⟩) 33 33)).run Try.prog (W.alloc (.cells (byteCells z33).toArray 5)) = .ok (.string ⟨z33.toArray⟩) (W.alloc (.cells (byteCells z33).toArray 5)) := by
  have h := string_of_row (has_fresh W (byteCells z33) 5)
  exact h
set_option maxHeartbeats 16000000 in
theorem walk (w : World) : Calls Try.prog 5 #[] w fun e w' => e = .returned (.bool true) ∧ Below w.heap.size w w' := by
  obtain ⟨w0, hw0, hA⟩ : ∃ w0, Hid (w0 = w) ∧ All w0 w [] := ⟨w, Lib.hid rfl, All.start w⟩
  have H1 := Lib.hid (begun_walk hA 1 (by decide) (by decide))
  clear hA
  have M33 := Lib.hid make33
  have C33 := Lib.hid conv33
  go_enter Try.func5, Try.ntmps5
  go_wp2_with (go_at_call 6; refine H1.out.mono ?_; rintro e w1 ⟨g, gT, gR, gt, rfl, A⟩; have FA := Lib.hid A; clear A H1)
  have H2 := Lib.hid (ta_append FA.out [97, 98] (by decide))
  rw [v1] at H2
  go_wp2_with (go_at_call 14; refine H2.out.mono ?_; rintro e w2 ⟨rfl, A⟩; have FB := Lib.hid (show All w0 _ [Tp w0.heap.size gT gR g gt 0 1 wT1, Ti w0.heap.size gt g 0 (half 1 []) false, Di w0.heap.size g (S1 1)] from A); clear A FA; have FA := Lib.hid FB.out; clear FB; clear H2)
  have H3 := Lib.hid (ta_end FA.out)
  rw [f1.1] at H3
  go_wp2_with (go_at_call 13; refine H3.out.mono ?_; rintro e w3 ⟨rfl, rfl⟩; clear H3)
  have H4 := Lib.hid (ta_stable FA.out)
  rw [f1.2] at H4
  go_wp2_with (go_at_call 12; refine H4.out.mono ?_; rintro e w4 ⟨rfl, rfl⟩; clear H4)
  have H5 := Lib.hid (ta_read FA.out 0 2 (by decide))
  rw [f2.1, f2.2.1] at H5
  go_wp2_with (go_at_call 11; refine H5.out.mono ?_; rintro e w5 ⟨rfl, hb⟩; have FB := Lib.hid (FA.out.below hb); clear hb FA; have FA := Lib.hid FB.out; clear FB; clear H5)
  have H6 := Lib.hid (ta_read FA.out 1 2 (by decide))
  rw [f2.2.2.1, f2.2.2.2] at H6
  go_wp2_with (go_at_call 11; refine H6.out.mono ?_; rintro e w6 ⟨rfl, hb⟩; have FB := Lib.hid (FA.out.below hb); clear hb FA; have FA := Lib.hid FB.out; clear FB; clear H6)
  have H7 := Lib.hid (flush_walk FA.out (by decide) (by decide) (by rw [un_z1]; decide))
  rw [(show (flR 1 0 wT1 (S1 1) (half 1 []) false).1 = 0 from v2)] at H7
  go_wp2_with (go_at_call 23; refine H7.out.mono ?_; rintro e w7 ⟨rfl, A⟩; have FB := Lib.hid (show All w0 _ [Tp w0.heap.size gT gR g gt 0 1 wT2, Ti w0.heap.size gt g 0 hA jA, Di w0.heap.size g (sA)] from A); clear A FA; have FA := Lib.hid FB.out; clear FB; clear H7)
  have H8 := Lib.hid (ta_stable FA.out)
  rw [f3.1] at H8
  go_wp2_with (go_at_call 12; refine H8.out.mono ?_; rintro e w8 ⟨rfl, rfl⟩; clear H8)
  have H9 := Lib.hid (fun w1 => bytes126 w1)
  go_wp2_with (go_at_call 20; refine (H9.out _).mono ?_; rintro e w9 ⟨rfl, hb⟩; have FB := Lib.hid (FA.out.below hb); clear hb FA; have FA := Lib.hid FB.out; clear FB; clear H9)
  have H10 := Lib.hid (ta_append FA.out (bytesL 120 126) (by decide))
  rw [f3.2.1] at H10
  go_wp2_with (go_at_call 14; refine H10.out.mono ?_; rintro e w10 ⟨rfl, A⟩; have FB := Lib.hid (show All w0 _ [Tp w0.heap.size gT gR g gt 0 1 t3, Ti w0.heap.size gt g 0 hA jA, Di w0.heap.size g (sA)] from A); clear A FA; have FA := Lib.hid FB.out; clear FB; clear H10)
  have H11 := Lib.hid (ta_append FA.out [121] (by decide))
  rw [(show appE 1 t3 ([121] : List UInt8).length = 7 from f3.2.2), (show appT 1 t3 [121] = t3 from e1)] at H11
  go_wp2_with (go_at_call 14; refine H11.out.mono ?_; rintro e w11 ⟨rfl, A⟩; have FB := Lib.hid (show All w0 _ [Tp w0.heap.size gT gR g gt 0 1 t3, Ti w0.heap.size gt g 0 hA jA, Di w0.heap.size g (sA)] from A); clear A FA; have FA := Lib.hid FB.out; clear FB; clear H11)
  have H12 := Lib.hid (publish_walk FA.out 3 [] (by decide) (by decide) (by rw [uA]; decide))
  rw [f4.1, e2.1, e2.2.1, e2.2.2.1, e2.2.2.2] at H12
  go_wp2_with (go_at_call 24; refine H12.out.mono ?_; rintro e w12 ⟨rfl, A⟩; have FB := Lib.hid (show All w0 _ [Tp w0.heap.size gT gR g gt 0 1 t3, Ti w0.heap.size gt g 0 hA jA, Di w0.heap.size g (sA)] from A); clear A FA; have FA := Lib.hid FB.out; clear FB; have m33 := M33.out w12; have c33 := C33.out w12; clear M33 C33; clear H12)
  have FB := Lib.hid (FA.out.alloc (.cells (byteCells z33).toArray 5))
  clear FA
  have FA := Lib.hid FB.out
  clear FB
  have H13 := Lib.hid (publish_walk FA.out 2 z33 (by decide) (by decide) (by rw [uA]; decide))
  rw [(show pubE sA 0 hA jA t3 2 z33 = 3 from f4.2.1), e3.1, e3.2.1, e3.2.2.1, e3.2.2.2] at H13
  go_wp2_with (go_at_call 24; refine H13.out.mono ?_; rintro e w13 ⟨rfl, A⟩; have FB := Lib.hid (show All w0 _ [Tp w0.heap.size gT gR g gt 0 1 t3, Ti w0.heap.size gt g 0 hA jA, Di w0.heap.size g (sA)] from A); clear A FA; have FA := Lib.hid FB.out; clear FB; clear H13)
  have H14 := Lib.hid (publish_walk FA.out 2 [109] (by decide) (by decide) (by rw [uA]; decide))
  rw [f4.2.2] at H14
  go_wp2_with (go_at_call 24; refine H14.out.mono ?_; rintro e w14 ⟨rfl, A⟩; have FB := Lib.hid (show All w0 _ [Tp w0.heap.size gT gR g gt 0 1 t4, Ti w0.heap.size gt g 0 hB jB, Di w0.heap.size g (sB)] from A); clear A FA; have FA := Lib.hid FB.out; clear FB; clear H14)
  have H15 := Lib.hid (ta_append FA.out [121, 122] (by decide))
  rw [(show appE 1 t4 ([121, 122] : List UInt8).length = 0 from f5.1)] at H15
  go_wp2_with (go_at_call 14; refine H15.out.mono ?_; rintro e w15 ⟨rfl, A⟩; have FB := Lib.hid (show All w0 _ [Tp w0.heap.size gT gR g gt 0 1 t5, Ti w0.heap.size gt g 0 hB jB, Di w0.heap.size g (sB)] from A); clear A FA; have FA := Lib.hid FB.out; clear FB; clear H15)
  have H16 := Lib.hid (flush_walk FA.out (by decide) (by decide) (by rw [uB]; decide))
  rw [(show (flR 1 0 t5 sB hB jB).1 = 0 from f5.2.1)] at H16
  go_wp2_with (go_at_call 23; refine H16.out.mono ?_; rintro e w16 ⟨rfl, A⟩; have FB := Lib.hid (show All w0 _ [Tp w0.heap.size gT gR g gt 0 1 t6, Ti w0.heap.size gt g 0 rC.2.2.1 rC.2.2.2, Di w0.heap.size g (rC.2.1)] from A); clear A FA; have FA := Lib.hid FB.out; clear FB; clear H16)
  have H17 := Lib.hid (publish_walk FA.out 1 [] (by decide) (by decide) (by rw [uC]; decide))
  rw [f5.2.2, e4.1, e4.2.1, e4.2.2.1, e4.2.2.2] at H17
  go_wp2_with (go_at_call 24; refine H17.out.mono ?_; rintro e w17 ⟨rfl, A⟩; have FB := Lib.hid (show All w0 _ [Tp w0.heap.size gT gR g gt 0 1 t6, Ti w0.heap.size gt g 0 rC.2.2.1 rC.2.2.2, Di w0.heap.size g (rC.2.1)] from A); clear A FA; have FA := Lib.hid FB.out; clear FB; clear H17)
  have H18 := Lib.hid (ta_read FA.out 2 3 (by decide))
  rw [f6.1, f6.2.1] at H18
  go_wp2_with (go_at_call 11; refine H18.out.mono ?_; rintro e w18 ⟨rfl, hb⟩; have FB := Lib.hid (FA.out.below hb); clear hb FA; have FA := Lib.hid FB.out; clear FB; clear H18)
  have H19 := Lib.hid (ta_read FA.out 1 1 (by decide))
  rw [f6.2.2.1, r1] at H19
  go_wp2_with (go_at_call 11; refine H19.out.mono ?_; rintro e w19 ⟨rfl, hb⟩; have FB := Lib.hid (FA.out.below hb); clear hb FA; have FA := Lib.hid FB.out; clear FB; clear H19)
  have H20 := Lib.hid (ta_read FA.out 2 (-1) (by decide))
  rw [f6.2.2.2.1, r2] at H20
  go_wp2_with (go_at_call 11; refine H20.out.mono ?_; rintro e w20 ⟨rfl, hb⟩; have FB := Lib.hid (FA.out.below hb); clear hb FA; have FA := Lib.hid FB.out; clear FB; clear H20)
  have H21 := Lib.hid (ta_read FA.out 131 0 (by decide))
  rw [f6.2.2.2.2, r3] at H21
  go_wp2_with (go_at_call 11; refine H21.out.mono ?_; rintro e w21 ⟨rfl, hb⟩; have FB := Lib.hid (FA.out.below hb); clear hb FA; have FA := Lib.hid FB.out; clear FB; clear H21)
  have H22 := Lib.hid (publish_walk FA.out 3 [109] (by decide) (by decide) (by rw [uC]; decide))
  rw [f7.1] at H22
  go_wp2_with (go_at_call 24; refine H22.out.mono ?_; rintro e w22 ⟨rfl, A⟩; have FB := Lib.hid (show All w0 _ [Tp w0.heap.size gT gR g gt 0 1 t7, Ti w0.heap.size gt g 0 hD jD, Di w0.heap.size g (sD)] from A); clear A FA; have FA := Lib.hid FB.out; clear FB; clear H22)
  have FB : Hid (All w0 _ [Di w0.heap.size g (sD), Tp w0.heap.size gT gR g gt 0 1 t7, Ti w0.heap.size gt g 0 hD jD]) := Lib.hid (all_idx (Ps := []) [_, _, _] 3 [2, 0, 1] FA.out rfl (by decide))
  clear FA
  have FA := Lib.hid FB.out
  clear FB
  have H23 := Lib.hid (di_off FA.out)
  go_wp2_with (go_at_call 17; refine H23.out.mono ?_; rintro e w23 ⟨rfl, A⟩; have FB := Lib.hid (show All w0 _ [Di w0.heap.size g (sE), Tp w0.heap.size gT gR g gt 0 1 t7, Ti w0.heap.size gt g 0 hD jD] from A); clear A FA; have FA := Lib.hid FB.out; clear FB; clear H23)
  have FB : Hid (All w0 _ [Tp w0.heap.size gT gR g gt 0 1 t7, Ti w0.heap.size gt g 0 hD jD, Di w0.heap.size g (sE)]) := Lib.hid (all_idx (Ps := []) [_, _, _] 3 [1, 2, 0] FA.out rfl (by decide))
  clear FA
  have FA := Lib.hid FB.out
  clear FB
  have H24 := Lib.hid (flush_walk FA.out (by decide) (by decide) (by rw [uE]; decide))
  rw [f7.2.1, e5.1, e5.2.1, e5.2.2.1, e5.2.2.2] at H24
  go_wp2_with (go_at_call 23; refine H24.out.mono ?_; rintro e w24 ⟨rfl, A⟩; have FB := Lib.hid (show All w0 _ [Tp w0.heap.size gT gR g gt 0 1 t7, Ti w0.heap.size gt g 0 hD jD, Di w0.heap.size g (sE)] from A); clear A FA; have FA := Lib.hid FB.out; clear FB; clear H24)
  have H25 := Lib.hid (ta_append FA.out [113] (by decide))
  rw [(show appE 1 t7 ([113] : List UInt8).length = 0 from f7.2.2.1)] at H25
  go_wp2_with (go_at_call 14; refine H25.out.mono ?_; rintro e w25 ⟨rfl, A⟩; have FB := Lib.hid (show All w0 _ [Tp w0.heap.size gT gR g gt 0 1 t8, Ti w0.heap.size gt g 0 hD jD, Di w0.heap.size g (sE)] from A); clear A FA; have FA := Lib.hid FB.out; clear FB; clear H25)
  have H26 := Lib.hid (flush_walk FA.out (by decide) (by decide) (by rw [uE]; decide))
  rw [(show (flR 1 0 t8 sE hD jD).1 = 8 from f7.2.2.2)] at H26
  go_wp2_with (go_at_call 23; refine H26.out.mono ?_; rintro e w26 ⟨rfl, A⟩; have FB := Lib.hid (show All w0 _ [Tp w0.heap.size gT gR g gt 0 1 t9, Ti w0.heap.size gt g 0 rF.2.2.1 rF.2.2.2, Di w0.heap.size g (rF.2.1)] from A); clear A FA; have FA := Lib.hid FB.out; clear FB; clear H26)
  have FB : Hid (All w0 _ [Di w0.heap.size g (rF.2.1), Tp w0.heap.size gT gR g gt 0 1 t9, Ti w0.heap.size gt g 0 rF.2.2.1 rF.2.2.2]) := Lib.hid (all_idx (Ps := []) [_, _, _] 3 [2, 0, 1] FA.out rfl (by decide))
  clear FA
  have FA := Lib.hid FB.out
  clear FB
  have H27 := Lib.hid (di_wake_nil FA.out)
  go_wp2_with (go_at_call 18; refine H27.out.mono ?_; rintro e w27 ⟨rfl, A⟩; have FB := Lib.hid (show All w0 _ [Di w0.heap.size g (sG), Tp w0.heap.size gT gR g gt 0 1 t9, Ti w0.heap.size gt g 0 rF.2.2.1 rF.2.2.2] from A); clear A FA; have FA := Lib.hid FB.out; clear FB; clear H27)
  have H28 := Lib.hid (open_walk2 FA.out 0 1 (by rw [uG]; decide))
  rw [f8.2.2.1] at H28
  go_wp2_with fail
  refine H28.out.mono ?_
  clear H28 FA
  rintro e wU ⟨v, rfl, hv⟩
  obtain ⟨gU, gRu, gtu, rfl, AU⟩ : ∃ gU gRu gtu, v = .pointer (some ⟨gU, 0, none⟩) ∧ All w0 wU (Tp w0.heap.size gU gRu g gtu 0 1 tU :: Ti w0.heap.size gtu g 0 (best (openS sG 0) 0) false :: Di w0.heap.size g (openTS sG 0 1) :: [Tp w0.heap.size gT gR g gt 0 1 t9, Ti w0.heap.size gt g 0 rF.2.2.1 rF.2.2.2]) := by
    rcases hv with ⟨h1, _⟩ | ⟨_, gU, gRu, gtu, hv, h2⟩
    · exact absurd f8.2.2.1 h1
    · exact ⟨gU, gRu, gtu, hv, h2⟩
  clear hv
  have FA := Lib.hid AU
  clear AU
  have FB : Hid (All w0 _ [Tp w0.heap.size gT gR g gt 0 1 t9, Ti w0.heap.size gt g 0 rF.2.2.1 rF.2.2.2, Di w0.heap.size g (openTS sG 0 1), Tp w0.heap.size gU gRu g gtu 0 1 tU, Ti w0.heap.size gtu g 0 (best (openS sG 0) 0) false]) := Lib.hid (all_idx (Ps := []) [_, _, _, _, _] 5 [3, 4, 2, 0, 1] FA.out rfl (by decide))
  clear FA
  have FA := Lib.hid FB.out
  clear FB
  have H29 := Lib.hid (ta_append FA.out [113] (by decide))
  rw [(show appE 1 t9 ([113] : List UInt8).length = 8 from f8.1), (show appT 1 t9 [113] = t9 from e6)] at H29
  go_wp2_with (go_at_call 14; refine H29.out.mono ?_; rintro e w29 ⟨rfl, A⟩; have FB := Lib.hid (show All w0 _ [Tp w0.heap.size gT gR g gt 0 1 t9, Ti w0.heap.size gt g 0 rF.2.2.1 rF.2.2.2, Di w0.heap.size g (openTS sG 0 1), Tp w0.heap.size gU gRu g gtu 0 1 tU, Ti w0.heap.size gtu g 0 (best (openS sG 0) 0) false] from A); clear A FA; have FA := Lib.hid FB.out; clear FB; clear H29)
  have H30 := Lib.hid (flush_walk FA.out (by decide) (by decide) (by rw [uH]; decide))
  rw [(e7 _ _ _).1, (e7 _ _ _).2.1, (e7 _ _ _).2.2.1, (e7 _ _ _).2.2.2.1, (e7 _ _ _).2.2.2.2] at H30
  go_wp2_with (go_at_call 23; refine H30.out.mono ?_; rintro e w30 ⟨rfl, A⟩; have FB := Lib.hid (show All w0 _ [Tp w0.heap.size gT gR g gt 0 1 t9, Ti w0.heap.size gt g 0 rF.2.2.1 rF.2.2.2, Di w0.heap.size g (openTS sG 0 1), Tp w0.heap.size gU gRu g gtu 0 1 tU, Ti w0.heap.size gtu g 0 (best (openS sG 0) 0) false] from A); clear A FA; have FA := Lib.hid FB.out; clear FB; clear H30)
  have FB : Hid (All w0 _ [Tp w0.heap.size gU gRu g gtu 0 1 tU, Tp w0.heap.size gT gR g gt 0 1 t9, Ti w0.heap.size gt g 0 rF.2.2.1 rF.2.2.2, Di w0.heap.size g (openTS sG 0 1), Ti w0.heap.size gtu g 0 (best (openS sG 0) 0) false]) := Lib.hid (all_idx (Ps := []) [_, _, _, _, _] 5 [3, 0, 1, 2, 4] FA.out rfl (by decide))
  clear FA
  have FA := Lib.hid FB.out
  clear FB
  have H31 := Lib.hid (ta_start FA.out)
  rw [f8.2.2.2.1] at H31
  go_wp2_with (go_at_call 21; refine H31.out.mono ?_; rintro e w31 ⟨rfl, rfl⟩; clear H31)
  have H32 := Lib.hid (ta_end FA.out)
  rw [f8.2.2.2.2.1] at H32
  go_wp2_with (go_at_call 13; refine H32.out.mono ?_; rintro e w32 ⟨rfl, rfl⟩; clear H32)
  have H33 := Lib.hid (ta_meta FA.out)
  rw [f8.2.2.2.2.2] at H33
  go_wp2_with (go_at_call 25; refine H33.out.mono ?_; rintro e w33 ⟨rfl, hb⟩; have FB := Lib.hid (FA.out.below hb); clear hb FA; have FA := Lib.hid FB.out; clear FB; clear H33)
  have H34 := Lib.hid (ta_read FA.out 128 2 (by decide))
  rw [f9.1, f9.2.1] at H34
  go_wp2_with (go_at_call 11; refine H34.out.mono ?_; rintro e w34 ⟨rfl, hb⟩; have FB := Lib.hid (FA.out.below hb); clear hb FA; have FA := Lib.hid FB.out; clear FB; clear H34)
  have FB : Hid (All w0 _ [Tp w0.heap.size gT gR g gt 0 1 t9, Tp w0.heap.size gU gRu g gtu 0 1 tU, Ti w0.heap.size gt g 0 rF.2.2.1 rF.2.2.2, Di w0.heap.size g (openTS sG 0 1), Ti w0.heap.size gtu g 0 (best (openS sG 0) 0) false]) := Lib.hid (all_idx (Ps := []) [_, _, _, _, _] 5 [1, 0, 2, 3, 4] FA.out rfl (by decide))
  clear FA
  have FA := Lib.hid FB.out
  clear FB
  have H35 := Lib.hid (ta_read FA.out 2 1 (by decide))
  rw [f9.2.2, r4] at H35
  go_wp2_with (go_at_call 11; refine H35.out.mono ?_; rintro e w35 ⟨rfl, hb⟩; have FB := Lib.hid (FA.out.below hb); clear hb FA; have FA := Lib.hid FB.out; clear FB; clear H35)
  have H36 := Lib.hid (fun w1 => read_nil (w := w1) 0 0)
  go_wp2_with (go_at_call 11; refine (H36.out _).mono ?_; rintro e w36 ⟨rfl, hb⟩; have FB := Lib.hid (FA.out.below hb); clear hb FA; have FA := Lib.hid FB.out; clear FB; clear H36)
  have HW := Lib.hid FA.out.under
  clear FA
  have H37 := Lib.hid (fun w1 (h : All w0 w1 []) => di_new h 3 3 rfl (by decide) (by decide))
  go_wp2_with (go_at_call 26; refine (H37.out _ ⟨HW.out, [], rfl⟩).mono ?_; rintro e wN ⟨gN, rfl, A⟩; have FA := Lib.hid A; clear A HW H37)
  have H38 := Lib.hid (open_walk2 FA.out 0 1 (by simp [fresh]))
  rw [g1.1] at H38
  go_wp2_with fail
  refine H38.out.mono ?_
  clear H38 FA
  rintro e wX ⟨v, rfl, hv⟩
  obtain ⟨rfl, AX⟩ : v = .pointer none ∧ All w0 wX [Di w0.heap.size gN (openTS (fresh 3) 0 1)] := by
    rcases hv with ⟨_, hv, h2⟩ | ⟨h0, _⟩
    · exact ⟨hv, h2⟩
    · exact absurd (h0.symm.trans g1.1) (by decide)
  clear hv
  have FA := Lib.hid AX
  clear AX
  have H39 := Lib.hid (fun w1 => open_nil (w := w1) 0 1)
  go_wp2_with (go_at_call 10; refine (H39.out _).mono ?_; rintro e w39 ⟨rfl, hb⟩; have FB := Lib.hid (FA.out.below hb); clear hb FA; have FA := Lib.hid FB.out; clear FB; clear H39)
  have H40 := Lib.hid (fun w1 => start_nil (w := w1) )
  go_wp2_with (go_at_call 21; refine (H40.out _).mono ?_; rintro e w40 ⟨rfl, rfl⟩; clear H40)
  have H41 := Lib.hid (fun w1 => end_nil (w := w1) )
  go_wp2_with (go_at_call 13; refine (H41.out _).mono ?_; rintro e w41 ⟨rfl, rfl⟩; clear H41)
  have H42 := Lib.hid (fun w1 => stable_nil (w := w1) )
  go_wp2_with (go_at_call 12; refine (H42.out _).mono ?_; rintro e w42 ⟨rfl, rfl⟩; clear H42)
  have H43 := Lib.hid (fun w1 => meta_nil (w := w1) )
  go_wp2_with (go_at_call 25; refine (H43.out _).mono ?_; rintro e w43 ⟨rfl, rfl⟩; clear H43)
  have H44 := Lib.hid (fun w1 => append_nil (w := w1) [] (by decide))
  go_wp2_with (go_at_call 14; refine (H44.out _).mono ?_; rintro e w44 ⟨rfl, hb⟩; have FB := Lib.hid (FA.out.below hb); clear hb FA; have FA := Lib.hid FB.out; clear FB; clear H44)
  have H45 := Lib.hid (fun w1 => flush_nil (w := w1) )
  go_wp2_with (go_at_call 23; refine (H45.out _).mono ?_; rintro e w45 ⟨rfl, hb⟩; have FB := Lib.hid (FA.out.below hb); clear hb FA; have FA := Lib.hid FB.out; clear FB; clear H45)
  have H46 := Lib.hid (fun w1 => publish_nil (w := w1) 0 [])
  go_wp2_with (go_at_call 24; refine (H46.out _).mono ?_; rintro e w46 ⟨rfl, hb⟩; have FB := Lib.hid (FA.out.below hb); clear hb FA; have FA := Lib.hid FB.out; clear FB; clear H46)
  have H47 := Lib.hid (fun w1 => format_nil (w := w1) 0 1)
  go_wp2_with (go_at_call 27; refine (H47.out _).mono ?_; rintro e w47 ⟨rfl, hb⟩; have FB := Lib.hid (FA.out.below hb); clear hb FA; have FA := Lib.hid FB.out; clear FB; clear H47)
  have H48 := Lib.hid (format_walk2 FA.out 0 2 (by rw [uX]; decide))
  rw [g1.2.1, k1] at H48
  go_wp2_with (go_at_call 27; refine H48.out.mono ?_; rintro e w48 ⟨rfl, A⟩; have FB := Lib.hid (show All w0 _ [Di w0.heap.size gN (openTS (fresh 3) 0 1)] from A); clear A FA; have FA := Lib.hid FB.out; clear FB; clear H48)
  have H49 := Lib.hid (format_walk2 FA.out (-1) 1 (by rw [uX]; decide))
  rw [g1.2.2.1, k2] at H49
  go_wp2_with (go_at_call 27; refine H49.out.mono ?_; rintro e w49 ⟨rfl, A⟩; have FB := Lib.hid (show All w0 _ [Di w0.heap.size gN (openTS (fresh 3) 0 1)] from A); clear A FA; have FA := Lib.hid FB.out; clear FB; clear H49)
  have H50 := Lib.hid (format_walk2 FA.out 0 0 (by rw [uX]; decide))
  rw [g1.2.2.2.1, k3] at H50
  go_wp2_with (go_at_call 27; refine H50.out.mono ?_; rintro e w50 ⟨rfl, A⟩; have FB := Lib.hid (show All w0 _ [Di w0.heap.size gN (openTS (fresh 3) 0 1)] from A); clear A FA; have FA := Lib.hid FB.out; clear FB; clear H50)
  have H51 := Lib.hid (format_walk2 FA.out 0 1 (by rw [uX]; decide))
  rw [g1.2.2.2.2] at H51
  go_wp2_with (go_at_call 27; refine H51.out.mono ?_; rintro e w51 ⟨rfl, A⟩; have FB := Lib.hid (show All w0 _ [Di w0.heap.size gN (tfS (openTS (fresh 3) 0 1) 0 1)] from A); clear A FA; have FA := Lib.hid FB.out; clear FB; clear H51)
  have H52 := Lib.hid (works_walk FA.out)
  go_wp2_with (go_at_call 19; refine H52.out.mono ?_; rintro e w52 ⟨rfl, A⟩; have FB := Lib.hid (show All w0 _ [Di w0.heap.size gN (tfS (openTS (fresh 3) 0 1) 0 1)] from A); clear A FA; have FA := Lib.hid FB.out; clear FB; clear H52)
  go_ret
  have u := FA.out.under
  rw [hw0.out] at u
  exact ⟨rfl, u⟩

set_option maxRecDepth 100000 in
theorem lifted (os : Os) (started : os.Started) (H : Type) (enc : TypeId × Value → H) :
    ReturnsInHanded {} Try.checked os 5 .any (Rows.tapeKnownSpec.pre6 enc Try.prog Try.f5 Rows.tapeKnownRow.domain false) (Rows.tapeKnownSpec.post enc Try.prog Try.f5 false true false false) := by
  refine returnsInHanded_of_change (C := Try.checked) own started (by kernel_rfl) Try.func5
    (ChangeSpec.witness6 (enc := enc) (C := Try.checked) false ⟨#[], #[], []⟩ 8 (by kernel_rfl) (by kernel_rfl) (by kernel_rfl) (by kernel_rfl)) ?_
  intro W base args ds gs before hval0 hW hcnd _
  have hval : ∀ (j : Nat) t v, Try.f5.params[j]? = some t → args[j]? = some v → Value.okWide Try.prog W .any base t v := hval0
  have hW' := hW
  obtain ⟨p, q, hA0, hV, rfl, hfz, hnd⟩ := hW
  have hA : DataW.TrodAll enc Try.prog W 0 (fun _ => true) true Try.f5.params.toList args.toList ds p := hA0
  rw [Try.params5] at hA hval
  obtain ⟨hargs, rfl, rfl⟩ := trodAll_nil hA
  obtain rfl : args = #[] := by cases args; simp_all
  obtain ⟨rfl, rfl⟩ := trodVars_none hV
  clear hA0 hval0
  have hc := walk W
  try simp only [Array.toArray_toList] at hc
  refine hc.mono fun e W' ⟨he, hg⟩ => ?_
  subst he
  exact ⟨_, rfl, law_post rfl (by decide +kernel) (by kernel_rfl) rfl hW' hg⟩

theorem over : Rows.tapeKnownRow.holds Try.pinned (OpenSpec.ofChange Rows.tapeKnownSpec) :=
  OpenClaim.holds_of_wide 5 Try.f5 rfl rfl rfl rfl rfl rfl rfl ⟨rfl, rfl, rfl, rfl, rfl⟩ rfl rfl rfl rfl rfl (by kernel_rfl) Try.func5 (by kernel_rfl)
    (of_decide_eq_true (by kernel_rfl)) (by unfold Func.isWrapper; first | (rw [if_pos (by decide +kernel)]; kernel_rfl) | (rw [if_neg (by decide +kernel)]; exact ⟨rfl, rfl⟩))
    (fun os started H enc _ => lifted os started H enc)

theorem proved : Rows.TapeKnownSaid :=
  over
#print axioms proved
end TapeKnown
end Go.Proofs.Ytkenebghgapaaaa
