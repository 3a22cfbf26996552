/- The walk over works, which all statements of layer 3 call: a write that is torn. -/
import Derived.Test.YtfikbnipkklliaaDiskLaw
import Derived.Deep.RegionHeld
namespace Go.Proofs.Ytfikbnipkklliaa
open Go.RowKit Go.Lib MM MF DM DK DN FL DW DF DU MS DL
namespace DO
def wA : List UInt8 := sectS 97 false
def wB : List UInt8 := sectS 107 false
def s1 : St := writeS (fresh 2) 1 wA
def s2 : St := flushS s1
def s3 : St := writeS s2 1 wB
def s4 : St := { s3 with on := false, fuse := 0 }
def s5 : St := wakeS s4 [5]
theorem e1 : writeE (fresh 2) 1 wA = 0 ∧ (fresh 2).un.length < 1000000000 ∧ flushE s1 = 0 ∧ writeE s2 1 wB = 0 ∧ s2.un.length < 1000000000 := by decide +kernel
theorem e5 : refuse s5 1 = 0 ∧ refuse s5 0 = 0 ∧ readT s5 1 = wB.take 5 ++ wA.drop 5 ∧ readT s5 0 = zeros := by decide +kernel
theorem cut_join (C A : List UInt8) (hA : A.length = 128) : (⟨C.toArray⟩ : ByteArray).extract 0 5 ++ (⟨A.toArray⟩ : ByteArray).extract 5 128 = ⟨(C.take 5 ++ A.drop 5).toArray⟩ := by
  rw [ByteArray.extract_mk, ByteArray.extract_mk, ByteArray.mk_append_mk]
  congr 1
  simp
  rw [List.take_of_length_le (by rw [List.length_drop]; omega)]
theorem zeros_text (ZC : List Value) (hZ : ZC = byteCells zeros) (W : World) : (convert 30 9 (.slice (some ⟨W.heap.size, 0, none⟩) 128 128)).run Try.prog (W.alloc (.cells ZC.toArray 5)) = .ok (.string ⟨zeros.toArray⟩) (W.alloc (.cells ZC.toArray 5)) := by
  subst hZ
  exact string_of_row (l := zeros) (show Has (W.alloc (.cells (byteCells zeros).toArray 5)) _ _ _ from heap_alloc_new W _)
theorem zeros_text_drew (ZC : List Value) (hZ : ZC = byteCells zeros) (W : World) : (convert 30 9 (.slice (some ⟨W.heap.size, 0, none⟩) 128 128)).run Try.prog (W.alloc (.cells ZC.toArray 5)).drew = .ok (.string ⟨zeros.toArray⟩) (W.alloc (.cells ZC.toArray 5)).drew := zeros_text ZC hZ W.drew
set_option maxRecDepth 100000 in
set_option maxHeartbeats 4000000 in
theorem works_walk (w : World) : Calls Try.prog 11 #[] w fun e w' => e = .returned (.bool true) ∧ Below w.heap.size w w' := by
  have hmk := make_bytes
  obtain ⟨ZC, hZ⟩ : ∃ ZC, ZC = byteCells zeros := ⟨_, rfl⟩
  rw [← hZ] at hmk
  have hzt := zeros_text ZC hZ
  have hztd := zeros_text_drew ZC hZ
  clear hZ
  go_enter Try.func11, Try.ntmps11
  go_wp2_with fail
  refine (new_on 2 _ rfl (by omega) (by omega) w _ (Below.refl _ _)).mono ?_
  rintro e w1 ⟨g, rfl, o1⟩
  go_wp2_with fail
  refine (sector_on 97 _ rfl _ _).mono ?_
  rintro e w2 ⟨rfl, b2⟩
  have o2 := o1.below b2
  clear o1 b2
  go_wp2_with fail
  refine (sector_on 107 _ rfl _ _).mono ?_
  rintro e w3 ⟨rfl, b3⟩
  have o3 := o2.below b3
  clear o2 b3
  rw [show sectS 97 false = wA from rfl, show sectS 107 false = wB from rfl]
  go_wp2_with fail
  refine (write_on o3 _ _ e1.2.1).mono ?_
  rintro e w4 ⟨rfl, o4⟩
  rw [e1.1]
  replace o4 : On w w4 g s1 := o4
  clear o3
  go_wp2_with fail
  refine (flush_on o4).mono ?_
  rintro e w5 ⟨rfl, o5⟩
  rw [e1.2.2.1]
  replace o5 : On w w5 g s2 := o5
  clear o4
  go_wp2_with fail
  refine (write_on o5 _ _ e1.2.2.2.2).mono ?_
  rintro e w6 ⟨rfl, o6⟩
  rw [e1.2.2.2.1]
  replace o6 : On w w6 g s3 := o6
  clear o5
  go_wp2_with fail
  refine (off_on o6).mono ?_
  rintro e w7 ⟨rfl, o7⟩
  replace o7 : On w w7 g s4 := o7
  clear o6
  go_wp2_with fail
  refine (wake_new o7 [5] (by simp) (by unfold maxLen; simp) _ rfl _ _ rfl rfl).mono ?_
  rintro e w8 ⟨rfl, o8⟩
  replace o8 : On w w8 g s5 := o8
  clear o7
  have hA : wA.length = 128 := rfl
  have hB : wB.length = 128 := rfl
  have r1 := Lib.hid e5.1
  have r0 := Lib.hid e5.2.1
  have q1 := Lib.hid e5.2.2.1
  have q0 := Lib.hid e5.2.2.2
  generalize s5 = S at *
  generalize wA = A at *
  generalize wB = C at *
  have HJ := Lib.hid (cut_join C A hA)
  go_wp2_with fail
  go_region_held (fun w' => On w w' g S) (first | assumption | exact o8.drew | exact On.alloc (by assumption) _ | exact On.drew (by assumption) | exact (On.alloc (by assumption) _).drew)
    (first
      | (go_at_call 14; rw [HJ.out]; refine (reads_on (by assumption) 1 _ r1.out q1.out).mono ?_; rintro e w' ⟨rfl, rfl⟩)
      | (go_at_call 14; refine (reads_on (by assumption) 0 _ r0.out q0.out).mono ?_; rintro e w' ⟨rfl, rfl⟩))
  have oz : On w (w8.alloc (Obj.cells ZC.toArray 5)).drew g S := (o8.alloc _).drew
  go_wp2
  go_ret
  exact ⟨rfl, oz.under⟩
end DO
end Go.Proofs.Ytfikbnipkklliaa
