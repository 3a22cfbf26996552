/- The walks over what the statements of layer 1 share: bytesOf, works. -/
import Derived.Test.YtdpkgmcjofddnaaWireRead
namespace Go.Proofs.Ytdpkgmcjofddnaa
open Go.RowKit Go.Lib WM WW WP WR
namespace WL
set_option maxHeartbeats 400000 in
theorem bytesOf_walk (n : Nat) (hn : U64 n) (w : World) :
    Calls Try.prog 23 #[.int .u64 n] w fun e w' => e = .returned (.string ⟨(numB n).toArray⟩) ∧ Below w.heap.size w w' := by
  go_enter Try.func23, Try.ntmps23
  go_wp2_with fail
  refine (putNum_walk [] n hn (by simp) _).mono ?_
  rintro e w1 ⟨rfl, hb⟩
  go_wp2
  go_ret
  exact ⟨rfl, hb⟩

theorem numB_0 : numB 0 = [0] := by decide
theorem numB_128 : numB 128 = [128, 1] := by decide
theorem textB_ab : [120] ++ textB [97, 98] = [120, 2, 97, 98] := by decide

theorem bytesOf_0 (w : World) : Calls Try.prog 23 #[.int .u64 0] w fun e w' => e = .returned (.string ⟨#[0]⟩) ∧ Below w.heap.size w w' := by
  have h := bytesOf_walk 0 (by unfold U64; omega) w
  rw [numB_0] at h
  exact h
theorem bytesOf_128 (w : World) : Calls Try.prog 23 #[.int .u64 128] w fun e w' => e = .returned (.string ⟨#[128, 1]⟩) ∧ Below w.heap.size w w' := by
  have h := bytesOf_walk 128 (by unfold U64; omega) w
  rw [numB_128] at h
  exact h
theorem putText_ab (w : World) : Calls Try.prog 25 #[.string ⟨#[120]⟩, .string ⟨#[97, 98]⟩] w fun e w' => e = .returned (.string ⟨#[120, 2, 97, 98]⟩) ∧ Below w.heap.size w w' := by
  have h := putText_walk [120] [97, 98] (by simp) (by simp) w
  rw [textB_ab] at h
  exact h
/-- The row of the chapter: what Num, Text, Text make of the reader. -/
theorem row_num : numS [5, 0, 1, 97] false = (5, [0, 1, 97], false) := by decide
theorem row_text : textS [0, 1, 97] false = ([], [1, 97], false) := by decide
theorem row_text2 : textS [1, 97] false = ([97], [], false) := by decide
theorem num_row (g : Nat) (w : World) (h : Rd w g [5, 0, 1, 97] false) : Calls Try.prog 17 #[.pointer (some ⟨g, 0, none⟩)] w (Took w g (.int .u64 5) [0, 1, 97] false) := by
  have h := num_walk _ _ (by simp) g w h
  rw [row_num] at h
  exact h
theorem text_row (g : Nat) (w : World) (h : Rd w g [0, 1, 97] false) : Calls Try.prog 15 #[.pointer (some ⟨g, 0, none⟩)] w (Took w g (.string ⟨#[]⟩) [1, 97] false) := by
  have h := text_walk _ _ (by simp) g w h
  rw [row_text] at h
  exact h
theorem text_row2 (g : Nat) (w : World) (h : Rd w g [1, 97] false) : Calls Try.prog 15 #[.pointer (some ⟨g, 0, none⟩)] w (Took w g (.string ⟨#[97]⟩) [] false) := by
  have h := text_walk _ _ (by simp) g w h
  rw [row_text2] at h
  exact h

set_option maxHeartbeats 1000000 in
theorem works_walk (w : World) :
    Calls Try.prog 13 #[] w fun e w' => e = .returned (.bool true) ∧ Below w.heap.size w w' := by
  go_enter Try.func13, Try.ntmps13
  go_wp2_with fail
  refine (newReader_walk [5, 0, 1, 97] _).mono ?_
  rintro e w1 ⟨rfl, h1, b1⟩
  have g0 := h1.lt
  go_wp2_with fail
  refine (bytesOf_0 _).mono ?_
  rintro e w2 ⟨rfl, b2⟩
  go_wp2_with fail
  refine (bytesOf_128 _).mono ?_
  rintro e w3 ⟨rfl, b3⟩
  go_wp2_with fail
  refine (putText_ab _).mono ?_
  rintro e w4 ⟨rfl, b4⟩
  have h4 := ((h1.under b2 g0).under b3 (Nat.lt_of_lt_of_le g0 b2.size)).under b4 (Nat.lt_of_lt_of_le g0 (Nat.le_trans b2.size b3.size))
  have B4 := ((b1.trans (b2.mono b1.size)).trans (b3.mono (Nat.le_trans b1.size b2.size))).trans (b4.mono (Nat.le_trans b1.size (Nat.le_trans b2.size b3.size)))
  clear b1 b2 b3 b4 h1
  go_wp2_with fail
  refine (num_row _ _ h4).mono ?_
  rintro e w5 ⟨rfl, h5, g5⟩
  go_wp2_with fail
  refine (text_row _ _ h5).mono ?_
  rintro e w6 ⟨rfl, h6, g6⟩
  go_wp2_with fail
  refine (text_row2 _ _ h6).mono ?_
  rintro e w7 ⟨rfl, h7, g7⟩
  have B7 := under_of_only (under_of_only (under_of_only B4 g5 B4.size (Nat.le_refl _)) g6 (Nat.le_trans B4.size g5.size) (Nat.le_refl _)) g7 (Nat.le_trans B4.size (Nat.le_trans g5.size g6.size)) (Nat.le_refl _)
  go_wp2_with fail
  refine (end_walk _ _ _ _ h7).mono ?_
  rintro e w8 ⟨rfl, rfl⟩
  go_wp2_with fail
  refine (ok_walk _ _ _ _ h7).mono ?_
  rintro e w8 ⟨rfl, rfl⟩
  go_wp2
  go_ret
  exact ⟨rfl, B7⟩
end WL
end Go.Proofs.Ytdpkgmcjofddnaa
