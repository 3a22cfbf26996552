/- The chapter's rows; what no number's, no text's bytes are; a reader that is none: the closed statement holds. No condition. -/
import Derived.Test.YtdpkgmcjofddnabWireLaw
import Derived.Test.YtdpkgmcjofddnabLawKit
namespace Go.Proofs.Ytdpkgmcjofddnab
open Go.ChangeShapes Go.WideShapes Go.ChangeAt Go.RowKit Go.Lib WM WW WP WR WL LK
namespace WireKnown
def Done (w : World) (e : Ending) (w' : World) : Prop := e = .returned (.bool true) ∧ Below w.heap.size w w'
theorem fails_num (s : List UInt8) (hs : s.length ≤ 140737488355328) (hf : first s = none) (w : World) :
    Calls Try.prog 6 #[.string ⟨s.toArray⟩, .bool false] w (Done w) := by
  have HF := Lib.hid hf
  clear hf
  go_enter Try.func6, Try.ntmps6
  go_wp2_with fail
  refine (newReader_walk s _).mono ?_
  rintro e w1 ⟨rfl, h1, b1⟩
  go_wp2_with fail
  have hn := num_walk s false hs _ _ h1
  rw [numS_none HF.out] at hn
  refine hn.mono ?_
  rintro e w2 ⟨rfl, h2, g2⟩
  have B2 := under_of_only b1 g2 b1.size (Nat.le_refl _)
  go_wp2_with fail
  refine (ok_walk _ _ _ _ h2).mono ?_
  rintro e w3 ⟨rfl, rfl⟩
  go_wp2
  go_ret
  exact ⟨rfl, B2⟩
theorem fails_text (s : List UInt8) (hs : s.length ≤ 140737488355328) (hf : textS s false = ([], [], true)) (w : World) :
    Calls Try.prog 6 #[.string ⟨s.toArray⟩, .bool true] w (Done w) := by
  have HF := Lib.hid hf
  clear hf
  go_enter Try.func6, Try.ntmps6
  go_wp2_with fail
  refine (newReader_walk s _).mono ?_
  rintro e w1 ⟨rfl, h1, b1⟩
  go_wp2_with fail
  have hn := text_walk s false hs _ _ h1
  rw [HF.out] at hn
  refine hn.mono ?_
  rintro e w2 ⟨rfl, h2, g2⟩
  have B2 := under_of_only b1 g2 b1.size (Nat.le_refl _)
  go_wp2_with fail
  refine (ok_walk _ _ _ _ h2).mono ?_
  rintro e w3 ⟨rfl, rfl⟩
  go_wp2
  go_ret
  exact ⟨rfl, B2⟩

theorem b127 (w : World) : Calls Try.prog 4 #[.int .u64 127] w fun e w' => e = .returned (.string ⟨#[127]⟩) ∧ Below w.heap.size w w' := by
  have h := bytesOf_walk 127 (by unfold U64; omega) w
  rw [show numB 127 = [127] by decide] at h
  exact h
theorem b300 (w : World) : Calls Try.prog 4 #[.int .u64 300] w fun e w' => e = .returned (.string ⟨#[172, 2]⟩) ∧ Below w.heap.size w w' := by
  have h := bytesOf_walk 300 (by unfold U64; omega) w
  rw [show numB 300 = [172, 2] by decide] at h
  exact h
theorem b63 (w : World) : Calls Try.prog 4 #[.int .u64 9223372036854775808] w fun e w' => e = .returned (.string ⟨#[128, 128, 128, 128, 128, 128, 128, 128, 128, 1]⟩) ∧ Below w.heap.size w w' := by
  have h := bytesOf_walk 9223372036854775808 (by unfold U64; omega) w
  rw [show numB 9223372036854775808 = [128, 128, 128, 128, 128, 128, 128, 128, 128, 1] by decide] at h
  exact h
theorem b64 (w : World) : Calls Try.prog 4 #[.int .u64 18446744073709551615] w fun e w' => e = .returned (.string ⟨#[255, 255, 255, 255, 255, 255, 255, 255, 255, 1]⟩) ∧ Below w.heap.size w w' := by
  have h := bytesOf_walk 18446744073709551615 (by unfold U64; omega) w
  rw [show numB 18446744073709551615 = [255, 255, 255, 255, 255, 255, 255, 255, 255, 1] by decide] at h
  exact h
theorem pt0 (w : World) : Calls Try.prog 5 #[.string ⟨#[]⟩, .string ⟨#[]⟩] w fun e w' => e = .returned (.string ⟨#[0]⟩) ∧ Below w.heap.size w w' := by
  have h := putText_walk [] [] (by simp) (by simp) w
  rw [show [] ++ textB [] = [0] by decide] at h
  exact h

theorem cat1 : (ByteArray.mk #[255, 255, 255, 255, 255, 255, 255, 255, 255] ++ ByteArray.mk #[1]) = ByteArray.mk #[255, 255, 255, 255, 255, 255, 255, 255, 255, 1] := ByteArray.mk_append_mk [255, 255, 255, 255, 255, 255, 255, 255, 255] [1]
theorem cat2 : (ByteArray.mk #[255, 255, 255, 255, 255, 255, 255, 255, 255] ++ ByteArray.mk #[2]) = ByteArray.mk #[255, 255, 255, 255, 255, 255, 255, 255, 255, 2] := ByteArray.mk_append_mk [255, 255, 255, 255, 255, 255, 255, 255, 255] [2]
theorem cat129 : (ByteArray.mk #[255, 255, 255, 255, 255, 255, 255, 255, 255] ++ ByteArray.mk #[129]) = ByteArray.mk #[255, 255, 255, 255, 255, 255, 255, 255, 255, 129] := ByteArray.mk_append_mk [255, 255, 255, 255, 255, 255, 255, 255, 255] [129]
theorem cat128 : (ByteArray.mk #[255, 255, 255, 255, 255, 255, 255, 255, 255] ++ ByteArray.mk #[128, 1]) = ByteArray.mk #[255, 255, 255, 255, 255, 255, 255, 255, 255, 128, 1] := ByteArray.mk_append_mk [255, 255, 255, 255, 255, 255, 255, 255, 255] [128, 1]
theorem cat10 : (ByteArray.mk #[255, 255, 255, 255, 255, 255, 255, 255, 255, 1] ++ ByteArray.mk #[0]) = ByteArray.mk #[255, 255, 255, 255, 255, 255, 255, 255, 255, 1, 0] := ByteArray.mk_append_mk [255, 255, 255, 255, 255, 255, 255, 255, 255, 1] [0]

/-- What begins with no number's bytes, and no text's. -/
def oddL : List (List UInt8) := [[], [129], [128, 0], [129, 0], [255, 255, 255, 255, 255, 255, 255, 255, 255, 2], [255, 255, 255, 255, 255, 255, 255, 255, 255, 129], [255, 255, 255, 255, 255, 255, 255, 255, 255, 128, 1], [255, 128, 0]]
def oddOf (k : Nat) : List UInt8 := oddL.getD k []
def oddCells : List Value := oddL.map fun l => .string ⟨l.toArray⟩
theorem odd_first : ∀ k, k < 8 → first (oddOf k) = none ∧ textS (oddOf k) false = ([], [], true) ∧ (oddOf k).length ≤ 11 := by decide
theorem odd_cell (k : Nat) (hk : k < 8) : oddCells[k]? = some (.string ⟨(oddOf k).toArray⟩) := by
  unfold oddCells oddOf
  rw [List.getElem?_map, List.getD_eq_getElem?_getD]
  have h : k < oddL.length := hk
  rw [List.getElem?_eq_getElem h]
  rfl
theorem top_num (g : Nat) (w : World) (h : Rd w g [255, 255, 255, 255, 255, 255, 255, 255, 255, 1, 0] false) : Calls Try.prog 8 #[.pointer (some ⟨g, 0, none⟩)] w (Took w g (.int .u64 18446744073709551615) [0] false) := by
  have h := num_walk _ _ (by simp) g w h
  rw [show numS [255, 255, 255, 255, 255, 255, 255, 255, 255, 1, 0] false = (18446744073709551615, [0], false) by decide] at h
  exact h
theorem top_text (g : Nat) (w : World) (h : Rd w g [0] false) : Calls Try.prog 10 #[.pointer (some ⟨g, 0, none⟩)] w (Took w g (.string ⟨#[]⟩) [] false) := by
  have h := text_walk _ _ (by simp) g w h
  rw [show textS [0] false = ([], [], false) by decide] at h
  exact h
theorem top_num2 (g : Nat) (w : World) (h : Rd w g [] false) : Calls Try.prog 8 #[.pointer (some ⟨g, 0, none⟩)] w (Took w g (.int .u64 0) [] true) := by
  have h := num_walk _ _ (by simp) g w h
  rw [show numS [] false = (0, [], true) by decide] at h
  exact h

set_option maxRecDepth 100000 in
set_option maxHeartbeats 4000000 in
theorem walk (w : World) : Calls Try.prog 3 #[] w (Done w) := by
  have c1 := cat1
  have c2 := cat2
  have c3 := cat129
  have c4 := cat128
  have c5 := cat10
  go_enter Try.func3, Try.ntmps3
  go_wp2_with fail
  refine (b127 _).mono ?_
  rintro e w1 ⟨rfl, b1⟩
  go_wp2_with fail
  refine (b300 _).mono ?_
  rintro e w2 ⟨rfl, b2⟩
  go_wp2_with fail
  refine (b63 _).mono ?_
  rintro e w3 ⟨rfl, b3⟩
  go_wp2_with fail
  refine (b64 _).mono ?_
  rintro e w4 ⟨rfl, b4⟩
  go_wp2_with fail
  refine (pt0 _).mono ?_
  rintro e w5 ⟨rfl, b5⟩
  have s2 := Nat.le_trans b1.size b2.size
  have s3 := Nat.le_trans s2 b3.size
  have s4 := Nat.le_trans s3 b4.size
  have B5 := (((b1.trans (b2.mono b1.size)).trans (b3.mono s2)).trans (b4.mono s3)).trans (b5.mono s4)
  clear s2 s3 s4 b1 b2 b3 b4 b5
  go_wp2_with fail
  go_loopw [3] (fun i wr => ∃ k : Nat, k ≤ 8 ∧ i = .int .i64 k ∧ Has wr w5.heap.size 25 oddCells ∧ Below w.heap.size w wr) (fun i _ => 8 - (intOf i).toNat)
  case atStart => exact ⟨0, by omega, rfl, heap_alloc_new _ _, B5.alloc B5.size _⟩
  case round =>
    obtain ⟨k, hk, rfl, hh, hbel⟩ := hrel
    by_cases hlt : k < 8
    · obtain ⟨o1, o2, o3⟩ := odd_first k hlt
      have hcell := (hh.cell k).trans (odd_cell k hlt)
      generalize oddOf k = l at *
      have O1 := Lib.hid o1
      have O2 := Lib.hid o2
      clear o1 o2 B5 c1 c2 c3 c4 c5
      go_wp2_with fail
      refine (fails_num l (by omega) O1.out _).mono ?_
      rintro e w6 ⟨rfl, b6⟩
      have hh6 := hh.under b6 hh.lt
      have hcell6 := b6.cell (p := ⟨w5.heap.size, k, none⟩) hh.lt
      rw [hcell] at hcell6
      have B6 := hbel.trans (b6.mono hbel.size)
      clear hh hcell hbel b6
      go_wp2_with fail
      refine (fails_text l (by omega) O2.out _).mono ?_
      rintro e w7 ⟨rfl, b7⟩
      have hh7 := hh6.under b7 hh6.lt
      have B7 := B6.trans (b7.mono B6.size)
      go_wp2
      go_roundw
      case rel => exact ⟨k + 1, by omega, by go_num, hh7, B7⟩
      case measure => simp [intOf]; omega
    · clear B5 hh
      go_wp2_with fail
      refine (fails_text [3, 97, 98] (by simp) (by decide) _).mono ?_
      rintro e w6 ⟨rfl, b6⟩
      go_wp2_with fail
      refine (fails_text [255, 255, 255, 255, 255, 255, 255, 255, 255, 1] (by simp) (by decide) _).mono ?_
      rintro e w7 ⟨rfl, b7⟩
      go_wp2_with fail
      refine (fails_text [128, 1] (by simp) (by decide) _).mono ?_
      rintro e w8 ⟨rfl, b8⟩
      have s7 := Nat.le_trans hbel.size b6.size
      have s8 := Nat.le_trans s7 b7.size
      have B8 := ((hbel.trans (b6.mono hbel.size)).trans (b7.mono s7)).trans (b8.mono s8)
      clear s7 s8 b6 b7 b8 hbel
      go_wp2_with fail
      refine (newReader_walk [255, 255, 255, 255, 255, 255, 255, 255, 255, 1, 0] _).mono ?_
      rintro e w9 ⟨rfl, h9, b9⟩
      have B9 := B8.trans (b9.mono B8.size)
      go_wp2_with fail
      refine (top_num _ _ h9).mono ?_
      rintro e w10 ⟨rfl, h10, g10⟩
      have B10 := under_of_only B9 g10 B9.size B8.size
      go_wp2_with fail
      refine (end_walk _ _ _ _ h10).mono ?_
      rintro e w11 ⟨rfl, rfl⟩
      go_wp2_with fail
      refine (top_text _ _ h10).mono ?_
      rintro e w11 ⟨rfl, h11, g11⟩
      have B11 := under_of_only B10 g11 B10.size B8.size
      go_wp2_with fail
      refine (end_walk _ _ _ _ h11).mono ?_
      rintro e w12 ⟨rfl, rfl⟩
      go_wp2_with fail
      refine (top_num2 _ _ h11).mono ?_
      rintro e w12 ⟨rfl, h12, g12⟩
      have B12 := under_of_only B11 g12 B11.size B8.size
      go_wp2_with fail
      refine (ok_walk _ _ _ _ h12).mono ?_
      rintro e w13 ⟨rfl, rfl⟩
      go_wp2_with fail
      refine (num_none _).mono ?_
      rintro e w13 ⟨rfl, rfl⟩
      go_wp2_with fail
      refine (text_none _).mono ?_
      rintro e w13 ⟨rfl, rfl⟩
      go_wp2_with fail
      refine (WR.ok_none _).mono ?_
      rintro e w13 ⟨rfl, rfl⟩
      go_wp2_with fail
      refine (end_none _).mono ?_
      rintro e w13 ⟨rfl, rfl⟩
      go_wp2_with fail
      refine (works_walk _).mono ?_
      rintro e w13 ⟨rfl, b13⟩
      go_wp2
      go_ret
      exact ⟨rfl, B12.trans (b13.mono B12.size)⟩

set_option maxRecDepth 100000 in
theorem lifted (os : Os) (started : os.Started) (H : Type) (enc : TypeId × Value → H) :
    ReturnsInHanded {} Try.checked os 3 .any (Rows.wireKnownSpec.pre6 enc Try.prog Try.f3 Rows.wireKnownRow.domain false) (Rows.wireKnownSpec.post enc Try.prog Try.f3 false true false false) := by
  refine returnsInHanded_of_change (C := Try.checked) own started (by kernel_rfl) Try.func3
    (ChangeSpec.witness6 (enc := enc) (C := Try.checked) false ⟨#[], #[], []⟩ 8 (by kernel_rfl) (by kernel_rfl) (by kernel_rfl) (by kernel_rfl)) ?_
  intro W base args ds gs before hval0 hW hcnd _
  have hval : ∀ (j : Nat) t v, Try.f3.params[j]? = some t → args[j]? = some v → Value.okWide Try.prog W .any base t v := hval0
  have hW' := hW
  obtain ⟨p, q, hA0, hV, rfl, hfz, hnd⟩ := hW
  have hA : DataW.TrodAll enc Try.prog W 0 (fun _ => true) true Try.f3.params.toList args.toList ds p := hA0
  rw [Try.params3] at hA hval
  obtain ⟨hargs, rfl, rfl⟩ := trodAll_nil hA
  obtain rfl : args = #[] := by cases args; simp_all
  obtain ⟨rfl, rfl⟩ := trodVars_none hV
  clear hA0 hval0
  have hc := walk W
  try rw [Array.toArray_toList] at hc
  refine hc.mono fun e W' ⟨he, hg⟩ => ?_
  subst he
  exact ⟨_, rfl, law_post rfl (by decide +kernel) (by kernel_rfl) rfl hW' hg⟩

theorem over : Rows.wireKnownRow.holds Try.pinned (OpenSpec.ofChange Rows.wireKnownSpec) :=
  OpenClaim.holds_of_wide 3 Try.f3 rfl rfl rfl rfl rfl rfl rfl ⟨rfl, rfl, rfl, rfl, rfl⟩ rfl rfl rfl rfl rfl (by kernel_rfl) Try.func3 (by kernel_rfl)
    (of_decide_eq_true (by kernel_rfl)) (by unfold Func.isWrapper; first | (rw [if_pos (by decide +kernel)]; kernel_rfl) | (rw [if_neg (by decide +kernel)]; exact ⟨rfl, rfl⟩))
    (fun os started H enc _ => lifted os started H enc)

theorem proved : Rows.WireKnownSaid :=
  over
#print axioms proved
end WireKnown
end Go.Proofs.Ytdpkgmcjofddnab
