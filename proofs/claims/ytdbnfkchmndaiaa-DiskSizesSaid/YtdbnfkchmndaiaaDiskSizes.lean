/- For any number of sectors: a disk of so many there is just if the document's is there; it has so many, all zeros, and no more. No condition. -/
import Derived.Test.YtdbnfkchmndaiaaRefMem
import Derived.Test.YtdbnfkchmndaiaaLawKit
namespace Go.Proofs.Ytdbnfkchmndaiaa
open Go.ChangeShapes Go.WideShapes Go.ChangeAt Go.RowKit Go.Lib MM MF DM DK DN FL DW DF DU MS DL DO LK MY DP RM
namespace DiskSizes
theorem fresh_reads (n : Nat) (h1 : 1 ≤ n) : refuse (fresh n) ((n : Int) - 1) = 0 ∧ readT (fresh n) ((n : Int) - 1) = zeros ∧ refuse (fresh n) n = 6 := by
  have hl : (fresh n).fl.length = n := List.length_replicate
  have hr : refuse (fresh n) ((n : Int) - 1) = 0 := refuse_in rfl (by omega) (by rw [hl]; omega)
  refine ⟨hr, ?_, refuse_out rfl (by rw [hl]; omega)⟩
  unfold readT
  rw [if_pos hr]
  show (List.replicate n zeros).getD _ [] = _
  rw [List.getD_eq_getElem?_getD, List.getElem?_replicate, if_pos (by omega)]
  rfl
set_option maxRecDepth 100000 in
set_option maxHeartbeats 4000000 in
theorem walk (i : Int) (hlo : -9223372036854775808 ≤ i) (hhi : i ≤ 9223372036854775807) (w : World) :
    Calls Try.prog 4 #[.int .i64 i] w fun e w' => e = .returned (.bool true) ∧ Below w.heap.size w w' := by
  by_cases hi : i < 1 ∨ 4096 < i
  · go_enter Try.func4, Try.ntmps4
    go_wp2_with fail
    refine (new_none i hi _).mono ?_
    rintro e w1 ⟨rfl, rfl⟩
    go_wp2_with fail
    refine (rnew_none i hi _).mono ?_
    rintro e w2 ⟨rfl, rfl⟩
    go_wp2_with fail
    refine (works_walk _).mono ?_
    rintro e w3 ⟨rfl, b3⟩
    go_wp2
    go_ret
    exact ⟨rfl, b3⟩
  · obtain ⟨n, rfl⟩ := Int.eq_ofNat_of_zero_le (show 0 ≤ i by omega)
    have h1 : 1 ≤ n := by omega
    have h2 : n ≤ 4096 := by omega
    obtain ⟨q1, q2, q3⟩ := fresh_reads n h1
    have Q1 := Lib.hid q1
    have Q2 := Lib.hid q2
    have Q3 := Lib.hid q3
    have hlen : (fresh n).fl.length = n := List.length_replicate
    have HL := Lib.hid hlen
    have hmk := make_bytes
    obtain ⟨ZC, hZ⟩ : ∃ ZC, ZC = byteCells zeros := ⟨_, rfl⟩
    rw [← hZ] at hmk
    have hzt := zeros_text ZC hZ
    clear q1 q2 q3 hlen hZ hi
    go_enter Try.func4, Try.ntmps4
    go_wp2_with fail
    refine (new_on n _ rfl h1 h2 w _ (Below.refl _ _)).mono ?_
    rintro e w1 ⟨g, rfl, o1⟩
    go_wp2_with fail
    refine (rnew_walk n h1 h2 _).mono ?_
    rintro e w2 ⟨gr, fr, rfl, _, b2⟩
    have o2 := o1.below b2
    clear o1 b2
    generalize fresh n = S at *
    go_wp2_with fail
    refine (read_on o2 _).mono ?_
    rintro e w3 ⟨rfl, rfl⟩
    rw [Q1.out, Q2.out]
    go_wp2_with fail
    refine (read_on o2 _).mono ?_
    rintro e w3 ⟨rfl, rfl⟩
    rw [Q3.out]
    go_wp2_with fail
    refine (len_on o2).mono ?_
    rintro e w3 ⟨rfl, rfl⟩
    rw [HL.out]
    go_wp2_with fail
    refine (works_walk _).mono ?_
    rintro e w3 ⟨rfl, b3⟩
    have hB : Below w.heap.size w w3 := by
      have o3 := (o2.alloc (.cells ZC.toArray 5)).under
      exact o3.trans (b3.mono o3.size)
    go_wp2
    go_ret
    exact ⟨rfl, hB⟩

set_option maxRecDepth 100000 in
theorem lifted (os : Os) (started : os.Started) (H : Type) (enc : TypeId × Value → H) :
    ReturnsInHanded {} Try.checked os 4 .any (Rows.diskSizesSpec.pre6 enc Try.prog Try.f4 Rows.diskSizesRow.domain false) (Rows.diskSizesSpec.post enc Try.prog Try.f4 false true false false) := by
  refine returnsInHanded_of_change (C := Try.checked) own started (by kernel_rfl) Try.func4
    (ChangeSpec.witness6 (enc := enc) (C := Try.checked) false ⟨#[], #[.int .i64 0], []⟩ 8 (by kernel_rfl) (by kernel_rfl) (by kernel_rfl) (by kernel_rfl)) ?_
  intro W base args ds gs before hval0 hW hcnd _
  have hval : ∀ (j : Nat) t v, Try.f4.params[j]? = some t → args[j]? = some v → Value.okWide Try.prog W .any base t v := hval0
  have hW' := hW
  obtain ⟨p, q, hA0, hV, rfl, hfz, hnd⟩ := hW
  have hA : DataW.TrodAll enc Try.prog W 0 (fun _ => true) true Try.f4.params.toList args.toList ds p := hA0
  rw [Try.params4] at hA hval
  obtain ⟨v0, vs0, d0, ds0, p0, q0, hargs, rfl, rfl, h0, r0⟩ := trodAll_cons hA
  obtain ⟨rfl, rfl, rfl⟩ := trodAll_nil r0
  obtain rfl : args = #[v0] := by cases args; simp_all
  obtain ⟨rfl, rfl⟩ := trodVars_none hV
  obtain ⟨a0, rfl, rfl, rfl, w0⟩ := open_int Try.underlying3 (hval 0 3 v0 rfl rfl) h0
  have hw : -9223372036854775808 ≤ a0 ∧ a0 ≤ 9223372036854775807 := by simpa [Lit.wf, IntKind.min, IntKind.max, IntKind.signed, IntKind.bits] using w0
  clear hA0 hval0
  have hc := walk a0 hw.1 hw.2 W
  try rw [Array.toArray_toList] at hc
  refine hc.mono fun e W' ⟨he, hg⟩ => ?_
  subst he
  exact ⟨_, rfl, law_post rfl (by decide +kernel) (by kernel_rfl) rfl hW' hg⟩

theorem over : Rows.diskSizesRow.holds Try.pinned (OpenSpec.ofChange Rows.diskSizesSpec) :=
  OpenClaim.holds_of_wide 4 Try.f4 rfl rfl rfl rfl rfl rfl rfl ⟨rfl, rfl, rfl, rfl, rfl⟩ rfl rfl rfl rfl rfl (by kernel_rfl) Try.func4 (by kernel_rfl)
    (of_decide_eq_true (by kernel_rfl)) (by unfold Func.isWrapper; first | (rw [if_pos (by decide +kernel)]; kernel_rfl) | (rw [if_neg (by decide +kernel)]; exact ⟨rfl, rfl⟩))
    (fun os started H enc _ => lifted os started H enc)

theorem proved : Rows.DiskSizesSaid :=
  over
#print axioms proved
end DiskSizes
end Go.Proofs.Ytdbnfkchmndaiaa
