/- No beginning of an entry's bytes is an entry's: of all entries (the first ten of their operations), and lengths. No condition. -/
import Derived.Test.YtkhdidhpcdlmcabLrecArgs
namespace Go.Proofs.Ytkhdidhpcdlmcab
set_option maxRecDepth 100000
open Go.ChangeShapes Go.WideShapes Go.ChangeAt Go.RowKit Go.Lib MM MB MS MF DE WM WP WR CM CE LM LQ LC LA LL RS LR LTk LD LW LAr LK
namespace LrecCut
set_option maxHeartbeats 4000000 in
theorem walk (W : World) (e : En) (v : Value) (hE : Ew W e v) (a : Nat) (ha : a ≤ 65535) : Calls Try.prog 6 #[.agg (ecells e v).toArray, .int .u16 a] W fun r w' => r = .returned (.bool true) ∧ Below W.heap.size W w' := by
  obtain ⟨A, cap, rfl, hol⟩ := hE.1.form
  obtain ⟨bx, ebx⟩ : ∃ bx, bx = W.heap.size := ⟨_, rfl⟩
  obtain ⟨w0, hw0⟩ : ∃ w0, w0 = W.alloc (.cells (ecells e (.slice A e.ops.length cap)).toArray 25) := ⟨_, rfl⟩
  have b0 : Below W.heap.size W w0 := by rw [hw0]; exact (Below.refl _ _).alloc (Nat.le_refl _) _
  have x0 : Has w0 bx 25 (ecells e (.slice A e.ops.length cap)) := by rw [hw0, ebx]; exact heap_alloc_new _ _
  have hcap : e.ops.length ≤ cap := by
    obtain ⟨A', cap', e1, h1, _⟩ := hE.1
    injection e1 with e1 e2 e3
    omega
  have HB0 := Lib.hid b0
  have HX0 := Lib.hid x0
  have HE := Lib.hid hE
  have HWK := Lib.hid (works_walk w0)
  have HBX : Hid (bx = W.heap.size) := Lib.hid ebx
  have hm : min (e.ops.length : Int) 10 = ((min e.ops.length 10 : Nat) : Int) := by omega
  obtain ⟨m, hmm⟩ : ∃ m, m = min e.ops.length 10 := ⟨_, rfl⟩
  rw [← hmm] at hm
  have hm1 : m ≤ e.ops.length := by rw [hmm]; exact Nat.min_le_left _ _
  have HMM := Lib.hid hmm
  unfold ecells at hw0 HX0 ⊢
  clear b0 x0 hE hmm
  go_enter Try.func6, Try.ntmps6
  go_wp2_with fail
  rw [← hw0]
  rw [← ebx]
  clear hw0 ebx
  refine HWK.out.mono ?_
  rintro r w1 ⟨rfl, b1⟩
  have HX1 := Lib.hid (HX0.out.under b1 HX0.out.lt)
  have HB1 := Lib.hid (HB0.out.trans (b1.mono HB0.out.size))
  have c0 : w1.cell? ⟨bx, 0, none⟩ = some (.int .u64 e.ts) := HX1.out.cell 0
  have c1 : w1.cell? ⟨bx, 1, none⟩ = some (.int .u64 e.fst) := HX1.out.cell 1
  have c2 : w1.cell? ⟨bx, 2, none⟩ = some (.slice A e.ops.length cap) := HX1.out.cell 2
  have f2 := HX1.out.free 2
  clear b1 HX0 HB0 HWK
  have i1 : (0 : Int) ≤ (m : Int) := by omega
  have i2 : (m : Int) ≤ (cap : Int) := by omega
  go_wp2_with fail
  have hbw : W.heap.size ≤ bx := by rw [HBX.out]; exact Nat.le_refl _
  obtain ⟨w2, hw2⟩ : ∃ w2, w2 = w1.setCell ⟨bx, 2, none⟩ (.slice A m cap) := ⟨_, rfl⟩
  have HB2 : Hid (Below W.heap.size W w2) := Lib.hid (by rw [hw2]; exact HB1.out.setCell hbw _)
  have HE2 : Hid (Ew w2 (ten e) (.slice A m cap)) := Lib.hid (by rw [HMM.out]; exact ew_ten (HE.out.under HB2.out))
  rw [← hw2]
  clear hw2 c0 c1 c2 f2 HX1 HB1 i1 i2 hm hm1 hbw hcap hol
  have HEN := Lib.hid (encode_walk w2 (ten e) _ HE2.out)
  unfold ecells at HEN
  have hn2 := enc_len (ten e)
  by_cases hc : checkE (ten e) = 0
  · have hL : encL (ten e) = encB (ten e) := if_pos hc
    have hn1 := enc_pos (ten e)
    have hcut := fun k (hk : k < (encB (ten e)).length) => dec_cut hc hk
    rw [hc] at HEN
    rw [hL] at HEN hn2
    obtain ⟨L, hLL⟩ : ∃ L, L = encB (ten e) := ⟨_, rfl⟩
    rw [← hLL] at HEN hn2 hn1 hcut
    obtain ⟨n, hn⟩ : ∃ n, n = L.length := ⟨_, rfl⟩
    have hsz : (⟨L.toArray⟩ : ByteArray).size = n := hn.symm
    rw [← hn] at hn1 hn2 hcut
    have hk : a % n < n := Nat.mod_lt _ (by omega)
    have htm : (a : Int).tmod (n : Int) = ((a % n : Nat) : Int) := by rw [Int.tmod_eq_emod_of_nonneg (by omega)]; omega
    obtain ⟨k, hkk⟩ : ∃ k, k = a % n := ⟨_, rfl⟩
    rw [← hkk] at hk htm
    have hex : (⟨L.toArray⟩ : ByteArray).extract 0 k = ⟨(L.take k).toArray⟩ := by rw [ByteArray.extract_mk]; simp
    have HD := Lib.hid (fun (w3 : World) => decode_walk w3 (L.take k) (by rw [List.length_take]; omega))
    rw [hcut k hk] at HD
    have hnz : ¬ (n : Int) = 0 := by omega
    have i1 : (0 : Int) ≤ (k : Int) := by omega
    have i2 : (k : Int) ≤ (n : Int) := by omega
    have ea : IntKind.i64.wrap (a : Int) = (a : Int) := by unfold IntKind.wrap; simp [IntKind.bits, IntKind.signed]; omega
    have ek : IntKind.i64.wrap (k : Int) = (k : Int) := by unfold IntKind.wrap; simp [IntKind.bits, IntKind.signed]; omega
    clear hcut hc hL hLL hn hkk hn1 hn2 hk
    refine HEN.out.mono ?_
    rintro r w3 ⟨rfl, b3⟩
    have HB3 := Lib.hid (HB2.out.trans (b3.mono HB2.out.size))
    clear b3 HB2 HE2 HEN
    go_wp2_with fail
    refine (HD.out w3).mono ?_
    rintro r w4 ⟨b4, rfl⟩
    have HB4 := Lib.hid (HB3.out.trans (b4.mono HB3.out.size))
    clear b4 HB3 HD
    unfold zE
    go_wp2
    go_ret
    exact ⟨rfl, HB4.out.alloc HB4.out.size _⟩
  · obtain ⟨c, hcc⟩ : ∃ c, c = checkE (ten e) := ⟨_, rfl⟩
    rw [← hcc] at HEN hc
    have hcb : (c == 0) = false := beq_eq_false_iff_ne.2 hc
    clear hcc hc hn2
    refine HEN.out.mono ?_
    rintro r w3 ⟨rfl, b3⟩
    have HB3 := Lib.hid (HB2.out.trans (b3.mono HB2.out.size))
    clear b3 HB2 HE2 HEN
    go_wp2
    go_ret
    exact ⟨rfl, HB3.out⟩

set_option maxRecDepth 100000 in
theorem lifted (os : Os) (started : os.Started) (H : Type) (enc : TypeId × Value → H) :
    ReturnsInHanded {} Try.checked os 6 .any (Rows.lrecCutSpec.pre6 enc Try.prog Try.f6 Rows.lrecCutRow.domain false) (Rows.lrecCutSpec.post enc Try.prog Try.f6 false true false false) := by
  refine returnsInHanded_of_change (C := Try.checked) own started (by kernel_rfl) Try.func6
    (ChangeSpec.witness6 (enc := enc) (C := Try.checked) false ⟨#[], #[.agg #[.int .u64 0, .int .u64 0, .slice none 0 0], .int .u16 0], []⟩ 8 (by kernel_rfl) (by kernel_rfl) (by kernel_rfl) (by kernel_rfl)) ?_
  intro W base args ds gs before hval0 hW hcnd _
  have hval : ∀ (j : Nat) t v, Try.f6.params[j]? = some t → args[j]? = some v → Value.okWide Try.prog W .any base t v := hval0
  have hW' := hW
  obtain ⟨p, q, hA0, hV, rfl, hfz, hnd⟩ := hW
  have hA : DataW.TrodAll enc Try.prog W 0 (fun _ => true) true Try.f6.params.toList args.toList ds p := hA0
  rw [Try.params6] at hA hval
  obtain ⟨v0, vs0, d0, ds0, p0, q0, hargs, rfl, rfl, h0, r0⟩ := trodAll_cons hA
  obtain ⟨v1, vs1, d1, ds1, p1, q1, rfl, rfl, rfl, h1, r1⟩ := trodAll_cons r0
  obtain ⟨rfl, rfl, rfl⟩ := trodAll_nil r1
  obtain rfl : args = #[v0, v1] := by cases args; simp_all
  obtain ⟨rfl, rfl⟩ := trodVars_none hV
  obtain ⟨a1, rfl, rfl, rfl, w1⟩ := open_int Try.underlying36 (hval 1 36 v1 rfl rfl) h1
  have hw1 : 0 ≤ a1 ∧ a1 ≤ 65535 := by simpa [Lit.wf, IntKind.min, IntKind.max, IntKind.signed, IntKind.bits] using w1
  obtain ⟨n1, rfl⟩ := Int.eq_ofNat_of_zero_le hw1.1
  obtain ⟨e0, vo0, rfl, hE0⟩ := open_entry (hval 0 25 v0 rfl rfl) h0
  clear hA0 hval0
  have hc := walk W e0 vo0 hE0 n1 (by omega)
  try simp only [Array.toArray_toList] at hc
  refine hc.mono fun e W' ⟨he, hg⟩ => ?_
  subst he
  exact ⟨_, rfl, law_post rfl (by decide +kernel) (by kernel_rfl) rfl hW' hg⟩

theorem over : Rows.lrecCutRow.holds Try.pinned (OpenSpec.ofChange Rows.lrecCutSpec) :=
  OpenClaim.holds_of_wide 6 Try.f6 rfl rfl rfl rfl rfl rfl rfl ⟨rfl, rfl, rfl, rfl, rfl⟩ rfl rfl rfl rfl rfl (by kernel_rfl) Try.func6 (by kernel_rfl)
    (of_decide_eq_true (by kernel_rfl)) (by unfold Func.isWrapper; first | (rw [if_pos (by decide +kernel)]; kernel_rfl) | (rw [if_neg (by decide +kernel)]; exact ⟨rfl, rfl⟩))
    (fun os started H enc _ => lifted os started H enc)

theorem proved : Rows.LrecCutSaid :=
  over
#print axioms proved
end LrecCut
end Go.Proofs.Ytkhdidhpcdlmcab
