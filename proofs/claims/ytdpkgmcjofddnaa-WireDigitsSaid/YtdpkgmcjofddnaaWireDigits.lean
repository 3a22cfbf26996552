/- For any number: its bytes are its digits to the base 128, the lowest first, each but the last one marked by 128; and a reader has the number again. No condition. -/
import Derived.Test.YtdpkgmcjofddnaaWireLaw
import Derived.Test.YtdpkgmcjofddnaaLawKit
namespace Go.Proofs.Ytdpkgmcjofddnaa
open Go.ChangeShapes Go.WideShapes Go.ChangeAt Go.RowKit Go.Lib WM WW WP WR WL LK
namespace WireDigits
def Done (w : World) (e : Ending) (w' : World) : Prop := e = .returned (.bool true) ∧ Below w.heap.size w w'
theorem mask127 {c : Int} (h₀ : 0 ≤ c) (h₁ : c ≤ 255) : bits .and .u8 c 127 = c % 128 := bits_mask .u8 8 (by decide) wraps_u8 7 (by decide) c h₀ (by omega)

/-- How many digits are counted, and what is left. -/
def Counted (n j y : Nat) : Prop := (numB n).length = j + (numF (9 - j) y).length ∧ y * 128 ^ j ≤ n ∧ j ≤ 9
theorem counted_zero (n : Nat) : Counted n 0 n := ⟨by simp [numB], by simp, by omega⟩
theorem counted_nine {n j y : Nat} (hn : U64 n) (h : Counted n j y) (hy : 128 ≤ y) : j + 1 ≤ 9 := by
  obtain ⟨_, h2, h3⟩ := h
  unfold U64 at hn
  by_cases h9 : j = 9
  · rw [h9] at h2
    have e9 : (128 : Nat) ^ 9 = 9223372036854775808 := by decide
    rw [e9] at h2
    omega
  · omega
theorem numF_more {j y : Nat} (hj : j + 1 ≤ 9) (hy : 128 ≤ y) : numF (9 - j) y = UInt8.ofNat (y % 128 + 128) :: numF (9 - (j + 1)) (y / 128) := by
  obtain ⟨f, hf⟩ : ∃ f, 9 - j = f + 1 := ⟨8 - j, by omega⟩
  rw [hf, numF, if_neg (by omega), show 9 - (j + 1) = f by omega]
theorem down {n j y : Nat} (h : y * 128 ^ j ≤ n) : y / 128 * 128 ^ (j + 1) ≤ n := by
  refine Nat.le_trans ?_ h
  rw [pow128_succ, Nat.mul_comm (128 ^ j) 128, ← Nat.mul_assoc]
  exact Nat.mul_le_mul_right _ (by omega)
theorem counted_more {n j y : Nat} (hn : U64 n) (h : Counted n j y) (hy : 128 ≤ y) : Counted n (j + 1) (y / 128) := by
  have hj := counted_nine hn h hy
  obtain ⟨h1, h2, _⟩ := h
  refine ⟨?_, down h2, hj⟩
  rw [h1, numF_more hj hy, List.length_cons]
  omega
theorem counted_end {n j y : Nat} (h : Counted n j y) (hy : y < 128) : (numB n).length = j + 1 := by
  rw [h.1, last_digit hy]; rfl

/-- What is left of the bytes at the place k, and of the number. -/
def Rest (n k y : Nat) : Prop := (k < (numB n).length → (numB n).drop k = numF (9 - k) y ∧ y * 128 ^ k ≤ n ∧ k ≤ 9) ∧ (k = (numB n).length → y = 0)
theorem rest_zero (n : Nat) : Rest n 0 n := ⟨fun _ => ⟨by simp [numB], by simp, by omega⟩, fun h => by have := numB_pos n; omega⟩
theorem rest_last {n k y : Nat} (h : Rest n k y) (hk : k < (numB n).length) (hy : y < 128) : (numB n)[k].toNat = y ∧ k + 1 = (numB n).length ∧ Rest n (k + 1) (y / 128) := by
  obtain ⟨h1, _, _⟩ := h.1 hk
  rw [last_digit hy, List.drop_eq_getElem_cons hk] at h1
  injection h1 with h2 h3
  have hl := congrArg List.length h3
  simp only [List.length_drop, List.length_nil] at hl
  have e : k + 1 = (numB n).length := by omega
  exact ⟨by rw [h2]; exact toNat_ofNat_lt (by omega), e, fun h => by omega, fun _ => by omega⟩
theorem rest_more {n k y : Nat} (hn : U64 n) (h : Rest n k y) (hk : k < (numB n).length) (hy : 128 ≤ y) : (numB n)[k].toNat = y % 128 + 128 ∧ k + 1 < (numB n).length ∧ Rest n (k + 1) (y / 128) := by
  obtain ⟨h1, h2, h3⟩ := h.1 hk
  have hj := counted_nine (n := n) (j := k) hn ⟨by
    have := congrArg List.length h1
    rw [List.length_drop] at this
    omega, h2, h3⟩ hy
  rw [numF_more hj hy, List.drop_eq_getElem_cons hk] at h1
  injection h1 with h4 h5
  have hl := congrArg List.length h5
  have := (numF_length (9 - (k + 1)) (y / 128)).1
  rw [List.length_drop] at hl
  exact ⟨by rw [h4]; exact toNat_ofNat_lt (by omega), by omega, fun _ => ⟨h5, down h2, hj⟩, fun h => by omega⟩

set_option maxRecDepth 100000 in
set_option maxHeartbeats 1000000 in
theorem walk_nat (n : Nat) (hn : U64 n) (w : World) :
    Calls Try.prog 5 #[.int .u64 n] w (Done w) := by
  have hw : IntKind.u64.wrap ((n : Int) / 128) = ((n / 128 : Nat) : Int) := by
    have := IntWalk.u64_in ((n : Int) / 128) ⟨by omega, by unfold U64 at hn; omega⟩
    omega
  go_enter Try.func5, Try.ntmps5
  go_wp2_with fail
  refine (bytesOf_walk n hn _).mono ?_
  rintro e w1 ⟨rfl, b1⟩
  go_wp2
  go_loop [4, 5] (fun d x => ∃ j y z : Nat, d = .int .i64 ((j : Int) + 1) ∧ x = .int .u64 z ∧ Hid (z = y / 128) ∧ U64 y ∧ j ≤ 9 ∧ Hid (Counted n j y)) (fun d _ => 10 - (intOf d).toNat)
  case atStart => exact ⟨0, n, n / 128, rfl, rfl, (rfl : n / 128 = n / 128), hn, by omega, counted_zero n⟩
  case round =>
    obtain ⟨j, y, z, rfl, rfl, HZ, hy, hj, HC⟩ := hrel
    clear hw
    by_cases h0 : 0 < z
    · have h128 : 128 ≤ y := by have := HZ.out; omega
      have hj1 := counted_nine hn HC.out h128
      have HC' := Lib.hid (counted_more hn HC.out h128)
      have hz : U64 z := by have := HZ.out; unfold U64 at hy ⊢; omega
      have hw : IntKind.u64.wrap ((z : Int) / 128) = ((z / 128 : Nat) : Int) := by
        have := IntWalk.u64_in ((z : Int) / 128) ⟨by omega, by unfold U64 at hz; omega⟩
        omega
      go_wp2
      go_round
      case rel => exact ⟨j + 1, z, z / 128, by go_num, rfl, (rfl : z / 128 = z / 128), hz, hj1, by rw [HZ.out]; exact HC'.out⟩
      case measure => simp [intOf]; omega
    · have hend := counted_end HC.out (by have := HZ.out; omega)
      have HE := Lib.hid hend
      clear HC hend
      have hlen : (((numB n).length : Int) != (j : Int) + 1) = false := by rw [HE.out]; simp
      go_wp2
      go_loopw [6, 7, 8, 9] (fun left k _ _ wr => ∃ (k' y' m : Nat), k' ≤ (numB n).length ∧ k = .int .i64 k' ∧ left = .int .u64 y' ∧ U64 y' ∧ Hid (Rest n k' y') ∧ wr = w1.drewN m) (fun _ k _ _ _ => (numB n).length - (intOf k).toNat)
      case atStart => exact ⟨0, n, 0, by omega, rfl, rfl, hn, rest_zero n, rfl⟩
      case round =>
        obtain ⟨k, y', m, hk, rfl, rfl, hy', HR, rfl⟩ := hrel
        have hle := numB_le n
        by_cases hlt : k < (numB n).length
        · have hix := index_walk (numB n) k hlt
          have hw : IntKind.u64.wrap ((y' : Int) / 128) = ((y' / 128 : Nat) : Int) := by
            have := IntWalk.u64_in ((y' : Int) / 128) ⟨by omega, by unfold U64 at hy'; omega⟩
            omega
          have hy2 : U64 (y' / 128) := by unfold U64 at hy' ⊢; omega
          have hlt8 := (numB n)[k].toNat_lt
          have hmask := mask127 (c := ((numB n)[k].toNat : Int)) (by omega) (by omega)
          by_cases h128 : y' < 128
          · obtain ⟨e1, e2, e3⟩ := rest_last HR.out hlt h128
            have HR' := Lib.hid e3
            have hdig : (((numB n)[k].toNat : Int) % 128 != (y' : Int) % 128) = false := by rw [e1]; simp
            have hmark : decide (128 ≤ ((numB n)[k].toNat : Int)) = false := by rw [e1]; simp; omega
            have hlast : decide ((k : Int) + 1 < ((numB n).length : Int)) = false := by simp; omega
            clear e1 e3
            go_wp2
            go_quiet (fail)
            go_wp2
            go_roundw
            case rel => exact ⟨k + 1, y' / 128, m + nq, by omega, by go_num, by go_num, hy2, HR'.out, rfl⟩
            case measure => simp [intOf]; omega
          · obtain ⟨e1, e2, e3⟩ := rest_more hn HR.out hlt (by omega)
            have HR' := Lib.hid e3
            have hdig : (((numB n)[k].toNat : Int) % 128 != (y' : Int) % 128) = false := by rw [e1]; simp
            have hmark : decide (128 ≤ ((numB n)[k].toNat : Int)) = true := by rw [e1]; simp; omega
            have hlast : decide ((k : Int) + 1 < ((numB n).length : Int)) = true := by simp; omega
            clear e1 e3
            go_wp2
            go_quiet (fail)
            go_wp2
            exact ⟨⟨k + 1, y' / 128, m + nq, by omega, by go_num, by go_num, hy2, HR'.out, rfl⟩, by simp [intOf]; omega⟩
        · have hz : y' = 0 := HR.out.2 (by omega)
          subst hz
          have B2 : Below w.heap.size w (w1.drewN m) := b1.trans ⟨rfl, rfl, rfl, Nat.le_refl _, fun _ _ => rfl⟩
          clear HR hlen
          go_wp2_with fail
          refine (newReader_walk (numB n) _).mono ?_
          rintro e w2 ⟨rfl, h2, b2⟩
          have hnum := num_walk (numB n) false (by omega) _ _ h2
          rw [show numS (numB n) false = (n, [], false) by simpa using numS_put n [] hn.lt] at hnum
          have HNUM := Lib.hid hnum
          clear hnum
          go_wp2_with fail
          refine HNUM.out.mono ?_
          rintro e w3 ⟨rfl, h3, g3⟩
          go_wp2_with fail
          refine (end_walk _ _ _ _ h3).mono ?_
          rintro e w4 ⟨rfl, rfl⟩
          go_wp2_with fail
          refine (works_walk _).mono ?_
          rintro e w5 ⟨rfl, b5⟩
          have B3 := under_of_only (B2.trans (b2.mono B2.size)) g3 (Nat.le_trans B2.size b2.size) (by exact B2.size)
          go_wp2
          go_ret
          exact ⟨rfl, B3.trans (b5.mono B3.size)⟩

theorem walk (a : Int) (ha : (Lit.int .u64 a).wf = true) (w : World) :
    Calls Try.prog 5 #[.int .u64 a] w (Done w) := by
  obtain ⟨n, rfl, hn⟩ := of_wf ha
  exact walk_nat n hn w

set_option maxRecDepth 100000 in
theorem lifted (os : Os) (started : os.Started) (H : Type) (enc : TypeId × Value → H) :
    ReturnsInHanded {} Try.checked os 5 .any (Rows.wireDigitsSpec.pre6 enc Try.prog Try.f5 Rows.wireDigitsRow.domain false) (Rows.wireDigitsSpec.post enc Try.prog Try.f5 false true false false) := by
  refine returnsInHanded_of_change (C := Try.checked) own started (by kernel_rfl) Try.func5
    (ChangeSpec.witness6 (enc := enc) (C := Try.checked) false ⟨#[], #[.int .u64 0], []⟩ 8 (by kernel_rfl) (by kernel_rfl) (by kernel_rfl) (by kernel_rfl)) ?_
  intro W base args ds gs before hval0 hW hcnd _
  have hval : ∀ (j : Nat) t v, Try.f5.params[j]? = some t → args[j]? = some v → Value.okWide Try.prog W .any base t v := hval0
  have hW' := hW
  obtain ⟨p, q, hA0, hV, rfl, hfz, hnd⟩ := hW
  have hA : DataW.TrodAll enc Try.prog W 0 (fun _ => true) true Try.f5.params.toList args.toList ds p := hA0
  rw [Try.params5] at hA hval
  obtain ⟨v0, vs0, d0, ds0, p0, q0, hargs, rfl, rfl, h0, r0⟩ := trodAll_cons hA
  obtain ⟨rfl, rfl, rfl⟩ := trodAll_nil r0
  obtain rfl : args = #[v0] := by cases args; simp_all
  obtain ⟨rfl, rfl⟩ := trodVars_none hV
  obtain ⟨a0, rfl, rfl, rfl, w0⟩ := open_int Try.underlying23 (hval 0 23 v0 rfl rfl) h0
  clear hA0 hval0
  refine (walk a0 w0 W).mono fun e W' ⟨he, hg⟩ => ?_
  subst he
  exact ⟨_, rfl, law_post rfl (by decide +kernel) (by kernel_rfl) rfl hW' hg⟩

theorem over : Rows.wireDigitsRow.holds Try.pinned (OpenSpec.ofChange Rows.wireDigitsSpec) :=
  OpenClaim.holds_of_wide 5 Try.f5 rfl rfl rfl rfl rfl rfl rfl ⟨rfl, rfl, rfl, rfl, rfl⟩ rfl rfl rfl rfl rfl (by kernel_rfl) Try.func5 (by kernel_rfl)
    (of_decide_eq_true (by kernel_rfl)) (by unfold Func.isWrapper; first | (rw [if_pos (by decide +kernel)]; kernel_rfl) | (rw [if_neg (by decide +kernel)]; exact ⟨rfl, rfl⟩))
    (fun os started H enc _ => lifted os started H enc)

theorem proved : Rows.WireDigitsSaid :=
  over
#print axioms proved
end WireDigits
end Go.Proofs.Ytdpkgmcjofddnaa
