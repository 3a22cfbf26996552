/- For any two numbers: the greater one has no fewer bytes; and one that is 128 times as great, and no 0, has more. No condition. -/
import Derived.Test.YtdpkgmcjofddnaaWireLaw
import Derived.Test.YtdpkgmcjofddnaaLawKit
namespace Go.Proofs.Ytdpkgmcjofddnaa
open Go.ChangeShapes Go.WideShapes Go.ChangeAt Go.RowKit Go.Lib WM WW WP WR WL LK
namespace WireSizes
theorem len_mono : ∀ (f a b : Nat), a ≤ b → (numF f a).length ≤ (numF f b).length
  | 0, _, _, _ => by simp [numF]
  | f + 1, a, b, h => by
    have ih := len_mono f (a / 128) (b / 128) (Nat.div_le_div_right h)
    by_cases ha : a < 128
    · have := (numF_length (f + 1) b).1
      simp only [numF, if_pos ha, List.length_cons, List.length_nil]
      exact this
    · simp only [numF, if_neg ha, if_neg (show ¬ b < 128 by omega), List.length_cons]
      omega
theorem len_fuel : ∀ (f a : Nat), a < 128 ^ (f + 1) → (numF (f + 1) a).length = (numF f a).length
  | 0, a, h => by simp at h; simp [numF, h]
  | f + 1, a, h => by
    by_cases ha : a < 128
    · simp [numF, ha]
    · have h2 : a / 128 < 128 ^ (f + 1) := by
        rw [Nat.div_lt_iff_lt_mul (by omega)]
        rwa [← pow128_succ]
      have := len_fuel f (a / 128) h2
      have e1 : numF (f + 2) a = UInt8.ofNat (a % 128 + 128) :: numF (f + 1) (a / 128) := by rw [numF, if_neg ha]
      have e2 : numF (f + 1) a = UInt8.ofNat (a % 128 + 128) :: numF f (a / 128) := by rw [numF, if_neg ha]
      rw [e1, e2, List.length_cons, List.length_cons, this]
theorem len_more {a b : Nat} (hb : U64 b) (ha : 0 < a) (h : a ≤ b / 128) : (numB a).length < (numB b).length := by
  unfold U64 at hb
  have h1 := len_mono 8 a (b / 128) h
  have e9 : (128 : Nat) ^ 9 = 9223372036854775808 := by decide
  have h2 := len_fuel 8 a (by rw [show 8 + 1 = 9 from rfl, e9]; omega)
  have h3 : (numB b).length = (numF 8 (b / 128)).length + 1 := by
    unfold numB
    rw [numF, if_neg (by omega), List.length_cons]
  have h4 : (numB a).length = (numF 8 a).length := h2
  omega

/-- The tail of the walk: the two lengths are known, and what is asked of them holds. -/
def Done (w : World) (e : Ending) (w' : World) : Prop := e = .returned (.bool true) ∧ Below w.heap.size w w'

set_option maxHeartbeats 1000000 in
theorem walk_lt (a b : Nat) (ha : U64 a) (hb : U64 b) (hlt : a < b) (w : World) :
    Calls Try.prog 8 #[.int .u64 a, .int .u64 b] w (Done w) := by
  have hle : (numB a).length ≤ (numB b).length := len_mono 9 a b (by omega)
  have h1 : decide (((numB a).length : Int) < 1) = false := by have := numB_pos a; simp; omega
  have h10 : decide (10 < ((numB b).length : Int)) = false := by have := numB_le b; simp; omega
  have hd1 : decide ((numB b).length < (numB a).length) = false := by simp; omega
  have hw : IntKind.u64.wrap ((b : Int) / 128) = ((b / 128 : Nat) : Int) := by
    have := IntWalk.u64_in ((b : Int) / 128) ⟨by omega, by unfold U64 at hb; omega⟩
    omega
  have hm := @len_more a b hb
  have HM := Lib.hid hm
  clear hm
  rcases Nat.eq_zero_or_pos a with h0 | h0
  · subst h0
    have hz : decide (((numB b).length : Int) < 1) = false := by have := numB_pos b; simp; omega
    clear hd1 h1 hle HM
    go_enter Try.func8, Try.ntmps8
    go_wp2_with fail
    refine (bytesOf_0 _).mono ?_
    rintro e w1 ⟨rfl, b1⟩
    go_wp2_with fail
    refine (bytesOf_walk b hb _).mono ?_
    rintro e w2 ⟨rfl, b2⟩
    go_wp2_with fail
    refine (works_walk _).mono ?_
    rintro e w3 ⟨rfl, b3⟩
    go_wp2
    go_ret
    exact ⟨rfl, (b1.trans (b2.mono b1.size)).trans (b3.mono (Nat.le_trans b1.size b2.size))⟩
  · have hne : ((a : Int) == 0) = false := by simp; omega
    by_cases hd : b / 128 < a
    · have hdd : decide (b / 128 < a) = true := by simpa using hd
      go_enter Try.func8, Try.ntmps8
      go_wp2_with fail
      refine (bytesOf_walk a ha _).mono ?_
      rintro e w1 ⟨rfl, b1⟩
      go_wp2_with fail
      refine (bytesOf_walk b hb _).mono ?_
      rintro e w2 ⟨rfl, b2⟩
      go_wp2_with fail
      refine (works_walk _).mono ?_
      rintro e w3 ⟨rfl, b3⟩
      go_wp2
      go_ret
      exact ⟨rfl, (b1.trans (b2.mono b1.size)).trans (b3.mono (Nat.le_trans b1.size b2.size))⟩
    · have hdd : decide (b / 128 < a) = false := by simpa using hd
      have hlt2 : decide ((numB a).length < (numB b).length) = true := by simpa using HM.out h0 (by omega)
      go_enter Try.func8, Try.ntmps8
      go_wp2_with fail
      refine (bytesOf_walk a ha _).mono ?_
      rintro e w1 ⟨rfl, b1⟩
      go_wp2_with fail
      refine (bytesOf_walk b hb _).mono ?_
      rintro e w2 ⟨rfl, b2⟩
      go_wp2_with fail
      refine (works_walk _).mono ?_
      rintro e w3 ⟨rfl, b3⟩
      go_wp2
      go_ret
      exact ⟨rfl, (b1.trans (b2.mono b1.size)).trans (b3.mono (Nat.le_trans b1.size b2.size))⟩
set_option maxHeartbeats 1000000 in
theorem walk_gt (a b : Nat) (ha : U64 a) (hb : U64 b) (hlt : a < b) (w : World) :
    Calls Try.prog 8 #[.int .u64 b, .int .u64 a] w (Done w) := by
  have hle : (numB a).length ≤ (numB b).length := len_mono 9 a b (by omega)
  have h1 : decide (((numB a).length : Int) < 1) = false := by have := numB_pos a; simp; omega
  have h10 : decide (10 < ((numB b).length : Int)) = false := by have := numB_le b; simp; omega
  have hd1 : decide ((numB b).length < (numB a).length) = false := by simp; omega
  have hw : IntKind.u64.wrap ((b : Int) / 128) = ((b / 128 : Nat) : Int) := by
    have := IntWalk.u64_in ((b : Int) / 128) ⟨by omega, by unfold U64 at hb; omega⟩
    omega
  have hm := @len_more a b hb
  have HM := Lib.hid hm
  clear hm
  rcases Nat.eq_zero_or_pos a with h0 | h0
  · subst h0
    have hz : decide (((numB b).length : Int) < 1) = false := by have := numB_pos b; simp; omega
    clear hd1 h1 hle HM
    go_enter Try.func8, Try.ntmps8
    go_wp2_with fail
    refine (bytesOf_0 _).mono ?_
    rintro e w1 ⟨rfl, b1⟩
    go_wp2_with fail
    refine (bytesOf_walk b hb _).mono ?_
    rintro e w2 ⟨rfl, b2⟩
    go_wp2_with fail
    refine (works_walk _).mono ?_
    rintro e w3 ⟨rfl, b3⟩
    go_wp2
    go_ret
    exact ⟨rfl, (b1.trans (b2.mono b1.size)).trans (b3.mono (Nat.le_trans b1.size b2.size))⟩
  · have hne : ((a : Int) == 0) = false := by simp; omega
    by_cases hd : b / 128 < a
    · have hdd : decide (b / 128 < a) = true := by simpa using hd
      go_enter Try.func8, Try.ntmps8
      go_wp2_with fail
      refine (bytesOf_walk a ha _).mono ?_
      rintro e w1 ⟨rfl, b1⟩
      go_wp2_with fail
      refine (bytesOf_walk b hb _).mono ?_
      rintro e w2 ⟨rfl, b2⟩
      go_wp2_with fail
      refine (works_walk _).mono ?_
      rintro e w3 ⟨rfl, b3⟩
      go_wp2
      go_ret
      exact ⟨rfl, (b1.trans (b2.mono b1.size)).trans (b3.mono (Nat.le_trans b1.size b2.size))⟩
    · have hdd : decide (b / 128 < a) = false := by simpa using hd
      have hlt2 : decide ((numB a).length < (numB b).length) = true := by simpa using HM.out h0 (by omega)
      go_enter Try.func8, Try.ntmps8
      go_wp2_with fail
      refine (bytesOf_walk a ha _).mono ?_
      rintro e w1 ⟨rfl, b1⟩
      go_wp2_with fail
      refine (bytesOf_walk b hb _).mono ?_
      rintro e w2 ⟨rfl, b2⟩
      go_wp2_with fail
      refine (works_walk _).mono ?_
      rintro e w3 ⟨rfl, b3⟩
      go_wp2
      go_ret
      exact ⟨rfl, (b1.trans (b2.mono b1.size)).trans (b3.mono (Nat.le_trans b1.size b2.size))⟩
set_option maxHeartbeats 1000000 in
theorem walk_eq (a : Nat) (ha : U64 a) (w : World) :
    Calls Try.prog 8 #[.int .u64 a, .int .u64 a] w (Done w) := by
  have h1 : decide (((numB a).length : Int) < 1) = false := by have := numB_pos a; simp; omega
  have h10 : decide (10 < ((numB a).length : Int)) = false := by have := numB_le a; simp; omega
  have hw : IntKind.u64.wrap ((a : Int) / 128) = ((a / 128 : Nat) : Int) := by
    have := IntWalk.u64_in ((a : Int) / 128) ⟨by omega, by unfold U64 at ha; omega⟩
    omega
  rcases Nat.eq_zero_or_pos a with h0 | h0
  · subst h0
    go_enter Try.func8, Try.ntmps8
    go_wp2_with fail
    refine (bytesOf_0 _).mono ?_
    rintro e w1 ⟨rfl, b1⟩
    go_wp2_with fail
    refine (bytesOf_0 _).mono ?_
    rintro e w2 ⟨rfl, b2⟩
    go_wp2_with fail
    refine (works_walk _).mono ?_
    rintro e w3 ⟨rfl, b3⟩
    go_wp2
    go_ret
    exact ⟨rfl, (b1.trans (b2.mono b1.size)).trans (b3.mono (Nat.le_trans b1.size b2.size))⟩
  · have hne : ((a : Int) == 0) = false := by simp; omega
    have hdd : decide (a / 128 < a) = true := by simp; omega
    go_enter Try.func8, Try.ntmps8
    go_wp2_with fail
    refine (bytesOf_walk a ha _).mono ?_
    rintro e w1 ⟨rfl, b1⟩
    go_wp2_with fail
    refine (bytesOf_walk a ha _).mono ?_
    rintro e w2 ⟨rfl, b2⟩
    go_wp2_with fail
    refine (works_walk _).mono ?_
    rintro e w3 ⟨rfl, b3⟩
    go_wp2
    go_ret
    exact ⟨rfl, (b1.trans (b2.mono b1.size)).trans (b3.mono (Nat.le_trans b1.size b2.size))⟩

theorem walk (a b : Int) (ha : (Lit.int .u64 a).wf = true) (hb : (Lit.int .u64 b).wf = true) (w : World) :
    Calls Try.prog 8 #[.int .u64 a, .int .u64 b] w (Done w) := by
  obtain ⟨a, rfl, ha'⟩ := of_wf ha
  obtain ⟨b, rfl, hb'⟩ := of_wf hb
  rcases Nat.lt_trichotomy a b with h | h | h
  · exact walk_lt a b ha' hb' h w
  · subst h; exact walk_eq a ha' w
  · exact walk_gt b a hb' ha' h w

set_option maxRecDepth 100000 in
theorem lifted (os : Os) (started : os.Started) (H : Type) (enc : TypeId × Value → H) :
    ReturnsInHanded {} Try.checked os 8 .any (Rows.wireSizesSpec.pre6 enc Try.prog Try.f8 Rows.wireSizesRow.domain false) (Rows.wireSizesSpec.post enc Try.prog Try.f8 false true false false) := by
  refine returnsInHanded_of_change (C := Try.checked) own started (by kernel_rfl) Try.func8
    (ChangeSpec.witness6 (enc := enc) (C := Try.checked) false ⟨#[], #[.int .u64 0, .int .u64 0], []⟩ 8 (by kernel_rfl) (by kernel_rfl) (by kernel_rfl) (by kernel_rfl)) ?_
  intro W base args ds gs before hval0 hW hcnd _
  have hval : ∀ (j : Nat) t v, Try.f8.params[j]? = some t → args[j]? = some v → Value.okWide Try.prog W .any base t v := hval0
  have hW' := hW
  obtain ⟨p, q, hA0, hV, rfl, hfz, hnd⟩ := hW
  have hA : DataW.TrodAll enc Try.prog W 0 (fun _ => true) true Try.f8.params.toList args.toList ds p := hA0
  rw [Try.params8] at hA hval
  obtain ⟨v0, vs0, d0, ds0, p0, q0, hargs, rfl, rfl, h0, r0⟩ := trodAll_cons hA
  obtain ⟨v1, vs1, d1, ds1, p1, q1, rfl, rfl, rfl, h1, r1⟩ := trodAll_cons r0
  obtain ⟨rfl, rfl, rfl⟩ := trodAll_nil r1
  obtain rfl : args = #[v0, v1] := by cases args; simp_all
  obtain ⟨rfl, rfl⟩ := trodVars_none hV
  obtain ⟨a0, rfl, rfl, rfl, w0⟩ := open_int Try.underlying23 (hval 0 23 v0 rfl rfl) h0
  obtain ⟨a1, rfl, rfl, rfl, w1⟩ := open_int Try.underlying23 (hval 1 23 v1 rfl rfl) h1
  clear hA0 hval0
  refine (walk a0 a1 w0 w1 W).mono fun e W' ⟨he, hg⟩ => ?_
  subst he
  exact ⟨_, rfl, law_post rfl (by decide +kernel) (by kernel_rfl) rfl hW' hg⟩

theorem over : Rows.wireSizesRow.holds Try.pinned (OpenSpec.ofChange Rows.wireSizesSpec) :=
  OpenClaim.holds_of_wide 8 Try.f8 rfl rfl rfl rfl rfl rfl rfl ⟨rfl, rfl, rfl, rfl, rfl⟩ rfl rfl rfl rfl rfl (by kernel_rfl) Try.func8 (by kernel_rfl)
    (of_decide_eq_true (by kernel_rfl)) (by unfold Func.isWrapper; first | (rw [if_pos (by decide +kernel)]; kernel_rfl) | (rw [if_neg (by decide +kernel)]; exact ⟨rfl, rfl⟩))
    (fun os started H enc _ => lifted os started H enc)

theorem proved : Rows.WireSizesSaid :=
  over
#print axioms proved
end WireSizes
end Go.Proofs.Ytdpkgmcjofddnaa
