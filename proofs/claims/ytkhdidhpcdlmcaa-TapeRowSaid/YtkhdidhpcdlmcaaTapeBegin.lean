/- A tape that begins. -/
import Derived.Test.YtkhdidhpcdlmcaaTapeMany
namespace Go.Proofs.Ytkhdidhpcdlmcaa
set_option maxRecDepth 100000
open Go.RowKit Go.Lib MM MF DM DK DN MY TM TO TD DP TP RN PL TF TR TQ BL FL TA TZ TI TJ TK TN2 TO2 TD2 TV TU TT TM DW DF
namespace TW
/-- The disk behind Format, the twin's half, the tape that has no byte. -/
def S1 (n : Nat) : St := fmtS (fresh (n + 2)) 0
def T0 : TS := ⟨0, 0, [], [], false⟩
theorem fmt_E1 : tfE (fresh (1 + 2)) 0 ((1 : Nat) : Int) = 0 := by kernel_rfl
theorem fmt_E2 : tfE (fresh (2 + 2)) 0 ((2 : Nat) : Int) = 0 := by kernel_rfl
theorem fmt_E3 : tfE (fresh (3 + 2)) 0 ((3 : Nat) : Int) = 0 := by kernel_rfl
theorem fmt_E4 : tfE (fresh (4 + 2)) 0 ((4 : Nat) : Int) = 0 := by kernel_rfl
theorem fmt_E (n : Nat) (h : 1 ≤ n) (h2 : n ≤ 4) : tfE (fresh (n + 2)) 0 ((n : Nat) : Int) = 0 := by
  have : n = 1 ∨ n = 2 ∨ n = 3 ∨ n = 4 := by omega
  rcases this with rfl | rfl | rfl | rfl
  · exact fmt_E1
  · exact fmt_E2
  · exact fmt_E3
  · exact fmt_E4
theorem fmt_S1 : tfS (fresh (1 + 2)) 0 ((1 : Nat) : Int) = S1 1 := by kernel_rfl
theorem fmt_S2 : tfS (fresh (2 + 2)) 0 ((2 : Nat) : Int) = S1 2 := by kernel_rfl
theorem fmt_S3 : tfS (fresh (3 + 2)) 0 ((3 : Nat) : Int) = S1 3 := by kernel_rfl
theorem fmt_S4 : tfS (fresh (4 + 2)) 0 ((4 : Nat) : Int) = S1 4 := by kernel_rfl
theorem fmt_S (n : Nat) (h : 1 ≤ n) (h2 : n ≤ 4) : tfS (fresh (n + 2)) 0 ((n : Nat) : Int) = S1 n := by
  have : n = 1 ∨ n = 2 ∨ n = 3 ∨ n = 4 := by omega
  rcases this with rfl | rfl | rfl | rfl
  · exact fmt_S1
  · exact fmt_S2
  · exact fmt_S3
  · exact fmt_S4
theorem opn_E1 : openTE (S1 1) 0 ((1 : Nat) : Int) = 0 := by kernel_rfl
theorem opn_E2 : openTE (S1 2) 0 ((2 : Nat) : Int) = 0 := by kernel_rfl
theorem opn_E3 : openTE (S1 3) 0 ((3 : Nat) : Int) = 0 := by kernel_rfl
theorem opn_E4 : openTE (S1 4) 0 ((4 : Nat) : Int) = 0 := by kernel_rfl
theorem opn_E (n : Nat) (h : 1 ≤ n) (h2 : n ≤ 4) : openTE (S1 n) 0 ((n : Nat) : Int) = 0 := by
  have : n = 1 ∨ n = 2 ∨ n = 3 ∨ n = 4 := by omega
  rcases this with rfl | rfl | rfl | rfl
  · exact opn_E1
  · exact opn_E2
  · exact opn_E3
  · exact opn_E4
theorem opn_S1 : openTS (S1 1) 0 ((1 : Nat) : Int) = S1 1 := by kernel_rfl
theorem opn_S2 : openTS (S1 2) 0 ((2 : Nat) : Int) = S1 2 := by kernel_rfl
theorem opn_S3 : openTS (S1 3) 0 ((3 : Nat) : Int) = S1 3 := by kernel_rfl
theorem opn_S4 : openTS (S1 4) 0 ((4 : Nat) : Int) = S1 4 := by kernel_rfl
theorem opn_S (n : Nat) (h : 1 ≤ n) (h2 : n ≤ 4) : openTS (S1 n) 0 ((n : Nat) : Int) = S1 n := by
  have : n = 1 ∨ n = 2 ∨ n = 3 ∨ n = 4 := by omega
  rcases this with rfl | rfl | rfl | rfl
  · exact opn_S1
  · exact opn_S2
  · exact opn_S3
  · exact opn_S4
theorem opn_T1 : topT (S1 1) 0 ((1 : Nat) : Int) = T0 := by kernel_rfl
theorem opn_T2 : topT (S1 2) 0 ((2 : Nat) : Int) = T0 := by kernel_rfl
theorem opn_T3 : topT (S1 3) 0 ((3 : Nat) : Int) = T0 := by kernel_rfl
theorem opn_T4 : topT (S1 4) 0 ((4 : Nat) : Int) = T0 := by kernel_rfl
theorem opn_T (n : Nat) (h : 1 ≤ n) (h2 : n ≤ 4) : topT (S1 n) 0 ((n : Nat) : Int) = T0 := by
  have : n = 1 ∨ n = 2 ∨ n = 3 ∨ n = 4 := by omega
  rcases this with rfl | rfl | rfl | rfl
  · exact opn_T1
  · exact opn_T2
  · exact opn_T3
  · exact opn_T4
theorem opn_h1 : best (openS (S1 1) 0) 0 = half 1 [] := by kernel_rfl
theorem opn_h2 : best (openS (S1 2) 0) 0 = half 1 [] := by kernel_rfl
theorem opn_h3 : best (openS (S1 3) 0) 0 = half 1 [] := by kernel_rfl
theorem opn_h4 : best (openS (S1 4) 0) 0 = half 1 [] := by kernel_rfl
theorem opn_h (n : Nat) (h : 1 ≤ n) (h2 : n ≤ 4) : best (openS (S1 n) 0) 0 = half 1 [] := by
  have : n = 1 ∨ n = 2 ∨ n = 3 ∨ n = 4 := by omega
  rcases this with rfl | rfl | rfl | rfl
  · exact opn_h1
  · exact opn_h2
  · exact opn_h3
  · exact opn_h4
theorem un_z1 : (S1 1).un = [] := by kernel_rfl
theorem un_z2 : (S1 2).un = [] := by kernel_rfl
theorem un_z3 : (S1 3).un = [] := by kernel_rfl
theorem un_z4 : (S1 4).un = [] := by kernel_rfl
theorem un_z (n : Nat) (h : 1 ≤ n) (h2 : n ≤ 4) : (S1 n).un = [] := by
  have : n = 1 ∨ n = 2 ∨ n = 3 ∨ n = 4 := by omega
  rcases this with rfl | rfl | rfl | rfl
  · exact un_z1
  · exact un_z2
  · exact un_z3
  · exact un_z4
section
variable {w0 w : World} {gT gR g gt N : Nat} {a : Int} {T : TS} {Ps : List (World → List Nat → Prop)}
set_option maxHeartbeats 4000000 in
theorem begun_walk (hA : All w0 w Ps) (n : Nat) (h1 : 1 ≤ n) (h2 : n ≤ 4) :
    Calls Try.prog 7 #[.int .i64 n] w fun e w' => ∃ g gT gR gt, e = .returned (.tuple #[.pointer (some ⟨g, 0, none⟩), .pointer (some ⟨gT, 0, none⟩)]) ∧
      All w0 w' (Tp w0.heap.size gT gR g gt 0 n T0 :: Ti w0.heap.size gt g 0 (half 1 []) false :: Di w0.heap.size g (S1 n) :: Ps) := by
  have HN := Lib.hid (di_new hA (n + 2) ((n : Int) + 2) (by simp) (by omega) (by omega))
  have e1 : wrap64 ((n : Int) + 2) = (n : Int) + 2 := by unfold wrap64; omega
  have HX := Lib.hid (⟨fmt_E n h1 h2, fmt_S n h1 h2, opn_E n h1 h2, opn_S n h1 h2, opn_T n h1 h2, opn_h n h1 h2⟩ : _ ∧ _ ∧ _ ∧ _ ∧ _ ∧ _)
  have h3 : (n : Int) + 2 ≤ 6 := by omega
  clear hA
  go_enter Try.func7, Try.ntmps7
  go_wp2_with (go_at_call 27; refine HN.out.mono ?_; rintro e w1 ⟨g, rfl, A1⟩)
  have HF := Lib.hid (format_walk2 A1 0 n (by simp [fresh]))
  rw [HX.out.1, HX.out.2.1] at HF
  clear A1 HN
  go_wp2_with (go_at_call 28; refine HF.out.mono ?_; rintro e w2 ⟨rfl, A2⟩)
  have HO := Lib.hid (open_walk2 A2 0 n (by rw [un_z n h1 h2]; decide))
  rw [HX.out.2.2.1] at HO
  clear A2 HF
  have hX3 : ∀ v W, OpenT w0 g 0 n (S1 n) Ps v W → ∃ gT gR gt, v = .pointer (some ⟨gT, 0, none⟩) ∧ All w0 W (Tp w0.heap.size gT gR g gt 0 n T0 :: Ti w0.heap.size gt g 0 (half 1 []) false :: Di w0.heap.size g (S1 n) :: Ps) := by
    intro v W h
    obtain ⟨_, _, x3, x4, x5, x6⟩ := HX.out
    rcases h with ⟨h1, _⟩ | ⟨_, gT, gR, gt, hv, h2⟩
    · exact absurd x3 h1
    · rw [x4, x5, x6] at h2
      exact ⟨gT, gR, gt, hv, h2⟩
  have HX3 := Lib.hid hX3
  clear hX3 HX
  refine HO.out.mono ?_
  rintro e w3 ⟨v, rfl, hv⟩
  obtain ⟨gT, gR, gt, rfl, A3⟩ := HX3.out v w3 hv
  have HA := Lib.hid A3
  clear hv A3 HX3 HO
  go_wp2
  go_ret2
  exact ⟨g, gT, gR, gt, rfl, HA.out⟩
theorem sub_u64 {a b c : Nat} (h : a + b = c) (hc : c < 2 ^ 64) : IntKind.u64.wrap ((c : Int) - (a : Int)) = (b : Int) := sub64 h hc
/-- All bytes of a tape. -/
theorem all_walk (hA : All w0 w (Tp w0.heap.size gT gR g gt a N T :: Ps)) (ho : T.over = false) :
    Calls Try.prog 23 #[.pointer (some ⟨gT, 0, none⟩)] w fun e w' => e = .returned (.string ⟨T.bs.toArray⟩) ∧ All w0 w' (Tp w0.heap.size gT gR g gt a N T :: Ps) := by
  have hO := ta_ok hA
  have h1 := hO.fits
  have h2 := hO.few
  have h3 := hO.ends
  obtain ⟨k, hk⟩ : ∃ k, k = T.bs.length := ⟨_, rfl⟩
  have hf : T.start + k = T.fin := by rw [hk]; rfl
  have hR := ta_read hA T.start k (by omega)
  have hz : readE T T.start k = 0 := by
    unfold readE TD2.out
    rw [ho, if_neg (by decide), if_neg (by rw [decide_eq_true_eq]; have := hO.low; have := hO.high; omega)]
    rfl
  have hl : readL T T.start k = T.bs := by
    unfold readL
    rw [if_pos hz, Nat.sub_self, List.drop_zero, List.take_of_length_le (by omega)]
  rw [hz, hl] at hR
  have HR := Lib.hid hR
  have HS := Lib.hid (ta_start hA)
  have HE := Lib.hid (ta_end hA)
  have ew : IntKind.u64.wrap ((T.fin : Int) - (T.start : Int)) = (k : Int) := sub64 hf (by omega)
  have ew2 : IntKind.i64.wrap (k : Int) = (k : Int) := by unfold IntKind.wrap; simp [IntKind.bits, IntKind.signed]; omega
  have HA := Lib.hid hA
  clear hA hR hO hz hl hk hf h1
  generalize T.fin = fz at *
  generalize T.start = st at *
  go_enter Try.func23, Try.ntmps23
  go_wp2_with (first
    | (go_at_call 22; refine HS.out.mono ?_; rintro e w1 ⟨rfl, rfl⟩)
    | (go_at_call 14; refine HE.out.mono ?_; rintro e w1 ⟨rfl, rfl⟩)
    | (go_at_call 12; refine HR.out.mono ?_; rintro e w1 ⟨rfl, hb⟩))
  go_ret
  exact ⟨rfl, HA.out.below hb⟩
end
end TW
end Go.Proofs.Ytkhdidhpcdlmcaa
