/- The document's own Encode. -/
import Derived.Test.YtkhdidhpcdlmcaaLrecRefCheck
import Derived.Test.YtkhdidhpcdlmcaaWirePutRef
import Derived.Test.YtkhdidhpcdlmcaaCrcSeal
namespace Go.Proofs.Ytkhdidhpcdlmcaa
set_option maxRecDepth 100000
open Go.RowKit Go.Lib MM MS DE WM CM CE LM LQ LC LA LF LG WI
namespace LE2
theorem digit_le (b : Bool) : digit b ≤ 1 := by cases b <;> decide
set_option maxHeartbeats 8000000 in
theorem refEncode_walk (w : World) (e : En) (v : Value) (hE : Ew w e v) : Calls Try.prog 30 #[.agg (ecells e v).toArray] w fun r w' => r = .returned (.tuple #[.string ⟨(encL e).toArray⟩, .int .i64 (checkE e)]) ∧ Below w.heap.size w w' := by
  obtain ⟨bx, ebx⟩ : ∃ bx, bx = w.heap.size := ⟨_, rfl⟩
  obtain ⟨A, cap, hv, hol⟩ := hE.1.form
  subst hv
  obtain ⟨w1, hw1⟩ : ∃ w1, w1 = w.alloc (.cells (ecells e (.slice A e.ops.length cap)).toArray 60) := ⟨_, rfl⟩
  have b1 : Below w.heap.size w w1 := by rw [hw1]; exact (Below.refl _ _).alloc (Nat.le_refl _) _
  have x1 : Has w1 bx 60 (ecells e (.slice A e.ops.length cap)) := by rw [hw1, ebx]; exact heap_alloc_new _ _
  have HE1 := Lib.hid (hE.under b1)
  have HC := Lib.hid (refCheck_walk w1 e _ HE1.out)
  have HB1 := Lib.hid b1
  have HX1 := Lib.hid x1
  have HU := Lib.hid hE.2
  unfold ecells at hw1 HX1 HC ⊢
  clear b1 x1 hE
  by_cases hc : checkE e = 0
  · have he : encL e = encB e := if_pos hc
    have HEE := Lib.hid he
    obtain ⟨z1, z2, _⟩ := checkE_zero hc
    have hlay := layB_le hc
    have h4 := seal_length (layB e)
    have HSE := Lib.hid (fun wq => refSeal_walk (layB e) (by omega) wq)
    have HPT := Lib.hid (fun wq => refText_walk [] (sealB (layB e)) (by simp) (by omega) wq)
    simp only [List.nil_append] at HPT
    have a1 := numB_le e.ts
    have a2 := numB_le e.fst
    have HP1 := Lib.hid (fun wq => refNum_walk [] e.ts HU.out.1 (by simp) wq)
    simp only [List.nil_append] at HP1
    have HP2 := Lib.hid (fun wq => refNum_walk (numB e.ts) e.fst HU.out.2 (by omega) wq)
    obtain ⟨s2, hs2⟩ : ∃ s2, s2 = numB e.ts ++ numB e.fst := ⟨_, rfl⟩
    rw [← hs2] at HP2
    have HP3 := Lib.hid (fun wq => refNum_walk s2 e.ops.length (by show e.ops.length < 18446744073709551616; omega) (by rw [hs2, List.length_append]; omega) wq)
    obtain ⟨s0, hs0⟩ : ∃ s0, s0 = s2 ++ numB e.ops.length := ⟨_, rfl⟩
    rw [← hs0] at HP3
    have HS0 : Hid (s0 ++ opsB e.ops = layB e) := Lib.hid (by rw [hs0, hs2]; rfl)
    have HLAY := Lib.hid hlay
    have Z2 := Lib.hid z2
    have e6 : IntKind.u64.wrap (e.ops.length : Int) = (e.ops.length : Int) := by unfold IntKind.wrap; simp [IntKind.bits, IntKind.signed]; omega
    rw [hc] at HC ⊢
    clear he z1 z2 hlay h4 hc a1 a2 hs2 hs0
    go_enter Try.func30, Try.ntmps30
    go_wp2_with fail
    rw [← hw1]
    rw [← ebx]
    clear hw1 ebx
    refine HC.out.mono ?_
    rintro r w2 ⟨rfl, b2⟩
    have HX2 := Lib.hid (HX1.out.under b2 HX1.out.lt)
    have HE2 := Lib.hid (HE1.out.under b2)
    have HB2 := Lib.hid (HB1.out.trans (b2.mono HB1.out.size))
    have c0 : w2.cell? ⟨bx, 0, none⟩ = some (.int .u64 e.ts) := HX2.out.cell 0
    clear b2 HX1 HE1 HB1 HC
    go_wp2_with fail
    refine (HP1.out _).mono ?_
    rintro r w3 ⟨rfl, b3⟩
    have HX3 := Lib.hid (HX2.out.under b3 HX2.out.lt)
    have HE3 := Lib.hid (HE2.out.under b3)
    have HB3 := Lib.hid (HB2.out.trans (b3.mono HB2.out.size))
    have c1 : w3.cell? ⟨bx, 1, none⟩ = some (.int .u64 e.fst) := HX3.out.cell 1
    clear b3 HX2 HE2 HB2 c0
    go_wp2_with fail
    refine (HP2.out _).mono ?_
    rintro r w4 ⟨rfl, b4⟩
    have HX4 := Lib.hid (HX3.out.under b4 HX3.out.lt)
    have HE4 := Lib.hid (HE3.out.under b4)
    have HB4 := Lib.hid (HB3.out.trans (b4.mono HB3.out.size))
    have c2 : w4.cell? ⟨bx, 2, none⟩ = some (.slice A e.ops.length cap) := HX4.out.cell 2
    clear b4 HX3 HE3 HB3 c1
    go_wp2_with fail
    refine (HP3.out _).mono ?_
    rintro r w5 ⟨rfl, b5⟩
    have HX5 := Lib.hid (HX4.out.under b5 HX4.out.lt)
    have HE5 := Lib.hid (HE4.out.under b5)
    have HB5 := Lib.hid (HB4.out.trans (b5.mono HB4.out.size))
    clear b5 HX4 HE4 HB4 c2 HP1 HP2 HP3
    go_wp2
    go_loopw [5, 6] (fun sv i wr => ∃ (k : Nat) (s : List UInt8), k ≤ e.ops.length ∧ i = .int .i64 k ∧ sv = .string ⟨s.toArray⟩ ∧ Hid (s ++ opsB (e.ops.drop k) = layB e) ∧ Hid (Has wr bx 60 [.int .u64 e.ts, .int .u64 e.fst, .slice A e.ops.length cap]) ∧ Hid (Ew wr e (.slice A e.ops.length cap)) ∧ Hid (Below w.heap.size w wr)) (fun _ i _ => e.ops.length - (RowKit.intOf i).toNat)
    case atStart => exact ⟨0, s0, Nat.zero_le _, rfl, rfl, HS0, HX5, HE5, HB5⟩
    case round =>
      obtain ⟨k, s, hk, rfl, rfl, HS, HX, HE, HB⟩ := hrel
      clear HS0 HX5 HE5 HB5 e6
      have p2 : wr.cell? ⟨bx, 2, none⟩ = some (.slice A e.ops.length cap) := HX.out.cell 2
      rcases Nat.lt_or_ge k e.ops.length with hk1 | hk1
      · obtain ⟨b, off, x, rfl, hd, hx, hx1, hx2, hx3, c0, c1, c2, c3⟩ := ops_get HE.out.1 (Below.refl _ _) k hk1
        have hmay : mayO x ≠ 3 := someO_not Z2.out x (by rw [← hx]; exact List.getElem_mem _)
        obtain ⟨m1, m2⟩ := mayO_zero hmay
        have hs1 : s ++ (opB x ++ opsB (e.ops.drop (k + 1))) = layB e := by have := HS.out; rw [hd] at this; exact this
        have hlen : s.length + (opB x).length ≤ 450 := by
          have h1 := HLAY.out
          rw [← hs1] at h1
          simp only [List.length_append] at h1
          omega
        have hlen2 : s.length + (textB x.key).length + (numB (digit x.del)).length + (textB x.val).length ≤ 450 := by
          unfold opB at hlen
          simp only [List.length_append] at hlen
          omega
        obtain ⟨s3, hs3⟩ : ∃ s3, s3 = s ++ textB x.key := ⟨_, rfl⟩
        obtain ⟨s4, hs4⟩ : ∃ s4, s4 = s3 ++ numB (digit x.del) := ⟨_, rfl⟩
        obtain ⟨s5, hs5⟩ : ∃ s5, s5 = s4 ++ textB x.val := ⟨_, rfl⟩
        have hl3 : s3.length = s.length + (textB x.key).length := by rw [hs3, List.length_append]
        have hl4 : s4.length = s3.length + (numB (digit x.del)).length := by rw [hs4, List.length_append]
        have HQ1 := Lib.hid (fun wq => refText_walk s x.key (by omega) (by omega) wq)
        have HQ2 := Lib.hid (fun wq => refNum_walk s3 (digit x.del) (by show digit x.del < 18446744073709551616; have := digit_le x.del; omega) (by omega) wq)
        have HQ3 := Lib.hid (fun wq => refText_walk s4 x.val (by omega) (by omega) wq)
        rw [← hs3] at HQ1
        rw [← hs4] at HQ2
        rw [← hs5] at HQ3
        have HS1 : Hid (s5 ++ opsB (e.ops.drop (k + 1)) = layB e) := Lib.hid (by rw [← hs1, hs5, hs4, hs3]; unfold opB; simp only [List.append_assoc])
        have e1 := next64 hk1 hol
        have i1 : (0 : Int) ≤ (k : Int) := by omega
        have i2 : (k : Int) < (e.ops.length : Int) := by omega
        have hltb : b < wr.heap.size := cell_lt c0
        have hltx : bx < wr.heap.size := cell_lt p2
        clear hd hx hx1 hx2 hx3 hmay m1 m2 hs1 hlen hlen2 HS hs3 hs4 hs5 hl3 hl4
        go_wp2_with fail
        refine (HQ1.out _).mono ?_
        rintro r v3 ⟨rfl, b3⟩
        have p3 : v3.cell? ⟨bx, 2, none⟩ = some (.slice (some ⟨b, off, none⟩) e.ops.length cap) := (b3.cell (p := ⟨bx, 2, none⟩) hltx).trans p2
        have d2 : v3.cell? ⟨b, off + k * 4 + 2, none⟩ = some (.bool x.del) := (b3.cell (p := ⟨b, off + k * 4 + 2, none⟩) hltb).trans c2
        have d3 : v3.cell? ⟨b, off + k * 4 + 3, none⟩ = some (.string ⟨x.val.toArray⟩) := (b3.cell (p := ⟨b, off + k * 4 + 3, none⟩) hltb).trans c3
        have HX3 := Lib.hid (HX.out.under b3 HX.out.lt)
        have HE3 := Lib.hid (HE.out.under b3)
        have HB3 := Lib.hid (HB.out.trans (b3.mono HB.out.size))
        have hltb3 : b < v3.heap.size := cell_lt d2
        have hltx3 : bx < v3.heap.size := cell_lt p3
        clear b3 HX HE HB HQ1 c0 c1 c2 c3 p2 hltb hltx
        go_wp2_with fail
        refine (refBit_walk _ _).mono ?_
        rintro r v4 ⟨rfl, rfl⟩
        go_wp2_with fail
        refine (HQ2.out _).mono ?_
        rintro r v5 ⟨rfl, b5⟩
        have p5 : v5.cell? ⟨bx, 2, none⟩ = some (.slice (some ⟨b, off, none⟩) e.ops.length cap) := (b5.cell (p := ⟨bx, 2, none⟩) hltx3).trans p3
        have f3 : v5.cell? ⟨b, off + k * 4 + 3, none⟩ = some (.string ⟨x.val.toArray⟩) := (b5.cell (p := ⟨b, off + k * 4 + 3, none⟩) hltb3).trans d3
        have HX5 := Lib.hid (HX3.out.under b5 HX3.out.lt)
        have HE5 := Lib.hid (HE3.out.under b5)
        have HB5 := Lib.hid (HB3.out.trans (b5.mono HB3.out.size))
        clear b5 HX3 HE3 HB3 HQ2 d2 d3 p3 hltb3 hltx3
        go_wp2_with fail
        refine (HQ3.out _).mono ?_
        rintro r v6 ⟨rfl, b6⟩
        have HX6 := Lib.hid (HX5.out.under b6 HX5.out.lt)
        have HE6 := Lib.hid (HE5.out.under b6)
        have HB6 := Lib.hid (HB5.out.trans (b6.mono HB5.out.size))
        clear b6 HX5 HE5 HB5 HQ3 f3 p5
        go_wp2
        go_roundw
        case rel => exact ⟨k + 1, s5, hk1, by go_num, rfl, HS1, HX6, HE6, HB6⟩
        case measure => simp [RowKit.intOf]; omega
      · obtain rfl : k = e.ops.length := by omega
        have hz : s = layB e := by have := HS.out; rw [List.drop_length] at this; simpa [opsB] using this
        have HSE2 := HSE
        rw [← hz] at HSE2
        have HZ := Lib.hid hz
        clear HS hz HE
        go_wp2_with fail
        refine (HSE2.out _).mono ?_
        rintro r v3 ⟨rfl, b3⟩
        have HB3 := Lib.hid (HB.out.trans (b3.mono HB.out.size))
        clear b3 HB HX p2
        rw [HZ.out]
        go_wp2_with fail
        refine (HPT.out _).mono ?_
        rintro r v4 ⟨rfl, b4⟩
        have HB4 := Lib.hid (HB3.out.trans (b4.mono HB3.out.size))
        clear b4 HB3
        go_wp2
        go_ret2
        exact ⟨by rw [HEE.out]; rfl, HB4.out⟩
  · have he : encL e = [] := if_neg hc
    have hcb : (checkE e == 0) = false := beq_eq_false_iff_ne.2 hc
    have HEE := Lib.hid he
    obtain ⟨c, hcc⟩ : ∃ c, c = checkE e := ⟨_, rfl⟩
    rw [← hcc] at HC hcb ⊢
    clear he hc hcc
    go_enter Try.func30, Try.ntmps30
    go_wp2_with fail
    rw [← hw1]
    rw [← ebx]
    clear hw1 ebx
    refine HC.out.mono ?_
    rintro r w2 ⟨rfl, b2⟩
    have HB2 := Lib.hid (HB1.out.trans (b2.mono HB1.out.size))
    clear b2
    go_wp2
    go_ret2
    exact ⟨by rw [HEE.out]; rfl, HB2.out⟩
end LE2
end Go.Proofs.Ytkhdidhpcdlmcaa
