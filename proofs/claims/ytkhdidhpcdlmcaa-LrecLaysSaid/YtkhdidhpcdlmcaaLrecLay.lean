/- The bytes of an entry: digit, lay, Encode. -/
import Derived.Test.YtkhdidhpcdlmcaaLrecAsk
import Derived.Test.YtkhdidhpcdlmcaaWirePut
import Derived.Test.YtkhdidhpcdlmcaaFootLaws
import Derived.Deep.RegionHeld3
namespace Go.Proofs.Ytkhdidhpcdlmcaa
set_option maxRecDepth 100000
open Go.RowKit Go.Lib MM MS DE WM WP CM CE FL LM LQ LC LA
namespace LL
theorem digit_walk (w : World) (b : Bool) : Calls Try.prog 119 #[.bool b] w fun r w' => r = .returned (.int .u64 (digit b)) ∧ w' = w := by
  cases b
  all_goals
    go_enter Try.func119, Try.ntmps119
    go_wp2
    go_ret
    exact ⟨rfl, rfl⟩
theorem below_drew (w : World) : Below w.heap.size w w.drew := ⟨rfl, rfl, rfl, Nat.le_refl _, fun _ _ => rfl⟩
theorem digit_le (b : Bool) : digit b ≤ 1 := by cases b <;> decide
set_option maxHeartbeats 4000000 in
theorem lay_walk (w : World) (e : En) (v : Value) (hE : Ew w e v) (hc : checkE e = 0) : Calls Try.prog 72 #[.agg (ecells e v).toArray] w fun r w' => r = .returned (.string ⟨(layB e).toArray⟩) ∧ Below w.heap.size w w' := by
  obtain ⟨hL, ht, hf⟩ := hE
  obtain ⟨A, cap, rfl, hol⟩ := hL.form
  obtain ⟨z1, z2, _⟩ := checkE_zero hc
  have hlay := layB_le hc
  have a1 := numB_le e.ts
  have a2 := numB_le e.fst
  have a3 := numB_le e.ops.length
  have HP1 := Lib.hid (fun w1 => putNum_walk [] e.ts ht (by simp) w1)
  simp only [List.nil_append] at HP1
  have HP2 := Lib.hid (fun w1 => putNum_walk (numB e.ts) e.fst hf (by omega) w1)
  have HP3 := Lib.hid (fun w1 => putNum_walk (numB e.ts ++ numB e.fst) e.ops.length (by show e.ops.length < 18446744073709551616; omega) (by rw [List.length_append]; omega) w1)
  have hlb : layB e = numB e.ts ++ numB e.fst ++ numB e.ops.length ++ opsB e.ops := rfl
  have HLB := Lib.hid hlb
  have HL := Lib.hid hL
  have Z2 := Lib.hid z2
  have HLAY := Lib.hid hlay
  obtain ⟨bx, ebx⟩ : ∃ bx, bx = w.heap.size := ⟨_, rfl⟩
  have hb0 : Below w.heap.size w (w.alloc (.cells (ecells e (.slice A e.ops.length cap)).toArray 60)) := (Below.refl _ _).alloc (Nat.le_refl _) _
  have hx0 : Has (w.alloc (.cells (ecells e (.slice A e.ops.length cap)).toArray 60)) bx 60 (ecells e (.slice A e.ops.length cap)) := by rw [ebx]; exact heap_alloc_new _ _
  have HB0 := Lib.hid hb0
  have HX0 := Lib.hid hx0
  have e6 : IntKind.u64.wrap (e.ops.length : Int) = (e.ops.length : Int) := by unfold IntKind.wrap; simp [IntKind.bits, IntKind.signed]; omega
  unfold ecells at HB0 HX0 ⊢
  clear hL z1 z2 hc hlay a1 a2 a3 hlb ht hf hb0 hx0
  go_enter Try.func72, Try.ntmps72
  go_wp2_with fail
  rw [← ebx]
  clear ebx
  generalize hw1 : w.alloc (.cells #[.int .u64 e.ts, .int .u64 e.fst, .slice A e.ops.length cap] 60) = w1 at *
  have HX1 : Hid (Has w1 bx 60 [.int .u64 e.ts, .int .u64 e.fst, .slice A e.ops.length cap]) := HX0
  have HB1 : Hid (Below w.heap.size w w1) := HB0
  clear hw1 HX0 HB0
  have bd : w1.drew.cell? ⟨bx, 0, none⟩ = some (.int .u64 e.ts) ∧ w1.drew.cell? ⟨bx, 1, none⟩ = some (.int .u64 e.fst) := ⟨HX1.out.draw.cell 0, HX1.out.draw.cell 1⟩
  refine wp_region_held_drew (S := (fun w' => w'.cell? ⟨bx, 0, none⟩ = some (.int .u64 e.ts) ∧ w'.cell? ⟨bx, 1, none⟩ = some (.int .u64 e.fst))) (by kernel_rfl) bd (fun hS => ?_)
  refine wpAnyH_take (i := 0) (v := (.pointer (some ⟨bx, 0, none⟩))) (lit rfl) (by kernel_rfl) (by kernel_rfl) (by kernel_rfl) (fun _ _ _ h => h) (Or.inl ⟨by rfl, fun w hw => by go_simp⟩) bd ?_
  simp only [Act.put, List.setIfInBounds_toArray, List.set_cons_zero, List.set_cons_succ]
  refine wpAnyH_take (i := 1) (v := (.int .u64 e.ts)) (lit rfl) (by kernel_rfl) (by kernel_rfl) (by kernel_rfl) (fun _ _ _ h => h) (Or.inl ⟨by rfl, fun w hw => by obtain ⟨k0, k1⟩ := hw; go_simp⟩) bd ?_
  simp only [Act.put, List.setIfInBounds_toArray, List.set_cons_zero, List.set_cons_succ]
  refine wpAnyH_take (i := 3) (v := (.pointer (some ⟨bx, 1, none⟩))) (lit rfl) (by kernel_rfl) (by kernel_rfl) (by kernel_rfl) (fun _ _ _ h => h) (Or.inl ⟨by rfl, fun w hw => by go_simp⟩) bd ?_
  simp only [Act.put, List.setIfInBounds_toArray, List.set_cons_zero, List.set_cons_succ]
  refine wpAnyH_take (i := 4) (v := (.int .u64 e.fst)) (lit rfl) (by kernel_rfl) (by kernel_rfl) (by kernel_rfl) (fun _ _ _ h => h) (Or.inl ⟨by rfl, fun w hw => by obtain ⟨k0, k1⟩ := hw; go_simp⟩) bd ?_
  simp only [Act.put, List.setIfInBounds_toArray, List.set_cons_zero, List.set_cons_succ]
  refine wpAnyH_ready (rs := [2]) (by kernel_rfl) (by simp) (AllReadyH.cons (lit rfl) (fun K hK => ?_) AllReadyH.nil)
  go_simp
  go_wp2_with (go_at_call 114; refine (HP1.out _).mono ?_; rintro r w2 ⟨rfl, b2⟩)
  have hb2 : Below w1.heap.size w1 w2 := (below_drew w1).trans b2
  have HX2 : Hid (Has w2 bx 60 [.int .u64 e.ts, .int .u64 e.fst, .slice A e.ops.length cap]) := Lib.hid (HX1.out.under hb2 HX1.out.lt)
  have bd2 : w2.cell? ⟨bx, 0, none⟩ = some (.int .u64 e.ts) ∧ w2.cell? ⟨bx, 1, none⟩ = some (.int .u64 e.fst) := ⟨HX2.out.cell 0, HX2.out.cell 1⟩
  have HB2 : Hid (Below w.heap.size w w2) := Lib.hid (HB1.out.trans (hb2.mono HB1.out.size))
  clear b2 hb2 HX1 HB1 bd
  refine hK.out _ _ bd2 (fun _ => ?_)
  clear hK K
  refine wpAnyH_ready (rs := [5]) (by kernel_rfl) (by simp) (AllReadyH.cons (lit rfl) (fun K hK => ?_) AllReadyH.nil)
  go_simp
  go_wp2_with (go_at_call 114; refine (HP2.out _).mono ?_; rintro r w3 ⟨rfl, b3⟩)
  have hb3 : Below w2.heap.size w2 w3 := b3
  have HX3 : Hid (Has w3 bx 60 [.int .u64 e.ts, .int .u64 e.fst, .slice A e.ops.length cap]) := Lib.hid (HX2.out.under hb3 HX2.out.lt)
  have bd3 : w3.cell? ⟨bx, 0, none⟩ = some (.int .u64 e.ts) ∧ w3.cell? ⟨bx, 1, none⟩ = some (.int .u64 e.fst) := ⟨HX3.out.cell 0, HX3.out.cell 1⟩
  have HB3 : Hid (Below w.heap.size w w3) := Lib.hid (HB2.out.trans (hb3.mono HB2.out.size))
  clear b3 hb3 HX2 HB2 bd2
  refine hK.out _ _ bd3 (fun _ => ?_)
  clear hK K
  refine wpAnyH_ready (rs := [6]) (by kernel_rfl) (by simp) (AllReadyH.cons (lit rfl) (fun K hK => ?_) AllReadyH.nil)
  go_simp
  refine hK.out _ _ bd3 (fun _ => ?_)
  clear hK K
  refine wpAnyH_done (by kernel_rfl) ?_ _
  have c2 : w3.cell? ⟨bx, 2, none⟩ = some (.slice A e.ops.length cap) := HX3.out.cell 2
  go_wp2_with fail
  refine (HP3.out _).mono ?_
  rintro r w4 ⟨rfl, b4⟩
  have HX4 : Hid (Has w4 bx 60 [.int .u64 e.ts, .int .u64 e.fst, .slice A e.ops.length cap]) := Lib.hid (HX3.out.under b4 HX3.out.lt)
  have c4 : w4.cell? ⟨bx, 2, none⟩ = some (.slice A e.ops.length cap) := HX4.out.cell 2
  have HB4 : Hid (Below w.heap.size w w4) := Lib.hid (HB3.out.trans (b4.mono HB3.out.size))
  obtain ⟨s0, hs0⟩ : ∃ s0, s0 = numB e.ts ++ numB e.fst ++ numB e.ops.length := ⟨_, rfl⟩
  have HS0 : Hid (s0 ++ opsB e.ops = layB e) := Lib.hid (by rw [hs0]; rfl)
  rw [← hs0]
  clear b4 HX3 HB3 bd3 c2 HP1 HP2 HP3 HLB hs0 HX4
  go_wp2
  go_loopw [3, 21] (fun sv i wr => ∃ (k : Nat) (s : List UInt8), k ≤ e.ops.length ∧ i = .int .i64 k ∧ sv = .string ⟨s.toArray⟩ ∧ Hid (s ++ opsB (e.ops.drop k) = layB e) ∧ Below w.heap.size w wr) (fun _ i _ => e.ops.length - (RowKit.intOf i).toNat)
  case atStart => exact ⟨0, s0, by omega, rfl, rfl, HS0, HB4.out⟩
  case round =>
    obtain ⟨k, s, hk, rfl, rfl, HS, hb⟩ := hrel
    clear HS0 HB4 c4 e6
    rcases Nat.lt_or_ge k e.ops.length with hk1 | hk1
    · obtain ⟨b, off, x, rfl, hd, hx, hx1, hx2, hx3, c0, c1, c2, c3⟩ := ops_get HL.out hb k hk1
      have hmay : mayO x ≠ 3 := someO_not Z2.out x (by rw [← hx]; exact List.getElem_mem _)
      obtain ⟨m1, m2⟩ := mayO_zero hmay
      have hs1 : s ++ (opB x ++ opsB (e.ops.drop (k + 1))) = layB e := by have := HS.out; rw [hd] at this; exact this
      have hlen : s.length + (opB x).length ≤ 450 := by
        have h1 := HLAY.out
        rw [← hs1] at h1
        simp only [List.length_append] at h1
        omega
      have hlen2 : s.length + (textB x.key).length + (numB (digit x.del)).length + (textB x.val).length ≤ 450 := by
        unfold opB at hlen
        simp only [List.length_append] at hlen
        omega
      obtain ⟨s3, hs3⟩ : ∃ s3, s3 = s ++ textB x.key := ⟨_, rfl⟩
      obtain ⟨s4, hs4⟩ : ∃ s4, s4 = s3 ++ numB (digit x.del) := ⟨_, rfl⟩
      obtain ⟨s5, hs5⟩ : ∃ s5, s5 = s4 ++ textB x.val := ⟨_, rfl⟩
      have hl3 : s3.length = s.length + (textB x.key).length := by rw [hs3, List.length_append]
      have hl4 : s4.length = s3.length + (numB (digit x.del)).length := by rw [hs4, List.length_append]
      have HP1 := Lib.hid (fun w1 => putText_walk s x.key (by omega) (by omega) w1)
      have HP2 := Lib.hid (fun w1 => putNum_walk s3 (digit x.del) (by show digit x.del < 18446744073709551616; have := digit_le x.del; omega) (by omega) w1)
      have HP3 := Lib.hid (fun w1 => putText_walk s4 x.val (by omega) (by omega) w1)
      rw [← hs3] at HP1
      rw [← hs4] at HP2
      rw [← hs5] at HP3
      have HS1 : Hid (s5 ++ opsB (e.ops.drop (k + 1)) = layB e) := Lib.hid (by rw [← hs1, hs5, hs4, hs3]; unfold opB; simp only [List.append_assoc])
      have e1 := next64 hk1 hol
      have HB := Lib.hid hb
      obtain ⟨g, eg⟩ : ∃ g, g = wr.heap.size := ⟨_, rfl⟩
      have HX0 : Hid (Has (wr.alloc (.cells (ocells x).toArray 57)) g 57 (ocells x)) := Lib.hid (by rw [eg]; exact heap_alloc_new _ _)
      have HB0 : Hid (Below w.heap.size w (wr.alloc (.cells (ocells x).toArray 57))) := Lib.hid (hb.trans ((Below.alloc (Below.refl _ _) (Nat.le_refl _) _).mono hb.size))
      unfold ocells at HX0 HB0
      clear hd hx hx1 hx2 hx3 hmay m1 m2 hs1 hlen hlen2 hb HS HB hs3 hs4 hs5 hl3 hl4
      go_wp2_with fail
      rw [← eg]
      generalize hw1 : wr.alloc (.cells #[.string ⟨x.key.toArray⟩, .int .u64 x.lsn, .bool x.del, .string ⟨x.val.toArray⟩] 57) = w1 at *
      have HX1 : Hid (Has w1 g 57 (ocells x)) := HX0
      have HB1 : Hid (Below w.heap.size w w1) := HB0
      clear hw1 HX0 HB0 eg c0 c1 c2 c3
      have bd1 : w1.drew.cell? ⟨g, 0, none⟩ = some (.string ⟨x.key.toArray⟩) ∧ w1.drew.cell? ⟨g, 2, none⟩ = some (.bool x.del) := ⟨HX1.out.draw.cell 0, HX1.out.draw.cell 2⟩
      refine wp_region_held_drew (S := (fun w' => w'.cell? ⟨g, 0, none⟩ = some (.string ⟨x.key.toArray⟩) ∧ w'.cell? ⟨g, 2, none⟩ = some (.bool x.del))) (by kernel_rfl) bd1 (fun hS => ?_)
      refine wpAnyH_take (i := 0) (v := (.string ⟨s.toArray⟩)) (lit rfl) (by kernel_rfl) (by kernel_rfl) (by kernel_rfl) (fun _ _ _ h => h) (Or.inl ⟨by rfl, fun w hw => by go_simp⟩) bd1 ?_
      simp only [Act.put, List.setIfInBounds_toArray, List.set_cons_zero, List.set_cons_succ]
      refine wpAnyH_take (i := 1) (v := (.pointer (some ⟨g, 0, none⟩))) (lit rfl) (by kernel_rfl) (by kernel_rfl) (by kernel_rfl) (fun _ _ _ h => h) (Or.inl ⟨by rfl, fun w hw => by go_simp⟩) bd1 ?_
      simp only [Act.put, List.setIfInBounds_toArray, List.set_cons_zero, List.set_cons_succ]
      refine wpAnyH_take (i := 2) (v := (.string ⟨x.key.toArray⟩)) (lit rfl) (by kernel_rfl) (by kernel_rfl) (by kernel_rfl) (fun _ _ _ h => h) (Or.inl ⟨by rfl, fun w hw => by obtain ⟨k0, k1⟩ := hw; go_simp⟩) bd1 ?_
      simp only [Act.put, List.setIfInBounds_toArray, List.set_cons_zero, List.set_cons_succ]
      refine wpAnyH_take (i := 4) (v := (.pointer (some ⟨g, 2, none⟩))) (lit rfl) (by kernel_rfl) (by kernel_rfl) (by kernel_rfl) (fun _ _ _ h => h) (Or.inl ⟨by rfl, fun w hw => by go_simp⟩) bd1 ?_
      simp only [Act.put, List.setIfInBounds_toArray, List.set_cons_zero, List.set_cons_succ]
      refine wpAnyH_take (i := 5) (v := (.bool x.del)) (lit rfl) (by kernel_rfl) (by kernel_rfl) (by kernel_rfl) (fun _ _ _ h => h) (Or.inl ⟨by rfl, fun w hw => by obtain ⟨k0, k1⟩ := hw; go_simp⟩) bd1 ?_
      simp only [Act.put, List.setIfInBounds_toArray, List.set_cons_zero, List.set_cons_succ]
      refine wpAnyH_ready (rs := [3]) (by kernel_rfl) (by simp) (AllReadyH.cons (lit rfl) (fun K hK => ?_) AllReadyH.nil)
      go_simp
      go_wp2_with (go_at_call 70; refine (HP1.out _).mono ?_; rintro r w2 ⟨rfl, b2⟩)
      have hb2 : Below w1.heap.size w1 w2 := (below_drew w1).trans b2
      have HX2 : Hid (Has w2 g 57 (ocells x)) := Lib.hid (HX1.out.under hb2 HX1.out.lt)
      have HB2 : Hid (Below w.heap.size w w2) := Lib.hid (HB1.out.trans (hb2.mono HB1.out.size))
      clear b2 hb2 HX1 HB1
      have bd2 : w2.cell? ⟨g, 0, none⟩ = some (.string ⟨x.key.toArray⟩) ∧ w2.cell? ⟨g, 2, none⟩ = some (.bool x.del) := ⟨HX2.out.cell 0, HX2.out.cell 2⟩
      clear bd1
      refine hK.out _ _ bd2 (fun _ => ?_)
      clear hK K
      refine wpAnyH_ready (rs := [6]) (by kernel_rfl) (by simp) (AllReadyH.cons (lit rfl) (fun K hK => ?_) AllReadyH.nil)
      go_simp
      go_wp2_with (go_at_call 119; refine (digit_walk _ _).mono ?_; rintro r w3 ⟨rfl, rfl⟩)
      have bd3 : w3.cell? ⟨g, 0, none⟩ = some (.string ⟨x.key.toArray⟩) ∧ w3.cell? ⟨g, 2, none⟩ = some (.bool x.del) := bd2
      refine hK.out _ _ bd3 (fun _ => ?_)
      clear hK K
      refine wpAnyH_ready (rs := [7]) (by kernel_rfl) (by simp) (AllReadyH.cons (lit rfl) (fun K hK => ?_) AllReadyH.nil)
      go_simp
      go_wp2_with (go_at_call 114; refine (HP2.out _).mono ?_; rintro r w4 ⟨rfl, b4⟩)
      have hb4 : Below w3.heap.size w3 w4 := b4
      have HX4 : Hid (Has w4 g 57 (ocells x)) := Lib.hid (HX2.out.under hb4 HX2.out.lt)
      have HB4 : Hid (Below w.heap.size w w4) := Lib.hid (HB2.out.trans (hb4.mono HB2.out.size))
      clear b4 hb4 HX2 HB2 bd2 bd3
      have bd4 : w4.cell? ⟨g, 0, none⟩ = some (.string ⟨x.key.toArray⟩) ∧ w4.cell? ⟨g, 2, none⟩ = some (.bool x.del) := ⟨HX4.out.cell 0, HX4.out.cell 2⟩
      refine hK.out _ _ bd4 (fun _ => ?_)
      clear hK K
      refine wpAnyH_ready (rs := [8]) (by kernel_rfl) (by simp) (AllReadyH.cons (lit rfl) (fun K hK => ?_) AllReadyH.nil)
      go_simp
      refine hK.out _ _ bd4 (fun _ => ?_)
      clear hK K
      refine wpAnyH_done (by kernel_rfl) ?_ _
      have c3 : w4.cell? ⟨g, 3, none⟩ = some (.string ⟨x.val.toArray⟩) := HX4.out.cell 3
      go_wp2_with fail
      refine (HP3.out _).mono ?_
      rintro r w5 ⟨rfl, b5⟩
      have B5 := HB4.out.trans (b5.mono HB4.out.size)
      clear b5 HX4 HB4 bd4 c3 HP1 HP2 HP3
      go_wp2
      go_roundw
      case rel => exact ⟨k + 1, s5, by omega, by go_num, rfl, HS1, B5⟩
      case measure => simp [RowKit.intOf]; omega
    · obtain rfl : k = e.ops.length := by omega
      have hz : s = layB e := by have := HS.out; rw [List.drop_length] at this; simpa [opsB] using this
      clear HS
      go_wp2
      go_ret
      exact ⟨by rw [← hz]; rfl, hb⟩
theorem encode_walk (w : World) (e : En) (v : Value) (hE : Ew w e v) : Calls Try.prog 29 #[.agg (ecells e v).toArray] w fun r w' => r = .returned (.tuple #[.string ⟨(encL e).toArray⟩, .int .i64 (checkE e)]) ∧ Below w.heap.size w w' := by
  obtain ⟨bx, ebx⟩ : ∃ bx, bx = w.heap.size := ⟨_, rfl⟩
  obtain ⟨A, cap, hv, hol⟩ := hE.1.form
  subst hv
  have hb0 : Below w.heap.size w (w.alloc (.cells (ecells e (.slice A e.ops.length cap)).toArray 60)) := (Below.refl _ _).alloc (Nat.le_refl _) _
  have hx0 : Has (w.alloc (.cells (ecells e (.slice A e.ops.length cap)).toArray 60)) bx 60 (ecells e (.slice A e.ops.length cap)) := by rw [ebx]; exact heap_alloc_new _ _
  have hE0 := hE.under hb0
  have HC := Lib.hid (check_walk _ e _ hE0)
  have HB0 := Lib.hid hb0
  have HX0 := Lib.hid hx0
  have HE0 := Lib.hid hE0
  unfold ecells at HB0 HX0 HC HE0 ⊢
  clear hb0 hx0 hE0 hE
  by_cases hc : checkE e = 0
  · have he : encL e = encB e := if_pos hc
    have HEE := Lib.hid he
    have hlen := layB_le hc
    have h4 := seal_length (layB e)
    have HSE := Lib.hid (fun w1 => seal_walk (layB e) (by omega) w1)
    have HPT := Lib.hid (fun w1 => putText_walk [] (sealB (layB e)) (by simp) (by omega) w1)
    simp only [List.nil_append] at HPT
    have HLW := Lib.hid (fun (w2 : World) (hE2 : Ew w2 e (.slice A e.ops.length cap)) => lay_walk w2 e _ hE2 hc)
    unfold ecells at HLW
    rw [hc] at HC ⊢
    clear he hlen h4 hc
    go_enter Try.func29, Try.ntmps29
    go_wp2_with fail
    refine HC.out.mono ?_
    rintro r w2 ⟨rfl, b2⟩
    rw [← ebx]
    have HX2 := Lib.hid (HX0.out.under b2 HX0.out.lt)
    have HE2 := Lib.hid (HE0.out.under b2)
    have HB2 := Lib.hid (HB0.out.trans (b2.mono HB0.out.size))
    have c0 : w2.cell? ⟨bx, 0, none⟩ = some (.int .u64 e.ts) := HX2.out.cell 0
    have c1 : w2.cell? ⟨bx, 1, none⟩ = some (.int .u64 e.fst) := HX2.out.cell 1
    have c2 : w2.cell? ⟨bx, 2, none⟩ = some (.slice A e.ops.length cap) := HX2.out.cell 2
    clear b2 HX0 HE0 HB0 ebx HC
    go_wp2_with fail
    refine (HLW.out w2 HE2.out).mono ?_
    rintro r w3 ⟨rfl, b3⟩
    have HB3 := Lib.hid (HB2.out.trans (b3.mono HB2.out.size))
    clear b3 HX2 HE2 HB2 c0 c1 c2 HLW
    go_wp2_with fail
    refine (HSE.out w3).mono ?_
    rintro r w4 ⟨rfl, b4⟩
    have HB4 := Lib.hid (HB3.out.trans (b4.mono HB3.out.size))
    clear b4 HB3 HSE
    go_wp2_with fail
    refine (HPT.out w4).mono ?_
    rintro r w5 ⟨rfl, b5⟩
    have HB5 := Lib.hid (HB4.out.trans (b5.mono HB4.out.size))
    clear b5 HB4 HPT
    go_wp2
    go_ret2
    exact ⟨by rw [HEE.out]; rfl, HB5.out⟩
  · have he : encL e = [] := if_neg hc
    have hcb : (checkE e == 0) = false := beq_eq_false_iff_ne.2 hc
    have HEE := Lib.hid he
    obtain ⟨c, hcc⟩ : ∃ c, c = checkE e := ⟨_, rfl⟩
    rw [← hcc] at HC hcb ⊢
    clear he hc hcc
    go_enter Try.func29, Try.ntmps29
    go_wp2_with fail
    refine HC.out.mono ?_
    rintro r w2 ⟨rfl, b2⟩
    have HB2 := Lib.hid (HB0.out.trans (b2.mono HB0.out.size))
    clear b2
    go_wp2
    go_ret2
    exact ⟨by rw [HEE.out]; rfl, HB2.out⟩
end LL
end Go.Proofs.Ytkhdidhpcdlmcaa
