/- A tape's ring is read. -/
import Derived.Test.YtkhdidhpcdlmcaaTapeHead
import Derived.Test.YtkhdidhpcdlmcaaTapeLay
namespace Go.Proofs.Ytkhdidhpcdlmcaa
set_option maxRecDepth 100000
open Go.RowKit TE Go.Lib MM MF DM DK MY TM DP TP RN PL TF TR TQ BL FL TA TZ WM TI
namespace TJ
/-- The first k sectors of a ring, as the disk has them. -/
def dRow (S : St) (a : Int) (k : Nat) : List UInt8 := ((List.range k).map fun (i : Nat) => S.now.getD (a + 2 + (i : Int)).toNat []).flatten
theorem dRow_next (S : St) (a : Int) (k : Nat) : dRow S a (k + 1) = dRow S a k ++ S.now.getD (a + 2 + (k : Int)).toNat [] := by
  unfold dRow
  rw [List.range_succ, List.map_append, List.flatten_append]
  simp
theorem now_getD {S : St} (ho : S.Ok) {i : Nat} (hi : i < S.fl.length) : (S.now.getD i []).length = 128 := by
  have h : i < S.now.length := by rw [St.now_length]; exact hi
  rw [List.getD_eq_getElem?_getD, List.getElem?_eq_getElem h]
  exact ho.now_rows _ (List.getElem_mem h)
theorem dRow_length {S : St} {a : Int} (ho : S.Ok) (h0 : 0 ≤ a) : ∀ k : Nat, a + 2 + (k : Int) ≤ (S.fl.length : Int) → (dRow S a k).length = k * 128
  | 0, _ => by simp [dRow]
  | k + 1, h => by
    rw [dRow_next, List.length_append, dRow_length ho h0 k (by omega), now_getD ho (by omega)]
    omega
theorem row_step {D v r : List UInt8} {k N : Nat} (hD : D.length = k * 128) (hv : v.length = 128) (_hr : r.length = N * 128) (_hk : k < N) : splice (byteCells (D ++ r.drop (k * 128))) (k * 128) (byteCells v) = byteCells ((D ++ v) ++ r.drop ((k + 1) * 128)) := by
  rw [cells_splice _ _ _ 128 hv]
  congr 1
  rw [List.take_append_of_le_length (by omega), List.take_of_length_le (by omega), List.drop_append, List.drop_eq_nil_of_le (by omega), List.nil_append, List.drop_drop, hD]
  congr 2
  omega
theorem ring_back {N st sb : Nat} {D r' : List UInt8} (hs : st ≤ sb) (hz : sb - st ≤ N * 128) (h : IsRing N (st + N * 128) (((List.range (N * 128)).map fun x => D.getD ((sb + x) % (N * 128)) 0).drop (st + N * 128 - sb)) r') :
    IsRing N st (((List.range (N * 128)).map fun x => D.getD ((st + x) % (N * 128)) 0).take (sb - st)) r' := by
  refine ⟨h.1, fun x hx => ?_⟩
  have h2 := h.2 x hx
  generalize N * 128 = M at *
  rw [show st + M + x = st + x + M by omega, Nat.add_mod_right] at h2
  rw [h2]
  simp only [List.getD_eq_getElem?_getD, List.getElem?_drop]
  by_cases hx2 : x < sb - st
  · rw [List.getElem?_take_of_lt hx2, List.getElem?_map, List.getElem?_map, List.getElem?_range (by omega), List.getElem?_range (by omega)]
    simp only [Option.map_some, Option.getD_some]
    rw [show sb + (st + M - sb + x) = st + x + M by omega, Nat.add_mod_right]
  · rw [List.getElem?_eq_none (by simp; omega), List.getElem?_eq_none (by simp; omega)]
section
variable {w0 w : World} {gT gR g gt N : Nat} {a : Int} {S : St} {r : List UInt8} {st sb : Nat} {mo : List UInt8} {Ps : List (World → List Nat → Prop)}
/-- What a round keeps. -/
def Rel (w0 : World) (gT gR g gt N : Nat) (a : Int) (S : St) (r : List UInt8) (st sb : Nat) (mo : List UInt8) (Ps : List (World → List Nat → Prop)) (i : Value) (W : World) : Prop :=
  ∃ k : Nat, k ≤ N ∧ i = .int .i64 k ∧ All w0 W (Tr w0.heap.size gT gR (rcs gR g gt a N st sb sb mo false) (dRow S a k ++ r.drop (k * 128)) :: Di w0.heap.size g S :: Ps)
set_option maxHeartbeats 4000000 in
theorem readRing_on (hA : All w0 w (Tr w0.heap.size gT gR (rcs gR g gt a N st sb sb mo false) r :: Di w0.heap.size g S :: Ps)) (hon : S.on = true) (h0 : 0 ≤ a) (hL : a + 2 + (N : Int) ≤ (S.fl.length : Int)) (h1 : 1 ≤ N) (hr : r.length = N * 128)
    (hs : st ≤ sb) (hz : sb - st ≤ N * 128) (hm : sb ≤ 1099511627776) :
    Calls Try.prog 45 #[.pointer (some ⟨gT, 0, none⟩)] w fun e w' => e = .returned (.int .i64 0) ∧ ∃ r', IsRing N st (((List.range (N * 128)).map fun x => (dRow S a N).getD ((st + x) % (N * 128)) 0).take (sb - st)) r' ∧ All w0 w' (Tr w0.heap.size gT gR (rcs gR g gt a N st sb sb mo false) r' :: Di w0.heap.size g S :: Ps) := by
  have hok : S.Ok := di_ok hA.swap
  have hfl : S.fl.length ≤ 4096 := hok.2.2.1
  obtain ⟨c0, c1, c2, c3, c4, c5, c6, c7, c8⟩ := rcs_cells (tr_get hA (List.mem_cons_self ..)).1
  have HA := Lib.hid hA
  clear hA c0 c1 c2 c4 c5 c6 c7 c8
  go_enter Try.func45, Try.ntmps45
  go_wp2
  go_loopw [11] (fun i wr => Rel w0 gT gR g gt N a S r st sb mo Ps i wr) (fun i _ => N - (RowKit.intOf i).toNat)
  case atStart => exact ⟨0, by omega, rfl, by simpa [dRow] using HA.out⟩
  case round =>
    obtain ⟨k, hk, rfl, hA⟩ := hrel
    obtain ⟨c0, c1, c2, c3, c4, c5, c6, c7, c8⟩ := rcs_cells (tr_get hA (List.mem_cons_self ..)).1
    by_cases hlt : k < N
    · have e1 : wrap64 (a + 2) = a + 2 := by unfold wrap64; omega
      have e2 : wrap64 (a + 2 + (k : Int)) = a + 2 + (k : Int) := by unfold wrap64; omega
      have hv : readT S (a + 2 + (k : Int)) = S.now.getD (a + 2 + (k : Int)).toNat [] := by unfold readT; rw [if_pos (refuse_in hon (by omega) (by omega))]
      have hvl : (S.now.getD (a + 2 + (k : Int)).toNat []).length = 128 := now_getD hok (by omega)
      have hnx := dRow_next S a k
      have hdl := dRow_length hok h0 k (by omega)
      have hRn := fun n => (di_read (hA.swap.below (drawn_below wr n)) (a + 2 + (k : Int))).mono (fun e w' (h : _ ∧ _) => (⟨h.1, h.2.symm⟩ : _ ∧ w' = wr.drewN n))
      simp only [refuse_in hon (show 0 ≤ a + 2 + (k : Int) by omega) (show a + 2 + (k : Int) < S.fl.length by omega), hv] at hRn
      generalize S.now.getD (a + 2 + (k : Int)).toNat [] = v at *
      generalize dRow S a k = D at *
      have HR := Lib.hid (fun n => (show Calls Try.prog 106 #[.pointer (some ⟨g, 0, none⟩), .int .i64 (a + 2 + (k : Int))] (wr.drewN n) (fun e w' => e = .returned (.tuple #[.string ⟨v.toArray⟩, .int .i64 0]) ∧ w' = wr.drewN n) from hRn n))
      have hal : (Try.prog.arrayLen 126 : Nat) = 128 := by kernel_rfl
      have hls : ∀ W : World, (Instr.sliceAt 126 (.pointer (some ⟨gR, k * 128, none⟩)) none none none).run Try.prog W = .ok (.slice (some ⟨gR, k * 128, none⟩) 128 128) W := by
        intro W
        rw [run_sliceAt_array_all (P := Try.prog) W 126 ⟨gR, k * 128, none⟩ (by kernel_rfl)]
        have hz : (sizeOf (Try.prog.elem 126)).run Try.prog W = .ok 1 W := by kernel_rfl
        rw [hz, hal]
        rfl
      have HN := Lib.hid (⟨hv, hnx, hdl, hvl⟩ : readT S (a + 2 + (k : Int)) = v ∧ dRow S a (k + 1) = D ++ v ∧ D.length = k * 128 ∧ v.length = 128)
      have HB := Lib.hid hA
      have hkn : (k : Int) < N := by omega
      have hk0 : (0 : Int) ≤ k := by omega
      have HFIT := Lib.hid (show k * 128 + v.length ≤ (byteCells (D ++ r.drop (k * 128))).length by rw [byteCells_length, List.length_append, List.length_drop]; omega)
      clear hv hnx hdl hA hal
      go_wp2_with fail
      go_quiet ((go_at_call 106; first | exact Calls.quiet_of_same (HR.out 0) | exact Calls.quiet_of_same (HR.out _)))
      have hrow : Row (wr.drewN nq) gR 126 _ := (tr_get HB.out (List.mem_cons_self ..)).2.of_block rfl
      go_wp2_with (first
        | (refine wpList_copy_text rfl (.tmp 38) (.tmp 39) _ _ rfl 5 Try.underlying23 (by kernel_rfl) gR (k * 128) 128 128 v rfl rfl 126 _ hrow (by rw [hvl]; exact Nat.le_refl _) (HFIT.out) ?_
           intro w3 hw3 hf3))
      go_roundw
      case rel =>
        obtain ⟨_, hnx, hdl, _⟩ := HN.out
        refine ⟨k + 1, by omega, by go_num, ?_⟩
        rw [row_step hdl hvl hr hlt] at hw3
        rw [hnx]
        exact tr_ring (HB.out.below (drawn_below _ nq)) hw3 hf3
      case measure => simp [RowKit.intOf]; omega
    · have hkN : k = N := by omega
      subst hkN
      have hDl := dRow_length hok h0 k (by omega)
      have hD : dRow S a k ++ List.drop (k * 128) r = dRow S a k := by rw [List.drop_eq_nil_of_le (by omega), List.append_nil]
      rw [hD] at hA
      obtain ⟨hT, hRw⟩ := tr_get hA (List.mem_cons_self ..)
      have hk32 : k ≤ 4096 := by omega
      have HS := Lib.hid (fun w h => size_walk w gT gR k (by omega) h)
      have esum : IntKind.u64.wrap ((st : Int) + ((k * 128 : Nat) : Int)) = ((st + k * 128 : Nat) : Int) := add_fits rfl (by omega)
      have HE := Lib.hid (fun W hT' hR' => empty_walk W gT gR k sb (st + k * 128) (rcs gR g gt a k st sb sb mo false) _ _ hT' rfl hR' (ring_all hDl sb) (by simp) h1 hk32 (by omega) (by omega) (by omega))
      have HX := Lib.hid (⟨hs, hz, hDl⟩ : st ≤ sb ∧ sb - st ≤ k * 128 ∧ (dRow S a k).length = k * 128)
      clear HA hs hz hm hfl hL h1 hr hk hlt hDl hD hk32
      obtain ⟨D, eD⟩ : ∃ D, dRow S a k = D := ⟨_, rfl⟩
      rw [eD] at hRw hA HE HX
      have HDD := Lib.hid eD
      clear eD
      obtain ⟨z, hz⟩ : ∃ z, z = k * 128 := ⟨_, rfl⟩
      obtain ⟨fz, hfz⟩ : ∃ fz, fz = st + k * 128 := ⟨_, rfl⟩
      rw [← hfz] at esum HE
      rw [← hz] at esum HS
      have HF := Lib.hid hfz
      clear hz hfz
      have hRd : Row wr.drew gR 126 (byteCells D) := hRw.drew
      have hTd : Has wr.drew gT 80 (rcs gR g gt a k st sb sb mo false) := hT.draw
      have HE2 := Lib.hid (HE.out wr.drew hTd hRd)
      clear HE hRd hTd
      have HA := Lib.hid hA
      clear hA
      go_wp2_with fail
      refine wp_region_still_tail 12 (by kernel_rfl) (by kernel_rfl) ?_
      simp only [List.take_succ_cons, List.take_zero, List.drop_succ_cons, List.drop_zero]
      repeat still_step
      still_call (HS.out wr.drew c3)
      repeat still_step
      refine wpStill_nil ?_
      change wpList _ _ _ _ _ wr.drew
      go_wp2_with (go_at_call 65; refine HE2.out.mono ?_; rintro e w3 ⟨rfl, ⟨r', hw3, hi3⟩, hf3⟩)
      go_ret
      obtain ⟨hs, hz, hDl⟩ := HX.out
      rw [HF.out] at hi3
      rw [HDD.out]
      exact ⟨rfl, r', ring_back hs hz hi3, tr_ring (HA.out.drew) hw3 hf3⟩
end
end TJ
end Go.Proofs.Ytkhdidhpcdlmcaa
