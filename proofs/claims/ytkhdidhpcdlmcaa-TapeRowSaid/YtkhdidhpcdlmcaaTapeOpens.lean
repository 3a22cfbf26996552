/- The steps of a tape's Open. -/
import Derived.Test.YtkhdidhpcdlmcaaTapeRing
import Derived.Test.YtkhdidhpcdlmcaaTapeFormat
import Derived.Laws.MakeOwn
namespace Go.Proofs.Ytkhdidhpcdlmcaa
set_option maxRecDepth 100000
open Go.RowKit Go.Lib MM MF DM DK MY TM TO TD DP TP RN PL TF TR TQ BL FL TA TZ TI TJ TK
namespace TN2
/-- A tape's cells, ahead of its ring. -/
def cs0 (g : Nat) (a : Int) (v : Value) : List Value := [.pointer (some ⟨g, 0, none⟩), v, .int .i64 a, .slice none 0 0, .int .u64 0, .int .u64 0, .int .u64 0, .string ⟨#[]⟩, .bool false]
section
variable {w0 w : World} {gT gR g gt bd ba bs bt : Nat} {a n : Int} {S : St} {Ps : List (World → List Nat → Prop)}
theorem o1_walk (hA : All w0 w (Di w0.heap.size g S :: Ps)) (m2 : Bl w0.heap.size bd 25 [.pointer (some ⟨g, 0, none⟩)] ∈ Ps) (m3 : Bl w0.heap.size ba 3 [.int .i64 a] ∈ Ps) (m4 : Bl w0.heap.size bs 3 [.int .i64 n] ∈ Ps) :
    Calls Try.prog 39 #[.pointer (some ⟨bd, 0, none⟩), .pointer (some ⟨ba, 0, none⟩), .pointer (some ⟨bs, 0, none⟩)] w fun e w' => e = .returned (.int .i64 (refT S.fl.length a n)) ∧ w' = w := by
  have c1 := (all_has hA (List.mem_cons_of_mem _ m2)).cell 0
  have c2 := (all_has hA (List.mem_cons_of_mem _ m3)).cell 0
  have c3 := (all_has hA (List.mem_cons_of_mem _ m4)).cell 0
  have HR := Lib.hid (refusal_walk hA a n)
  clear hA
  go_enter Try.func39, Try.ntmps39
  go_wp2_with (go_at_call 40; refine HR.out.mono ?_; rintro e w1 ⟨rfl, rfl⟩)
  go_ret
  exact ⟨rfl, rfl⟩
set_option maxHeartbeats 4000000 in
theorem o2_walk (hA : All w0 w (Di w0.heap.size g S :: Bl w0.heap.size gT 80 (cs0 g a (.pointer none)) :: Ps)) (m1 : Bl w0.heap.size bt 26 [.pointer (some ⟨gT, 0, none⟩)] ∈ Ps) (m2 : Bl w0.heap.size bd 25 [.pointer (some ⟨g, 0, none⟩)] ∈ Ps) (m3 : Bl w0.heap.size ba 3 [.int .i64 a] ∈ Ps) (hlen : S.un.length < 999999990) :
    Calls Try.prog 41 #[.pointer (some ⟨bd, 0, none⟩), .pointer (some ⟨ba, 0, none⟩), .pointer (some ⟨bt, 0, none⟩)] w fun e w' => e = .returned (.int .i64 (openE S a)) ∧
      ((openE S a ≠ 0 ∧ ∃ v, All w0 w' (Di w0.heap.size g (openS S a) :: Bl w0.heap.size gT 80 (cs0 g a v) :: Ps)) ∨
       (openE S a = 0 ∧ ∃ gt, All w0 w' (Ti w0.heap.size gt g a (best (openS S a) a) false :: Di w0.heap.size g (openS S a) :: Bl w0.heap.size gT 80 (cs0 g a (.pointer (some ⟨gt, 0, none⟩))) :: Ps))) := by
  have hk : ∀ W Qs, All w0 W Qs → (∀ P, P ∈ Ps → P ∈ Qs) → W.cell? ⟨bt, 0, none⟩ = some (.pointer (some ⟨gT, 0, none⟩)) ∧ W.cell? ⟨bd, 0, none⟩ = some (.pointer (some ⟨g, 0, none⟩)) ∧ W.cell? ⟨ba, 0, none⟩ = some (.int .i64 a) := fun W Qs h hs => ⟨(all_has h (hs _ m1)).cell 0, (all_has h (hs _ m2)).cell 0, (all_has h (hs _ m3)).cell 0⟩
  have hS0 := hk w.drew _ hA.drew (fun P hP => by simp [hP])
  have HO := Lib.hid (ti_open hA.drew a hlen)
  have HK := Lib.hid hk
  clear hA hk m1 m2 m3
  go_enter Try.func41, Try.ntmps41
  go_wp2_with fail
  refine wp_region_held_drew (S := fun W => W.cell? ⟨bt, 0, none⟩ = some (.pointer (some ⟨gT, 0, none⟩)) ∧ W.cell? ⟨bd, 0, none⟩ = some (.pointer (some ⟨g, 0, none⟩)) ∧ W.cell? ⟨ba, 0, none⟩ = some (.int .i64 a)) (by kernel_rfl) hS0 (fun hS => ?_)
  refine wpAnyH_take (i := 0) (v := (.pointer (some ⟨gT, 0, none⟩))) (lit rfl) (by kernel_rfl) (by kernel_rfl) (by kernel_rfl) (fun _ _ _ h => h) (Or.inl ⟨by rfl, fun w hw => by obtain ⟨s1, s2, s3⟩ := hw; go_simp⟩) hS ?_
  simp only [Act.put, List.setIfInBounds_toArray, List.set_cons_zero, List.set_cons_succ]
  refine wpAnyH_take (i := 1) (v := (.pointer (some ⟨g, 0, none⟩))) (lit rfl) (by kernel_rfl) (by kernel_rfl) (by kernel_rfl) (fun _ _ _ h => h) (Or.inl ⟨by rfl, fun w hw => by obtain ⟨s1, s2, s3⟩ := hw; go_simp⟩) hS ?_
  simp only [Act.put, List.setIfInBounds_toArray, List.set_cons_zero, List.set_cons_succ]
  refine wpAnyH_take (i := 2) (v := (.int .i64 a)) (lit rfl) (by kernel_rfl) (by kernel_rfl) (by kernel_rfl) (fun _ _ _ h => h) (Or.inl ⟨by rfl, fun w hw => by obtain ⟨s1, s2, s3⟩ := hw; go_simp⟩) hS ?_
  simp only [Act.put, List.setIfInBounds_toArray, List.set_cons_zero, List.set_cons_succ]
  refine wpAnyH_ready (rs := [3]) (by kernel_rfl) (by simp) (AllReadyH.cons (lit rfl) (fun K hK => ?_) AllReadyH.nil)
  go_simp
  go_wp2_with (go_at_call 42; refine HO.out.mono ?_; rintro e w1 ⟨v, rfl, hv⟩)
  obtain ⟨p, rfl⟩ : ∃ p, v = .pointer p := by rcases hv with ⟨_, h, _⟩ | ⟨_, gt, h, _⟩ <;> exact ⟨_, h⟩
  have hv2 : ∃ Qs, All w0 w1 (Bl w0.heap.size gT 80 (cs0 g a (.pointer none)) :: Qs) ∧ (∀ P, P ∈ Ps → P ∈ Qs) ∧
      (∀ w2, All w0 w2 (Bl w0.heap.size gT 80 (cs0 g a (.pointer p)) :: Qs) → (openE S a ≠ 0 ∧ ∃ v, All w0 w2 (Di w0.heap.size g (openS S a) :: Bl w0.heap.size gT 80 (cs0 g a v) :: Ps)) ∨
       (openE S a = 0 ∧ ∃ gt, All w0 w2 (Ti w0.heap.size gt g a (best (openS S a) a) false :: Di w0.heap.size g (openS S a) :: Bl w0.heap.size gT 80 (cs0 g a (.pointer (some ⟨gt, 0, none⟩))) :: Ps))) := by
    rcases hv with ⟨h1, e1, h2⟩ | ⟨h1, gt, e1, h2⟩
    all_goals
      injection e1 with e1
      subst e1
    · exact ⟨_, h2.swap, fun P hP => by simp [hP], fun w2 h => .inl ⟨h1, _, h.swap⟩⟩
    · exact ⟨_, all_third h2, fun P hP => by simp [hP], fun w2 h => .inr ⟨h1, gt, all_third_back h⟩⟩
  obtain ⟨Qs, q1, q2, q3⟩ := hv2
  have hS1 := HK.out _ _ q1 (fun P hP => List.mem_cons_of_mem _ (q2 P hP))
  have hgT := all_has q1 (List.mem_cons_self ..)
  have x1 : w1.cell? ⟨gT, 1, none⟩ = some (.pointer none) := hgT.cell 1
  have x1f := hgT.free 1
  have q4 : All w0 (w1.setCell ⟨gT, 1, none⟩ (.pointer p)) (Bl w0.heap.size gT 80 (cs0 g a (.pointer p)) :: Qs) := bl_put q1 1 _
  have HF := Lib.hid (q3 _ q4)
  have HS2 := Lib.hid (HK.out _ _ q4 (fun P hP => List.mem_cons_of_mem _ (q2 P hP)))
  clear hv q1 q2 q3 q4 hgT
  refine hK.out _ _ hS1 (fun _ => ?_)
  clear hK K
  refine wpAnyH_take (i := 4) (v := (.tuple #[.pointer p, .int .i64 (openE S a)])) (lit rfl) (by kernel_rfl) (by kernel_rfl) (by kernel_rfl) (fun _ _ _ h => h) (Or.inl ⟨by rfl, fun w _ => by go_simp⟩) hS1 ?_
  simp only [Act.put, List.setIfInBounds_toArray, List.set_cons_zero, List.set_cons_succ]
  refine wpAnyH_take (i := 5) (v := (.pointer p)) (lit rfl) (by kernel_rfl) (by kernel_rfl) (by kernel_rfl) (fun _ _ _ h => h) (Or.inl ⟨by rfl, fun w _ => by go_simp⟩) hS1 ?_
  simp only [Act.put, List.setIfInBounds_toArray, List.set_cons_zero, List.set_cons_succ]
  refine wpAnyH_take (i := 6) (v := (.int .i64 (openE S a))) (lit rfl) (by kernel_rfl) (by kernel_rfl) (by kernel_rfl) (fun _ _ _ h => h) (Or.inl ⟨by rfl, fun w _ => by go_simp⟩) hS1 ?_
  simp only [Act.put, List.setIfInBounds_toArray, List.set_cons_zero, List.set_cons_succ]
  refine wpAnyH_take (i := 7) (v := (.pointer (some ⟨gT, 0, none⟩))) (lit rfl) (by kernel_rfl) (by kernel_rfl) (by kernel_rfl) (fun _ _ _ h => h) (Or.inl ⟨by rfl, fun w _ => by go_simp⟩) hS1 ?_
  simp only [Act.put, List.setIfInBounds_toArray, List.set_cons_zero, List.set_cons_succ]
  refine wpAnyH_take (i := 8) (v := (.pointer (some ⟨gT, 1, none⟩))) (lit rfl) (by kernel_rfl) (by kernel_rfl) (by kernel_rfl) (fun _ _ _ h => h) (Or.inl ⟨by rfl, fun w _ => by go_simp⟩) hS1 ?_
  simp only [Act.put, List.setIfInBounds_toArray, List.set_cons_zero, List.set_cons_succ]
  refine wpAnyH_ready (rs := [9]) (by kernel_rfl) (by simp) (AllReadyH.cons (lit rfl) (fun K hK => ?_) AllReadyH.nil)
  go_simp
  go_wp2
  refine hK.out _ _ HS2.out (fun _ => ?_)
  clear hK K
  refine wpAnyH_take (i := 10) (v := (.int .i64 (openE S a))) (lit rfl) (by kernel_rfl) (by kernel_rfl) (by kernel_rfl) (fun _ _ _ h => h) (Or.inl ⟨by rfl, fun w _ => by go_simp⟩) HS2.out ?_
  simp only [Act.put, List.setIfInBounds_toArray, List.set_cons_zero, List.set_cons_succ]
  refine wpAnyH_done (by kernel_rfl) ?_ _
  go_wp2
  go_ret
  exact ⟨rfl, HF.out⟩
theorem sectorInfo : (Try.prog.info? 126).map (fun i => (i.zero, i.size, i.bytes)) = some (some (.agg (Array.replicate 128 (.int .u8 0))), 128, 128) := by kernel_rfl
theorem tr_made {cs : List Value} {r : List UInt8} (h : All w0 w (Bl w0.heap.size gT 80 cs :: Bl w0.heap.size gR 126 (byteCells r) :: Ps)) : All w0 w (Tr w0.heap.size gT gR cs r :: Ps) := by
  obtain ⟨f, ⟨f1, f2, ⟨h1, hb1, rfl⟩, ⟨h2, hb2, rfl⟩, hd, rfl⟩, k⟩ := (All.join h).opened
  exact k w _ [gT, gR] (tr_kp _ _ _ _ _) ⟨h1, Row.of_has h2, hb1, hb2, rfl⟩ (Fr.refl _ _) (fun x hx => .inl (by simpa using hx))
set_option maxHeartbeats 4000000 in
theorem o3_walk {h : List UInt8} {lost : Bool} {N : Nat} (hA : All w0 w (Ti w0.heap.size gt g a h lost :: Di w0.heap.size g S :: Bl w0.heap.size gT 80 (cs0 g a (.pointer (some ⟨gt, 0, none⟩))) :: Ps)) (m1 : Bl w0.heap.size bt 26 [.pointer (some ⟨gT, 0, none⟩)] ∈ Ps) (m4 : Bl w0.heap.size bs 3 [.int .i64 N] ∈ Ps) (h1 : 1 ≤ N) (hN : N ≤ 4096) :
    Calls Try.prog 43 #[.pointer (some ⟨bs, 0, none⟩), .pointer (some ⟨bt, 0, none⟩)] w fun e w' => e = .returned (.int .i64 (headE N (txt h))) ∧ ∃ gR, All w0 w' (Tr w0.heap.size gT gR (rcs gR g gt a N (hSt (txt h)) (hSb (txt h)) (hSb (txt h)) (hMo (txt h)) false) (List.replicate (N * 128) 0) :: Ti w0.heap.size gt g a h lost :: Di w0.heap.size g S :: Ps) := by
  obtain ⟨i0, hi, hz, hs, hb⟩ := info_parts sectorInfo
  have hmk := fun W => DN.run_make_rowN (P := Try.prog) 78 126 i0 _ Try.underlying78 hi hz .i64 .i64 N N (Nat.le_refl _) (by rw [hb]; omega) (by omega) W
  rw [hs] at hmk
  simp only [Value.cells] at hmk
  have hzc := DN.made_zeros (N * 128)
  obtain ⟨ZC, hZ⟩ : ∃ ZC, ZC = List.replicate (N * 128) (Value.int .u8 0) := ⟨_, rfl⟩
  rw [hzc, ← hZ] at hmk
  have hZB : ZC = byteCells (List.replicate (N * 128) 0) := by rw [hZ]; simp [byteCells]
  clear hZ hzc hz hs hb hi
  have mg : ∀ P, P ∈ Ps → P ∈ Ti w0.heap.size gt g a h lost :: Di w0.heap.size g S :: Bl w0.heap.size gT 80 (cs0 g a (.pointer (some ⟨gt, 0, none⟩))) :: Ps := fun P hP => by simp [hP]
  have c1 := (all_has hA (mg _ m1)).cell 0
  have c2 := (all_has hA (mg _ m4)).cell 0
  have hgT := all_has hA (g := gT) (t := 80) (cs := cs0 g a (.pointer (some ⟨gt, 0, none⟩))) (by simp)
  have x3 : w.cell? ⟨gT, 3, none⟩ = some (.slice none 0 0) := hgT.cell 3
  have x3f := hgT.free 3
  have A1 := bl_new hA 126 ZC
  obtain ⟨gR, eR⟩ : ∃ gR, w.heap.size = gR := ⟨_, rfl⟩
  have A2 : All w0 (w.alloc (.cells ZC.toArray 126)) (Bl w0.heap.size gT 80 (cs0 g a (.pointer (some ⟨gt, 0, none⟩))) :: Bl w0.heap.size w.heap.size 126 ZC :: Ti w0.heap.size gt g a h lost :: Di w0.heap.size g S :: Ps) := all_idx [_, _, _, _] 4 [3, 0, 1, 2] A1 rfl (by decide)
  have A3 := bl_put A2 3 (.slice (some ⟨w.heap.size, 0, none⟩) N N)
  rw [hZB] at A3
  have A4 := tr_made A3
  have mg4 : ∀ P, P ∈ Ps → P ∈ Tr w0.heap.size gT w.heap.size ((cs0 g a (.pointer (some ⟨gt, 0, none⟩))).set 3 (.slice (some ⟨w.heap.size, 0, none⟩) N N)) (List.replicate (N * 128) 0) :: Ti w0.heap.size gt g a h lost :: Di w0.heap.size g S :: Ps := fun P hP => by simp [hP]
  have c3 := (all_has A4 (mg4 _ m1)).cell 0
  have A5 : All w0 ((w.alloc (.cells ZC.toArray 126)).setCell ⟨gT, 3, none⟩ (.slice (some ⟨w.heap.size, 0, none⟩) N N)) (Tr w0.heap.size gT w.heap.size (rcs w.heap.size g gt a N 0 0 0 [] false) (List.replicate (N * 128) 0) :: Ti w0.heap.size gt g a h lost :: Di w0.heap.size g S :: Ps) := by rw [hZB]; exact A4
  have HH := Lib.hid (readHead_walk hN A5.drew)
  have mg2 : ∀ P, P ∈ Ps → P ∈ Bl w0.heap.size gT 80 (cs0 g a (.pointer (some ⟨gt, 0, none⟩))) :: Bl w0.heap.size w.heap.size 126 ZC :: Ti w0.heap.size gt g a h lost :: Di w0.heap.size g S :: Ps := fun P hP => by simp [hP]
  have d1 := (all_has A2 (mg2 _ m1)).cell 0
  have d2 := (all_has A2 (mg2 _ m4)).cell 0
  have dT := all_has A2 (List.mem_cons_self ..)
  have d3 : (w.alloc (.cells ZC.toArray 126)).cell? ⟨gT, 3, none⟩ = some (.slice none 0 0) := dT.cell 3
  have d3f := dT.free 3
  clear A1 A2 A3 A4 A5 hA hgT eR mg mg4 hZB mg2 dT
  go_enter Try.func43, Try.ntmps43
  go_wp2
  go_region
  go_wp2_with (go_at_call 44; refine HH.out.mono ?_; rintro e w1 ⟨rfl, hv⟩)
  go_ret
  exact ⟨rfl, _, hv⟩
set_option maxHeartbeats 4000000 in
theorem readRing_off {N st sb : Nat} {mo r : List UInt8} (hA : All w0 w (Tr w0.heap.size gT gR (rcs gR g gt a N st sb sb mo false) r :: Di w0.heap.size g S :: Ps)) (hon : S.on = false) (h0 : 0 ≤ a) (hL : a + 2 + (N : Int) ≤ (S.fl.length : Int)) (h1 : 1 ≤ N) :
    Calls Try.prog 45 #[.pointer (some ⟨gT, 0, none⟩)] w fun e w' => e = .returned (.int .i64 8) ∧ All w0 w' (Tr w0.heap.size gT gR (rcs gR g gt a N st sb sb mo false) r :: Di w0.heap.size g S :: Ps) := by
  have hok : S.Ok := di_ok hA.swap
  have hfl : S.fl.length ≤ 4096 := hok.2.2.1
  obtain ⟨c0, c1, c2, c3, c4, c5, c6, c7, c8⟩ := rcs_cells (tr_get hA (List.mem_cons_self ..)).1
  have e1 : wrap64 (a + 2) = a + 2 := by unfold wrap64; omega
  have hRn := fun n => (di_read (hA.swap.below (drawn_below w n)) (a + 2)).mono (fun e w' (h : _ ∧ _) => (⟨h.1, h.2.symm⟩ : _ ∧ w' = w.drewN n))
  simp only [refuse_off (S := S) (i := a + 2) hon, readT_not (S := S) (i := a + 2) (by rw [refuse_off hon]; decide)] at hRn
  have HR := Lib.hid hRn
  have HA := Lib.hid hA
  have hN0 : (0 : Int) < N := by omega
  clear hA hRn c1 c4 c5 c6 c7 c8
  go_enter Try.func45, Try.ntmps45
  go_wp2
  go_loopw [11] (fun i wr => i = .int .i64 0 ∧ wr = w) (fun i _ => N - (RowKit.intOf i).toNat)
  case atStart => exact ⟨rfl, rfl⟩
  case round =>
    obtain ⟨rfl, rfl⟩ := hrel
    go_wp2_with fail
    go_quiet ((go_at_call 106; first | exact Calls.quiet_of_same (HR.out 0) | exact Calls.quiet_of_same (HR.out _)))
    go_wp2
    go_ret
    exact ⟨rfl, HA.out.below (drawn_below _ nq)⟩
def ringE (S : St) : Int := if S.on then 0 else 8
def bsOf (S : St) (a : Int) (N st n : Nat) : List UInt8 := ((List.range (N * 128)).map fun x => (dRow S a N).getD ((st + x) % (N * 128)) 0).take n
theorem readRing_walk {N st sb : Nat} {mo r : List UInt8} (hA : All w0 w (Tr w0.heap.size gT gR (rcs gR g gt a N st sb sb mo false) r :: Di w0.heap.size g S :: Ps)) (h0 : 0 ≤ a) (hL : a + 2 + (N : Int) ≤ (S.fl.length : Int)) (h1 : 1 ≤ N) (hr : r.length = N * 128)
    (hs : st ≤ sb) (hz : sb - st ≤ N * 128) (hm : sb ≤ 1099511627776) :
    Calls Try.prog 45 #[.pointer (some ⟨gT, 0, none⟩)] w fun e w' => e = .returned (.int .i64 (ringE S)) ∧ ∃ r', (S.on = true → IsRing N st (bsOf S a N st (sb - st)) r') ∧ All w0 w' (Tr w0.heap.size gT gR (rcs gR g gt a N st sb sb mo false) r' :: Di w0.heap.size g S :: Ps) := by
  cases hon : S.on with
  | true =>
    refine (readRing_on hA hon h0 hL h1 hr hs hz hm).mono ?_
    rintro e w' ⟨rfl, r', hi, ha⟩
    exact ⟨by unfold ringE; rw [if_pos hon], r', fun _ => hi, ha⟩
  | false =>
    refine (readRing_off hA hon h0 hL h1).mono ?_
    rintro e w' ⟨rfl, ha⟩
    exact ⟨by unfold ringE; rw [if_neg (by rw [hon]; decide)], r, (fun h => by cases h), ha⟩
end
end TN2
end Go.Proofs.Ytkhdidhpcdlmcaa
