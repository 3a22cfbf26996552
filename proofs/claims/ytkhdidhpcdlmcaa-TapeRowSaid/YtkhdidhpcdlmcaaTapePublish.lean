/- A tape's Publish. -/
import Derived.Test.YtkhdidhpcdlmcaaTapeTools
namespace Go.Proofs.Ytkhdidhpcdlmcaa
set_option maxRecDepth 100000
open Go.RowKit Go.Lib MM MF DM DK MY TM DP TP RN TF TR TQ BL FL TA TZ TT TU TE WM
namespace TB
section
variable {w : World} {gT gR g gt N : Nat} {a : Int} {T : TS}
theorem arg_walk (bn bs n : Nat) (h : Has w gT 80 (tcs gR g gt a N T)) (hn : w.cell? ⟨bn, 0, none⟩ = some (.int .u64 n)) (hs : w.cell? ⟨bs, 0, none⟩ = some (.pointer (some ⟨gT, 0, none⟩))) :
    Calls Try.prog 62 #[.pointer (some ⟨bn, 0, none⟩), .pointer (some ⟨bs, 0, none⟩)] w fun e w' => e = .returned (.bool (decide (n < T.start ∨ T.stable < n))) ∧ Below w.heap.size w w' := by
  obtain ⟨c0, c1, c2, c3, c4, c5, c6, c7, c8⟩ := tcs_cells h
  generalize T.stable = t at *
  generalize T.start = s at *
  clear h c0 c1 c2 c3 c6 c7 c8
  by_cases h1 : n < s
  · rw [show decide (n < s ∨ t < n) = true by simp [h1]]
    go_enter Try.func62, Try.ntmps62
    go_wp2
    go_quiet (fail)
    go_wp2
    go_ret
    exact ⟨rfl, drawn_below w nq⟩
  · rw [show decide (n < s ∨ t < n) = decide (t < n) by simp [h1]]
    have e2 : decide (n < s) = false := by simp [h1]
    go_enter Try.func62, Try.ntmps62
    go_wp2
    go_quiet (fail)
    go_wp2
    go_ret
    exact ⟨rfl, drawn_below w nq⟩
theorem long_walk (bm : Nat) (l : List UInt8) (hm : w.cell? ⟨bm, 0, none⟩ = some (.string ⟨l.toArray⟩)) :
    Calls Try.prog 63 #[.pointer (some ⟨bm, 0, none⟩)] w fun e w' => e = .returned (.bool (decide (32 < l.length))) ∧ Below w.heap.size w w' := by
  have hz : (⟨l.toArray⟩ : ByteArray).size = l.length := rfl
  go_enter Try.func63, Try.ntmps63
  go_wp2
  go_ret
  have e : decide ((32 : Int) < (l.length : Int)) = decide (32 < l.length) := decide_eq_decide.2 (by omega)
  exact ⟨by rw [← e]; rfl, Below.refl _ _⟩
end
/-- What is set. -/
def newHead (start : Nat) (T : TS) (m : List UInt8) : List UInt8 := headB start T.stable m
theorem ent_arg : Ent 62 := enters_of Try.func62 (by kernel_rfl) rfl
theorem ent_long : Ent 63 := enters_of Try.func63 (by kernel_rfl) rfl
theorem ent_pset : Ent 64 := enters_of Try.func64 (by kernel_rfl) rfl
def chkE (T : TS) (n : Nat) (m : List UInt8) : Int := firstOf [if T.over then 8 else 0, if decide (n < T.start ∨ T.stable < n) then 2 else 0, if decide (32 < m.length) then 3 else 0]
theorem chkE_zero {T : TS} {n : Nat} {m : List UInt8} (h : chkE T n m = 0) : T.over = false ∧ T.start ≤ n ∧ n ≤ T.stable ∧ m.length ≤ 32 := by
  unfold chkE at h
  cases ho : T.over with
  | true => simp [ho, firstOf] at h
  | false =>
    rw [ho] at h
    by_cases h1 : n < T.start ∨ T.stable < n
    · simp [firstOf, h1] at h
    · by_cases h2 : 32 < m.length
      · simp [firstOf, h1, h2] at h
      · exact ⟨rfl, by omega, by omega, by omega⟩
section
variable {w0 w : World} {gT gR g gt N : Nat} {a : Int} {T : TS} {S : St} {h : List UInt8} {lost : Bool} {Ps : List (World → List Nat → Prop)}
/-- The twin is set: among the boxes of the call. -/
theorem pset_walk (bt bn bm n : Nat) (m : List UInt8) (hA : All w0 w (Ti w0.heap.size gt g a h lost :: Di w0.heap.size g S :: Tp w0.heap.size gT gR g gt a N T :: Bl w0.heap.size bm 9 [.string ⟨m.toArray⟩] :: Bl w0.heap.size bn 30 [.int .u64 n] :: Bl w0.heap.size bt 26 [.pointer (some ⟨gT, 0, none⟩)] :: Ps))
    (ha0 : 0 ≤ a) (ha1 : a ≤ 4096) (hn : n < 4611686018427387904) (hst : T.stable < 4611686018427387904) (hm : m.length ≤ 1024) (hlen : S.un.length < 999999990) :
    Calls Try.prog 64 #[.pointer (some ⟨bt, 0, none⟩), .pointer (some ⟨bn, 0, none⟩), .pointer (some ⟨bm, 0, none⟩)] w fun e w' => e = .returned (.int .i64 (setE S a h lost (headB n T.stable m))) ∧
      All w0 w' (Ti w0.heap.size gt g a (setH S a h lost (headB n T.stable m)) (setL S a h lost (headB n T.stable m)) :: Di w0.heap.size g (setS S a h lost (headB n T.stable m)) :: Tp w0.heap.size gT gR g gt a N T :: Bl w0.heap.size bm 9 [.string ⟨m.toArray⟩] :: Bl w0.heap.size bn 30 [.int .u64 n] :: Bl w0.heap.size bt 26 [.pointer (some ⟨gT, 0, none⟩)] :: Ps) := by
  have key : ∀ W : World, All w0 W (Ti w0.heap.size gt g a h lost :: Di w0.heap.size g S :: Tp w0.heap.size gT gR g gt a N T :: Bl w0.heap.size bm 9 [.string ⟨m.toArray⟩] :: Bl w0.heap.size bn 30 [.int .u64 n] :: Bl w0.heap.size bt 26 [.pointer (some ⟨gT, 0, none⟩)] :: Ps) →
      W.cell? ⟨bt, 0, none⟩ = some (.pointer (some ⟨gT, 0, none⟩)) ∧ W.cell? ⟨bn, 0, none⟩ = some (.int .u64 n) ∧ W.cell? ⟨bm, 0, none⟩ = some (.string ⟨m.toArray⟩) ∧ W.cell? ⟨gT, 1, none⟩ = some (.pointer (some ⟨gt, 0, none⟩)) ∧ W.cell? ⟨gT, 5, none⟩ = some (.int .u64 T.stable) := by
    intro W hW
    obtain ⟨_, hT, _⟩ := all_get hW (P := Tp w0.heap.size gT gR g gt a N T) (by simp)
    exact ⟨(all_has hW (g := bt) (t := 26) (cs := [.pointer (some ⟨gT, 0, none⟩)]) (by simp)).cell 0, (all_has hW (g := bn) (t := 30) (cs := [.int .u64 n]) (by simp)).cell 0, (all_has hW (g := bm) (t := 9) (cs := [.string ⟨m.toArray⟩]) (by simp)).cell 0, hT.cell 1, hT.cell 5⟩
  have HD := Lib.hid (fun w => head_walk n T.stable m hn hst hm w)
  have hhl : (headB n T.stable m).length ≤ 9223372036854775807 := by
    have l1 := numB_le n
    have l2 := numB_le T.stable
    have l3 := numB_le m.length
    unfold headB textB
    simp
    omega
  generalize hhd : headB n T.stable m = hd at *
  obtain ⟨x1, x2, x3, x4, x5⟩ := key _ hA
  have HK := Lib.hid key
  generalize hst2 : T.stable = st at x5 HD
  clear key
  go_enter Try.func64, Try.ntmps64
  go_wp2
  refine wp_region_noPanic (wp_region_held_drew (S := fun W => W.cell? ⟨bt, 0, none⟩ = some (.pointer (some ⟨gT, 0, none⟩)) ∧ W.cell? ⟨bn, 0, none⟩ = some (.int .u64 n) ∧ W.cell? ⟨bm, 0, none⟩ = some (.string ⟨m.toArray⟩) ∧ W.cell? ⟨gT, 1, none⟩ = some (.pointer (some ⟨gt, 0, none⟩)) ∧ W.cell? ⟨gT, 5, none⟩ = some (.int .u64 st)) (by kernel_rfl) ⟨x1, x2, x3, x4, x5⟩ (fun hS => ?_))
  refine wpAnyH_take (i := 0) (v := (.pointer (some ⟨gT, 0, none⟩))) (lit rfl) (by kernel_rfl) (by kernel_rfl) (by kernel_rfl) (fun _ _ _ h => h) (Or.inl ⟨by rfl, fun w hw => by obtain ⟨c1, c2, c3, c4, c5⟩ := hw; go_simp⟩) hS ?_
  simp only [Act.put, List.setIfInBounds_toArray, List.set_cons_zero, List.set_cons_succ]
  refine wpAnyH_take (i := 1) (v := (.pointer (some ⟨gT, 0, none⟩))) (lit rfl) (by kernel_rfl) (by kernel_rfl) (by kernel_rfl) (fun _ _ _ h => h) (Or.inl ⟨by rfl, fun w _ => by go_simp⟩) hS ?_
  simp only [Act.put, List.setIfInBounds_toArray, List.set_cons_zero, List.set_cons_succ]
  refine wpAnyH_take (i := 2) (v := (.pointer (some ⟨gT, 1, none⟩))) (lit rfl) (by kernel_rfl) (by kernel_rfl) (by kernel_rfl) (fun _ _ _ h => h) (Or.inl ⟨by rfl, fun w _ => by go_simp⟩) hS ?_
  simp only [Act.put, List.setIfInBounds_toArray, List.set_cons_zero, List.set_cons_succ]
  refine wpAnyH_take (i := 3) (v := (.pointer (some ⟨gt, 0, none⟩))) (lit rfl) (by kernel_rfl) (by kernel_rfl) (by kernel_rfl) (fun _ _ _ h => h) (Or.inl ⟨by rfl, fun w hw => by obtain ⟨c1, c2, c3, c4, c5⟩ := hw; go_simp⟩) hS ?_
  simp only [Act.put, List.setIfInBounds_toArray, List.set_cons_zero, List.set_cons_succ]
  refine wpAnyH_take (i := 4) (v := (.int .u64 n)) (lit rfl) (by kernel_rfl) (by kernel_rfl) (by kernel_rfl) (fun _ _ _ h => h) (Or.inl ⟨by rfl, fun w hw => by obtain ⟨c1, c2, c3, c4, c5⟩ := hw; go_simp⟩) hS ?_
  simp only [Act.put, List.setIfInBounds_toArray, List.set_cons_zero, List.set_cons_succ]
  refine wpAnyH_take (i := 5) (v := (.pointer (some ⟨gT, 0, none⟩))) (lit rfl) (by kernel_rfl) (by kernel_rfl) (by kernel_rfl) (fun _ _ _ h => h) (Or.inl ⟨by rfl, fun w hw => by obtain ⟨c1, c2, c3, c4, c5⟩ := hw; go_simp⟩) hS ?_
  simp only [Act.put, List.setIfInBounds_toArray, List.set_cons_zero, List.set_cons_succ]
  refine wpAnyH_take (i := 6) (v := (.pointer (some ⟨gT, 0, none⟩))) (lit rfl) (by kernel_rfl) (by kernel_rfl) (by kernel_rfl) (fun _ _ _ h => h) (Or.inl ⟨by rfl, fun w _ => by go_simp⟩) hS ?_
  simp only [Act.put, List.setIfInBounds_toArray, List.set_cons_zero, List.set_cons_succ]
  refine wpAnyH_take (i := 7) (v := (.pointer (some ⟨gT, 5, none⟩))) (lit rfl) (by kernel_rfl) (by kernel_rfl) (by kernel_rfl) (fun _ _ _ h => h) (Or.inl ⟨by rfl, fun w _ => by go_simp⟩) hS ?_
  simp only [Act.put, List.setIfInBounds_toArray, List.set_cons_zero, List.set_cons_succ]
  refine wpAnyH_take (i := 8) (v := (.int .u64 st)) (lit rfl) (by kernel_rfl) (by kernel_rfl) (by kernel_rfl) (fun _ _ _ h => h) (Or.inl ⟨by rfl, fun w hw => by obtain ⟨c1, c2, c3, c4, c5⟩ := hw; go_simp⟩) hS ?_
  simp only [Act.put, List.setIfInBounds_toArray, List.set_cons_zero, List.set_cons_succ]
  refine wpAnyH_take (i := 9) (v := (.string ⟨m.toArray⟩)) (lit rfl) (by kernel_rfl) (by kernel_rfl) (by kernel_rfl) (fun _ _ _ h => h) (Or.inl ⟨by rfl, fun w hw => by obtain ⟨c1, c2, c3, c4, c5⟩ := hw; go_simp⟩) hS ?_
  simp only [Act.put, List.setIfInBounds_toArray, List.set_cons_zero, List.set_cons_succ]
  refine wpAnyH_ready (rs := [10]) (by kernel_rfl) (by simp) (AllReadyH.cons (lit rfl) (fun K hK => ?_) AllReadyH.nil)
  go_simp
  go_wp2_with (go_at_call 61; refine (HD.out _).mono ?_; rintro e y1 ⟨rfl, b1⟩)
  have A1 := hA.drew.below b1
  obtain ⟨z1, z2, z3, z4, z5⟩ := HK.out _ A1
  rw [hst2] at z5
  refine hK.out _ _ ⟨z1, z2, z3, z4, z5⟩ (fun _ => ?_)
  clear hK K
  refine wpAnyH_ready (rs := [11]) (by kernel_rfl) (by simp) (AllReadyH.cons (lit rfl) (fun K hK => ?_) AllReadyH.nil)
  go_simp
  go_wp2_with (go_at_call 60; refine (ti_set A1 ha0 ha1 hd hhl hlen).mono ?_; rintro e y2 ⟨rfl, A2⟩)
  have HE := Lib.hid A2
  have k2 : y2.cell? ⟨bt, 0, none⟩ = some (.pointer (some ⟨gT, 0, none⟩)) ∧ y2.cell? ⟨bn, 0, none⟩ = some (.int .u64 n) ∧ y2.cell? ⟨bm, 0, none⟩ = some (.string ⟨m.toArray⟩) ∧ y2.cell? ⟨gT, 1, none⟩ = some (.pointer (some ⟨gt, 0, none⟩)) ∧ y2.cell? ⟨gT, 5, none⟩ = some (.int .u64 st) := by
    obtain ⟨_, hT, _⟩ := all_get A2 (P := Tp w0.heap.size gT gR g gt a N T) (by simp)
    refine ⟨(all_has A2 (g := bt) (t := 26) (cs := [.pointer (some ⟨gT, 0, none⟩)]) (by simp)).cell 0, (all_has A2 (g := bn) (t := 30) (cs := [.int .u64 n]) (by simp)).cell 0, (all_has A2 (g := bm) (t := 9) (cs := [.string ⟨m.toArray⟩]) (by simp)).cell 0, hT.cell 1, ?_⟩
    rw [← hst2]
    exact hT.cell 5
  clear A2
  refine hK.out _ _ k2 (fun _ => ?_)
  clear hK K
  refine wpAnyH_ready (rs := [12]) (by kernel_rfl) (by simp) (AllReadyH.cons (lit rfl) (fun K hK => ?_) AllReadyH.nil)
  go_simp
  refine hK.out _ _ k2 (fun _ => ?_)
  clear hK K
  refine wpAnyH_done (by kernel_rfl) (NoPanic.normal ?_) _
  go_wp2
  go_ret
  exact ⟨rfl, HE.out⟩
end
/-- What Publish answers, and leaves. -/
def pubE (S : St) (a : Int) (h : List UInt8) (lost : Bool) (T : TS) (n : Nat) (m : List UInt8) : Int := if chkE T n m ≠ 0 then chkE T n m else setE S a h lost (headB n T.stable m)
def pubS (S : St) (a : Int) (h : List UInt8) (lost : Bool) (T : TS) (n : Nat) (m : List UInt8) : St := if chkE T n m ≠ 0 then S else setS S a h lost (headB n T.stable m)
def pubH (S : St) (a : Int) (h : List UInt8) (lost : Bool) (T : TS) (n : Nat) (m : List UInt8) : List UInt8 := if chkE T n m ≠ 0 then h else setH S a h lost (headB n T.stable m)
def pubL (S : St) (a : Int) (h : List UInt8) (lost : Bool) (T : TS) (n : Nat) (m : List UInt8) : Bool := if chkE T n m ≠ 0 then lost else setL S a h lost (headB n T.stable m)
def pubT (S : St) (a : Int) (h : List UInt8) (lost : Bool) (T : TS) (n : Nat) (m : List UInt8) : TS :=
  if chkE T n m ≠ 0 then T else if setE S a h lost (headB n T.stable m) ≠ 0 then { T with over := setE S a h lost (headB n T.stable m) == 8 } else { start := n, stable := T.stable, bs := T.bs.drop (n - T.start), more := m, over := false }
section
variable {w0 w : World} {gT gR g gt N : Nat} {a : Int} {T : TS} {S : St} {h : List UInt8} {lost : Bool} {Ps : List (World → List Nat → Prop)}
theorem publish_walk (hA : All w0 w (Tp w0.heap.size gT gR g gt a N T :: Ti w0.heap.size gt g a h lost :: Di w0.heap.size g S :: Ps)) (n : Nat) (m : List UInt8) (ha0 : 0 ≤ a) (ha1 : a ≤ 4096) (hlen : S.un.length < 999999990) :
    Calls Try.prog 25 #[.pointer (some ⟨gT, 0, none⟩), .int .u64 n, .string ⟨m.toArray⟩] w fun e w' => e = .returned (.int .i64 (pubE S a h lost T n m)) ∧
      All w0 w' (Tp w0.heap.size gT gR g gt a N (pubT S a h lost T n m) :: Ti w0.heap.size gt g a (pubH S a h lost T n m) (pubL S a h lost T n m) :: Di w0.heap.size g (pubS S a h lost T n m) :: Ps) := by
  have hA3 := bl_new (bl_new (bl_new hA 26 [.pointer (some ⟨gT, 0, none⟩)]) 30 [.int .u64 n]) 9 [.string ⟨m.toArray⟩]
  simp only [World.size_alloc] at hA3
  change All w0 (((w.alloc (Obj.cells #[Value.pointer (some { block := gT, off := 0 })] 26)).alloc (Obj.cells #[Value.int IntKind.u64 n] 30)).alloc (Obj.cells #[Value.string { data := m.toArray }] 9)) _ at hA3
  go_enter Try.func25, Try.ntmps25
  go_wp2
  generalize (((w.alloc (Obj.cells #[Value.pointer (some { block := gT, off := 0 })] 26)).alloc (Obj.cells #[Value.int IntKind.u64 n] 30)).alloc (Obj.cells #[Value.string { data := m.toArray }] 9)) = w1 at *
  obtain ⟨bt, ebt⟩ : ∃ bt, bt = w.heap.size := ⟨_, rfl⟩
  obtain ⟨bn, ebn⟩ : ∃ bn, bn = w.heap.size + 1 := ⟨_, rfl⟩
  obtain ⟨bm, ebm⟩ : ∃ bm, bm = w.heap.size + 1 + 1 := ⟨_, rfl⟩
  rw [← ebm, ← ebn, ← ebt] at hA3 ⊢
  clear ebm ebn ebt
  have xt := (all_has hA3 (g := bt) (t := 26) (cs := [.pointer (some ⟨gT, 0, none⟩)]) (by simp)).cell 0
  refine wp_region_noPanic (wp_region_held_drew (S := fun w' => w'.cell? ⟨bt, 0, none⟩ = some (.pointer (some ⟨gT, 0, none⟩))) (by kernel_rfl) xt (fun hS => ?_))
  refine wpAnyH_take (i := 0) (v := (.pointer (some ⟨gT, 0, none⟩))) (lit rfl) (by kernel_rfl) (by kernel_rfl) (by kernel_rfl) (fun _ _ _ h => h) (Or.inl ⟨by rfl, fun w hw => by have hc := hw; go_simp⟩) hS ?_
  simp only [Act.put, List.setIfInBounds_toArray, List.set_cons_zero, List.set_cons_succ]
  refine wpAnyH_take (i := 1) (v := (.func (.func 46) #[.pointer (some ⟨gT, 0, none⟩)] #[])) (lit rfl) (by kernel_rfl) (by kernel_rfl) (by kernel_rfl) (fun _ _ _ h => h) (Or.inl ⟨by rfl, fun w _ => by go_simp⟩) hS ?_
  simp only [Act.put, List.setIfInBounds_toArray, List.set_cons_zero, List.set_cons_succ]
  refine wpAnyH_take (i := 2) (v := (.func (.func 62) #[] #[.pointer (some ⟨bn, 0, none⟩), .pointer (some ⟨bt, 0, none⟩)])) (lit rfl) (by kernel_rfl) (by kernel_rfl) (by kernel_rfl) (fun _ _ _ h => h) (Or.inl ⟨by rfl, fun w _ => by go_simp⟩) hS ?_
  simp only [Act.put, List.setIfInBounds_toArray, List.set_cons_zero, List.set_cons_succ]
  refine wpAnyH_take (i := 4) (v := (.func (.func 63) #[] #[.pointer (some ⟨bm, 0, none⟩)])) (lit rfl) (by kernel_rfl) (by kernel_rfl) (by kernel_rfl) (fun _ _ _ h => h) (Or.inl ⟨by rfl, fun w _ => by go_simp⟩) hS ?_
  simp only [Act.put, List.setIfInBounds_toArray, List.set_cons_zero, List.set_cons_succ]
  refine wpAnyH_ready (rs := [3]) (by kernel_rfl) (by simp) (AllReadyH.cons (lit rfl) (fun K hK => ?_) AllReadyH.nil)
  go_simp
  go_wp2_with (go_at_call 47; refine (when_walk _ _ _ _ _).mono ?_; rintro e y1 ⟨e1, f1, rfl, p1, q1, b1, _, _⟩)
  have A1 := hA3.drew.below b1
  have x1 := (all_has A1 (g := bt) (t := 26) (cs := [.pointer (some ⟨gT, 0, none⟩)]) (by simp)).cell 0
  refine hK.out _ _ x1 (fun _ => ?_)
  clear hK K
  refine wpAnyH_ready (rs := [5]) (by kernel_rfl) (by simp) (AllReadyH.cons (lit rfl) (fun K hK => ?_) AllReadyH.nil)
  go_simp
  go_wp2_with (go_at_call 47; refine (when_walk _ _ _ _ _).mono ?_; rintro e y2 ⟨e2, f2, rfl, p2, q2, b2, _, _⟩)
  have A2 := A1.below b2
  have x2 := (all_has A2 (g := bt) (t := 26) (cs := [.pointer (some ⟨gT, 0, none⟩)]) (by simp)).cell 0
  refine hK.out _ _ x2 (fun _ => ?_)
  clear hK K
  refine wpAnyH_ready (rs := [6]) (by kernel_rfl) (by simp) (AllReadyH.cons (lit rfl) (fun K hK => ?_) AllReadyH.nil)
  go_simp
  go_wp2
  have A3 := bl_new A2 51 [.func (.func 46) #[.pointer (some ⟨gT, 0, none⟩)] #[], .func (.func 107) #[] #[.pointer (some ⟨f1, 0, none⟩), .pointer (some ⟨e1, 0, none⟩)], .func (.func 107) #[] #[.pointer (some ⟨f2, 0, none⟩), .pointer (some ⟨e2, 0, none⟩)]]
  change All w0 (y2.alloc (.cells #[.func (.func 46) #[.pointer (some ⟨gT, 0, none⟩)] #[], .func (.func 107) #[] #[.pointer (some ⟨f1, 0, none⟩), .pointer (some ⟨e1, 0, none⟩)], .func (.func 107) #[] #[.pointer (some ⟨f2, 0, none⟩), .pointer (some ⟨e2, 0, none⟩)]] 51)) _ at A3
  have b3 : Below y2.heap.size y2 (y2.alloc (.cells #[.func (.func 46) #[.pointer (some ⟨gT, 0, none⟩)] #[], .func (.func 107) #[] #[.pointer (some ⟨f1, 0, none⟩), .pointer (some ⟨e1, 0, none⟩)], .func (.func 107) #[] #[.pointer (some ⟨f2, 0, none⟩), .pointer (some ⟨e2, 0, none⟩)]] 51)) := (Below.refl _ _).alloc (Nat.le_refl _) _
  generalize (y2.alloc (.cells #[.func (.func 46) #[.pointer (some ⟨gT, 0, none⟩)] #[], .func (.func 107) #[] #[.pointer (some ⟨f1, 0, none⟩), .pointer (some ⟨e1, 0, none⟩)], .func (.func 107) #[] #[.pointer (some ⟨f2, 0, none⟩), .pointer (some ⟨e2, 0, none⟩)]] 51)) = y3 at *
  generalize y2.heap.size = ga at A3 ⊢
  have x3 := (all_has A3 (g := bt) (t := 26) (cs := [.pointer (some ⟨gT, 0, none⟩)]) (by simp)).cell 0
  refine hK.out _ _ x3 (fun _ => ?_)
  clear hK K
  have b13 : Below y1.heap.size y1 y3 := b2.trans (b3.mono b2.size)
  have hT3 : Has y3 gT 80 (tcs gR g gt a N T) := by
    obtain ⟨_, hT, _⟩ := all_get A3 (P := Tp w0.heap.size gT gR g gt a N T) (by simp)
    exact hT
  have HF := Lib.hid (first3 (T := T) (p1 := decide (n < T.start ∨ T.stable < n)) (p2 := decide (32 < m.length)) ent_arg ent_long (all_has A3 (List.mem_cons_self ..)) hT3 p1 q1 b13 p2 q2 b3
    (fun W b => arg_walk bn bt n (hT3.under b hT3.lt) ((all_has (A3.below b) (g := bn) (t := 30) (cs := [.int .u64 n]) (by simp)).cell 0) ((all_has (A3.below b) (g := bt) (t := 26) (cs := [.pointer (some ⟨gT, 0, none⟩)]) (by simp)).cell 0))
    (fun W b => long_walk bm m ((all_has (A3.below b) (g := bm) (t := 9) (cs := [.string ⟨m.toArray⟩]) (by simp)).cell 0)))
  change Hid (Calls Try.prog 38 #[.slice (some ⟨ga, 0, none⟩) 3 3] y3 fun e w' => e = .returned (.int .i64 (chkE T n m)) ∧ Below y3.heap.size y3 w') at HF
  refine wpAnyH_ready (rs := [7]) (by kernel_rfl) (by simp) (AllReadyH.cons (lit rfl) (fun K hK => ?_) AllReadyH.nil)
  go_simp
  go_wp2_with (go_at_call 38; refine HF.out.mono ?_; rintro e y4 ⟨rfl, b4⟩)
  have A4 := (A3.below b4).tail
  have x4 := (all_has A4 (g := bt) (t := 26) (cs := [.pointer (some ⟨gT, 0, none⟩)]) (by simp)).cell 0
  refine hK.out _ _ x4 (fun _ => ?_)
  clear hK K
  refine wpAnyH_ready (rs := [8]) (by kernel_rfl) (by simp) (AllReadyH.cons (lit rfl) (fun K hK => ?_) AllReadyH.nil)
  go_simp
  refine hK.out _ _ x4 (fun _ => ?_)
  clear hK K
  refine wpAnyH_done (by kernel_rfl) (NoPanic.normal ?_) _
  clear HF b4 b13 b3 x3 A3 A2 A1 x2 x1 b2 b1 p1 p2 q1 q2 hS xt hA3 hT3
  by_cases h0 : chkE T n m = 0
  · have e0 : pubE S a h lost T n m = setE S a h lost (headB n T.stable m) ∧ pubS S a h lost T n m = setS S a h lost (headB n T.stable m) ∧ pubH S a h lost T n m = setH S a h lost (headB n T.stable m) ∧ pubL S a h lost T n m = setL S a h lost (headB n T.stable m) := by
      unfold pubE pubS pubH pubL
      simp only [ne_eq, h0, not_true_eq_false, if_false, and_self]
    obtain ⟨z1, z2, z3, z4⟩ := chkE_zero h0
    obtain ⟨_, _, _, hO, _⟩ := all_get A4 (P := Tp w0.heap.size gT gR g gt a N T) (by simp)
    have hends := hO.ends
    have hhigh := hO.high
    rw [h0]
    go_wp2_with fail
    have A5 := bl_new A4 51 [.func (.func 64) #[] #[.pointer (some ⟨bt, 0, none⟩), .pointer (some ⟨bn, 0, none⟩), .pointer (some ⟨bm, 0, none⟩)]]
    change All w0 (y4.alloc (.cells #[.func (.func 64) #[] #[.pointer (some ⟨bt, 0, none⟩), .pointer (some ⟨bn, 0, none⟩), .pointer (some ⟨bm, 0, none⟩)]] 51)) _ at A5
    generalize (y4.alloc (.cells #[.func (.func 64) #[] #[.pointer (some ⟨bt, 0, none⟩), .pointer (some ⟨bn, 0, none⟩), .pointer (some ⟨bm, 0, none⟩)]] 51)) = y5 at *
    generalize y4.heap.size = gb at A5 ⊢
    have A6 : All w0 y5 (Ti w0.heap.size gt g a h lost :: Di w0.heap.size g S :: Tp w0.heap.size gT gR g gt a N T :: Bl w0.heap.size bm 9 [.string ⟨m.toArray⟩] :: Bl w0.heap.size bn 30 [.int .u64 n] :: Bl w0.heap.size bt 26 [.pointer (some ⟨gT, 0, none⟩)] :: Bl w0.heap.size gb 51 [.func (.func 64) #[] #[.pointer (some ⟨bt, 0, none⟩), .pointer (some ⟨bn, 0, none⟩), .pointer (some ⟨bm, 0, none⟩)]] :: Ps) := all_idx [_, _, _, _, _, _, _] 7 [5, 6, 4, 1, 2, 3, 0] A5 rfl (by decide)
    have hF : Calls Try.prog 38 #[.slice (some ⟨gb, 0, none⟩) 1 1] y5 fun e w' => ∃ c : Int, e = .returned (.int .i64 c) ∧ (c = setE S a h lost (headB n T.stable m) ∧ All w0 w' (Ti w0.heap.size gt g a (setH S a h lost (headB n T.stable m)) (setL S a h lost (headB n T.stable m)) :: Di w0.heap.size g (setS S a h lost (headB n T.stable m)) :: Tp w0.heap.size gT gR g gt a N T :: Bl w0.heap.size bm 9 [.string ⟨m.toArray⟩] :: Bl w0.heap.size bn 30 [.int .u64 n] :: Bl w0.heap.size bt 26 [.pointer (some ⟨gT, 0, none⟩)] :: Bl w0.heap.size gb 51 [.func (.func 64) #[] #[.pointer (some ⟨bt, 0, none⟩), .pointer (some ⟨bn, 0, none⟩), .pointer (some ⟨bm, 0, none⟩)]] :: Ps)) := by
      refine (first_walk y5 gb 1 1 (by decide) (by decide) (fun i W => if i = 0 then All w0 W (Ti w0.heap.size gt g a h lost :: Di w0.heap.size g S :: Tp w0.heap.size gT gR g gt a N T :: Bl w0.heap.size bm 9 [.string ⟨m.toArray⟩] :: Bl w0.heap.size bn 30 [.int .u64 n] :: Bl w0.heap.size bt 26 [.pointer (some ⟨gT, 0, none⟩)] :: Bl w0.heap.size gb 51 [.func (.func 64) #[] #[.pointer (some ⟨bt, 0, none⟩), .pointer (some ⟨bn, 0, none⟩), .pointer (some ⟨bm, 0, none⟩)]] :: Ps) else (setE S a h lost (headB n T.stable m) = 0 ∧ All w0 W (Ti w0.heap.size gt g a (setH S a h lost (headB n T.stable m)) (setL S a h lost (headB n T.stable m)) :: Di w0.heap.size g (setS S a h lost (headB n T.stable m)) :: Tp w0.heap.size gT gR g gt a N T :: Bl w0.heap.size bm 9 [.string ⟨m.toArray⟩] :: Bl w0.heap.size bn 30 [.int .u64 n] :: Bl w0.heap.size bt 26 [.pointer (some ⟨gT, 0, none⟩)] :: Bl w0.heap.size gb 51 [.func (.func 64) #[] #[.pointer (some ⟨bt, 0, none⟩), .pointer (some ⟨bn, 0, none⟩), .pointer (some ⟨bm, 0, none⟩)]] :: Ps))) (fun c W => c = setE S a h lost (headB n T.stable m) ∧ All w0 W (Ti w0.heap.size gt g a (setH S a h lost (headB n T.stable m)) (setL S a h lost (headB n T.stable m)) :: Di w0.heap.size g (setS S a h lost (headB n T.stable m)) :: Tp w0.heap.size gT gR g gt a N T :: Bl w0.heap.size bm 9 [.string ⟨m.toArray⟩] :: Bl w0.heap.size bn 30 [.int .u64 n] :: Bl w0.heap.size bt 26 [.pointer (some ⟨gT, 0, none⟩)] :: Bl w0.heap.size gb 51 [.func (.func 64) #[] #[.pointer (some ⟨bt, 0, none⟩), .pointer (some ⟨bn, 0, none⟩), .pointer (some ⟨bm, 0, none⟩)]] :: Ps)) [.func (.func 64) #[] #[.pointer (some ⟨bt, 0, none⟩), .pointer (some ⟨bn, 0, none⟩), .pointer (some ⟨bm, 0, none⟩)]] rfl ?_ A6 ?_).mono ?_
      · intro i W hi k hk
        obtain rfl : k = 0 := by omega
        by_cases hi0 : i = 0
        · rw [if_pos hi0] at hi
          exact (all_has hi (g := gb) (t := 51) (cs := [.func (.func 64) #[] #[.pointer (some ⟨bt, 0, none⟩), .pointer (some ⟨bn, 0, none⟩), .pointer (some ⟨bm, 0, none⟩)]]) (by simp)).cell 0
        · rw [if_neg hi0] at hi
          exact (all_has hi.2 (g := gb) (t := 51) (cs := [.func (.func 64) #[] #[.pointer (some ⟨bt, 0, none⟩), .pointer (some ⟨bn, 0, none⟩), .pointer (some ⟨bm, 0, none⟩)]]) (by simp)).cell 0
      · intro i W v hi hv
        have hi0 : i = 0 := by
          have := (List.getElem?_eq_some_iff.1 hv).1
          simpa using this
        subst hi0
        rw [if_pos rfl] at hi
        simp only [List.getElem?_cons_zero, Option.some.injEq] at hv
        subst hv
        refine ⟨_, _, _, rfl, ent_pset, (pset_walk bt bn bm n m hi ha0 ha1 (by omega) (by omega) (by omega) hlen).mono ?_⟩
        rintro e W' ⟨rfl, hW⟩
        refine ⟨_, rfl, ?_⟩
        by_cases hs : setE S a h lost (headB n T.stable m) = 0
        · exact .inl ⟨hs, by rw [if_neg (by decide)]; exact ⟨hs, hW⟩⟩
        · exact .inr ⟨hs, rfl, hW⟩
      · rintro e W' ⟨c, rfl, ⟨rfl, h1⟩ | ⟨h1, rfl, h2⟩⟩
        · rw [if_neg (by decide)] at h1
          exact ⟨0, rfl, h1.1.symm, h1.2⟩
        · exact ⟨_, rfl, rfl, h2⟩
    refine (operate_walk y5 gT gb 1 _ hF (fun c w' hx => by
      obtain ⟨_, hT, _⟩ := all_get hx.2 (P := Tp w0.heap.size gT gR g gt a N T) (by simp)
      exact ⟨_, hT, rfl⟩)).mono ?_
    rintro e y6 ⟨c, y7, rfl, ⟨rfl, A7⟩, rfl⟩
    have A8 := (tp_tr (all_idx [_, _, _, _, _, _, _] 7 [2, 0, 1, 3, 4, 5, 6] A7 rfl (by decide) : All w0 y7 (Tp w0.heap.size gT gR g gt a N T :: Ti w0.heap.size gt g a (setH S a h lost (headB n T.stable m)) (setL S a h lost (headB n T.stable m)) :: Di w0.heap.size g (setS S a h lost (headB n T.stable m)) :: Bl w0.heap.size bm 9 [.string ⟨m.toArray⟩] :: Bl w0.heap.size bn 30 [.int .u64 n] :: Bl w0.heap.size bt 26 [.pointer (some ⟨gT, 0, none⟩)] :: Bl w0.heap.size gb 51 [.func (.func 64) #[] #[.pointer (some ⟨bt, 0, none⟩), .pointer (some ⟨bn, 0, none⟩), .pointer (some ⟨bm, 0, none⟩)]] :: Ps))).1
    have A9 := tr_set A8 8 (.bool (setE S a h lost (headB n T.stable m) == 8))
    change All w0 _ (Tr w0.heap.size gT gR (tcs gR g gt a N { T with over := setE S a h lost (headB n T.stable m) == 8 }) (ring N T.start T.bs) :: Ti w0.heap.size gt g a (setH S a h lost (headB n T.stable m)) (setL S a h lost (headB n T.stable m)) :: Di w0.heap.size g (setS S a h lost (headB n T.stable m)) :: Bl w0.heap.size bm 9 [.string ⟨m.toArray⟩] :: Bl w0.heap.size bn 30 [.int .u64 n] :: Bl w0.heap.size bt 26 [.pointer (some ⟨gT, 0, none⟩)] :: Bl w0.heap.size gb 51 [.func (.func 64) #[] #[.pointer (some ⟨bt, 0, none⟩), .pointer (some ⟨bn, 0, none⟩), .pointer (some ⟨bm, 0, none⟩)]] :: Ps) at A9
    generalize (y7.setCell ⟨gT, 8, none⟩ (.bool (setE S a h lost (headB n T.stable m) == 8))) = y8 at *
    clear A8 A7 A6 A5 hF x4 A4
    by_cases hs : setE S a h lost (headB n T.stable m) = 0
    · rw [hs]
      have A10 : All w0 y8 (Tr w0.heap.size gT gR (tcs gR g gt a N { T with over := false }) (ring N T.start T.bs) :: Ti w0.heap.size gt g a (setH S a h lost (headB n T.stable m)) (setL S a h lost (headB n T.stable m)) :: Di w0.heap.size g (setS S a h lost (headB n T.stable m)) :: Bl w0.heap.size bm 9 [.string ⟨m.toArray⟩] :: Bl w0.heap.size bn 30 [.int .u64 n] :: Bl w0.heap.size bt 26 [.pointer (some ⟨gT, 0, none⟩)] :: Bl w0.heap.size gb 51 [.func (.func 64) #[] #[.pointer (some ⟨bt, 0, none⟩), .pointer (some ⟨bn, 0, none⟩), .pointer (some ⟨bm, 0, none⟩)]] :: Ps) := by
        rw [hs] at A9
        exact A9
      have HZ := Lib.hid hs
      have HA := Lib.hid A10
      clear A9 A10 hs
      have b3 := (all_has HA.out (g := bt) (t := 26) (cs := [.pointer (some ⟨gT, 0, none⟩)]) (by simp)).cell 0
      have b4 := (all_has HA.out (g := bn) (t := 30) (cs := [.int .u64 n]) (by simp)).cell 0
      have b5 := (all_has HA.out (g := bm) (t := 9) (cs := [.string ⟨m.toArray⟩]) (by simp)).cell 0
      have hT := (tr_get HA.out (gT := gT) (gR := gR) (cs := tcs gR g gt a N { T with over := false }) (r := ring N T.start T.bs) (by simp))
      have b6 : y8.cell? ⟨gT, 4, none⟩ = some (.int .u64 T.start) := hT.1.cell 4
      have HE := Lib.hid (fun w1 hw1 hw2 => empty_walk w1 gT gR N T.start n (tcs gR g gt a N { T with over := false }) T.bs (ring N T.start T.bs) hw1 rfl hw2 (ring_is N T.start T.bs) hO.fits hO.one hO.few z2 (by have := hO.fits; have := hO.high; unfold TS.fin at this; omega) (by have := hO.low; omega))
      clear hT
      go_wp2
      go_still_tail 6, (by kernel_rfl)
      go_wp2_with fail
      have hTR := tr_get HA.out (List.mem_cons_self ..)
      refine (HE.out y8.drew hTR.1 hTR.2).mono ?_
      rintro e y9 ⟨rfl, ⟨r', q1, q2⟩, q3⟩
      have A11 := tr_ring HA.out.drew q1 q3
      rw [ring_of q2] at A11
      have b3' := (all_has A11 (g := bt) (t := 26) (cs := [.pointer (some ⟨gT, 0, none⟩)]) (by simp)).cell 0
      have b4' := (all_has A11 (g := bn) (t := 30) (cs := [.int .u64 n]) (by simp)).cell 0
      have b5' := (all_has A11 (g := bm) (t := 9) (cs := [.string ⟨m.toArray⟩]) (by simp)).cell 0
      have HB := Lib.hid A11
      clear A11 q1 q2 q3 b3 b4 b5 b6 HE hTR
      go_wp2
      refine wp_region_noPanic (wp_region_held_drew (S := fun w' => w'.cell? ⟨bt, 0, none⟩ = some (.pointer (some ⟨gT, 0, none⟩)) ∧ w'.cell? ⟨bn, 0, none⟩ = some (.int .u64 n) ∧ w'.cell? ⟨bm, 0, none⟩ = some (.string ⟨m.toArray⟩)) (by kernel_rfl) ⟨b3', b4', b5'⟩ (fun hS => ?_))
      refine wpAnyH_take (i := 0) (v := (.pointer (some ⟨gT, 0, none⟩))) (lit rfl) (by kernel_rfl) (by kernel_rfl) (by kernel_rfl) (fun _ _ _ h => h) (Or.inl ⟨by rfl, fun w hw => by obtain ⟨c1, c2, c3⟩ := hw; go_simp⟩) hS ?_
      simp only [Act.put, List.setIfInBounds_toArray, List.set_cons_zero, List.set_cons_succ]
      refine wpAnyH_take (i := 1) (v := (.pointer (some ⟨gT, 0, none⟩))) (lit rfl) (by kernel_rfl) (by kernel_rfl) (by kernel_rfl) (fun _ _ _ h => h) (Or.inl ⟨by rfl, fun w hw => by obtain ⟨c1, c2, c3⟩ := hw; go_simp⟩) hS ?_
      simp only [Act.put, List.setIfInBounds_toArray, List.set_cons_zero, List.set_cons_succ]
      refine wpAnyH_take (i := 2) (v := (.int .u64 n)) (lit rfl) (by kernel_rfl) (by kernel_rfl) (by kernel_rfl) (fun _ _ _ h => h) (Or.inl ⟨by rfl, fun w hw => by obtain ⟨c1, c2, c3⟩ := hw; go_simp⟩) hS ?_
      simp only [Act.put, List.setIfInBounds_toArray, List.set_cons_zero, List.set_cons_succ]
      refine wpAnyH_take (i := 3) (v := (.string ⟨m.toArray⟩)) (lit rfl) (by kernel_rfl) (by kernel_rfl) (by kernel_rfl) (fun _ _ _ h => h) (Or.inl ⟨by rfl, fun w hw => by obtain ⟨c1, c2, c3⟩ := hw; go_simp⟩) hS ?_
      simp only [Act.put, List.setIfInBounds_toArray, List.set_cons_zero, List.set_cons_succ]
      refine wpAnyH_ready (rs := [4]) (by kernel_rfl) (by simp) (AllReadyH.cons (lit rfl) (fun K hK => ?_) AllReadyH.nil)
      go_simp
      go_wp2_with (go_at_call 66; refine (WR.clone_walk m (by omega) _).mono ?_; rintro e y10 ⟨rfl, b10⟩)
      have A12 := HB.out.drew.below b10
      have k12 : y10.cell? ⟨bt, 0, none⟩ = some (.pointer (some ⟨gT, 0, none⟩)) ∧ y10.cell? ⟨bn, 0, none⟩ = some (.int .u64 n) ∧ y10.cell? ⟨bm, 0, none⟩ = some (.string ⟨m.toArray⟩) := ⟨(all_has A12 (g := bt) (t := 26) (cs := [.pointer (some ⟨gT, 0, none⟩)]) (by simp)).cell 0, (all_has A12 (g := bn) (t := 30) (cs := [.int .u64 n]) (by simp)).cell 0, (all_has A12 (g := bm) (t := 9) (cs := [.string ⟨m.toArray⟩]) (by simp)).cell 0⟩
      have t12 := tr_get A12 (List.mem_cons_self ..)
      have v12 : y10.cell? ⟨gT, 4, none⟩ = some (.int .u64 T.start) := t12.1.cell 4
      have u12 := t12.1.free 4
      refine hK.out _ _ k12 (fun _ => ?_)
      clear hK K
      refine wpAnyH_take (i := 5) (v := (.pointer (some ⟨gT, 0, none⟩))) (lit rfl) (by kernel_rfl) (by kernel_rfl) (by kernel_rfl) (fun _ _ _ h => h) (Or.inl ⟨by rfl, fun w _ => by go_simp⟩) k12 ?_
      simp only [Act.put, List.setIfInBounds_toArray, List.set_cons_zero, List.set_cons_succ]
      refine wpAnyH_take (i := 6) (v := (.pointer (some ⟨gT, 4, none⟩))) (lit rfl) (by kernel_rfl) (by kernel_rfl) (by kernel_rfl) (fun _ _ _ h => h) (Or.inl ⟨by rfl, fun w _ => by go_simp⟩) k12 ?_
      simp only [Act.put, List.setIfInBounds_toArray, List.set_cons_zero, List.set_cons_succ]
      refine wpAnyH_ready (rs := [7]) (by kernel_rfl) (by simp) (AllReadyH.cons (lit rfl) (fun K hK => ?_) AllReadyH.nil)
      go_simp
      have A13 := tr_set A12 4 (.int .u64 n)
      have k13 : (y10.setCell ⟨gT, 4, none⟩ (.int .u64 n)).cell? ⟨bt, 0, none⟩ = some (.pointer (some ⟨gT, 0, none⟩)) ∧ (y10.setCell ⟨gT, 4, none⟩ (.int .u64 n)).cell? ⟨bn, 0, none⟩ = some (.int .u64 n) ∧ (y10.setCell ⟨gT, 4, none⟩ (.int .u64 n)).cell? ⟨bm, 0, none⟩ = some (.string ⟨m.toArray⟩) := ⟨(all_has A13 (g := bt) (t := 26) (cs := [.pointer (some ⟨gT, 0, none⟩)]) (by simp)).cell 0, (all_has A13 (g := bn) (t := 30) (cs := [.int .u64 n]) (by simp)).cell 0, (all_has A13 (g := bm) (t := 9) (cs := [.string ⟨m.toArray⟩]) (by simp)).cell 0⟩
      have t13 := tr_get A13 (List.mem_cons_self ..)
      have v13 : (y10.setCell ⟨gT, 4, none⟩ (.int .u64 n)).cell? ⟨gT, 7, none⟩ = some (.string ⟨T.more.toArray⟩) := t13.1.cell 7
      have u13 := t13.1.free 7
      have HD13 := Lib.hid A13
      clear t12 t13 A13 A12
      refine hK.out _ _ k13 (fun _ => ?_)
      clear hK K
      generalize (y10.setCell ⟨gT, 4, none⟩ (.int .u64 n)) = y11 at *
      refine wpAnyH_take (i := 8) (v := (.pointer (some ⟨gT, 0, none⟩))) (lit rfl) (by kernel_rfl) (by kernel_rfl) (by kernel_rfl) (fun _ _ _ h => h) (Or.inl ⟨by rfl, fun w _ => by go_simp⟩) k13 ?_
      simp only [Act.put, List.setIfInBounds_toArray, List.set_cons_zero, List.set_cons_succ]
      refine wpAnyH_take (i := 9) (v := (.pointer (some ⟨gT, 7, none⟩))) (lit rfl) (by kernel_rfl) (by kernel_rfl) (by kernel_rfl) (fun _ _ _ h => h) (Or.inl ⟨by rfl, fun w _ => by go_simp⟩) k13 ?_
      simp only [Act.put, List.setIfInBounds_toArray, List.set_cons_zero, List.set_cons_succ]
      refine wpAnyH_ready (rs := [10]) (by kernel_rfl) (by simp) (AllReadyH.cons (lit rfl) (fun K hK => ?_) AllReadyH.nil)
      go_simp
      have A14 := tr_set HD13.out 7 (.string ⟨m.toArray⟩)
      have k14 : (y11.setCell ⟨gT, 7, none⟩ (.string ⟨m.toArray⟩)).cell? ⟨bt, 0, none⟩ = some (.pointer (some ⟨gT, 0, none⟩)) ∧ (y11.setCell ⟨gT, 7, none⟩ (.string ⟨m.toArray⟩)).cell? ⟨bn, 0, none⟩ = some (.int .u64 n) ∧ (y11.setCell ⟨gT, 7, none⟩ (.string ⟨m.toArray⟩)).cell? ⟨bm, 0, none⟩ = some (.string ⟨m.toArray⟩) := ⟨(all_has A14 (g := bt) (t := 26) (cs := [.pointer (some ⟨gT, 0, none⟩)]) (by simp)).cell 0, (all_has A14 (g := bn) (t := 30) (cs := [.int .u64 n]) (by simp)).cell 0, (all_has A14 (g := bm) (t := 9) (cs := [.string ⟨m.toArray⟩]) (by simp)).cell 0⟩
      have HD14 := Lib.hid A14
      clear A14
      refine hK.out _ _ k14 (fun _ => ?_)
      clear hK K
      refine wpAnyH_done (by kernel_rfl) (NoPanic.normal ?_) _
      generalize (y11.setCell ⟨gT, 7, none⟩ (.string ⟨m.toArray⟩)) = y12 at *
      go_wp2
      go_ret
      have hT2 : pubT S a h lost T n m = { start := n, stable := T.stable, bs := T.bs.drop (n - T.start), more := m, over := false } := by
        unfold pubT
        simp only [ne_eq, h0, HZ.out, not_true_eq_false, if_false]
      rw [e0.1, e0.2.1, e0.2.2.1, e0.2.2.2, hT2, HZ.out]
      refine ⟨rfl, ?_⟩
      have hf1 := hO.high
      have hf2 := hO.low
      have hf3 := hO.fits
      have hf4 := hO.ends
      have e7 : (((tcs gR g gt a N { T with over := false }).set 4 (.int .u64 n)).set 7 (.string ⟨m.toArray⟩)) = tcs gR g gt a N { start := n, stable := T.stable, bs := T.bs.drop (n - T.start), more := m, over := false } := by
        have e8 : ({ start := n, stable := T.stable, bs := T.bs.drop (n - T.start), more := m, over := false } : TS).fin = T.fin := by
          unfold TS.fin at *
          simp only [List.length_drop]
          omega
        unfold tcs
        rw [e8]
        rfl
      have A15 := HD14.out
      rw [e7] at A15
      have A16 := tr_tp (T := { start := n, stable := T.stable, bs := T.bs.drop (n - T.start), more := m, over := false }) A15 ⟨hO.one, hO.few, z3, by unfold TS.fin at *; simp only [List.length_drop]; omega, by simp only [List.length_drop]; omega, by unfold TS.fin at *; simp only [List.length_drop]; omega, z4⟩
      exact (all_idx [_, _, _, _, _, _, _] 7 [3, 4, 5, 6, 0, 1, 2] A16 rfl (by decide) : All w0 y12 (Bl w0.heap.size bm 9 [.string ⟨m.toArray⟩] :: Bl w0.heap.size bn 30 [.int .u64 n] :: Bl w0.heap.size bt 26 [.pointer (some ⟨gT, 0, none⟩)] :: Bl w0.heap.size gb 51 [.func (.func 64) #[] #[.pointer (some ⟨bt, 0, none⟩), .pointer (some ⟨bn, 0, none⟩), .pointer (some ⟨bm, 0, none⟩)]] :: Tp w0.heap.size gT gR g gt a N { start := n, stable := T.stable, bs := T.bs.drop (n - T.start), more := m, over := false } :: Ti w0.heap.size gt g a (setH S a h lost (headB n T.stable m)) (setL S a h lost (headB n T.stable m)) :: Di w0.heap.size g (setS S a h lost (headB n T.stable m)) :: Ps)).tail.tail.tail.tail
    · go_wp2
      go_ret
      have hT2 : pubT S a h lost T n m = { T with over := setE S a h lost (headB n T.stable m) == 8 } := by
        unfold pubT
        simp only [ne_eq, h0, hs, not_true_eq_false, not_false_eq_true, if_true, if_false]
      rw [e0.1, e0.2.1, e0.2.2.1, e0.2.2.2, hT2]
      refine ⟨rfl, ?_⟩
      have A10 := tr_tp (T := { T with over := setE S a h lost (headB n T.stable m) == 8 }) A9 ⟨hO.one, hO.few, hO.low, hO.high, hO.fits, hO.ends, hO.short⟩
      exact (all_idx [_, _, _, _, _, _, _] 7 [3, 4, 5, 6, 0, 1, 2] A10 rfl (by decide) : All w0 y8 (Bl w0.heap.size bm 9 [.string ⟨m.toArray⟩] :: Bl w0.heap.size bn 30 [.int .u64 n] :: Bl w0.heap.size bt 26 [.pointer (some ⟨gT, 0, none⟩)] :: Bl w0.heap.size gb 51 [.func (.func 64) #[] #[.pointer (some ⟨bt, 0, none⟩), .pointer (some ⟨bn, 0, none⟩), .pointer (some ⟨bm, 0, none⟩)]] :: Tp w0.heap.size gT gR g gt a N { T with over := setE S a h lost (headB n T.stable m) == 8 } :: Ti w0.heap.size gt g a (setH S a h lost (headB n T.stable m)) (setL S a h lost (headB n T.stable m)) :: Di w0.heap.size g (setS S a h lost (headB n T.stable m)) :: Ps)).tail.tail.tail.tail
  · have e0 : pubE S a h lost T n m = chkE T n m ∧ pubS S a h lost T n m = S ∧ pubH S a h lost T n m = h ∧ pubL S a h lost T n m = lost ∧ pubT S a h lost T n m = T := by
      unfold pubE pubS pubH pubL pubT
      simp only [ne_eq, h0, not_false_eq_true, if_true, and_self]
    go_wp2
    go_ret
    rw [e0.1, e0.2.1, e0.2.2.1, e0.2.2.2.1, e0.2.2.2.2]
    exact ⟨rfl, A4.tail.tail.tail⟩
end
end TB
end Go.Proofs.Ytkhdidhpcdlmcaa
