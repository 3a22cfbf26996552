/- The calls on no tape. -/
import Derived.Test.YtkhdidhpcdlmcaaTapeMany
namespace Go.Proofs.Ytkhdidhpcdlmcaa
set_option maxRecDepth 100000
open Go.RowKit Go.Lib MM MF DM DK MY TM DP TP RN PL TF TR TQ BL FL TA TZ
namespace TNo
attribute [local go_sem] Oper.semAt_some
theorem gone_nil (w : World) : Calls Try.prog 46 #[.pointer none] w fun e w' => e = .returned (.int .i64 1) ∧ w' = w := by
  go_enter Try.func46, Try.ntmps46
  go_wp2
  go_ret
  exact ⟨rfl, rfl⟩
theorem first_nil (w : World) (g n : Nat) (hn : n ≤ 4) (fs : List Value) (hb : Has w g 51 (.func (.func 46) #[.pointer none] #[] :: fs)) (hl : (.func (.func 46) #[.pointer none] #[] :: fs).length = n := by rfl) :
    Calls Try.prog 38 #[.slice (some ⟨g, 0, none⟩) n n] w fun e w' => e = .returned (.int .i64 1) ∧ Below w.heap.size w w' := by
  refine (first_walk w g n n (Nat.le_refl _) (by unfold maxLen; omega) (fun i W => i = 0 ∧ W = w) (fun c W => c = 1 ∧ W = w) _ hl ?_ ⟨rfl, rfl⟩ ?_).mono ?_
  · rintro i W ⟨_, rfl⟩ k hk
    exact hb.cell k
  · rintro i W v ⟨rfl, rfl⟩ hv
    cases hv
    exact ⟨_, _, _, rfl, ent_gone, (gone_nil _).mono fun e w' ⟨he, hw⟩ => ⟨1, he, .inr ⟨by decide, rfl, hw⟩⟩⟩
  · rintro e w' ⟨c, rfl, hx⟩
    rcases hx with ⟨rfl, h, _⟩ | ⟨_, rfl, rfl⟩
    · have : n = 0 := h
      subst this
      simp at hl
    · exact ⟨rfl, Below.refl _ _⟩
section
variable {w : World}
theorem append_nil (l : List UInt8) (hl : l.length < 4611686018427387904) : Calls Try.prog 15 #[.pointer none, .string ⟨l.toArray⟩] w fun e w' => e = .returned (.int .i64 1) ∧ Below w.heap.size w w' := by
  obtain ⟨w0, hw0, hA⟩ : ∃ w0, Hid (w0 = w) ∧ All w0 w [] := ⟨w, Lib.hid rfl, All.start w⟩
  have hA3 := bl_new (bl_new (bl_new hA 26 [.pointer none]) 9 [.string ⟨l.toArray⟩]) 30 [.int .u64 l.length]
  simp only [World.size_alloc] at hA3
  refine calls_of_marks Try.func15 rfl ?_
  simp only [Try.ntmps15, List.size_toArray, List.length_cons, List.length_nil, Nat.reduceAdd, Nat.reduceSub, Array.replicate_succ, Array.replicate_zero, List.push_toArray, List.append_toArray, List.nil_append, List.cons_append]
  go_wp2
  change All w0 (((w.alloc (Obj.cells #[Value.pointer none] 26)).alloc (Obj.cells #[Value.string { data := l.toArray }] 9)).alloc (Obj.cells #[Value.int IntKind.u64 l.length] 30)) _ at hA3
  generalize (((w.alloc (Obj.cells #[Value.pointer none] 26)).alloc (Obj.cells #[Value.string { data := l.toArray }] 9)).alloc (Obj.cells #[Value.int IntKind.u64 l.length] 30)) = w1 at *
  obtain ⟨bt, ebt⟩ : ∃ bt, bt = w.heap.size := ⟨_, rfl⟩
  obtain ⟨bs, ebs⟩ : ∃ bs, bs = w.heap.size + 1 := ⟨_, rfl⟩
  obtain ⟨bn, ebn⟩ : ∃ bn, bn = w.heap.size + 1 + 1 := ⟨_, rfl⟩
  rw [← ebn, ← ebs, ← ebt] at hA3 ⊢
  clear ebn ebs ebt
  have xt := (all_has hA3 (g := bt) (t := 26) (cs := [.pointer none]) (by simp)).cell 0
  refine wp_region_noPanic (wp_region_held_drew (S := fun w' => w'.cell? ⟨bt, 0, none⟩ = some (.pointer none)) (by kernel_rfl) xt (fun hS => ?_))
  refine wpAnyH_take (i := 0) (v := (.pointer none)) (lit rfl) (by kernel_rfl) (by kernel_rfl) (by kernel_rfl) (fun _ _ _ h => h) (Or.inl ⟨by rfl, fun w hw => by have hc := hw; go_simp⟩) hS ?_
  simp only [Act.put, List.setIfInBounds_toArray, List.set_cons_zero, List.set_cons_succ]
  refine wpAnyH_take (i := 1) (v := (.func (.func 46) #[.pointer none] #[])) (lit rfl) (by kernel_rfl) (by kernel_rfl) (by kernel_rfl) (fun _ _ _ h => h) (Or.inl ⟨by rfl, fun w _ => by go_simp⟩) hS ?_
  simp only [Act.put, List.setIfInBounds_toArray, List.set_cons_zero, List.set_cons_succ]
  refine wpAnyH_take (i := 2) (v := (.func (.func 52) #[] #[.pointer (some ⟨bn, 0, none⟩), .pointer (some ⟨bt, 0, none⟩)])) (lit rfl) (by kernel_rfl) (by kernel_rfl) (by kernel_rfl) (fun _ _ _ h => h) (Or.inl ⟨by rfl, fun w _ => by go_simp⟩) hS ?_
  simp only [Act.put, List.setIfInBounds_toArray, List.set_cons_zero, List.set_cons_succ]
  refine wpAnyH_take (i := 4) (v := (.func (.func 54) #[] #[.pointer (some ⟨bn, 0, none⟩), .pointer (some ⟨bt, 0, none⟩)])) (lit rfl) (by kernel_rfl) (by kernel_rfl) (by kernel_rfl) (fun _ _ _ h => h) (Or.inl ⟨by rfl, fun w _ => by go_simp⟩) hS ?_
  simp only [Act.put, List.setIfInBounds_toArray, List.set_cons_zero, List.set_cons_succ]
  refine wpAnyH_ready (rs := [3]) (by kernel_rfl) (by simp) (AllReadyH.cons (lit rfl) (fun K hK => ?_) AllReadyH.nil)
  go_simp
  go_wp2_with (go_at_call 47; refine (when_walk _ _ _ _ _).mono ?_; rintro e y1 ⟨e1, f1, rfl, p1, q1, b1, _, _⟩)
  have A1 := hA3.drew.below b1
  have x1 := (all_has A1 (g := bt) (t := 26) (cs := [.pointer none]) (by simp)).cell 0
  refine hK.out _ _ x1 (fun _ => ?_)
  clear hK K
  refine wpAnyH_ready (rs := [5]) (by kernel_rfl) (by simp) (AllReadyH.cons (lit rfl) (fun K hK => ?_) AllReadyH.nil)
  go_simp
  go_wp2_with (go_at_call 47; refine (when_walk _ _ _ _ _).mono ?_; rintro e y2 ⟨e2, f2, rfl, p2, q2, b2, _, _⟩)
  have A2 := A1.below b2
  have x2 := (all_has A2 (g := bt) (t := 26) (cs := [.pointer none]) (by simp)).cell 0
  refine hK.out _ _ x2 (fun _ => ?_)
  clear hK K
  refine wpAnyH_ready (rs := [6]) (by kernel_rfl) (by simp) (AllReadyH.cons (lit rfl) (fun K hK => ?_) AllReadyH.nil)
  go_simp
  go_wp2
  have A3 := bl_new A2 51 [.func (.func 46) #[.pointer none] #[], .func (.func 107) #[] #[.pointer (some ⟨f1, 0, none⟩), .pointer (some ⟨e1, 0, none⟩)], .func (.func 107) #[] #[.pointer (some ⟨f2, 0, none⟩), .pointer (some ⟨e2, 0, none⟩)]]
  change All w0 (y2.alloc (.cells #[.func (.func 46) #[.pointer none] #[], .func (.func 107) #[] #[.pointer (some ⟨f1, 0, none⟩), .pointer (some ⟨e1, 0, none⟩)], .func (.func 107) #[] #[.pointer (some ⟨f2, 0, none⟩), .pointer (some ⟨e2, 0, none⟩)]] 51)) _ at A3
  have b3 : Below y2.heap.size y2 (y2.alloc (.cells #[.func (.func 46) #[.pointer none] #[], .func (.func 107) #[] #[.pointer (some ⟨f1, 0, none⟩), .pointer (some ⟨e1, 0, none⟩)], .func (.func 107) #[] #[.pointer (some ⟨f2, 0, none⟩), .pointer (some ⟨e2, 0, none⟩)]] 51)) := (Below.refl _ _).alloc (Nat.le_refl _) _
  generalize (y2.alloc (.cells #[.func (.func 46) #[.pointer none] #[], .func (.func 107) #[] #[.pointer (some ⟨f1, 0, none⟩), .pointer (some ⟨e1, 0, none⟩)], .func (.func 107) #[] #[.pointer (some ⟨f2, 0, none⟩), .pointer (some ⟨e2, 0, none⟩)]] 51)) = y3 at *
  generalize y2.heap.size = ga at A3 ⊢
  have x3 := (all_has A3 (g := bt) (t := 26) (cs := [.pointer none]) (by simp)).cell 0
  refine hK.out _ _ x3 (fun _ => ?_)
  clear hK K
  have HF := Lib.hid (first_nil y3 ga 3 (by decide) _ (all_has A3 (List.mem_cons_self ..)))
  refine wpAnyH_ready (rs := [7]) (by kernel_rfl) (by simp) (AllReadyH.cons (lit rfl) (fun K hK => ?_) AllReadyH.nil)
  go_simp
  go_wp2_with (go_at_call 38; refine HF.out.mono ?_; rintro e y4 ⟨rfl, b4⟩)
  have A4 := (A3.below b4).tail
  have x4 := (all_has A4 (g := bt) (t := 26) (cs := [.pointer none]) (by simp)).cell 0
  refine hK.out _ _ x4 (fun _ => ?_)
  clear hK K
  refine wpAnyH_ready (rs := [8]) (by kernel_rfl) (by simp) (AllReadyH.cons (lit rfl) (fun K hK => ?_) AllReadyH.nil)
  go_simp
  refine hK.out _ _ x4 (fun _ => ?_)
  clear hK K
  refine wpAnyH_done (by kernel_rfl) (NoPanic.normal ?_) _
  have HA := Lib.hid A4.under
  clear HF b4 A4 x3 A3 x1 b1 p1 q1 hS xt hA3
  go_wp2
  refine post_ret rfl (results_tmp rfl _ _ _) ?_
  have u4 := HA.out
  rw [hw0.out] at u4
  exact ⟨rfl, u4⟩
theorem read_nil (p : Nat) (n : Int) : Calls Try.prog 12 #[.pointer none, .int .u64 p, .int .i64 n] w fun e w' => e = .returned (.tuple #[.string ⟨#[]⟩, .int .i64 1]) ∧ Below w.heap.size w w' := by
  obtain ⟨w0, hw0, hA⟩ : ∃ w0, Hid (w0 = w) ∧ All w0 w [] := ⟨w, Lib.hid rfl, All.start w⟩
  have hA3 := bl_new (bl_new (bl_new hA 26 [.pointer none]) 30 [.int .u64 p]) 3 [.int .i64 n]
  simp only [World.size_alloc] at hA3
  change All w0 (((w.alloc (Obj.cells #[Value.pointer none] 26)).alloc (Obj.cells #[Value.int IntKind.u64 p] 30)).alloc (Obj.cells #[Value.int IntKind.i64 n] 3)) _ at hA3
  refine calls_of_marks Try.func12 rfl ?_
  simp only [Try.ntmps12, List.size_toArray, List.length_cons, List.length_nil, Nat.reduceAdd, Nat.reduceSub, Array.replicate_succ, Array.replicate_zero, List.push_toArray, List.append_toArray, List.nil_append, List.cons_append]
  go_wp2
  generalize (((w.alloc (Obj.cells #[Value.pointer none] 26)).alloc (Obj.cells #[Value.int IntKind.u64 p] 30)).alloc (Obj.cells #[Value.int IntKind.i64 n] 3)) = w1 at *
  obtain ⟨bt, ebt⟩ : ∃ bt, bt = w.heap.size := ⟨_, rfl⟩
  obtain ⟨bp, ebp⟩ : ∃ bp, bp = w.heap.size + 1 := ⟨_, rfl⟩
  obtain ⟨bn, ebn⟩ : ∃ bn, bn = w.heap.size + 1 + 1 := ⟨_, rfl⟩
  rw [← ebn, ← ebp, ← ebt] at hA3 ⊢
  clear ebn ebp ebt
  have xt := (all_has hA3 (g := bt) (t := 26) (cs := [.pointer none]) (by simp)).cell 0
  refine wp_region_noPanic (wp_region_held_drew (S := fun w' => w'.cell? ⟨bt, 0, none⟩ = some (.pointer none)) (by kernel_rfl) xt (fun hS => ?_))
  refine wpAnyH_take (i := 0) (v := (.pointer none)) (lit rfl) (by kernel_rfl) (by kernel_rfl) (by kernel_rfl) (fun _ _ _ h => h) (Or.inl ⟨by rfl, fun w hw => by have hc := hw; go_simp⟩) hS ?_
  simp only [Act.put, List.setIfInBounds_toArray, List.set_cons_zero, List.set_cons_succ]
  refine wpAnyH_take (i := 1) (v := (.func (.func 46) #[.pointer none] #[])) (lit rfl) (by kernel_rfl) (by kernel_rfl) (by kernel_rfl) (fun _ _ _ h => h) (Or.inl ⟨by rfl, fun w _ => by go_simp⟩) hS ?_
  simp only [Act.put, List.setIfInBounds_toArray, List.set_cons_zero, List.set_cons_succ]
  refine wpAnyH_take (i := 2) (v := (.func (.func 48) #[] #[.pointer (some ⟨bn, 0, none⟩), .pointer (some ⟨bp, 0, none⟩), .pointer (some ⟨bt, 0, none⟩)])) (lit rfl) (by kernel_rfl) (by kernel_rfl) (by kernel_rfl) (fun _ _ _ h => h) (Or.inl ⟨by rfl, fun w _ => by go_simp⟩) hS ?_
  simp only [Act.put, List.setIfInBounds_toArray, List.set_cons_zero, List.set_cons_succ]
  refine wpAnyH_ready (rs := [3]) (by kernel_rfl) (by simp) (AllReadyH.cons (lit rfl) (fun K hK => ?_) AllReadyH.nil)
  go_simp
  go_wp2_with (go_at_call 47; refine (when_walk _ _ _ _ _).mono ?_; rintro e y1 ⟨e1, f1, rfl, p1, q1, b1, _, _⟩)
  have A1 := hA3.drew.below b1
  have x1 := (all_has A1 (g := bt) (t := 26) (cs := [.pointer none]) (by simp)).cell 0
  refine hK.out _ _ x1 (fun _ => ?_)
  clear hK K
  refine wpAnyH_ready (rs := [4]) (by kernel_rfl) (by simp) (AllReadyH.cons (lit rfl) (fun K hK => ?_) AllReadyH.nil)
  go_simp
  go_wp2
  have A3 := bl_new A1 51 [.func (.func 46) #[.pointer none] #[], .func (.func 107) #[] #[.pointer (some ⟨f1, 0, none⟩), .pointer (some ⟨e1, 0, none⟩)]]
  change All w0 (y1.alloc (.cells #[.func (.func 46) #[.pointer none] #[], .func (.func 107) #[] #[.pointer (some ⟨f1, 0, none⟩), .pointer (some ⟨e1, 0, none⟩)]] 51)) _ at A3
  have b3 : Below y1.heap.size y1 (y1.alloc (.cells #[.func (.func 46) #[.pointer none] #[], .func (.func 107) #[] #[.pointer (some ⟨f1, 0, none⟩), .pointer (some ⟨e1, 0, none⟩)]] 51)) := (Below.refl _ _).alloc (Nat.le_refl _) _
  generalize (y1.alloc (.cells #[.func (.func 46) #[.pointer none] #[], .func (.func 107) #[] #[.pointer (some ⟨f1, 0, none⟩), .pointer (some ⟨e1, 0, none⟩)]] 51)) = y3 at *
  generalize y1.heap.size = ga at A3 ⊢
  have x3 := (all_has A3 (g := bt) (t := 26) (cs := [.pointer none]) (by simp)).cell 0
  refine hK.out _ _ x3 (fun _ => ?_)
  clear hK K
  have HF := Lib.hid (first_nil y3 ga 2 (by decide) _ (all_has A3 (List.mem_cons_self ..)))
  refine wpAnyH_ready (rs := [5]) (by kernel_rfl) (by simp) (AllReadyH.cons (lit rfl) (fun K hK => ?_) AllReadyH.nil)
  go_simp
  go_wp2_with (go_at_call 38; refine HF.out.mono ?_; rintro e y4 ⟨rfl, b4⟩)
  have A4 := (A3.below b4).tail
  have x4 := (all_has A4 (g := bt) (t := 26) (cs := [.pointer none]) (by simp)).cell 0
  refine hK.out _ _ x4 (fun _ => ?_)
  clear hK K
  refine wpAnyH_ready (rs := [6]) (by kernel_rfl) (by simp) (AllReadyH.cons (lit rfl) (fun K hK => ?_) AllReadyH.nil)
  go_simp
  refine hK.out _ _ x4 (fun _ => ?_)
  clear hK K
  refine wpAnyH_done (by kernel_rfl) (NoPanic.normal ?_) _
  have HA := Lib.hid A4.under
  clear HF b4 A4 x3 A3 x1 b1 p1 q1 hS xt hA3
  go_wp2
  refine post_ret rfl (results_tmp2 rfl _ _ _) ?_
  have u4 := HA.out
  rw [hw0.out] at u4
  exact ⟨rfl, u4⟩
theorem publish_nil (n : Nat) (m : List UInt8) : Calls Try.prog 25 #[.pointer none, .int .u64 n, .string ⟨m.toArray⟩] w fun e w' => e = .returned (.int .i64 1) ∧ Below w.heap.size w w' := by
  obtain ⟨w0, hw0, hA⟩ : ∃ w0, Hid (w0 = w) ∧ All w0 w [] := ⟨w, Lib.hid rfl, All.start w⟩
  have hA3 := bl_new (bl_new (bl_new hA 26 [.pointer none]) 30 [.int .u64 n]) 9 [.string ⟨m.toArray⟩]
  simp only [World.size_alloc] at hA3
  change All w0 (((w.alloc (Obj.cells #[Value.pointer none] 26)).alloc (Obj.cells #[Value.int IntKind.u64 n] 30)).alloc (Obj.cells #[Value.string { data := m.toArray }] 9)) _ at hA3
  go_enter Try.func25, Try.ntmps25
  go_wp2
  generalize (((w.alloc (Obj.cells #[Value.pointer none] 26)).alloc (Obj.cells #[Value.int IntKind.u64 n] 30)).alloc (Obj.cells #[Value.string { data := m.toArray }] 9)) = w1 at *
  obtain ⟨bt, ebt⟩ : ∃ bt, bt = w.heap.size := ⟨_, rfl⟩
  obtain ⟨bn, ebn⟩ : ∃ bn, bn = w.heap.size + 1 := ⟨_, rfl⟩
  obtain ⟨bm, ebm⟩ : ∃ bm, bm = w.heap.size + 1 + 1 := ⟨_, rfl⟩
  rw [← ebm, ← ebn, ← ebt] at hA3 ⊢
  clear ebm ebn ebt
  have xt := (all_has hA3 (g := bt) (t := 26) (cs := [.pointer none]) (by simp)).cell 0
  refine wp_region_noPanic (wp_region_held_drew (S := fun w' => w'.cell? ⟨bt, 0, none⟩ = some (.pointer none)) (by kernel_rfl) xt (fun hS => ?_))
  refine wpAnyH_take (i := 0) (v := (.pointer none)) (lit rfl) (by kernel_rfl) (by kernel_rfl) (by kernel_rfl) (fun _ _ _ h => h) (Or.inl ⟨by rfl, fun w hw => by have hc := hw; go_simp⟩) hS ?_
  simp only [Act.put, List.setIfInBounds_toArray, List.set_cons_zero, List.set_cons_succ]
  refine wpAnyH_take (i := 1) (v := (.func (.func 46) #[.pointer none] #[])) (lit rfl) (by kernel_rfl) (by kernel_rfl) (by kernel_rfl) (fun _ _ _ h => h) (Or.inl ⟨by rfl, fun w _ => by go_simp⟩) hS ?_
  simp only [Act.put, List.setIfInBounds_toArray, List.set_cons_zero, List.set_cons_succ]
  refine wpAnyH_take (i := 2) (v := (.func (.func 62) #[] #[.pointer (some ⟨bn, 0, none⟩), .pointer (some ⟨bt, 0, none⟩)])) (lit rfl) (by kernel_rfl) (by kernel_rfl) (by kernel_rfl) (fun _ _ _ h => h) (Or.inl ⟨by rfl, fun w _ => by go_simp⟩) hS ?_
  simp only [Act.put, List.setIfInBounds_toArray, List.set_cons_zero, List.set_cons_succ]
  refine wpAnyH_take (i := 4) (v := (.func (.func 63) #[] #[.pointer (some ⟨bm, 0, none⟩)])) (lit rfl) (by kernel_rfl) (by kernel_rfl) (by kernel_rfl) (fun _ _ _ h => h) (Or.inl ⟨by rfl, fun w _ => by go_simp⟩) hS ?_
  simp only [Act.put, List.setIfInBounds_toArray, List.set_cons_zero, List.set_cons_succ]
  refine wpAnyH_ready (rs := [3]) (by kernel_rfl) (by simp) (AllReadyH.cons (lit rfl) (fun K hK => ?_) AllReadyH.nil)
  go_simp
  go_wp2_with (go_at_call 47; refine (when_walk _ _ _ _ _).mono ?_; rintro e y1 ⟨e1, f1, rfl, p1, q1, b1, _, _⟩)
  have A1 := hA3.drew.below b1
  have x1 := (all_has A1 (g := bt) (t := 26) (cs := [.pointer none]) (by simp)).cell 0
  refine hK.out _ _ x1 (fun _ => ?_)
  clear hK K
  refine wpAnyH_ready (rs := [5]) (by kernel_rfl) (by simp) (AllReadyH.cons (lit rfl) (fun K hK => ?_) AllReadyH.nil)
  go_simp
  go_wp2_with (go_at_call 47; refine (when_walk _ _ _ _ _).mono ?_; rintro e y2 ⟨e2, f2, rfl, p2, q2, b2, _, _⟩)
  have A2 := A1.below b2
  have x2 := (all_has A2 (g := bt) (t := 26) (cs := [.pointer none]) (by simp)).cell 0
  refine hK.out _ _ x2 (fun _ => ?_)
  clear hK K
  refine wpAnyH_ready (rs := [6]) (by kernel_rfl) (by simp) (AllReadyH.cons (lit rfl) (fun K hK => ?_) AllReadyH.nil)
  go_simp
  go_wp2
  have A3 := bl_new A2 51 [.func (.func 46) #[.pointer none] #[], .func (.func 107) #[] #[.pointer (some ⟨f1, 0, none⟩), .pointer (some ⟨e1, 0, none⟩)], .func (.func 107) #[] #[.pointer (some ⟨f2, 0, none⟩), .pointer (some ⟨e2, 0, none⟩)]]
  change All w0 (y2.alloc (.cells #[.func (.func 46) #[.pointer none] #[], .func (.func 107) #[] #[.pointer (some ⟨f1, 0, none⟩), .pointer (some ⟨e1, 0, none⟩)], .func (.func 107) #[] #[.pointer (some ⟨f2, 0, none⟩), .pointer (some ⟨e2, 0, none⟩)]] 51)) _ at A3
  have b3 : Below y2.heap.size y2 (y2.alloc (.cells #[.func (.func 46) #[.pointer none] #[], .func (.func 107) #[] #[.pointer (some ⟨f1, 0, none⟩), .pointer (some ⟨e1, 0, none⟩)], .func (.func 107) #[] #[.pointer (some ⟨f2, 0, none⟩), .pointer (some ⟨e2, 0, none⟩)]] 51)) := (Below.refl _ _).alloc (Nat.le_refl _) _
  generalize (y2.alloc (.cells #[.func (.func 46) #[.pointer none] #[], .func (.func 107) #[] #[.pointer (some ⟨f1, 0, none⟩), .pointer (some ⟨e1, 0, none⟩)], .func (.func 107) #[] #[.pointer (some ⟨f2, 0, none⟩), .pointer (some ⟨e2, 0, none⟩)]] 51)) = y3 at *
  generalize y2.heap.size = ga at A3 ⊢
  have x3 := (all_has A3 (g := bt) (t := 26) (cs := [.pointer none]) (by simp)).cell 0
  refine hK.out _ _ x3 (fun _ => ?_)
  clear hK K
  have HF := Lib.hid (first_nil y3 ga 3 (by decide) _ (all_has A3 (List.mem_cons_self ..)))
  refine wpAnyH_ready (rs := [7]) (by kernel_rfl) (by simp) (AllReadyH.cons (lit rfl) (fun K hK => ?_) AllReadyH.nil)
  go_simp
  go_wp2_with (go_at_call 38; refine HF.out.mono ?_; rintro e y4 ⟨rfl, b4⟩)
  have A4 := (A3.below b4).tail
  have x4 := (all_has A4 (g := bt) (t := 26) (cs := [.pointer none]) (by simp)).cell 0
  refine hK.out _ _ x4 (fun _ => ?_)
  clear hK K
  refine wpAnyH_ready (rs := [8]) (by kernel_rfl) (by simp) (AllReadyH.cons (lit rfl) (fun K hK => ?_) AllReadyH.nil)
  go_simp
  refine hK.out _ _ x4 (fun _ => ?_)
  clear hK K
  refine wpAnyH_done (by kernel_rfl) (NoPanic.normal ?_) _
  have HA := Lib.hid A4.under
  clear HF b4 A4 x3 A3 x1 b1 p1 q1 hS xt hA3
  go_wp2
  go_ret
  have u4 := HA.out
  rw [hw0.out] at u4
  exact ⟨rfl, u4⟩
theorem start_nil : Calls Try.prog 22 #[.pointer none] w fun e w' => e = .returned (.int .u64 0) ∧ w' = w := by
  go_enter Try.func22, Try.ntmps22
  go_wp2
  go_ret
  exact ⟨rfl, rfl⟩
theorem stable_nil : Calls Try.prog 13 #[.pointer none] w fun e w' => e = .returned (.int .u64 0) ∧ w' = w := by
  go_enter Try.func13, Try.ntmps13
  go_wp2
  go_ret
  exact ⟨rfl, rfl⟩
theorem end_nil : Calls Try.prog 14 #[.pointer none] w fun e w' => e = .returned (.int .u64 0) ∧ w' = w := by
  go_enter Try.func14, Try.ntmps14
  go_wp2
  go_ret
  exact ⟨rfl, rfl⟩
theorem meta_nil : Calls Try.prog 26 #[.pointer none] w fun e w' => e = .returned (.string ⟨#[]⟩) ∧ w' = w := by
  go_enter Try.func26, Try.ntmps26
  go_wp2
  go_ret
  exact ⟨rfl, rfl⟩
theorem flush_nil : Calls Try.prog 24 #[.pointer none] w fun e w' => e = .returned (.int .i64 1) ∧ Below w.heap.size w w' := by
  have b0 : Below w.heap.size w (w.alloc (Obj.cells #[Value.pointer none] 26)) := (Below.refl _ _).alloc (Nat.le_refl _) _
  have HG := Lib.hid (fun w => gone_nil w)
  go_enter Try.func24, Try.ntmps24
  go_wp2_with (go_at_call 46; refine (HG.out _).mono ?_; rintro e w1 ⟨rfl, rfl⟩)
  go_quiet (fail)
  go_wp2
  go_ret
  exact ⟨rfl, b0.trans ((drawn_below _ nq).mono b0.size)⟩
theorem refusal_nil (a n : Int) : Calls Try.prog 40 #[.pointer none, .int .i64 a, .int .i64 n] w fun e w' => e = .returned (.int .i64 1) ∧ w' = w := by
  go_enter Try.func40, Try.ntmps40
  go_wp2
  go_ret
  exact ⟨rfl, rfl⟩
end
end TNo
end Go.Proofs.Ytkhdidhpcdlmcaa
