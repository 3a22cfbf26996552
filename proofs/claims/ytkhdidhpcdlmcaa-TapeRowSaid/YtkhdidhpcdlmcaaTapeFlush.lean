/- A tape's Flush. -/
import Derived.Test.YtkhdidhpcdlmcaaTapeLay
import Derived.Test.YtkhdidhpcdlmcaaTapePublish
namespace Go.Proofs.Ytkhdidhpcdlmcaa
set_option maxRecDepth 100000
open Go.RowKit Go.Lib MM MF DM DK DW DF MY TM DP TP RN TF TR TQ BL FL TA TZ TT TU TE TL2 TB WM PL
namespace TG
section
variable {w0 w : World} {gT gR g gt N : Nat} {a : Int} {T : TS} {S : St} {h : List UInt8} {lost : Bool} {Ps : List (World → List Nat → Prop)}
theorem tp_lay (hA : All w0 w (Di w0.heap.size g S :: Tp w0.heap.size gT gR g gt a N T :: Ps)) (ha0 : 0 ≤ a) (ha1 : a ≤ 4096) (hlen : S.un.length < 999990000) :
    Calls Try.prog 57 #[.pointer (some ⟨gT, 0, none⟩)] w fun e w' => e = .returned (.int .i64 (layT N a T S).2) ∧ All w0 w' (Di w0.heap.size g (layT N a T S).1 :: Tp w0.heap.size gT gR g gt a N T :: Ps) := by
  obtain ⟨f, ⟨f1, f2, d, ⟨hT, hR, hO, b1, b2, rfl⟩, hd, rfl⟩, K⟩ := (All.join hA).opened
  have nT : gT ∉ f1 := fun hm => hd gT hm (by simp)
  have nR : gR ∉ f1 := fun hm => hd gR hm (by simp)
  refine (lay_walk w0.heap.size f1 hT hR hO d nT nR ha0 ha1 hlen).mono ?_
  rintro e w' ⟨rfl, fs', d', fr, m⟩
  refine ⟨rfl, ?_⟩
  have hp := K w' (Pr (Di w0.heap.size g (layT N a T S).1) (Tp w0.heap.size gT gR g gt a N T)) (fs' ++ [gT, gR]) (pr_kp (di_kp _ _ _) (tp_kp _ _ _ _ _ _ _ _)) ⟨fs', [gT, gR], d', ⟨fr.has hT nT, hR.kept fr nR, hO, b1, b2, rfl⟩, fun x hx hx2 => by
    simp only [List.mem_cons, List.not_mem_nil, or_false] at hx2
    rcases m x hx with q | q
    · exact hd x q (by simpa using hx2)
    · rcases hx2 with rfl | rfl
      · have := hT.lt; omega
      · have := hR.lt; omega, rfl⟩ (fr.more (fun x hx _ => by simp [hx])) (fun x hx => by
    rcases List.mem_append.1 hx with hx | hx
    · exact (m x hx).imp (fun q => by simp [q]) id
    · exact .inl (by simp only [List.mem_append]; exact .inr hx))
  exact All.part hp (di_kp _ _ _) (tp_kp _ _ _ _ _ _ _ _)
theorem ent_fset : Ent 59 := enters_of Try.func59 (by kernel_rfl) rfl
theorem ent_lay : Ent 57 := enters_of Try.func57 (by kernel_rfl) rfl
theorem ent_dflush : Ent 58 := enters_of Try.func58 (by kernel_rfl) rfl
/-- The head of all. -/
def allHead (T : TS) : List UInt8 := headB T.start T.fin T.more
theorem fset_walk (bt : Nat) (hA : All w0 w (Ti w0.heap.size gt g a h lost :: Di w0.heap.size g S :: Tp w0.heap.size gT gR g gt a N T :: Bl w0.heap.size bt 26 [.pointer (some ⟨gT, 0, none⟩)] :: Ps)) (ha0 : 0 ≤ a) (ha1 : a ≤ 4096) (hlen : S.un.length < 999999990) :
    Calls Try.prog 59 #[.pointer (some ⟨bt, 0, none⟩)] w fun e w' => e = .returned (.int .i64 (setE S a h lost (allHead T))) ∧
      All w0 w' (Ti w0.heap.size gt g a (setH S a h lost (allHead T)) (setL S a h lost (allHead T)) :: Di w0.heap.size g (setS S a h lost (allHead T)) :: Tp w0.heap.size gT gR g gt a N T :: Bl w0.heap.size bt 26 [.pointer (some ⟨gT, 0, none⟩)] :: Ps) := by
  obtain ⟨_, _, _, hO, _⟩ := all_get hA (P := Tp w0.heap.size gT gR g gt a N T) (by simp)
  have q1 := hO.ends
  have q2 := hO.low
  have q3 := hO.high
  have q4 := hO.short
  have key : ∀ W : World, All w0 W (Ti w0.heap.size gt g a h lost :: Di w0.heap.size g S :: Tp w0.heap.size gT gR g gt a N T :: Bl w0.heap.size bt 26 [.pointer (some ⟨gT, 0, none⟩)] :: Ps) →
      W.cell? ⟨bt, 0, none⟩ = some (.pointer (some ⟨gT, 0, none⟩)) ∧ W.cell? ⟨gT, 1, none⟩ = some (.pointer (some ⟨gt, 0, none⟩)) ∧ W.cell? ⟨gT, 4, none⟩ = some (.int .u64 T.start) ∧ W.cell? ⟨gT, 6, none⟩ = some (.int .u64 T.fin) ∧ W.cell? ⟨gT, 7, none⟩ = some (.string ⟨T.more.toArray⟩) := by
    intro W hW
    obtain ⟨_, hT, _⟩ := all_get hW (P := Tp w0.heap.size gT gR g gt a N T) (by simp)
    exact ⟨(all_has hW (g := bt) (t := 26) (cs := [.pointer (some ⟨gT, 0, none⟩)]) (by simp)).cell 0, hT.cell 1, hT.cell 4, hT.cell 6, hT.cell 7⟩
  have HD := Lib.hid (fun w => head_walk T.start T.fin T.more (by omega) (by omega) (by omega) w)
  have hhl : (allHead T).length ≤ 9223372036854775807 := by
    have l1 := numB_le T.start
    have l2 := numB_le T.fin
    have l3 := numB_le T.more.length
    unfold allHead headB textB
    simp
    omega
  obtain ⟨x1, x2, x3, x4, x5⟩ := key _ hA
  have HK := Lib.hid key
  change Hid (∀ w, Calls Try.prog 61 #[.int .u64 T.start, .int .u64 T.fin, .string ⟨T.more.toArray⟩] w fun e w' => e = .returned (.string ⟨(allHead T).toArray⟩) ∧ Below w.heap.size w w') at HD
  generalize hhd : allHead T = hd at *
  clear key hO q1 q2 q3 q4
  go_enter Try.func59, Try.ntmps59
  go_wp2
  refine wp_region_noPanic (wp_region_held_drew (S := fun W => W.cell? ⟨bt, 0, none⟩ = some (.pointer (some ⟨gT, 0, none⟩)) ∧ W.cell? ⟨gT, 1, none⟩ = some (.pointer (some ⟨gt, 0, none⟩)) ∧ W.cell? ⟨gT, 4, none⟩ = some (.int .u64 T.start) ∧ W.cell? ⟨gT, 6, none⟩ = some (.int .u64 T.fin) ∧ W.cell? ⟨gT, 7, none⟩ = some (.string ⟨T.more.toArray⟩)) (by kernel_rfl) ⟨x1, x2, x3, x4, x5⟩ (fun hS => ?_))
  refine wpAnyH_take (i := 0) (v := (.pointer (some ⟨gT, 0, none⟩))) (lit rfl) (by kernel_rfl) (by kernel_rfl) (by kernel_rfl) (fun _ _ _ h => h) (Or.inl ⟨by rfl, fun w hw => by obtain ⟨c1, c2, c3, c4, c5⟩ := hw; go_simp⟩) hS ?_
  simp only [Act.put, List.setIfInBounds_toArray, List.set_cons_zero, List.set_cons_succ]
  refine wpAnyH_take (i := 1) (v := (.pointer (some ⟨gT, 0, none⟩))) (lit rfl) (by kernel_rfl) (by kernel_rfl) (by kernel_rfl) (fun _ _ _ h => h) (Or.inl ⟨by rfl, fun w _ => by go_simp⟩) hS ?_
  simp only [Act.put, List.setIfInBounds_toArray, List.set_cons_zero, List.set_cons_succ]
  refine wpAnyH_take (i := 2) (v := (.pointer (some ⟨gT, 1, none⟩))) (lit rfl) (by kernel_rfl) (by kernel_rfl) (by kernel_rfl) (fun _ _ _ h => h) (Or.inl ⟨by rfl, fun w _ => by go_simp⟩) hS ?_
  simp only [Act.put, List.setIfInBounds_toArray, List.set_cons_zero, List.set_cons_succ]
  refine wpAnyH_take (i := 3) (v := (.pointer (some ⟨gt, 0, none⟩))) (lit rfl) (by kernel_rfl) (by kernel_rfl) (by kernel_rfl) (fun _ _ _ h => h) (Or.inl ⟨by rfl, fun w hw => by obtain ⟨c1, c2, c3, c4, c5⟩ := hw; go_simp⟩) hS ?_
  simp only [Act.put, List.setIfInBounds_toArray, List.set_cons_zero, List.set_cons_succ]
  refine wpAnyH_take (i := 4) (v := (.pointer (some ⟨gT, 0, none⟩))) (lit rfl) (by kernel_rfl) (by kernel_rfl) (by kernel_rfl) (fun _ _ _ h => h) (Or.inl ⟨by rfl, fun w hw => by obtain ⟨c1, c2, c3, c4, c5⟩ := hw; go_simp⟩) hS ?_
  simp only [Act.put, List.setIfInBounds_toArray, List.set_cons_zero, List.set_cons_succ]
  refine wpAnyH_take (i := 5) (v := (.pointer (some ⟨gT, 0, none⟩))) (lit rfl) (by kernel_rfl) (by kernel_rfl) (by kernel_rfl) (fun _ _ _ h => h) (Or.inl ⟨by rfl, fun w _ => by go_simp⟩) hS ?_
  simp only [Act.put, List.setIfInBounds_toArray, List.set_cons_zero, List.set_cons_succ]
  refine wpAnyH_take (i := 6) (v := (.pointer (some ⟨gT, 4, none⟩))) (lit rfl) (by kernel_rfl) (by kernel_rfl) (by kernel_rfl) (fun _ _ _ h => h) (Or.inl ⟨by rfl, fun w _ => by go_simp⟩) hS ?_
  simp only [Act.put, List.setIfInBounds_toArray, List.set_cons_zero, List.set_cons_succ]
  refine wpAnyH_take (i := 7) (v := (.int .u64 T.start)) (lit rfl) (by kernel_rfl) (by kernel_rfl) (by kernel_rfl) (fun _ _ _ h => h) (Or.inl ⟨by rfl, fun w hw => by obtain ⟨c1, c2, c3, c4, c5⟩ := hw; go_simp⟩) hS ?_
  simp only [Act.put, List.setIfInBounds_toArray, List.set_cons_zero, List.set_cons_succ]
  refine wpAnyH_take (i := 8) (v := (.pointer (some ⟨gT, 0, none⟩))) (lit rfl) (by kernel_rfl) (by kernel_rfl) (by kernel_rfl) (fun _ _ _ h => h) (Or.inl ⟨by rfl, fun w hw => by obtain ⟨c1, c2, c3, c4, c5⟩ := hw; go_simp⟩) hS ?_
  simp only [Act.put, List.setIfInBounds_toArray, List.set_cons_zero, List.set_cons_succ]
  refine wpAnyH_take (i := 9) (v := (.pointer (some ⟨gT, 0, none⟩))) (lit rfl) (by kernel_rfl) (by kernel_rfl) (by kernel_rfl) (fun _ _ _ h => h) (Or.inl ⟨by rfl, fun w _ => by go_simp⟩) hS ?_
  simp only [Act.put, List.setIfInBounds_toArray, List.set_cons_zero, List.set_cons_succ]
  refine wpAnyH_take (i := 10) (v := (.pointer (some ⟨gT, 6, none⟩))) (lit rfl) (by kernel_rfl) (by kernel_rfl) (by kernel_rfl) (fun _ _ _ h => h) (Or.inl ⟨by rfl, fun w _ => by go_simp⟩) hS ?_
  simp only [Act.put, List.setIfInBounds_toArray, List.set_cons_zero, List.set_cons_succ]
  refine wpAnyH_take (i := 11) (v := (.int .u64 T.fin)) (lit rfl) (by kernel_rfl) (by kernel_rfl) (by kernel_rfl) (fun _ _ _ h => h) (Or.inl ⟨by rfl, fun w hw => by obtain ⟨c1, c2, c3, c4, c5⟩ := hw; go_simp⟩) hS ?_
  simp only [Act.put, List.setIfInBounds_toArray, List.set_cons_zero, List.set_cons_succ]
  refine wpAnyH_take (i := 12) (v := (.pointer (some ⟨gT, 0, none⟩))) (lit rfl) (by kernel_rfl) (by kernel_rfl) (by kernel_rfl) (fun _ _ _ h => h) (Or.inl ⟨by rfl, fun w hw => by obtain ⟨c1, c2, c3, c4, c5⟩ := hw; go_simp⟩) hS ?_
  simp only [Act.put, List.setIfInBounds_toArray, List.set_cons_zero, List.set_cons_succ]
  refine wpAnyH_take (i := 13) (v := (.pointer (some ⟨gT, 0, none⟩))) (lit rfl) (by kernel_rfl) (by kernel_rfl) (by kernel_rfl) (fun _ _ _ h => h) (Or.inl ⟨by rfl, fun w _ => by go_simp⟩) hS ?_
  simp only [Act.put, List.setIfInBounds_toArray, List.set_cons_zero, List.set_cons_succ]
  refine wpAnyH_take (i := 14) (v := (.pointer (some ⟨gT, 7, none⟩))) (lit rfl) (by kernel_rfl) (by kernel_rfl) (by kernel_rfl) (fun _ _ _ h => h) (Or.inl ⟨by rfl, fun w _ => by go_simp⟩) hS ?_
  simp only [Act.put, List.setIfInBounds_toArray, List.set_cons_zero, List.set_cons_succ]
  refine wpAnyH_take (i := 15) (v := (.string ⟨T.more.toArray⟩)) (lit rfl) (by kernel_rfl) (by kernel_rfl) (by kernel_rfl) (fun _ _ _ h => h) (Or.inl ⟨by rfl, fun w hw => by obtain ⟨c1, c2, c3, c4, c5⟩ := hw; go_simp⟩) hS ?_
  simp only [Act.put, List.setIfInBounds_toArray, List.set_cons_zero, List.set_cons_succ]
  refine wpAnyH_ready (rs := [16]) (by kernel_rfl) (by simp) (AllReadyH.cons (lit rfl) (fun K hK => ?_) AllReadyH.nil)
  go_simp
  go_wp2_with (go_at_call 61; refine (HD.out _).mono ?_; rintro e y1 ⟨rfl, b1⟩)
  have A1 := hA.drew.below b1
  have z1 := HK.out _ A1
  refine hK.out _ _ z1 (fun _ => ?_)
  clear hK K
  refine wpAnyH_ready (rs := [17]) (by kernel_rfl) (by simp) (AllReadyH.cons (lit rfl) (fun K hK => ?_) AllReadyH.nil)
  go_simp
  go_wp2_with (go_at_call 60; refine (ti_set A1 ha0 ha1 hd hhl hlen).mono ?_; rintro e y2 ⟨rfl, A2⟩)
  have HE := Lib.hid A2
  have k2 : y2.cell? ⟨bt, 0, none⟩ = some (.pointer (some ⟨gT, 0, none⟩)) ∧ y2.cell? ⟨gT, 1, none⟩ = some (.pointer (some ⟨gt, 0, none⟩)) ∧ y2.cell? ⟨gT, 4, none⟩ = some (.int .u64 T.start) ∧ y2.cell? ⟨gT, 6, none⟩ = some (.int .u64 T.fin) ∧ y2.cell? ⟨gT, 7, none⟩ = some (.string ⟨T.more.toArray⟩) := by
    obtain ⟨_, hT, _⟩ := all_get A2 (P := Tp w0.heap.size gT gR g gt a N T) (by simp)
    exact ⟨(all_has A2 (g := bt) (t := 26) (cs := [.pointer (some ⟨gT, 0, none⟩)]) (by simp)).cell 0, hT.cell 1, hT.cell 4, hT.cell 6, hT.cell 7⟩
  clear A2
  refine hK.out _ _ k2 (fun _ => ?_)
  clear hK K
  refine wpAnyH_ready (rs := [18]) (by kernel_rfl) (by simp) (AllReadyH.cons (lit rfl) (fun K hK => ?_) AllReadyH.nil)
  go_simp
  refine hK.out _ _ k2 (fun _ => ?_)
  clear hK K
  refine wpAnyH_done (by kernel_rfl) (NoPanic.normal ?_) _
  go_wp2
  go_ret
  exact ⟨rfl, HE.out⟩
end
/-- What a Flush that has something to publish does. -/
def opR (N : Nat) (a : Int) (T : TS) (S : St) (h : List UInt8) (lost : Bool) : Int × St × List UInt8 × Bool :=
  if (layT N a T S).2 ≠ 0 then ((layT N a T S).2, (layT N a T S).1, h, lost)
  else if flushE (layT N a T S).1 ≠ 0 then (flushE (layT N a T S).1, flushS (layT N a T S).1, h, lost)
  else (setE (flushS (layT N a T S).1) a h lost (allHead T), setS (flushS (layT N a T S).1) a h lost (allHead T), setH (flushS (layT N a T S).1) a h lost (allHead T), setL (flushS (layT N a T S).1) a h lost (allHead T))
def flR (N : Nat) (a : Int) (T : TS) (S : St) (h : List UInt8) (lost : Bool) : Int × St × List UInt8 × Bool :=
  if T.over = true then (8, S, h, lost) else if T.fin = T.stable then (0, S, h, lost) else opR N a T S h lost
def flT (N : Nat) (a : Int) (T : TS) (S : St) (h : List UInt8) (lost : Bool) : TS :=
  if T.over = true then T else if T.fin = T.stable then T else if (opR N a T S h lost).1 ≠ 0 then { T with over := (opR N a T S h lost).1 == 8 } else { T with stable := T.fin, over := false }
theorem layRun_un (N : Nat) (a : Int) (r : List UInt8) (fz : Nat) : ∀ (F p laid : Nat) (S : St), laid ≤ N → (layRun N a r fz F p laid S).1.un.length ≤ S.un.length + (N - laid)
  | 0, _, _, _, _ => Nat.le_add_right _ _
  | F + 1, p, laid, S, hl => by
    unfold layRun
    split
    · split
      · exact Nat.le_add_right _ _
      · have := writeS_un S (a + 2 + (sec N p : Nat)) (sect r (sec N p))
        split
        · show (writeS _ _ _).un.length ≤ _
          omega
        · have h2 := layRun_un N a r fz F (p + cut p fz) (laid + 1) (writeS S (a + 2 + (sec N p : Nat)) (sect r (sec N p))) (by omega)
          omega
    · exact Nat.le_add_right _ _
theorem layT_un (N : Nat) (a : Int) (T : TS) (S : St) : (layT N a T S).1.un.length ≤ S.un.length + N := layRun_un _ _ _ _ _ _ _ _ (Nat.zero_le _)
theorem flushS_un (S : St) : (flushS S).un.length ≤ S.un.length := by
  unfold flushS
  split
  · split
    · exact Nat.zero_le _
    · unfold opS
      split
      · exact Nat.le_refl _
      · split
        · exact Nat.le_refl _
        · exact Nat.le_refl _
  · exact Nat.le_refl _
section
variable {w0 w : World} {gT gR g gt N : Nat} {a : Int} {T : TS} {S : St} {h : List UInt8} {lost : Bool} {Ps : List (World → List Nat → Prop)}
theorem flush_walk (hA : All w0 w (Tp w0.heap.size gT gR g gt a N T :: Ti w0.heap.size gt g a h lost :: Di w0.heap.size g S :: Ps)) (ha0 : 0 ≤ a) (ha1 : a ≤ 4096) (hlen : S.un.length < 999980000) :
    Calls Try.prog 24 #[.pointer (some ⟨gT, 0, none⟩)] w fun e w' => e = .returned (.int .i64 (flR N a T S h lost).1) ∧
      All w0 w' (Tp w0.heap.size gT gR g gt a N (flT N a T S h lost) :: Ti w0.heap.size gt g a (flR N a T S h lost).2.2.1 (flR N a T S h lost).2.2.2 :: Di w0.heap.size g (flR N a T S h lost).2.1 :: Ps) := by
  have hA3 := bl_new hA 26 [.pointer (some ⟨gT, 0, none⟩)]
  change All w0 (w.alloc (Obj.cells #[Value.pointer (some { block := gT, off := 0 })] 26)) _ at hA3
  obtain ⟨_, _, _, hO, _⟩ := all_get hA (P := Tp w0.heap.size gT gR g gt a N T) (by simp)
  have hT0 : Has (w.alloc (Obj.cells #[Value.pointer (some { block := gT, off := 0 })] 26)) gT 80 (tcs gR g gt a N T) := by
    obtain ⟨_, hT1, _⟩ := all_get hA3 (P := Tp w0.heap.size gT gR g gt a N T) (by simp)
    exact hT1
  have HG0 := gone_walk hT0
  generalize hc : (if T.over = true then (8 : Int) else 0) = c at HG0
  have HG := Lib.hid HG0
  have HC := Lib.hid hc
  clear hT0 HG0 hc
  go_enter Try.func24, Try.ntmps24
  go_wp2_with (go_at_call 46; refine HG.out.mono ?_; rintro e w1 ⟨rfl, rfl⟩)
  generalize (w.alloc (Obj.cells #[Value.pointer (some { block := gT, off := 0 })] 26)) = w1 at *
  generalize w.heap.size = bt at *
  clear HG
  obtain ⟨_, hT1, _⟩ := all_get hA3 (P := Tp w0.heap.size gT gR g gt a N T) (by simp)
  have x1 : w1.cell? ⟨bt, 0, none⟩ = some (.pointer (some ⟨gT, 0, none⟩)) := (all_has hA3 (g := bt) (t := 26) (cs := [.pointer (some ⟨gT, 0, none⟩)]) (by simp)).cell 0
  have hc := HC.out
  clear HC
  cases ho : T.over with
  | true =>
    rw [ho, if_pos rfl] at hc
    subst hc
    have e0 : flR N a T S h lost = (8, S, h, lost) ∧ flT N a T S h lost = T := by
      unfold flR flT
      exact ⟨if_pos ho, if_pos ho⟩
    have HE := Lib.hid hA3.tail
    clear hT1 hA3 hA
    go_quiet (fail)
    go_wp2
    go_ret
    rw [e0.1, e0.2]
    exact ⟨rfl, HE.out.below (drawn_below w1 nq)⟩
  | false =>
    rw [ho, if_neg (by decide)] at hc
    subst hc
    have x5 : w1.cell? ⟨gT, 5, none⟩ = some (.int .u64 T.stable) := hT1.cell 5
    have x6 : w1.cell? ⟨gT, 6, none⟩ = some (.int .u64 T.fin) := hT1.cell 6
    have x0 : w1.cell? ⟨gT, 0, none⟩ = some (.pointer (some ⟨g, 0, none⟩)) := hT1.cell 0
    by_cases hs : T.fin = T.stable
    · have e0 : flR N a T S h lost = (0, S, h, lost) ∧ flT N a T S h lost = T := by
        unfold flR flT
        rw [if_neg (by rw [ho]; decide), if_pos hs, if_neg (by rw [ho]; decide), if_pos hs]
        exact ⟨rfl, rfl⟩
      have HE := Lib.hid hA3.tail
      rw [hs] at x6
      clear hT1 hA3 hA hs x0
      go_quiet (fail)
      go_wp2
      go_ret
      rw [e0.1, e0.2]
      exact ⟨rfl, HE.out.below (drawn_below w1 nq)⟩
    · have e0 : flR N a T S h lost = opR N a T S h lost := by
        unfold flR
        rw [if_neg (by rw [ho]; decide), if_neg hs]
      have hb : ((T.fin : Int) == (T.stable : Int)) = false := by rw [beq_eq_false_iff_ne]; omega
      have hb2 : (T.fin == T.stable) = false := by rw [beq_eq_false_iff_ne]; exact hs
      have HE := Lib.hid hA3
      have HS := Lib.hid hs
      clear hT1 hA3 hA hs
      go_quiet (fail)
      go_wp2
      have A4 := HE.out.below (drawn_below w1 nq)
      have x1' : (w1.drewN nq).cell? ⟨bt, 0, none⟩ = some (.pointer (some ⟨gT, 0, none⟩)) := x1
      have x0' : (w1.drewN nq).cell? ⟨gT, 0, none⟩ = some (.pointer (some ⟨g, 0, none⟩)) := x0
      generalize (w1.drewN nq) = w2 at *
      clear HE x0 x1 x5 x6 hb hb2
      refine wp_region_noPanic (wp_region_held_drew (S := fun W => W.cell? ⟨bt, 0, none⟩ = some (.pointer (some ⟨gT, 0, none⟩)) ∧ W.cell? ⟨gT, 0, none⟩ = some (.pointer (some ⟨g, 0, none⟩))) (by kernel_rfl) ⟨x1', x0'⟩ (fun hS => ?_))
      refine wpAnyH_take (i := 0) (v := (.pointer (some ⟨gT, 0, none⟩))) (lit rfl) (by kernel_rfl) (by kernel_rfl) (by kernel_rfl) (fun _ _ _ h => h) (Or.inl ⟨by rfl, fun w hw => by obtain ⟨c1, c2⟩ := hw; go_simp⟩) hS ?_
      simp only [Act.put, List.setIfInBounds_toArray, List.set_cons_zero, List.set_cons_succ]
      refine wpAnyH_take (i := 1) (v := (.pointer (some ⟨gT, 0, none⟩))) (lit rfl) (by kernel_rfl) (by kernel_rfl) (by kernel_rfl) (fun _ _ _ h => h) (Or.inl ⟨by rfl, fun w hw => by obtain ⟨c1, c2⟩ := hw; go_simp⟩) hS ?_
      simp only [Act.put, List.setIfInBounds_toArray, List.set_cons_zero, List.set_cons_succ]
      refine wpAnyH_take (i := 2) (v := (.func (.func 57) #[.pointer (some ⟨gT, 0, none⟩)] #[])) (lit rfl) (by kernel_rfl) (by kernel_rfl) (by kernel_rfl) (fun _ _ _ h => h) (Or.inl ⟨by rfl, fun w _ => by go_simp⟩) hS ?_
      simp only [Act.put, List.setIfInBounds_toArray, List.set_cons_zero, List.set_cons_succ]
      refine wpAnyH_take (i := 3) (v := (.pointer (some ⟨gT, 0, none⟩))) (lit rfl) (by kernel_rfl) (by kernel_rfl) (by kernel_rfl) (fun _ _ _ h => h) (Or.inl ⟨by rfl, fun w hw => by obtain ⟨c1, c2⟩ := hw; go_simp⟩) hS ?_
      simp only [Act.put, List.setIfInBounds_toArray, List.set_cons_zero, List.set_cons_succ]
      refine wpAnyH_take (i := 4) (v := (.pointer (some ⟨gT, 0, none⟩))) (lit rfl) (by kernel_rfl) (by kernel_rfl) (by kernel_rfl) (fun _ _ _ h => h) (Or.inl ⟨by rfl, fun w _ => by go_simp⟩) hS ?_
      simp only [Act.put, List.setIfInBounds_toArray, List.set_cons_zero, List.set_cons_succ]
      refine wpAnyH_take (i := 5) (v := (.pointer (some ⟨gT, 0, none⟩))) (lit rfl) (by kernel_rfl) (by kernel_rfl) (by kernel_rfl) (fun _ _ _ h => h) (Or.inl ⟨by rfl, fun w _ => by go_simp⟩) hS ?_
      simp only [Act.put, List.setIfInBounds_toArray, List.set_cons_zero, List.set_cons_succ]
      refine wpAnyH_take (i := 6) (v := (.pointer (some ⟨g, 0, none⟩))) (lit rfl) (by kernel_rfl) (by kernel_rfl) (by kernel_rfl) (fun _ _ _ h => h) (Or.inl ⟨by rfl, fun w hw => by obtain ⟨c1, c2⟩ := hw; go_simp⟩) hS ?_
      simp only [Act.put, List.setIfInBounds_toArray, List.set_cons_zero, List.set_cons_succ]
      refine wpAnyH_take (i := 7) (v := (.func (.func 58) #[.pointer (some ⟨g, 0, none⟩)] #[])) (lit rfl) (by kernel_rfl) (by kernel_rfl) (by kernel_rfl) (fun _ _ _ h => h) (Or.inl ⟨by rfl, fun w _ => by go_simp⟩) hS ?_
      simp only [Act.put, List.setIfInBounds_toArray, List.set_cons_zero, List.set_cons_succ]
      refine wpAnyH_take (i := 8) (v := (.func (.func 59) #[] #[.pointer (some ⟨bt, 0, none⟩)])) (lit rfl) (by kernel_rfl) (by kernel_rfl) (by kernel_rfl) (fun _ _ _ h => h) (Or.inl ⟨by rfl, fun w _ => by go_simp⟩) hS ?_
      simp only [Act.put, List.setIfInBounds_toArray, List.set_cons_zero, List.set_cons_succ]
      refine wpAnyH_ready (rs := [9]) (by kernel_rfl) (by simp) (AllReadyH.cons (lit rfl) (fun K hK => ?_) AllReadyH.nil)
      go_simp
      go_wp2
      have A5 := (bl_new A4 51 [.func (.func 57) #[.pointer (some ⟨gT, 0, none⟩)] #[], .func (.func 58) #[.pointer (some ⟨g, 0, none⟩)] #[], .func (.func 59) #[] #[.pointer (some ⟨bt, 0, none⟩)]]).drew
      change All w0 (w2.alloc (.cells #[.func (.func 57) #[.pointer (some ⟨gT, 0, none⟩)] #[], .func (.func 58) #[.pointer (some ⟨g, 0, none⟩)] #[], .func (.func 59) #[] #[.pointer (some ⟨bt, 0, none⟩)]] 51)).drew _ at A5
      generalize (w2.alloc (.cells #[.func (.func 57) #[.pointer (some ⟨gT, 0, none⟩)] #[], .func (.func 58) #[.pointer (some ⟨g, 0, none⟩)] #[], .func (.func 59) #[] #[.pointer (some ⟨bt, 0, none⟩)]] 51)).drew = y3 at *
      generalize w2.heap.size = gb at *
      have A6 : All w0 y3 (Di w0.heap.size g S :: Tp w0.heap.size gT gR g gt a N T :: Ti w0.heap.size gt g a h lost :: Bl w0.heap.size bt 26 [.pointer (some ⟨gT, 0, none⟩)] :: Bl w0.heap.size gb 51 [.func (.func 57) #[.pointer (some ⟨gT, 0, none⟩)] #[], .func (.func 58) #[.pointer (some ⟨g, 0, none⟩)] #[], .func (.func 59) #[] #[.pointer (some ⟨bt, 0, none⟩)]] :: Ps) := all_idx [_, _, _, _, _] 5 [4, 2, 3, 1, 0] A5 rfl (by decide)
      obtain ⟨_, hT6, _⟩ := all_get A6 (P := Tp w0.heap.size gT gR g gt a N T) (by simp)
      have k6 : y3.cell? ⟨bt, 0, none⟩ = some (.pointer (some ⟨gT, 0, none⟩)) ∧ y3.cell? ⟨gT, 0, none⟩ = some (.pointer (some ⟨g, 0, none⟩)) := ⟨(all_has A6 (g := bt) (t := 26) (cs := [.pointer (some ⟨gT, 0, none⟩)]) (by simp)).cell 0, hT6.cell 0⟩
      have hN := hO.few
      have hu1 := layT_un N a T S
      have hu2 := flushS_un (layT N a T S).1
      refine hK.out _ _ k6 (fun _ => ?_)
      clear hK K
      have hF : Calls Try.prog 38 #[.slice (some ⟨gb, 0, none⟩) 3 3] y3 fun e w' => ∃ c : Int, e = .returned (.int .i64 c) ∧ (c = (opR N a T S h lost).1 ∧ All w0 w' (Di w0.heap.size g (opR N a T S h lost).2.1 :: Tp w0.heap.size gT gR g gt a N T :: Ti w0.heap.size gt g a (opR N a T S h lost).2.2.1 (opR N a T S h lost).2.2.2 :: Bl w0.heap.size bt 26 [.pointer (some ⟨gT, 0, none⟩)] :: Bl w0.heap.size gb 51 [.func (.func 57) #[.pointer (some ⟨gT, 0, none⟩)] #[], .func (.func 58) #[.pointer (some ⟨g, 0, none⟩)] #[], .func (.func 59) #[] #[.pointer (some ⟨bt, 0, none⟩)]] :: Ps)) := by
        refine (first_walk y3 gb 3 3 (by decide) (by decide) (fun i W => if i = 0 then All w0 W (Di w0.heap.size g S :: Tp w0.heap.size gT gR g gt a N T :: Ti w0.heap.size gt g a h lost :: Bl w0.heap.size bt 26 [.pointer (some ⟨gT, 0, none⟩)] :: Bl w0.heap.size gb 51 [.func (.func 57) #[.pointer (some ⟨gT, 0, none⟩)] #[], .func (.func 58) #[.pointer (some ⟨g, 0, none⟩)] #[], .func (.func 59) #[] #[.pointer (some ⟨bt, 0, none⟩)]] :: Ps) else if i = 1 then ((layT N a T S).2 = 0 ∧ All w0 W (Di w0.heap.size g (layT N a T S).1 :: Tp w0.heap.size gT gR g gt a N T :: Ti w0.heap.size gt g a h lost :: Bl w0.heap.size bt 26 [.pointer (some ⟨gT, 0, none⟩)] :: Bl w0.heap.size gb 51 [.func (.func 57) #[.pointer (some ⟨gT, 0, none⟩)] #[], .func (.func 58) #[.pointer (some ⟨g, 0, none⟩)] #[], .func (.func 59) #[] #[.pointer (some ⟨bt, 0, none⟩)]] :: Ps)) else if i = 2 then ((layT N a T S).2 = 0 ∧ flushE (layT N a T S).1 = 0 ∧ All w0 W (Di w0.heap.size g (flushS (layT N a T S).1) :: Tp w0.heap.size gT gR g gt a N T :: Ti w0.heap.size gt g a h lost :: Bl w0.heap.size bt 26 [.pointer (some ⟨gT, 0, none⟩)] :: Bl w0.heap.size gb 51 [.func (.func 57) #[.pointer (some ⟨gT, 0, none⟩)] #[], .func (.func 58) #[.pointer (some ⟨g, 0, none⟩)] #[], .func (.func 59) #[] #[.pointer (some ⟨bt, 0, none⟩)]] :: Ps)) else ((layT N a T S).2 = 0 ∧ flushE (layT N a T S).1 = 0 ∧ setE (flushS (layT N a T S).1) a h lost (allHead T) = 0 ∧ All w0 W (Di w0.heap.size g (setS (flushS (layT N a T S).1) a h lost (allHead T)) :: Tp w0.heap.size gT gR g gt a N T :: Ti w0.heap.size gt g a (setH (flushS (layT N a T S).1) a h lost (allHead T)) (setL (flushS (layT N a T S).1) a h lost (allHead T)) :: Bl w0.heap.size bt 26 [.pointer (some ⟨gT, 0, none⟩)] :: Bl w0.heap.size gb 51 [.func (.func 57) #[.pointer (some ⟨gT, 0, none⟩)] #[], .func (.func 58) #[.pointer (some ⟨g, 0, none⟩)] #[], .func (.func 59) #[] #[.pointer (some ⟨bt, 0, none⟩)]] :: Ps)))
          (fun c W => c = (opR N a T S h lost).1 ∧ All w0 W (Di w0.heap.size g (opR N a T S h lost).2.1 :: Tp w0.heap.size gT gR g gt a N T :: Ti w0.heap.size gt g a (opR N a T S h lost).2.2.1 (opR N a T S h lost).2.2.2 :: Bl w0.heap.size bt 26 [.pointer (some ⟨gT, 0, none⟩)] :: Bl w0.heap.size gb 51 [.func (.func 57) #[.pointer (some ⟨gT, 0, none⟩)] #[], .func (.func 58) #[.pointer (some ⟨g, 0, none⟩)] #[], .func (.func 59) #[] #[.pointer (some ⟨bt, 0, none⟩)]] :: Ps)) [.func (.func 57) #[.pointer (some ⟨gT, 0, none⟩)] #[], .func (.func 58) #[.pointer (some ⟨g, 0, none⟩)] #[], .func (.func 59) #[] #[.pointer (some ⟨bt, 0, none⟩)]] rfl ?_ A6 ?_).mono ?_
        · have key : ∀ W (Qs : List (World → List Nat → Prop)), All w0 W Qs → Bl w0.heap.size gb 51 [.func (.func 57) #[.pointer (some ⟨gT, 0, none⟩)] #[], .func (.func 58) #[.pointer (some ⟨g, 0, none⟩)] #[], .func (.func 59) #[] #[.pointer (some ⟨bt, 0, none⟩)]] ∈ Qs → ∀ k, k < 3 → W.cell? ⟨gb, k, none⟩ = [.func (.func 57) #[.pointer (some ⟨gT, 0, none⟩)] #[], .func (.func 58) #[.pointer (some ⟨g, 0, none⟩)] #[], .func (.func 59) #[] #[.pointer (some ⟨bt, 0, none⟩)]][k]? := fun W Qs hA hm k hk => (all_has hA hm).cell k
          intro i W hi
          by_cases i0 : i = 0
          · rw [if_pos i0] at hi
            exact key W _ hi (by simp)
          · rw [if_neg i0] at hi
            by_cases i1 : i = 1
            · rw [if_pos i1] at hi
              exact key W _ hi.2 (by simp)
            · rw [if_neg i1] at hi
              by_cases i2 : i = 2
              · rw [if_pos i2] at hi
                exact key W _ hi.2.2 (by simp)
              · rw [if_neg i2] at hi
                exact key W _ hi.2.2.2 (by simp)
        · intro i W v hi hv
          match i, hi, hv with
          | 0, hi, hv =>
            rw [if_pos rfl] at hi
            simp only [List.getElem?_cons_zero, Option.some.injEq] at hv
            subst hv
            refine ⟨_, _, _, rfl, ent_lay, (tp_lay hi ha0 ha1 (by omega)).mono ?_⟩
            rintro e W' ⟨rfl, hW⟩
            refine ⟨_, rfl, ?_⟩
            by_cases hz : (layT N a T S).2 = 0
            · exact .inl ⟨hz, by rw [if_neg (by decide), if_pos rfl]; exact ⟨hz, hW⟩⟩
            · have hop : opR N a T S h lost = ((layT N a T S).2, (layT N a T S).1, h, lost) := by unfold opR; rw [if_pos hz]
              exact .inr ⟨hz, by rw [hop], by rw [hop]; exact hW⟩
          | 1, hi, hv =>
            rw [if_neg (by decide), if_pos rfl] at hi
            simp only [List.getElem?_cons_zero, List.getElem?_cons_succ, Option.some.injEq] at hv
            subst hv
            refine ⟨_, _, _, rfl, ent_dflush, (di_flush hi.2).mono ?_⟩
            rintro e W' ⟨rfl, hW⟩
            refine ⟨_, rfl, ?_⟩
            by_cases hz : flushE (layT N a T S).1 = 0
            · exact .inl ⟨hz, by rw [if_neg (by decide), if_neg (by decide), if_pos rfl]; exact ⟨hi.1, hz, hW⟩⟩
            · have hop : opR N a T S h lost = (flushE (layT N a T S).1, (flushS (layT N a T S).1), h, lost) := by unfold opR; rw [if_neg (by rw [hi.1]; decide), if_pos hz]
              exact .inr ⟨hz, by rw [hop], by rw [hop]; exact hW⟩
          | 2, hi, hv =>
            rw [if_neg (by decide), if_neg (by decide), if_pos rfl] at hi
            simp only [List.getElem?_cons_zero, List.getElem?_cons_succ, Option.some.injEq] at hv
            subst hv
            refine ⟨_, _, _, rfl, ent_fset, (fset_walk bt (all_idx [_, _, _, _, _] 5 [2, 0, 1, 3, 4] hi.2.2 rfl (by decide)) ha0 ha1 (by omega)).mono ?_⟩
            rintro e W' ⟨rfl, hW⟩
            have hW2 : All w0 W' (Di w0.heap.size g (setS (flushS (layT N a T S).1) a h lost (allHead T)) :: Tp w0.heap.size gT gR g gt a N T :: Ti w0.heap.size gt g a (setH (flushS (layT N a T S).1) a h lost (allHead T)) (setL (flushS (layT N a T S).1) a h lost (allHead T)) :: Bl w0.heap.size bt 26 [.pointer (some ⟨gT, 0, none⟩)] :: Bl w0.heap.size gb 51 [.func (.func 57) #[.pointer (some ⟨gT, 0, none⟩)] #[], .func (.func 58) #[.pointer (some ⟨g, 0, none⟩)] #[], .func (.func 59) #[] #[.pointer (some ⟨bt, 0, none⟩)]] :: Ps) := all_idx [_, _, _, _, _] 5 [1, 2, 0, 3, 4] hW rfl (by decide)
            have hop : opR N a T S h lost = (setE (flushS (layT N a T S).1) a h lost (allHead T), (setS (flushS (layT N a T S).1) a h lost (allHead T)), (setH (flushS (layT N a T S).1) a h lost (allHead T)), (setL (flushS (layT N a T S).1) a h lost (allHead T))) := by unfold opR; rw [if_neg (by rw [hi.1]; decide), if_neg (by rw [hi.2.1]; decide)]
            refine ⟨_, rfl, ?_⟩
            by_cases hz : setE (flushS (layT N a T S).1) a h lost (allHead T) = 0
            · exact .inl ⟨hz, by rw [if_neg (by decide), if_neg (by decide), if_neg (by decide)]; exact ⟨hi.1, hi.2.1, hz, hW2⟩⟩
            · exact .inr ⟨hz, by rw [hop], by rw [hop]; exact hW2⟩
          | i + 3, hi, hv => simp at hv
        · rintro e W' ⟨c, rfl, ⟨rfl, h1⟩ | ⟨h1, rfl, h2⟩⟩
          · rw [if_neg (by decide), if_neg (by decide), if_neg (by decide)] at h1
            have hop : opR N a T S h lost = (setE (flushS (layT N a T S).1) a h lost (allHead T), (setS (flushS (layT N a T S).1) a h lost (allHead T)), (setH (flushS (layT N a T S).1) a h lost (allHead T)), (setL (flushS (layT N a T S).1) a h lost (allHead T))) := by unfold opR; rw [if_neg (by rw [h1.1]; decide), if_neg (by rw [h1.2.1]; decide)]
            exact ⟨0, rfl, by rw [hop]; exact h1.2.2.1.symm, by rw [hop]; exact h1.2.2.2⟩
          · exact ⟨_, rfl, rfl, h2⟩
      have HO := Lib.hid (operate_walk y3 gT gb 3 _ hF (fun c w' hx => by
        obtain ⟨_, hT, _⟩ := all_get hx.2 (P := Tp w0.heap.size gT gR g gt a N T) (by simp)
        exact ⟨_, hT, rfl⟩))
      clear hF A6 A5 hT6
      refine wpAnyH_ready (rs := [10]) (by kernel_rfl) (by simp) (AllReadyH.cons (lit rfl) (fun K hK => ?_) AllReadyH.nil)
      go_simp
      go_wp2_with (go_at_call 56; refine HO.out.mono ?_; rintro e y6 ⟨c, y7, rfl, ⟨rfl, A7⟩, rfl⟩)
      have A8 := tp_tr (all_idx [_, _, _, _, _] 5 [1, 2, 0, 3, 4] A7 rfl (by decide) : All w0 y7 (Tp w0.heap.size gT gR g gt a N T :: Ti w0.heap.size gt g a (opR N a T S h lost).2.2.1 (opR N a T S h lost).2.2.2 :: Di w0.heap.size g (opR N a T S h lost).2.1 :: Bl w0.heap.size bt 26 [.pointer (some ⟨gT, 0, none⟩)] :: Bl w0.heap.size gb 51 [.func (.func 57) #[.pointer (some ⟨gT, 0, none⟩)] #[], .func (.func 58) #[.pointer (some ⟨g, 0, none⟩)] #[], .func (.func 59) #[] #[.pointer (some ⟨bt, 0, none⟩)]] :: Ps))
      have A9 := tr_set A8.1 8 (.bool ((opR N a T S h lost).1 == 8))
      change All w0 _ (Tr w0.heap.size gT gR (tcs gR g gt a N { T with over := (opR N a T S h lost).1 == 8 }) (ring N T.start T.bs) :: Ti w0.heap.size gt g a (opR N a T S h lost).2.2.1 (opR N a T S h lost).2.2.2 :: Di w0.heap.size g (opR N a T S h lost).2.1 :: Bl w0.heap.size bt 26 [.pointer (some ⟨gT, 0, none⟩)] :: Bl w0.heap.size gb 51 [.func (.func 57) #[.pointer (some ⟨gT, 0, none⟩)] #[], .func (.func 58) #[.pointer (some ⟨g, 0, none⟩)] #[], .func (.func 59) #[] #[.pointer (some ⟨bt, 0, none⟩)]] :: Ps) at A9
      generalize (y7.setCell ⟨gT, 8, none⟩ (.bool ((opR N a T S h lost).1 == 8))) = y8 at *
      have t9 := tr_get A9 (List.mem_cons_self ..)
      have k9 : y8.cell? ⟨bt, 0, none⟩ = some (.pointer (some ⟨gT, 0, none⟩)) ∧ y8.cell? ⟨gT, 0, none⟩ = some (.pointer (some ⟨g, 0, none⟩)) := ⟨(all_has A9 (g := bt) (t := 26) (cs := [.pointer (some ⟨gT, 0, none⟩)]) (by simp)).cell 0, t9.1.cell 0⟩
      refine hK.out _ _ k9 (fun _ => ?_)
      clear hK K
      refine wpAnyH_ready (rs := [11]) (by kernel_rfl) (by simp) (AllReadyH.cons (lit rfl) (fun K hK => ?_) AllReadyH.nil)
      go_simp
      refine hK.out _ _ k9 (fun _ => ?_)
      clear hK K
      refine wpAnyH_done (by kernel_rfl) (NoPanic.normal ?_) _
      clear A8 A7 HO hu1 hu2 hN k6 hS A4
      by_cases hz : (opR N a T S h lost).1 = 0
      · have hT2 : flT N a T S h lost = { T with stable := T.fin, over := false } := by
          unfold flT
          rw [if_neg (by rw [ho]; decide), if_neg HS.out, if_neg (by rw [hz]; decide)]
        have A10 : All w0 y8 (Tr w0.heap.size gT gR (tcs gR g gt a N { T with over := false }) (ring N T.start T.bs) :: Ti w0.heap.size gt g a (opR N a T S h lost).2.2.1 (opR N a T S h lost).2.2.2 :: Di w0.heap.size g (opR N a T S h lost).2.1 :: Bl w0.heap.size bt 26 [.pointer (some ⟨gT, 0, none⟩)] :: Bl w0.heap.size gb 51 [.func (.func 57) #[.pointer (some ⟨gT, 0, none⟩)] #[], .func (.func 58) #[.pointer (some ⟨g, 0, none⟩)] #[], .func (.func 59) #[] #[.pointer (some ⟨bt, 0, none⟩)]] :: Ps) := by
          rw [hz] at A9
          exact A9
        have t10 := tr_get A10 (List.mem_cons_self ..)
        have v1 := k9.1
        have v6 : y8.cell? ⟨gT, 6, none⟩ = some (.int .u64 T.fin) := t10.1.cell 6
        have v5 : y8.cell? ⟨gT, 5, none⟩ = some (.int .u64 T.stable) := t10.1.cell 5
        have u5 := t10.1.free 5
        have A11 := tr_set A10.drew 5 (.int .u64 T.fin)
        have HA := Lib.hid A11
        have HZ := Lib.hid hz
        rw [hz]
        clear A9 A10 A11 t9 t10 k9 hz
        go_wp2
        go_still_tail 7, (by kernel_rfl)
        go_wp2
        go_ret
        rw [e0, hT2, HZ.out]
        refine ⟨rfl, ?_⟩
        have A12 := HA.out
        have hf1 := hO.low
        have hf2 := hO.high
        have A13 := tr_tp (T := { T with stable := T.fin, over := false }) A12 ⟨hO.one, hO.few, Nat.le_trans hf1 hf2, Nat.le_refl _, hO.fits, hO.ends, hO.short⟩
        exact (all_idx [_, _, _, _, _] 5 [3, 4, 0, 1, 2] A13 rfl (by decide) : All w0 _ (Bl w0.heap.size bt 26 [.pointer (some ⟨gT, 0, none⟩)] :: Bl w0.heap.size gb 51 [.func (.func 57) #[.pointer (some ⟨gT, 0, none⟩)] #[], .func (.func 58) #[.pointer (some ⟨g, 0, none⟩)] #[], .func (.func 59) #[] #[.pointer (some ⟨bt, 0, none⟩)]] :: Tp w0.heap.size gT gR g gt a N { T with stable := T.fin, over := false } :: Ti w0.heap.size gt g a (opR N a T S h lost).2.2.1 (opR N a T S h lost).2.2.2 :: Di w0.heap.size g (opR N a T S h lost).2.1 :: Ps)).tail.tail
      · have hT2 : flT N a T S h lost = { T with over := (opR N a T S h lost).1 == 8 } := by
          unfold flT
          rw [if_neg (by rw [ho]; decide), if_neg HS.out, if_pos hz]
        have A13 := tr_tp (T := { T with over := (opR N a T S h lost).1 == 8 }) A9 ⟨hO.one, hO.few, hO.low, hO.high, hO.fits, hO.ends, hO.short⟩
        have HA0 : All w0 y8 (Tp w0.heap.size gT gR g gt a N { T with over := (opR N a T S h lost).1 == 8 } :: Ti w0.heap.size gt g a (opR N a T S h lost).2.2.1 (opR N a T S h lost).2.2.2 :: Di w0.heap.size g (opR N a T S h lost).2.1 :: Ps) := (all_idx [_, _, _, _, _] 5 [3, 4, 0, 1, 2] A13 rfl (by decide) : All w0 _ (Bl w0.heap.size bt 26 [.pointer (some ⟨gT, 0, none⟩)] :: Bl w0.heap.size gb 51 [.func (.func 57) #[.pointer (some ⟨gT, 0, none⟩)] #[], .func (.func 58) #[.pointer (some ⟨g, 0, none⟩)] #[], .func (.func 59) #[] #[.pointer (some ⟨bt, 0, none⟩)]] :: Tp w0.heap.size gT gR g gt a N { T with over := (opR N a T S h lost).1 == 8 } :: Ti w0.heap.size gt g a (opR N a T S h lost).2.2.1 (opR N a T S h lost).2.2.2 :: Di w0.heap.size g (opR N a T S h lost).2.1 :: Ps)).tail.tail
        have HA := Lib.hid HA0
        have HT2 := Lib.hid hT2
        have HE0 := Lib.hid e0
        clear A9 A13 t9 k9 HA0 hT2 e0
        go_wp2
        go_ret
        rw [HE0.out, HT2.out]
        exact ⟨rfl, HA.out⟩
end
end TG
end Go.Proofs.Ytkhdidhpcdlmcaa
