/- What serves a tape's calls: heads, metas, lists of what is asked, operate. -/
import Derived.Test.YtkhdidhpcdlmcaaTapeEmpty
import Derived.Test.YtkhdidhpcdlmcaaWireRead
namespace Go.Proofs.Ytkhdidhpcdlmcaa
set_option maxRecDepth 100000
open Go.RowKit Go.Lib MM MF DM DK MY TM DP TP RN TF TR TQ BL FL TA WM
namespace TZ
/-- A head's bytes. -/
def headB (start stable : Nat) (more : List UInt8) : List UInt8 := numB start ++ numB stable ++ textB more
theorem head_walk (start stable : Nat) (more : List UInt8) (h1 : start < 4611686018427387904) (h2 : stable < 4611686018427387904) (h3 : more.length ≤ 1024) (w : World) :
    Calls Try.prog 61 #[.int .u64 start, .int .u64 stable, .string ⟨more.toArray⟩] w fun e w' => e = .returned (.string ⟨(headB start stable more).toArray⟩) ∧ Below w.heap.size w w' := by
  have l1 := numB_le start
  have l2 := numB_le stable
  have P1 := Lib.hid (fun w => WP.putNum_walk [] start (by unfold WW.U64; omega) (by simp) w)
  have P2 := Lib.hid (fun w => WP.putNum_walk ([] ++ numB start) stable (by unfold WW.U64; omega) (by simp; omega) w)
  have P3 := Lib.hid (fun w => WP.putText_walk ([] ++ numB start ++ numB stable) more (by simp; omega) (by omega) w)
  have e : [] ++ numB start ++ numB stable ++ textB more = headB start stable more := by simp [headB]
  go_enter Try.func61, Try.ntmps61
  go_wp2_with (first
    | (go_at_call 114; refine (P1.out _).mono ?_; rintro e w1 ⟨rfl, b1⟩; clear P1)
    | (go_at_call 114; refine (P2.out _).mono ?_; rintro e w2 ⟨rfl, b2⟩)
    | (go_at_call 70; refine (P3.out _).mono ?_; rintro e w3 ⟨rfl, b3⟩))
  go_ret
  refine ⟨?_, b1.trans ((b2.trans (b3.mono b2.size)).mono b1.size)⟩
  rw [← e]
  simp
/-- gone, and two whens, asked. -/
theorem first3 {y1 y2 y3 : World} {gT gR g gt N ga e1 f1 e2 f2 F1 F2 : Nat} {a k1 k2 : Int} {T : TS} {b1 b2 c1 c2 : Array Value} {p1 p2 : Bool} (hF1 : Ent F1) (hF2 : Ent F2)
    (hb : Has y3 ga 51 [.func (.func 46) #[.pointer (some ⟨gT, 0, none⟩)] #[], .func (.func 107) #[] #[.pointer (some ⟨f1, 0, none⟩), .pointer (some ⟨e1, 0, none⟩)], .func (.func 107) #[] #[.pointer (some ⟨f2, 0, none⟩), .pointer (some ⟨e2, 0, none⟩)]])
    (hT : Has y3 gT 80 (tcs gR g gt a N T)) (q1 : y1.cell? ⟨e1, 0, none⟩ = some (.int .i64 k1)) (r1 : y1.cell? ⟨f1, 0, none⟩ = some (.func (.func F1) b1 c1)) (w1 : Below y1.heap.size y1 y3)
    (q2 : y2.cell? ⟨e2, 0, none⟩ = some (.int .i64 k2)) (r2 : y2.cell? ⟨f2, 0, none⟩ = some (.func (.func F2) b2 c2)) (w2 : Below y2.heap.size y2 y3)
    (h1 : ∀ W, Below y3.heap.size y3 W → Calls Try.prog F1 (b1 ++ c1) W fun e w' => e = .returned (.bool p1) ∧ Below W.heap.size W w')
    (h2 : ∀ W, Below y3.heap.size y3 W → Calls Try.prog F2 (b2 ++ c2) W fun e w' => e = .returned (.bool p2) ∧ Below W.heap.size W w') :
    Calls Try.prog 38 #[.slice (some ⟨ga, 0, none⟩) 3 3] y3 fun e w' => e = .returned (.int .i64 (firstOf [if T.over then 8 else 0, if p1 then k1 else 0, if p2 then k2 else 0])) ∧ Below y3.heap.size y3 w' := by
  refine first_pure y3 ga 3 3 (by decide) (by decide) _ _ rfl rfl _ hb ?_
  intro i W v c b hv hc
  match i, hv, hc with
  | 0, hv, hc =>
    simp only [List.getElem?_cons_zero, Option.some.injEq] at hv hc
    subst hv hc
    exact asks_gone (hT.under b hT.lt)
  | 1, hv, hc =>
    simp only [List.getElem?_cons_zero, List.getElem?_cons_succ, Option.some.injEq] at hv hc
    subst hv hc
    have b' := w1.trans (b.mono w1.size)
    exact asks_when hF1 ((b'.cell (p := ⟨e1, 0, none⟩) (cell_lt q1)).trans q1) ((b'.cell (p := ⟨f1, 0, none⟩) (cell_lt r1)).trans r1) (h1 W b)
  | 2, hv, hc =>
    simp only [List.getElem?_cons_zero, List.getElem?_cons_succ, Option.some.injEq] at hv hc
    subst hv hc
    have b' := w2.trans (b.mono w2.size)
    exact asks_when hF2 ((b'.cell (p := ⟨e2, 0, none⟩) (cell_lt q2)).trans q2) ((b'.cell (p := ⟨f2, 0, none⟩) (cell_lt r2)).trans r2) (h2 W b)
  | i + 3, hv, hc => simp at hv
theorem first2 {y1 y3 : World} {gT gR g gt N ga e1 f1 F1 : Nat} {a k1 : Int} {T : TS} {b1 c1 : Array Value} {p1 : Bool} (hF1 : Ent F1)
    (hb : Has y3 ga 51 [.func (.func 46) #[.pointer (some ⟨gT, 0, none⟩)] #[], .func (.func 107) #[] #[.pointer (some ⟨f1, 0, none⟩), .pointer (some ⟨e1, 0, none⟩)]])
    (hT : Has y3 gT 80 (tcs gR g gt a N T)) (q1 : y1.cell? ⟨e1, 0, none⟩ = some (.int .i64 k1)) (r1 : y1.cell? ⟨f1, 0, none⟩ = some (.func (.func F1) b1 c1)) (w1 : Below y1.heap.size y1 y3)
    (h1 : ∀ W, Below y3.heap.size y3 W → Calls Try.prog F1 (b1 ++ c1) W fun e w' => e = .returned (.bool p1) ∧ Below W.heap.size W w') :
    Calls Try.prog 38 #[.slice (some ⟨ga, 0, none⟩) 2 2] y3 fun e w' => e = .returned (.int .i64 (firstOf [if T.over then 8 else 0, if p1 then k1 else 0])) ∧ Below y3.heap.size y3 w' := by
  refine first_pure y3 ga 2 2 (by decide) (by decide) _ _ rfl rfl _ hb ?_
  intro i W v c b hv hc
  match i, hv, hc with
  | 0, hv, hc =>
    simp only [List.getElem?_cons_zero, Option.some.injEq] at hv hc
    subst hv hc
    exact asks_gone (hT.under b hT.lt)
  | 1, hv, hc =>
    simp only [List.getElem?_cons_zero, List.getElem?_cons_succ, Option.some.injEq] at hv hc
    subst hv hc
    have b' := w1.trans (b.mono w1.size)
    exact asks_when hF1 ((b'.cell (p := ⟨e1, 0, none⟩) (cell_lt q1)).trans q1) ((b'.cell (p := ⟨f1, 0, none⟩) (cell_lt r1)).trans r1) (h1 W b)
  | i + 2, hv, hc => simp at hv
/-- Steps, one behind the other; over, if the power is found off. -/
theorem operate_walk (w : World) (gT ga n : Nat) (X : Int → World → Prop) (hF : Calls Try.prog 38 #[.slice (some ⟨ga, 0, none⟩) n n] w fun e w' => ∃ c : Int, e = .returned (.int .i64 c) ∧ X c w')
    (hX : ∀ c w', X c w' → ∃ cs, Has w' gT 80 cs ∧ cs.length = 9) :
    Calls Try.prog 56 #[.pointer (some ⟨gT, 0, none⟩), .slice (some ⟨ga, 0, none⟩) n n] w fun e w' => ∃ (c : Int) (w1 : World), e = .returned (.int .i64 c) ∧ X c w1 ∧ w' = w1.setCell ⟨gT, 8, none⟩ (.bool (c == 8)) := by
  have HF := Lib.hid hF
  clear hF
  go_enter Try.func56, Try.ntmps56
  go_wp2_with fail
  refine HF.out.mono ?_
  rintro e w1 ⟨c, rfl, hx⟩
  obtain ⟨cs, hT, hl⟩ := hX c w1 hx
  obtain ⟨u, hu⟩ : ∃ u, w1.cell? ⟨gT, 8, none⟩ = some u := ⟨_, (hT.cell 8).trans (List.getElem?_eq_getElem (by omega))⟩
  have hf := hT.free 8
  clear hX
  go_wp2
  go_ret
  exact ⟨c, w1, rfl, hx, rfl⟩
/-- A tape's two blocks, whatever they hold. -/
def Tr (B gT gR : Nat) (cs : List Value) (r : List UInt8) (w : World) (fs : List Nat) : Prop := Has w gT 80 cs ∧ Row w gR 126 (byteCells r) ∧ B ≤ gT ∧ B ≤ gR ∧ fs = [gT, gR]
theorem tr_kp (B gT gR : Nat) (cs : List Value) (r : List UInt8) : Kp B (Tr B gT gR cs r) := by
  refine ⟨?_, ?_⟩
  · rintro w fs ⟨h, k, h1, h2, rfl⟩ x hx
    simp only [List.mem_cons, List.not_mem_nil, or_false] at hx
    rcases hx with rfl | rfl
    · exact ⟨h1, h.lt⟩
    · exact ⟨h2, k.lt⟩
  · rintro w w' fs gs ⟨h, r, h1, h2, rfl⟩ k hn
    exact ⟨k.has h (hn _ (by simp)), r.kept k (hn _ (by simp)), h1, h2, rfl⟩
section
variable {w0 w w' : World} {gT gR g gt N : Nat} {a : Int} {T : TS} {cs : List Value} {r r' : List UInt8} {Ps : List (World → List Nat → Prop)}
theorem tp_tr (hA : All w0 w (Tp w0.heap.size gT gR g gt a N T :: Ps)) : All w0 w (Tr w0.heap.size gT gR (tcs gR g gt a N T) (ring N T.start T.bs) :: Ps) ∧ T.Ok N := by
  obtain ⟨f, ⟨h, k, ho, h1, h2, rfl⟩, K⟩ := hA.opened
  exact ⟨K w _ [gT, gR] (tr_kp _ _ _ _ _) ⟨h, k, h1, h2, rfl⟩ (Fr.refl _ _) (fun x hx => .inl hx), ho⟩
theorem tr_tp (hA : All w0 w (Tr w0.heap.size gT gR (tcs gR g gt a N T) (ring N T.start T.bs) :: Ps)) (ho : T.Ok N) : All w0 w (Tp w0.heap.size gT gR g gt a N T :: Ps) := by
  obtain ⟨f, ⟨h, k, h1, h2, rfl⟩, K⟩ := hA.opened
  exact K w _ [gT, gR] (tp_kp _ _ _ _ _ _ _ _) ⟨h, k, ho, h1, h2, rfl⟩ (Fr.refl _ _) (fun x hx => .inl hx)
theorem tr_set (hA : All w0 w (Tr w0.heap.size gT gR cs r :: Ps)) (i : Nat) (u : Value) : All w0 (w.setCell ⟨gT, i, none⟩ u) (Tr w0.heap.size gT gR (cs.set i u) r :: Ps) := by
  obtain ⟨f, ⟨h, k, h1, h2, rfl⟩, K⟩ := hA.opened
  have n3 : gR ≠ gT := fun e => has_ne h k (by decide) e.symm
  exact K _ _ [gT, gR] (tr_kp _ _ _ _ _) ⟨h.put i u, k.of_block (Below.heap_setCell w _ _ gR n3), h1, h2, rfl⟩ ((Fr.refl w _).setCell (.inl (by simp)) _) (fun x hx => .inl hx)
theorem tr_ring (hA : All w0 w (Tr w0.heap.size gT gR cs r :: Ps)) (hr : Row w' gR 126 (byteCells r')) (fr : Fr w w' [gR]) : All w0 w' (Tr w0.heap.size gT gR cs r' :: Ps) := by
  obtain ⟨f, ⟨h, k, h1, h2, rfl⟩, K⟩ := hA.opened
  have n3 : gT ∉ [gR] := fun hm => by
    rw [List.mem_singleton] at hm
    exact has_ne h k (by decide) hm
  exact K _ _ [gT, gR] (tr_kp _ _ _ _ _) ⟨fr.has h n3, hr, h1, h2, rfl⟩ (fr.more (fun x hx _ => by simp at hx; simp [hx])) (fun x hx => .inl hx)
theorem tr_get {Qs : List (World → List Nat → Prop)} (hA : All w0 w Qs) (hm : Tr w0.heap.size gT gR cs r ∈ Qs) : Has w gT 80 cs ∧ Row w gR 126 (byteCells r) := by
  obtain ⟨_, h, k, _⟩ := all_get hA hm
  exact ⟨h, k⟩
/-- Things in another order, by their numbers. -/
def noThing : World → List Nat → Prop := fun _ _ => True
theorem all_idx (Qs : List (World → List Nat → Prop)) (k : Nat) (js : List Nat) (hA : All w0 w (Qs ++ Ps)) (hk : Qs.length = k) (hp : (List.range k).Perm js) : All w0 w (js.map (fun i => Qs.getD i noThing) ++ Ps) := by
  subst hk
  refine hA.perm (List.Perm.append_right Ps ?_)
  have e : (List.range Qs.length).map (fun i => Qs.getD i noThing) = Qs := by
    refine List.ext_getElem (by simp) fun i h1 h2 => ?_
    simp [List.getD_eq_getElem?_getD, h2]
  have := hp.map (fun i => Qs.getD i noThing)
  rwa [e] at this
end
end TZ
end Go.Proofs.Ytkhdidhpcdlmcaa
