/- With which entry bytes begin: Decode, which recovers. -/
import Derived.Test.YtkhdidhpcdlmcaaLrecTake
import Derived.Laws.Pointers
namespace Go.Proofs.Ytkhdidhpcdlmcaa
set_option maxRecDepth 100000
open Go.RowKit Go.Lib MM MS MF DE WM WP WR CM CE FL LM LQ LC LA RS LR LTk
namespace LD
def zE : List Value := [.int .u64 0, .int .u64 0, .slice none 0 0]
/-- What the closure leaves of a panic. -/
def caught (w : World) (gx gn gw : Nat) : World := ((((w.setCell ⟨gx, 0, none⟩ (.int .u64 0)).setCell ⟨gx, 1, none⟩ (.int .u64 0)).setCell ⟨gx, 2, none⟩ (.slice none 0 0)).setCell ⟨gn, 0, none⟩ (.int .i64 0)).setCell ⟨gw, 0, none⟩ (.int .i64 4)
theorem catch_panicking (gx gn gw : Nat) (u : TypeId) (pv : Value) (older : List PanicEntry) (w : World) (hx : Has w gx 60 zE) (hn : Has w gn 3 [.int .i64 0]) (hw : Has w gw 36 [.int .i64 0]) (h1 : gx ≠ gn) (h2 : gx ≠ gw) (h3 : gn ≠ gw) :
    CallsD Try.prog 121 #[.pointer (some ⟨gx, 0, none⟩), .pointer (some ⟨gn, 0, none⟩), .pointer (some ⟨gw, 0, none⟩)] (.panicking ({ v := .iface u pv, recovered := false } :: older)) w fun e u' w' =>
      e = .returned (.tuple #[]) ∧ u' = .panicking ({ v := .iface u pv, recovered := true } :: older) ∧ w' = caught w gx gn gw := by
  have c0 : w.cell? ⟨gx, 0, none⟩ = some (.int .u64 0) := hx.cell 0
  have c1 : w.cell? ⟨gx, 1, none⟩ = some (.int .u64 0) := hx.cell 1
  have c2 : w.cell? ⟨gx, 2, none⟩ = some (.slice none 0 0) := hx.cell 2
  have c3 : w.cell? ⟨gn, 0, none⟩ = some (.int .i64 0) := hn.cell 0
  have c4 : w.cell? ⟨gw, 0, none⟩ = some (.int .i64 0) := hw.cell 0
  have f0 := hx.free 0
  have f1 := hx.free 1
  have f2 := hx.free 2
  have f3 := hn.free 0
  have f4 := hw.free 0
  refine callsD_of_wpS Try.func121 rfl fun c₀ cs hu => ?_
  apply wpS_seq
  apply wpS_region
  simp [wpOpsS, go_sem, recoverD, hu, Try.ntmps121, Exit.thenS]
  refine wpS_cond (t := true) (by simp [Act.eval, Array.replicate]) ?_
  simp only [if_true]
  refine wpS_of_wp ?_
  show Code.wp Try.prog _ _ { tmps := #[.pointer (some ⟨gx, 0, none⟩), .pointer (some ⟨gn, 0, none⟩), .pointer (some ⟨gw, 0, none⟩), .iface u pv, .bool true, undef], defers := [] } w
  clear hx hn hw
  go_wp2
  simp [bodyPostS, results, Try.results121, caught]
theorem catch_idle (gx gn gw : Nat) (w : World) :
    CallsD Try.prog 121 #[.pointer (some ⟨gx, 0, none⟩), .pointer (some ⟨gn, 0, none⟩), .pointer (some ⟨gw, 0, none⟩)] .returning w fun e u' w' => e = .returned (.tuple #[]) ∧ u' = .returning ∧ w' = w := by
  refine callsD_of_wpS Try.func121 rfl fun c₀ cs hu => ?_
  apply wpS_seq
  apply wpS_region
  simp [wpOpsS, go_sem, recoverD, hu, Try.ntmps121, Exit.thenS]
  refine wpS_cond (t := false) (by simp [Act.eval, Array.replicate]) ?_
  simp only [Bool.false_eq_true, if_false]
  refine wpS_of_wp (wp_skip ?_)
  cases c₀
  simp_all [bodyPostS, results, Try.results121]
/-- What Decode leaves. -/
def DecEnd (w : World) (o : Option (En × Nat)) (e : Ending) (w' : World) : Prop :=
  Below w.heap.size w w' ∧ match o with
    | some (E, n) => ∃ v, e = .returned (.tuple #[.agg (ecells E v).toArray, .int .i64 n, .int .i64 0]) ∧ Ew w' E v
    | none => e = .returned (.tuple #[.agg zE.toArray, .int .i64 0, .int .i64 4])
/-- The three results in memory, and the closure that was deferred. -/
structure Res (w wr : World) (gx gn gw : Nat) : Prop where
  x : Has wr gx 60 zE
  n : Has wr gn 3 [.int .i64 0]
  o : Has wr gw 36 [.int .i64 0]
  below : Below w.heap.size w wr
  ax : w.heap.size ≤ gx
  an : w.heap.size ≤ gn
  aw : w.heap.size ≤ gw
  xn : gx ≠ gn
  xw : gx ≠ gw
  nw : gn ≠ gw
theorem Res.under {w wr w2 : World} {gx gn gw : Nat} (h : Res w wr gx gn gw) (b : Below wr.heap.size wr w2) : Res w w2 gx gn gw :=
  ⟨h.x.under b h.x.lt, h.n.under b h.n.lt, h.o.under b h.o.lt, h.below.trans (b.mono h.below.size), h.ax, h.an, h.aw, h.xn, h.xw, h.nw⟩
theorem Res.but {w wr w2 : World} {g gx gn gw : Nat} (h : Res w wr gx gn gw) (k : wr.grownBy w2 (some g)) (hg : w.heap.size ≤ g) (h1 : gx ≠ g) (h2 : gn ≠ g) (h3 : gw ≠ g) : Res w w2 gx gn gw :=
  ⟨h.x.but k (fun e => h1 (by injection e)), h.n.but k (fun e => h2 (by injection e)), h.o.but k (fun e => h3 (by injection e)), h.below.grown k h.below.size (fun _ e => by cases e; exact hg), h.ax, h.an, h.aw, h.xn, h.xw, h.nw⟩
theorem ew_far {w : World} {E : En} {v : Value} (h : Ew w E v) (p : Addr) (u : Value) (hp : ∀ q, v.ownBlock = some q → q ≠ p.block) : Ew (w.setCell p u) E v := by
  obtain ⟨⟨A, cap, rfl, h1, h2, h3⟩, h4⟩ := h
  refine ⟨⟨A, cap, rfl, h1, h2, fun h0 => ?_⟩, h4⟩
  obtain ⟨b, off, rfl, hlt, hx⟩ := h3 h0
  have hne : b ≠ p.block := hp b rfl
  refine ⟨b, off, rfl, by simpa [World.setCell] using hlt, fun i x hi => ?_⟩
  obtain ⟨cs, hl, hq, hc⟩ := hx i x hi
  refine ⟨cs, hl, hq, fun j hj => ?_⟩
  rw [← hc j hj]
  unfold World.cell?
  rw [Below.heap_setCell w p u b hne]
theorem load_int {wr : World} {g : Nat} {n : Int} (h : wr.cell? ⟨g, 0, none⟩ = some (.int .i64 n)) : (loadVar 3 ⟨g, 0, none⟩).run Try.prog wr = .ok (.int .i64 n) wr := by
  simp [go_sem, h]
theorem load_errno {wr : World} {g : Nat} {n : Int} (h : wr.cell? ⟨g, 0, none⟩ = some (.int .i64 n)) : (loadVar 36 ⟨g, 0, none⟩).run Try.prog wr = .ok (.int .i64 n) wr := by
  simp [go_sem, h]
/-- It was given up: the closure left zeros, and ErrForm. -/
theorem caught_end {w wr : World} {gx gn gw : Nat} {s : List UInt8} {tmps : Array Value} (h2 : tmps.getD 2 undef = .pointer (some ⟨gx, 0, none⟩)) (h3 : tmps.getD 3 undef = .pointer (some ⟨gn, 0, none⟩)) (h4 : tmps.getD 4 undef = .pointer (some ⟨gw, 0, none⟩))
    (R : Res w wr gx gn gw) (ho : decS s = none) : Leaves Try.prog Try.f92 tmps (DecEnd w (decS s)) [] .returning (caught wr gx gn gw) := by
  have q1 : Has (caught wr gx gn gw) gx 60 zE := ((((R.x.put 0 (.int .u64 0)).put 1 (.int .u64 0)).put 2 (.slice none 0 0)).far (p := ⟨gn, 0, none⟩) R.xn _).far (p := ⟨gw, 0, none⟩) R.xw _
  have q2 : Has (caught wr gx gn gw) gn 3 [.int .i64 0] := ((((R.n.far (p := ⟨gx, 0, none⟩) (fun e => R.xn e.symm) (.int .u64 0)).far (p := ⟨gx, 1, none⟩) (fun e => R.xn e.symm) (.int .u64 0)).far (p := ⟨gx, 2, none⟩) (fun e => R.xn e.symm) (.slice none 0 0)).put 0 (.int .i64 0)).far (p := ⟨gw, 0, none⟩) R.nw _
  have q3 : Has (caught wr gx gn gw) gw 36 [.int .i64 4] := ((((R.o.far (p := ⟨gx, 0, none⟩) (fun e => R.xw e.symm) (.int .u64 0)).far (p := ⟨gx, 1, none⟩) (fun e => R.xw e.symm) (.int .u64 0)).far (p := ⟨gx, 2, none⟩) (fun e => R.xw e.symm) (.slice none 0 0)).far (p := ⟨gn, 0, none⟩) (fun e => R.nw e.symm) (.int .i64 0)).put 0 (.int .i64 4)
  refine ⟨_, results_three rfl _ _ gx 0 ⟨gn, 0, none⟩ ⟨gw, 0, none⟩ (.int .i64 0) (.int .i64 4) zE _ h2 (has_range q1) h3 h4 (load_int (q2.cell 0)) (load_errno (q3.cell 0)) Try.underlying60 rfl (by kernel_rfl), ?_⟩
  unfold DecEnd
  rw [ho]
  exact ⟨((((R.below.setCell R.ax _).setCell R.ax _).setCell R.ax _).setCell R.an _).setCell R.aw _, rfl⟩
set_option maxHeartbeats 4000000 in
theorem decode_walk (w : World) (s : List UInt8) (hs : s.length ≤ 1073741824) : Calls Try.prog 92 #[.string ⟨s.toArray⟩] w (DecEnd w (decS s)) := by
  have hmf : ∀ (fn : Fn) (first cap : Array Value) (w : World), (Instr.makeFunc fn first cap).run Try.prog w = .ok (.func fn first cap) w := fun _ _ _ _ => rfl
  obtain ⟨w0, hw0⟩ : ∃ w0, w0 = ((w.alloc (.cells zE.toArray 60)).alloc (.cells #[.int .i64 0] 3)).alloc (.cells #[.int .i64 0] 36) := ⟨_, rfl⟩
  obtain ⟨gx, egx⟩ : ∃ gx, gx = w.heap.size := ⟨_, rfl⟩
  obtain ⟨gn, egn⟩ : ∃ gn, gn = w.heap.size + 1 := ⟨_, rfl⟩
  obtain ⟨gw, egw⟩ : ∃ gw, gw = w.heap.size + 1 + 1 := ⟨_, rfl⟩
  have R0 : Res w w0 gx gn gw := by
    have q1 : Has (w.alloc (.cells zE.toArray 60)) w.heap.size 60 zE := heap_alloc_new _ _
    have q2 : Has ((w.alloc (.cells zE.toArray 60)).alloc (.cells #[.int .i64 0] 3)) (w.heap.size + 1) 3 [.int .i64 0] := by
      have := heap_alloc_new (w.alloc (.cells zE.toArray 60)) (.cells #[.int .i64 0] 3)
      rw [World.size_alloc] at this
      exact this
    have q3 : Has (((w.alloc (.cells zE.toArray 60)).alloc (.cells #[.int .i64 0] 3)).alloc (.cells #[.int .i64 0] 36)) (w.heap.size + 1 + 1) 36 [.int .i64 0] := by
      have := heap_alloc_new ((w.alloc (.cells zE.toArray 60)).alloc (.cells #[.int .i64 0] 3)) (.cells #[.int .i64 0] 36)
      rw [World.size_alloc, World.size_alloc] at this
      exact this
    subst hw0 egx egn egw
    exact ⟨(q1.grow _).grow _, q2.grow _, q3, (((Below.refl _ w).alloc (Nat.le_refl _) _).alloc (by simp [World.size_alloc]) _).alloc (by simp [World.size_alloc]; omega) _, Nat.le_refl _, Nat.le_succ _, by omega, by omega, by omega, by omega⟩
  have HR0 := Lib.hid R0
  have HNR := Lib.hid (newReader_walk s w0)
  rcases ht : textS s false with ⟨t, s1, b1⟩
  have T1 := Lib.hid (fun (w1 : World) (g : Nat) (h1 : Rd w1 g s false) => text_walk s false (by omega) g w1 h1)
  have l1 := (textS_le s false).2
  rw [ht] at T1 l1
  simp only at l1
  have HDE : Hid (decS s = if b1 = true then none else if isSealed t = false then none else match entS (opened t) with
      | none => none
      | some e => some (e, (textB t).length)) := Lib.hid (by unfold decS; simp only [ht]; rcases b1 with _ | _ <;> rcases isSealed t with _ | _ <;> rcases entS (opened t) with _ | _ <;> rfl)
  unfold zE at hw0
  clear R0 ht
  go_enter_defers Try.func92, Try.ntmps92
  go_wp2_with fail
  rw [← egw, ← egn, ← egx]
  try rw [← hw0]
  clear hw0 egx egn egw
  refine HNR.out.mono ?_
  rintro e w1 ⟨rfl, r1, b1'⟩
  obtain ⟨g, eg⟩ : ∃ g, g = w0.heap.size := ⟨_, rfl⟩
  rw [← eg] at r1 ⊢
  have HG : Hid (w.heap.size ≤ g ∧ gx ≠ g ∧ gn ≠ g ∧ gw ≠ g) := Lib.hid ⟨by rw [eg]; exact HR0.out.below.size, by rw [eg]; exact Nat.ne_of_lt HR0.out.x.lt, by rw [eg]; exact Nat.ne_of_lt HR0.out.n.lt, by rw [eg]; exact Nat.ne_of_lt HR0.out.o.lt⟩
  have HR1 := Lib.hid (HR0.out.under b1')
  clear b1' HR0 HNR eg
  go_wp2_with fail
  refine (T1.out w1 g r1).mono ?_
  rintro e w2 ⟨rfl, r2, k2⟩
  have HR2 := Lib.hid (HR1.out.but k2 HG.out.1 HG.out.2.1 HG.out.2.2.1 HG.out.2.2.2)
  clear k2 HR1 r1 T1
  have HOK := Lib.hid (ok_walk s1 b1 g w2 r2)
  cases b1 with
  | true =>
    have HON : Hid (decS s = none) := Lib.hid (by rw [HDE.out]; rfl)
    go_wp2_with (first | (go_at_call 123; refine HOK.out.mono ?_; rintro e w3 ⟨rfl, rfl⟩) | (go_at_call 122; refine (must_no _).mono ?_; rintro e w3 ⟨⟨pv, rfl⟩, rfl⟩))
    refine leaves_cons (f := 121) (args := #[.pointer (some ⟨gx, 0, none⟩), .pointer (some ⟨gn, 0, none⟩), .pointer (some ⟨gw, 0, none⟩)]) (by simp) (by simp [go_sem]) ?_
    refine (catch_panicking gx gn gw _ pv [] _ HR2.out.x HR2.out.n HR2.out.o HR2.out.xn HR2.out.xw HR2.out.nw).mono ?_
    rintro e u' w4 ⟨rfl, rfl, rfl⟩
    exact caught_end rfl rfl rfl HR2.out HON.out
  | false =>
    have HOP := Lib.hid (fun (wq : World) => open_walk t (by omega) wq)
    go_wp2_with (first | (go_at_call 123; refine HOK.out.mono ?_; rintro e w3 ⟨rfl, rfl⟩) | (go_at_call 122; refine (must_yes _).mono ?_; rintro e w3 ⟨rfl, rfl⟩))
    refine (HOP.out _).mono ?_
    rintro e w4 ⟨rfl, b4⟩
    have HR4 := Lib.hid (HR2.out.under b4)
    clear b4 HR2 HOP HOK r2
    cases hse : isSealed t with
    | false =>
      have HON : Hid (decS s = none) := Lib.hid (by rw [HDE.out, hse]; rfl)
      clear hse
      go_wp2_with (go_at_call 122; refine (must_no _).mono ?_; rintro e w5 ⟨⟨pv, rfl⟩, rfl⟩)
      refine leaves_cons (f := 121) (args := #[.pointer (some ⟨gx, 0, none⟩), .pointer (some ⟨gn, 0, none⟩), .pointer (some ⟨gw, 0, none⟩)]) (by simp) (by simp [go_sem]) ?_
      refine (catch_panicking gx gn gw _ pv [] _ HR4.out.x HR4.out.n HR4.out.o HR4.out.xn HR4.out.xw HR4.out.nw).mono ?_
      rintro e u' wz ⟨rfl, rfl, rfl⟩
      exact caught_end rfl rfl rfl HR4.out HON.out
    | true =>
      have hol : (opened t).length ≤ 140737488355328 := by
        have : opened t = t.take (t.length - 4) := by unfold opened; rw [hse]; rfl
        rw [this, List.length_take]
        omega
      have HRD := Lib.hid (fun (wq : World) => read_walk wq (opened t) hol)
      have HPT := Lib.hid (fun (wq : World) => putText_walk [] t (by simp) (by omega) wq)
      simp only [List.nil_append] at HPT
      have HDE2 : Hid (decS s = match entS (opened t) with
          | none => none
          | some e => some (e, (textB t).length)) := Lib.hid (by rw [HDE.out, hse]; rfl)
      have htl : (textB t).length ≤ 2147483648 := by
        have := numB_le t.length
        unfold textB
        rw [List.length_append]
        omega
      have hsz : (⟨(textB t).toArray⟩ : ByteArray).size = (textB t).length := rfl
      have HTL := Lib.hid htl
      clear hse hol HDE htl
      rcases ho : entS (opened t) with _ | E
      · rw [ho] at HRD
        have HON : Hid (decS s = none) := Lib.hid (by rw [HDE2.out, ho])
        clear ho HDE2
        go_wp2_with (first | (go_at_call 122; refine (must_yes _).mono ?_; rintro e w5 ⟨rfl, rfl⟩) | (go_at_call 125; refine (HRD.out _).mono ?_; rintro e w6 ⟨b6, ⟨pv, rfl⟩⟩))
        have HR6 := Lib.hid (HR4.out.under b6)
        refine leaves_cons (f := 121) (args := #[.pointer (some ⟨gx, 0, none⟩), .pointer (some ⟨gn, 0, none⟩), .pointer (some ⟨gw, 0, none⟩)]) (by simp) (by simp [go_sem]) ?_
        refine (catch_panicking gx gn gw _ pv [] _ HR6.out.x HR6.out.n HR6.out.o HR6.out.xn HR6.out.xw HR6.out.nw).mono ?_
        rintro e u' wz ⟨rfl, rfl, rfl⟩
        exact caught_end rfl rfl rfl HR6.out HON.out
      · rw [ho] at HRD
        have HON : Hid (decS s = some (E, (textB t).length)) := Lib.hid (by rw [HDE2.out, ho])
        clear ho HDE2
        go_wp2_with (first | (go_at_call 122; refine (must_yes _).mono ?_; rintro e w5 ⟨rfl, rfl⟩) | (go_at_call 125; refine (HRD.out _).mono ?_; rintro e w6 ⟨b6, v, rfl, hew, hfar⟩))
        refine (HPT.out _).mono ?_
        rintro e w7 ⟨rfl, b7⟩
        have HR7 := Lib.hid ((HR4.out.under b6).under b7)
        have HEW := Lib.hid (hew.under b7)
        have HF : Hid (∀ q, v.ownBlock = some q → q ≠ gx ∧ q ≠ gn ∧ q ≠ gw) := Lib.hid (fun q e => by
          have h := hfar q e
          exact ⟨fun e => by rw [e] at h; exact absurd HR4.out.x.lt (Nat.not_lt.2 h), fun e => by rw [e] at h; exact absurd HR4.out.n.lt (Nat.not_lt.2 h), fun e => by rw [e] at h; exact absurd HR4.out.o.lt (Nat.not_lt.2 h)⟩)
        obtain ⟨A, cap, hv, _⟩ := hew.1.form
        subst hv
        clear b6 b7 hew HR4 hfar
        have x0 : w7.cell? ⟨gx, 0, none⟩ = some (.int .u64 0) := HR7.out.x.cell 0
        have x1 : w7.cell? ⟨gx, 1, none⟩ = some (.int .u64 0) := HR7.out.x.cell 1
        have x2 : w7.cell? ⟨gx, 2, none⟩ = some (.slice none 0 0) := HR7.out.x.cell 2
        have x3 : w7.cell? ⟨gn, 0, none⟩ = some (.int .i64 0) := HR7.out.n.cell 0
        have x4 : w7.cell? ⟨gw, 0, none⟩ = some (.int .i64 0) := HR7.out.o.cell 0
        have f0 := HR7.out.x.free 0
        have f1 := HR7.out.x.free 1
        have f2 := HR7.out.x.free 2
        have f3 := HR7.out.n.free 0
        have f4 := HR7.out.o.free 0
        have n1 := HR7.out.xn
        have n2 := HR7.out.xw
        have n3 := HR7.out.nw
        unfold ecells
        go_wp2
        have q1 := Lib.hid (((((HR7.out.x.put 0 (.int .u64 E.ts)).put 1 (.int .u64 E.fst)).put 2 (.slice A E.ops.length cap)).far (p := ⟨gn, 0, none⟩) HR7.out.xn (.int .i64 (textB t).length)).far (p := ⟨gw, 0, none⟩) HR7.out.xw (.int .i64 0))
        have q2 := Lib.hid (((((HR7.out.n.far (p := ⟨gx, 0, none⟩) (fun e => HR7.out.xn e.symm) (.int .u64 E.ts)).far (p := ⟨gx, 1, none⟩) (fun e => HR7.out.xn e.symm) (.int .u64 E.fst)).far (p := ⟨gx, 2, none⟩) (fun e => HR7.out.xn e.symm) (.slice A E.ops.length cap)).put 0 (.int .i64 (textB t).length)).far (p := ⟨gw, 0, none⟩) HR7.out.nw (.int .i64 0))
        have q3 := Lib.hid (((((HR7.out.o.far (p := ⟨gx, 0, none⟩) (fun e => HR7.out.xw e.symm) (.int .u64 E.ts)).far (p := ⟨gx, 1, none⟩) (fun e => HR7.out.xw e.symm) (.int .u64 E.fst)).far (p := ⟨gx, 2, none⟩) (fun e => HR7.out.xw e.symm) (.slice A E.ops.length cap)).far (p := ⟨gn, 0, none⟩) (fun e => HR7.out.nw e.symm) (.int .i64 (textB t).length)).put 0 (.int .i64 0))
        have q4 : Hid (Ew (((((w7.setCell ⟨gx, 0, none⟩ (.int .u64 E.ts)).setCell ⟨gx, 1, none⟩ (.int .u64 E.fst)).setCell ⟨gx, 2, none⟩ (.slice A E.ops.length cap)).setCell ⟨gn, 0, none⟩ (.int .i64 (textB t).length)).setCell ⟨gw, 0, none⟩ (.int .i64 0)) E (.slice A E.ops.length cap)) := Lib.hid
          (ew_far (ew_far (ew_far (ew_far (ew_far HEW.out _ _ (fun q e => (HF.out q e).1)) _ _ (fun q e => (HF.out q e).1)) _ _ (fun q e => (HF.out q e).1)) _ _ (fun q e => (HF.out q e).2.1)) _ _ (fun q e => (HF.out q e).2.2))
        have q5 : Hid (Below w.heap.size w (((((w7.setCell ⟨gx, 0, none⟩ (.int .u64 E.ts)).setCell ⟨gx, 1, none⟩ (.int .u64 E.fst)).setCell ⟨gx, 2, none⟩ (.slice A E.ops.length cap)).setCell ⟨gn, 0, none⟩ (.int .i64 (textB t).length)).setCell ⟨gw, 0, none⟩ (.int .i64 0))) := Lib.hid
          (((((HR7.out.below.setCell HR7.out.ax _).setCell HR7.out.ax _).setCell HR7.out.ax _).setCell HR7.out.an _).setCell HR7.out.aw _)
        refine leaves_cons (f := 121) (args := #[.pointer (some ⟨gx, 0, none⟩), .pointer (some ⟨gn, 0, none⟩), .pointer (some ⟨gw, 0, none⟩)]) (by simp) (by simp [go_sem]) ?_
        refine (catch_idle gx gn gw _).mono ?_
        rintro e u' wz ⟨rfl, rfl, rfl⟩
        refine ⟨_, results_three rfl _ _ gx 0 ⟨gn, 0, none⟩ ⟨gw, 0, none⟩ (.int .i64 (textB t).length) (.int .i64 0) (ecells E (.slice A E.ops.length cap)) _ rfl (has_range q1.out) rfl rfl (load_int (q2.out.cell 0)) (load_errno (q3.out.cell 0)) Try.underlying60 rfl (by kernel_rfl), ?_⟩
        unfold DecEnd
        rw [HON.out]
        exact ⟨q5.out, _, rfl, q4.out⟩
end LD
end Go.Proofs.Ytkhdidhpcdlmcaa
