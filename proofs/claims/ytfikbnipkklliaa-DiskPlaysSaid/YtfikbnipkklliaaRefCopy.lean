/- The document's disk: Copy. -/
import Derived.Test.YtfikbnipkklliaaRefMany
namespace Go.Proofs.Ytfikbnipkklliaa
open Go.RowKit Go.Lib MM MS MF DM DK DN FL DW DF DU MY DP RM RD RW RI
namespace RC
/-- 'append(s, x...)' of an x that has nothing. -/
theorem wpList_append_zero {P : Program} {w : World} {ops : Array Oper} {rest : List Oper} {o : Oper} {a : Act} {Q : Exit → Act → World → Prop} (hgd : o.guard = none) (s x : Operand) (t e : TypeId) (size : Nat)
    (ho : o.op = .call { callee := .builtin .append, args := #[s, x], argTypes := #[t, t] }) (ht : P.underlying t = some (.slice e)) (hi : (P.info? e).map (·.size) = some size) (A A' : Option Addr) (m c : Nat) (hs : a.eval s = .slice A 0 0) (hx : a.eval x = .slice A' m c) (hm : m = 0)
    (h : wpList P ops Q rest (a.put o.dst (.slice A 0 0)) w) : wpList P ops Q (o :: rest) a w := by
  subst hm
  refine wpList_plain hgd fun K hK => ?_
  cases hq : P.info? e with
  | none => simp [hq] at hi
  | some i =>
    have hrun : (Builtin.append_ #[t, t] o.type #[.slice A 0 0, .slice A' 0 c]).run P w = .ok (.slice A 0 0) w := by
      have hl : ∀ (y : Addr), (loadCells y 0).run P w = .ok #[] w := fun y => by simpa using run_loadCells_list (P := P) w y [] (by simp)
      cases A <;> cases A' <;> simp [Builtin.append_, run_underlying ht, Builtin.lenOf, Builtin.firstCells, sizeOf, typeInfo, hq, storeCells, hl, Result.andThen]
    unfold Oper.wp
    simp [execOp, ho, resolve, invoke, builtin, hs, hx, hrun, Result.andThen]
    exact hK _ _ h
theorem owns_none {w : World} {B g : Nat} {e : TypeId} {size : Nat} (h : w.heap[g]? = some (.cells #[] e (0, 0))) (hB : B ≤ g) : w.ownsRow B e size (.slice (some ⟨g, 0, none⟩) 0 0) 0 [] :=
  ⟨by simp, .inr ⟨g, 0, #[], rfl, hB, h, Nat.le_refl _, by unfold maxLen; omega, by simp, by simp⟩⟩
theorem ucells_one (u : List (Nat × List UInt8)) : ∀ v ∈ ucells u, v.oneCell' = true := by
  intro v hv
  unfold ucells at hv
  rw [List.mem_flatten] at hv
  obtain ⟨c, hc, hv⟩ := hv
  obtain ⟨x, _, rfl⟩ := List.mem_map.1 hc
  simp at hv
  rcases hv with rfl | rfl <;> rfl
set_option maxRecDepth 100000 in
set_option maxHeartbeats 4000000 in
theorem rcopy_walk (w : World) (B g : Nat) (S : St) (fs : List Nat) (h : Rf B g S w fs) : Calls Try.prog 8 #[.pointer (some ⟨g, 0, none⟩)] w fun e w' => ∃ g2 fs2, e = .returned (.pointer (some ⟨g2, 0, none⟩)) ∧ Rf w.heap.size g2 S w' fs2 ∧ Below w.heap.size w w' := by
  obtain ⟨n, cf, cw, bf, Aw, ok, few, pos, hn, hn4, hL, hBg, hBf, hbg, nu, nb, hfs, hW⟩ := rf_open h
  subst hn
  have a0 : w.cell? ⟨g, 0, none⟩ = some _ := hL.1.cell 0
  have a1 : w.cell? ⟨g, 1, none⟩ = some _ := hL.1.cell 1
  have a2 : w.cell? ⟨g, 2, none⟩ = some _ := hL.1.cell 2
  have a3 : w.cell? ⟨g, 3, none⟩ = some _ := hL.1.cell 3
  have hgl := hL.1.lt
  have hbl : bf < w.heap.size := (hL.2.1.lt bf rfl).2
  have hfc : ∀ j u, (S.fl.map str)[j]? = some u → w.cell? ⟨bf, j, none⟩ = some u := by
    intro j u hj
    have hjl : j < S.fl.length := by have := (List.getElem?_eq_some_iff.1 hj).1; simpa using this
    rw [hL.2.1.cellAt j (by omega)]
    exact hj
  have hwc : ∀ bw, Aw = some ⟨bw, 0, none⟩ → 0 < S.un.length → (∀ j u, (ucells S.un)[j]? = some u → w.cell? ⟨bw, j, none⟩ = some u) ∧ bw < w.heap.size := by
    intro bw e h0
    have hu := hL.2.2.1
    rw [e] at hu
    refine ⟨fun j u hj => ?_, (hu.lt bw rfl).2⟩
    have hjl : j < S.un.length * 2 := by have := (List.getElem?_eq_some_iff.1 hj).1; rw [ucells_length] at this; omega
    rw [hu.cellAt j hjl]
    exact hj
  have hAw : 0 < S.un.length → ∃ bw, Aw = some ⟨bw, 0, none⟩ := by
    intro h0
    obtain ⟨x, hx⟩ : ∃ x, S.un[0]? = some x := ⟨_, List.getElem?_eq_getElem h0⟩
    obtain ⟨bw, e, _⟩ := hW w _ 0 x hL hx
    exact ⟨bw, e⟩
  obtain ⟨i0, hi0, hz0, hs0, hb0⟩ := info_parts stringInfo
  obtain ⟨i1, hi1, hz1, hs1, hb1⟩ := info_parts RD.writeInfo
  have HI := Lib.hid hi0
  have HZ0 := Lib.hid hz0
  have HS0 := Lib.hid hs0
  have HB0 := Lib.hid hb0
  have HI1 := Lib.hid hi1
  have HZ1 := Lib.hid hz1
  have HS1 := Lib.hid hs1
  have HB1 := Lib.hid hb1
  have hsw : (Try.prog.info? 70).map (·.size) = some 2 := by kernel_rfl
  have HSW := Lib.hid hsw
  clear hi0 hz0 hs0 hb0 hi1 hz1 hs1 hb1 hsw
  obtain ⟨hd, hhd⟩ : ∃ hd : List Value, hd = [.slice (some ⟨bf, 0, none⟩) S.fl.length cf, .slice Aw S.un.length cw, .bool S.on, .int .i64 S.fuse] := ⟨_, rfl⟩
  have hg2 : Has ((w.alloc (.cells #[.slice (some ⟨bf, 0, none⟩) S.fl.length cf, .slice Aw S.un.length cw, .bool S.on, .int .i64 S.fuse] 56)).alloc (.cells #[] 9)) w.heap.size 56 [.slice (some ⟨bf, 0, none⟩) S.fl.length cf, .slice Aw S.un.length cw, .bool S.on, .int .i64 S.fuse] := Has.grow (heap_alloc_new w _) _
  have he1 : ((w.alloc (.cells #[.slice (some ⟨bf, 0, none⟩) S.fl.length cf, .slice Aw S.un.length cw, .bool S.on, .int .i64 S.fuse] 56)).alloc (.cells #[] 9)).heap[w.heap.size + 1]? = some (.cells #[] 9 (0, 0)) := by
    rw [show w.heap.size + 1 = (w.alloc (.cells #[.slice (some ⟨bf, 0, none⟩) S.fl.length cf, .slice Aw S.un.length cw, .bool S.on, .int .i64 S.fuse] 56)).heap.size by simp]
    exact heap_alloc_new _ _
  have hbz : Below w.heap.size w ((w.alloc (.cells #[.slice (some ⟨bf, 0, none⟩) S.fl.length cf, .slice Aw S.un.length cw, .bool S.on, .int .i64 S.fuse] 56)).alloc (.cells #[] 9)) := ((Below.refl _ _).alloc (Nat.le_refl _) _).alloc (by simp) _
  have hsz : ((w.alloc (.cells #[.slice (some ⟨bf, 0, none⟩) S.fl.length cf, .slice Aw S.un.length cw, .bool S.on, .int .i64 S.fuse] 56)).alloc (.cells #[] 9)).heap.size = w.heap.size + 2 := by simp
  generalize hwz : (w.alloc (.cells #[.slice (some ⟨bf, 0, none⟩) S.fl.length cf, .slice Aw S.un.length cw, .bool S.on, .int .i64 S.fuse] 56)).alloc (.cells #[] 9) = wz at *
  have HWZ := Lib.hid hwz
  have z0 := (hbz.cell (p := ⟨g, 0, none⟩) hgl).trans a0
  have hown0 : wz.ownsRow w.heap.size 9 1 (.slice (some ⟨w.heap.size + 1, 0, none⟩) 0 0) 0 [] := owns_none he1 (by omega)
  have hnews : ∀ j u, (S.fl.map str)[j]? = some u → wz.cell? ((⟨bf, 0, none⟩ : Addr).add j) = some u := by
    intro j u hj
    rw [Addr.add_mid, Nat.zero_add]
    exact (hbz.cell (p := ⟨bf, j, none⟩) hbl).trans (hfc j u hj)
  have hone : ∀ u ∈ S.fl.map str, u.oneCell' = true := by intro u hu; obtain ⟨x, _, rfl⟩ := List.mem_map.1 hu; rfl
  have hol : (S.fl.map str).length = S.fl.length * 1 := by simp
  have HNW := Lib.hid hnews
  have HONE := Lib.hid hone
  have HOL := Lib.hid hol
  have HOWN := Lib.hid hown0
  have HFC := Lib.hid hfc
  have HWC := Lib.hid hwc
  have HAW := Lib.hid hAw
  clear hnews hone hol hown0 hfc hwc hAw h hL hW hfs hwz hhd
  rw [← HWZ.out] at z0
  by_cases h0 : S.un.length = 0
  · have HUN := Lib.hid (List.length_eq_zero_iff.1 h0)
    have H0 := Lib.hid h0
    clear h0
    go_enter Try.func8, Try.ntmps8
    go_wp2_with (first
      | (at_builtin
         refine wpList_append_lies _ rfl (.tmp 7) (.tmp 11) _ rfl w.heap.size 9 i0 _ 1 16 Try.underlying37 HI.out HZ0.out HS0.out HB0.out (by simp [Value.cells]) (by omega) (.slice (some ⟨w.heap.size + 1, 0, none⟩) 0 0) 0 [] rfl (by have := HOWN.out; rw [← HWZ.out] at this; exact this) ⟨bf, 0, none⟩ S.fl.length cf (S.fl.map str) rfl HOL.out (by have := HNW.out; rw [← HWZ.out] at this; exact this) HONE.out (by omega) (by unfold maxLen; omega) (by omega) (by simp; omega) (w.heap.size + 2) (by simp) ?_
         intro gu cu w2 hown2 hgrow hat hlt2
         rw [HWZ.out] at hgrow
         rw [Nat.zero_add, List.nil_append] at hown2
         have frg := Fr.of_grown hgrow (fs := [w.heap.size + 1]) (by simp [Value.ownBlock])
         have hg3 : Has w2 w.heap.size 56 _ := frg.has hg2 (by simp)
         have q0 := hg3.cell 0
         have q0f := hg3.free 0
         have hgu : gu = w.heap.size + 1 ∨ gu = w.heap.size + 2 := by
           rcases hat with h | h
           · left; simp [Value.ownBlock] at h; omega
           · right; exact h
         have hb2 : Below w.heap.size w w2 := hbz.trans (frg.below (B := w.heap.size) (by simp) hbz.size)
         have hb3 : Below w.heap.size w (w2.setCell ⟨w.heap.size, 0, none⟩ (.slice (some ⟨gu, 0, none⟩) S.fl.length cu)) := hb2.setCell (Nat.le_refl _) _
         have hb4 : Below w.heap.size w ((w2.setCell ⟨w.heap.size, 0, none⟩ (.slice (some ⟨gu, 0, none⟩) S.fl.length cu)).alloc (.cells #[] 70)) := hb3.alloc hb3.size _
         have z1 := (hb4.cell (p := ⟨g, 1, none⟩) hgl).trans a1
         have hg4 : Has ((w2.setCell ⟨w.heap.size, 0, none⟩ (.slice (some ⟨gu, 0, none⟩) S.fl.length cu)).alloc (.cells #[] 70)) w.heap.size 56 _ := (hg3.put 0 (.slice (some ⟨gu, 0, none⟩) S.fl.length cu)).grow _
         have q1 := hg4.cell 1
         have q1f := hg4.free 1
         have ho4 := (((Fr.refl w2 [w.heap.size]).setCell (p := ⟨w.heap.size, 0, none⟩) (by simp) (.slice (some ⟨gu, 0, none⟩) S.fl.length cu)).owns hown2 (by simp [Value.ownBlock]; omega)).alloc (.cells #[] 70)
         have he4 : ((w2.setCell ⟨w.heap.size, 0, none⟩ (.slice (some ⟨gu, 0, none⟩) S.fl.length cu)).alloc (.cells #[] 70)).heap[w2.heap.size]? = some (.cells #[] 70 (0, 0)) := by
           rw [show w2.heap.size = (w2.setCell ⟨w.heap.size, 0, none⟩ (.slice (some ⟨gu, 0, none⟩) S.fl.length cu)).heap.size by simp [World.setCell]]
           exact heap_alloc_new _ _
         have hs4 : ((w2.setCell ⟨w.heap.size, 0, none⟩ (.slice (some ⟨gu, 0, none⟩) S.fl.length cu)).alloc (.cells #[] 70)).heap.size = w2.heap.size + 1 := by simp [World.setCell]
         have hw2 : w.heap.size + 2 ≤ w2.heap.size := by have := frg.size; omega
         have ho5 := owns_none (e := 70) (size := 2) he4 (show w.heap.size ≤ w2.heap.size by omega)
         obtain ⟨w4, hw4⟩ : ∃ w4 : World, w4 = ((w2.setCell ⟨w.heap.size, 0, none⟩ (.slice (some ⟨gu, 0, none⟩) S.fl.length cu)).alloc (.cells #[] 70)) := ⟨_, rfl⟩)
      | (refine wpList_append_zero rfl (.tmp 14) (.tmp 18) _ 70 2 rfl Try.underlying54 HSW.out (some ⟨w2.heap.size, 0, none⟩) Aw S.un.length cw rfl rfl H0.out ?_))
    have hg6 := hg4.put 1 (.slice (some ⟨w2.heap.size, 0, none⟩) 0 0)
    have fr6 : Fr ((w2.setCell ⟨w.heap.size, 0, none⟩ (.slice (some ⟨gu, 0, none⟩) S.fl.length cu)).alloc (.cells #[] 70)) (((w2.setCell ⟨w.heap.size, 0, none⟩ (.slice (some ⟨gu, 0, none⟩) S.fl.length cu)).alloc (.cells #[] 70)).setCell ⟨w.heap.size, 1, none⟩ (.slice (some ⟨w2.heap.size, 0, none⟩) 0 0)) [w.heap.size] := (Fr.refl _ _).setCell (by simp) _
    have ho6 := fr6.owns ho4 (by simp [Value.ownBlock]; omega)
    have ho7 := fr6.owns ho5 (by simp [Value.ownBlock]; omega)
    have hb6 := hb4.trans (fr6.below (B := w.heap.size) (by simp) hb4.size)
    go_ret
    exact ⟨w.heap.size, _, rfl, ⟨.slice (some ⟨gu, 0, none⟩) S.fl.length cu, .slice (some ⟨w2.heap.size, 0, none⟩) 0 0, ok, few, pos, hg6, ho6, by rw [HUN.out]; exact ho7, Nat.le_refl _, rfl⟩, hb6⟩
  · obtain ⟨bw, rfl⟩ := HAW.out (by omega)
    obtain ⟨hwc2, hbwl⟩ := HWC.out bw rfl (by omega)
    go_enter Try.func8, Try.ntmps8
    go_wp2_with (first
      | (at_builtin
         refine wpList_append_lies _ rfl (.tmp 7) (.tmp 11) _ rfl w.heap.size 9 i0 _ 1 16 Try.underlying37 HI.out HZ0.out HS0.out HB0.out (by simp [Value.cells]) (by omega) (.slice (some ⟨w.heap.size + 1, 0, none⟩) 0 0) 0 [] rfl (by have := HOWN.out; rw [← HWZ.out] at this; exact this) ⟨bf, 0, none⟩ S.fl.length cf (S.fl.map str) rfl HOL.out (by have := HNW.out; rw [← HWZ.out] at this; exact this) HONE.out (by omega) (by unfold maxLen; omega) (by omega) (by simp; omega) (w.heap.size + 2) (by simp) ?_
         intro gu cu w2 hown2 hgrow hat hlt2
         rw [HWZ.out] at hgrow
         rw [Nat.zero_add, List.nil_append] at hown2
         have frg := Fr.of_grown hgrow (fs := [w.heap.size + 1]) (by simp [Value.ownBlock])
         have hg3 : Has w2 w.heap.size 56 _ := frg.has hg2 (by simp)
         have q0 := hg3.cell 0
         have q0f := hg3.free 0
         have hgu : gu = w.heap.size + 1 ∨ gu = w.heap.size + 2 := by
           rcases hat with h | h
           · left; simp [Value.ownBlock] at h; omega
           · right; exact h
         have hb2 : Below w.heap.size w w2 := hbz.trans (frg.below (B := w.heap.size) (by simp) hbz.size)
         have hb3 : Below w.heap.size w (w2.setCell ⟨w.heap.size, 0, none⟩ (.slice (some ⟨gu, 0, none⟩) S.fl.length cu)) := hb2.setCell (Nat.le_refl _) _
         have hb4 : Below w.heap.size w ((w2.setCell ⟨w.heap.size, 0, none⟩ (.slice (some ⟨gu, 0, none⟩) S.fl.length cu)).alloc (.cells #[] 70)) := hb3.alloc hb3.size _
         have z1 := (hb4.cell (p := ⟨g, 1, none⟩) hgl).trans a1
         have hg4 : Has ((w2.setCell ⟨w.heap.size, 0, none⟩ (.slice (some ⟨gu, 0, none⟩) S.fl.length cu)).alloc (.cells #[] 70)) w.heap.size 56 _ := (hg3.put 0 (.slice (some ⟨gu, 0, none⟩) S.fl.length cu)).grow _
         have q1 := hg4.cell 1
         have q1f := hg4.free 1
         have ho4 := (((Fr.refl w2 [w.heap.size]).setCell (p := ⟨w.heap.size, 0, none⟩) (by simp) (.slice (some ⟨gu, 0, none⟩) S.fl.length cu)).owns hown2 (by simp [Value.ownBlock]; omega)).alloc (.cells #[] 70)
         have he4 : ((w2.setCell ⟨w.heap.size, 0, none⟩ (.slice (some ⟨gu, 0, none⟩) S.fl.length cu)).alloc (.cells #[] 70)).heap[w2.heap.size]? = some (.cells #[] 70 (0, 0)) := by
           rw [show w2.heap.size = (w2.setCell ⟨w.heap.size, 0, none⟩ (.slice (some ⟨gu, 0, none⟩) S.fl.length cu)).heap.size by simp [World.setCell]]
           exact heap_alloc_new _ _
         have hs4 : ((w2.setCell ⟨w.heap.size, 0, none⟩ (.slice (some ⟨gu, 0, none⟩) S.fl.length cu)).alloc (.cells #[] 70)).heap.size = w2.heap.size + 1 := by simp [World.setCell]
         have hw2 : w.heap.size + 2 ≤ w2.heap.size := by have := frg.size; omega
         have ho5 := owns_none (e := 70) (size := 2) he4 (show w.heap.size ≤ w2.heap.size by omega)
         obtain ⟨w4, hw4⟩ : ∃ w4 : World, w4 = ((w2.setCell ⟨w.heap.size, 0, none⟩ (.slice (some ⟨gu, 0, none⟩) S.fl.length cu)).alloc (.cells #[] 70)) := ⟨_, rfl⟩)
      | (at_builtin
         refine wpList_append_lies _ rfl (.tmp 14) (.tmp 18) _ rfl w.heap.size 70 i1 _ 2 24 Try.underlying54 HI1.out HZ1.out HS1.out HB1.out (by simp [Value.cells]) (by omega) (.slice (some ⟨w2.heap.size, 0, none⟩) 0 0) 0 [] rfl ho5 ⟨bw, 0, none⟩ S.un.length cw (ucells S.un) rfl (by rw [ucells_length] <;> omega) (by intro j u hj; rw [Addr.add_mid, Nat.zero_add]; exact (hb4.cell (p := ⟨bw, j, none⟩) hbwl).trans (hwc2 j u hj)) (ucells_one S.un) (by omega) (by unfold maxLen; omega) (by omega) (by rw [hs4]; omega) (w2.heap.size + 1) hs4 ?_
         intro gv cv w5 hown5 hgrow5 hat5 hlt5
         rw [Nat.zero_add, List.nil_append] at hown5
         have frg5 := Fr.of_grown hgrow5 (fs := [w2.heap.size]) (by simp [Value.ownBlock])
         have hg5 : Has w5 w.heap.size 56 _ := frg5.has hg4 (by simp <;> omega)
         have q5 := hg5.cell 1
         have q5f := hg5.free 1
         have hgv : gv = w2.heap.size ∨ gv = w2.heap.size + 1 := by
           rcases hat5 with h | h
           · left; simp [Value.ownBlock] at h; omega
           · right; exact h))
    have hg6 := hg5.put 1 (.slice (some ⟨gv, 0, none⟩) S.un.length cv)
    have fr6 : Fr w5 (w5.setCell ⟨w.heap.size, 1, none⟩ (.slice (some ⟨gv, 0, none⟩) S.un.length cv)) [w.heap.size] := (Fr.refl _ _).setCell (by simp) _
    have ho6 := fr6.owns (frg5.owns ho4 (by simp [Value.ownBlock]; omega)) (by simp [Value.ownBlock]; omega)
    have ho7 := fr6.owns hown5 (by simp [Value.ownBlock]; omega)
    have hb6 := (hb4.trans (frg5.below (B := w.heap.size) (by simp; omega) hb4.size)).trans (fr6.below (B := w.heap.size) (by simp) (by have := hb4.size; have := frg5.size; omega))
    go_ret
    exact ⟨w.heap.size, _, rfl, ⟨.slice (some ⟨gu, 0, none⟩) S.fl.length cu, .slice (some ⟨gv, 0, none⟩) S.un.length cv, ok, few, pos, hg6, ho6, ho7, Nat.le_refl _, rfl⟩, hb6⟩
section
variable {w0 w : World} {g : Nat} {S : St} {Ps : List (World → List Nat → Prop)}
theorem ri_copy (h : All w0 w (Rf w0.heap.size g S :: Ps)) : Calls Try.prog 8 #[.pointer (some ⟨g, 0, none⟩)] w fun e w' => ∃ g2, e = .returned (.pointer (some ⟨g2, 0, none⟩)) ∧ All w0 w' (Rf w0.heap.size g2 S :: Rf w0.heap.size g S :: Ps) := by
  obtain ⟨f, d, _⟩ := h.opened
  refine (rcopy_walk w _ g S f d).mono ?_
  rintro e w' ⟨g2, fs2, rfl, d2, b⟩
  exact ⟨g2, rfl, h.made b (f := fs2) (rf_kp _ _ _) (rf_rebase d2 h.under.size) (fun x hx => ((rf_kp _ _ _).1 _ _ d2 x hx).1)⟩
end
end RC
end Go.Proofs.Ytfikbnipkklliaa
