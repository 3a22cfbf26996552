/- Whatever is done to a disk, wherever its power goes, it answers, and has then, what the document says; a copy goes its own way: of all acts. No condition. -/
import Derived.Test.YtfikbnipkklliaaRefCopy
import Derived.Test.YtfikbnipkklliaaDiskMany
import Derived.Test.YtfikbnipkklliaaBlocks
import Derived.Test.YtfikbnipkklliaaDeep
import Derived.Test.YtfikbnipkklliaaLawKit
import Derived.Deep.RegionHeld
namespace Go.Proofs.Ytfikbnipkklliaa
open Go.ChangeShapes Go.WideShapes Go.ChangeAt Go.RowKit Go.Lib MM MS MF DM DK DN FL DW DF DU MY DP LK RM RD RW RI RC BL DE
namespace DiskPlays
/-! ### Acts -/
structure Ac where
  what : Int
  n : Int
  letter : UInt8
  short : Bool
  fates : List UInt8
instance : Inhabited Ac := ⟨⟨0, 0, 0, false, []⟩⟩
def acells (x : Ac) (vf : Value) : List Value := [.int .i64 x.what, .int .i64 x.n, .int .u8 x.letter.toNat, .bool x.short, vf]
def QA (w : World) (x : Ac) (cs : List Value) : Prop := (-9223372036854775808 ≤ x.n ∧ x.n ≤ 9223372036854775807) ∧ ∃ vf, cs = acells x vf ∧ Src w vf x.fates
section
variable {H : Type} {enc : TypeId × Value → H} {w : World} {base : Nat} {held : Bool}
theorem trod_struct5 {t : TypeId} {f0 f1 f2 f3 f4 : Field} {spare : Nat → Bool} {fuel : Nat} {cs : List Value} {x : DataW H × List MemPlace} (ht : Try.prog.underlying t = some (.struct #[f0, f1, f2, f3, f4])) (h : DataW.trod enc Try.prog w base spare held fuel t cs = some x) :
    ∃ y0 y1 y2 y3 y4 n, DataW.trod enc Try.prog w base spare held n f0.type ((cs.drop f0.offset).take (Try.prog.cellsOf f0.type)) = some y0 ∧ DataW.trod enc Try.prog w base spare held n f1.type ((cs.drop f1.offset).take (Try.prog.cellsOf f1.type)) = some y1 ∧
      DataW.trod enc Try.prog w base spare held n f2.type ((cs.drop f2.offset).take (Try.prog.cellsOf f2.type)) = some y2 ∧ DataW.trod enc Try.prog w base spare held n f3.type ((cs.drop f3.offset).take (Try.prog.cellsOf f3.type)) = some y3 ∧ DataW.trod enc Try.prog w base spare held n f4.type ((cs.drop f4.offset).take (Try.prog.cellsOf f4.type)) = some y4 := by
  obtain ⟨xs, n, _, rfl, hl, hlen, hf⟩ := DataW.trod_struct ht h
  match xs, hlen with
  | [y0, y1, y2, y3, y4], _ => exact ⟨y0, y1, y2, y3, y4, n, by simpa using hf 0 f0 rfl, by simpa using hf 1 f1 rfl, by simpa using hf 2 f2 rfl, by simpa using hf 3 f3 rfl, by simpa using hf 4 f4 rfl⟩
set_option maxRecDepth 100000 in
theorem open_act {fuel : Nat} {cs : List Value} {x : DataW H × List MemPlace} (h : DataW.trod enc Try.prog w base (fun _ => true) held fuel 32 cs = some x) (hl : cs.length = 5) : ∃ y : Ac, QA w y cs := by
  obtain ⟨y0, y1, y2, y3, y4, n, h0, h1, h2, h3, h4⟩ := trod_struct5 Try.underlying32 h
  match cs, hl with
  | [c0, c1, c2, c3, c4], _ =>
    have k0 : Try.prog.cellsOf 3 = 1 := by kernel_rfl
    have k1 : Try.prog.cellsOf 5 = 1 := by kernel_rfl
    have k2 : Try.prog.cellsOf 4 = 1 := by kernel_rfl
    have k3 : Try.prog.cellsOf 30 = 1 := by kernel_rfl
    simp only [k0, k1, k2, k3, List.drop_zero, List.drop_succ_cons, List.take_succ_cons, List.take_zero] at h0 h1 h2 h3 h4
    obtain ⟨m0, e0, _, hm0⟩ := DataW.trod_int Try.underlying3 h0
    obtain ⟨m1, e1, _, hm1⟩ := DataW.trod_int Try.underlying3 h1
    obtain ⟨m2, e2, _, hm2⟩ := DataW.trod_int Try.underlying5 h2
    obtain ⟨b3, e3, _⟩ := DataW.trod_bool Try.underlying4 h3
    obtain ⟨l4, v4, e4, q4⟩ := open_bytes' h4
    simp only [List.cons.injEq, and_true] at e0 e1 e2 e3 e4
    subst e0 e1 e2 e3 e4
    exact ⟨⟨m0, m1, UInt8.ofNat m2.toNat, b3, l4⟩, by simpa [Lit.wf, IntKind.min, IntKind.max, IntKind.signed, IntKind.bits] using hm1, _, by unfold acells; rw [show ((UInt8.ofNat m2.toNat).toNat : Int) = m2 from byte_of hm2], q4⟩
theorem open_acts {v : Value} {d : DataW H} {ps : List MemPlace} (h : DataW.Trod enc Try.prog w 0 (fun _ => true) true 22 v d ps) {A : Option Addr} {len cap : Nat} (hv : v = .slice A len cap) : ∃ l : List Ac, Lst w 5 QA v l := by
  subst hv
  obtain ⟨fuel, hf⟩ := h
  obtain ⟨v', l, e, q⟩ := open_list 5 (by omega) QA Try.underlying22 (by kernel_rfl) (fun fuel cs x hx hl => open_act hx hl) hf
  simp [Value.cells] at e
  subst e
  exact ⟨l, q⟩
end
/-! ### What an act makes of a disk -/
def actS (S : St) (x : Ac) : St :=
  if x.what = 0 ∨ x.what = 1 ∨ x.what = 2 then writeS S x.n (DL.sectS x.letter x.short) else if x.what = 3 then flushS S else if x.what = 4 then { S with fuse := x.n.toNat } else if x.what = 5 then { S with on := false, fuse := 0 } else if x.what = 6 then wakeS S (x.fates.take (min x.fates.length 80)) else S
theorem opS_un' (S : St) : (opS S).un = S.un := opS_un S
theorem writeS_un (S : St) (i : Int) (l : List UInt8) : (writeS S i l).un.length ≤ S.un.length + 1 := by
  unfold writeS
  split
  · omega
  · split
    · omega
    · split
      · show (S.un ++ _).length ≤ _
        simp
      · rw [opS_un]; omega
theorem flushS_un (S : St) : (flushS S).un.length ≤ S.un.length := by
  unfold flushS
  split
  · split
    · simp
    · rw [opS_un]; omega
  · omega
theorem wakeS_un (S : St) (cs : List UInt8) : (wakeS S cs).un.length ≤ S.un.length := by
  unfold wakeS
  split
  · omega
  · simp
theorem actS_un (S : St) (x : Ac) : (actS S x).un.length ≤ S.un.length + 1 := by
  have h1 := writeS_un S x.n (DL.sectS x.letter x.short)
  have h2 := flushS_un S
  have h3 := wakeS_un S (x.fates.take (min x.fates.length 80))
  unfold actS
  split
  · exact h1
  · split
    · omega
    · split
      · exact Nat.le_succ _
      · split
        · exact Nat.le_succ _
        · split
          · omega
          · omega
theorem act_write {S : St} {x : Ac} (h : x.what = 0 ∨ x.what = 1 ∨ x.what = 2) : actS S x = writeS S x.n (DL.sectS x.letter x.short) := by unfold actS; rw [if_pos h]
theorem act_flush {S : St} {x : Ac} (h : x.what = 3) : actS S x = flushS S := by unfold actS; rw [if_neg (by omega), if_pos h]
theorem act_arm {S : St} {x : Ac} (h : x.what = 4) : actS S x = { S with fuse := x.n.toNat } := by unfold actS; rw [if_neg (by omega), if_neg (by omega), if_pos h]
theorem act_off {S : St} {x : Ac} (h : x.what = 5) : actS S x = { S with on := false, fuse := 0 } := by unfold actS; rw [if_neg (by omega), if_neg (by omega), if_neg (by omega), if_pos h]
theorem act_wake {S : St} {x : Ac} (h : x.what = 6) : actS S x = wakeS S (x.fates.take (min x.fates.length 80)) := by unfold actS; rw [if_neg (by omega), if_neg (by omega), if_neg (by omega), if_neg (by omega), if_pos h]
theorem act_none {S : St} {x : Ac} (h : x.what ≠ 0 ∧ x.what ≠ 1 ∧ x.what ≠ 2 ∧ x.what ≠ 3 ∧ x.what ≠ 4 ∧ x.what ≠ 5 ∧ x.what ≠ 6) : actS S x = S := by unfold actS; rw [if_neg (by omega), if_neg (by omega), if_neg (by omega), if_neg (by omega), if_neg (by omega)]
/-! ### same -/
section
variable {w0 w : World} {g r : Nat} {S : St} {Ps : List (World → List Nat → Prop)}
theorem rread_same (hA : All w0 w (Di w0.heap.size g S :: Rf w0.heap.size r S :: Ps)) (i : Nat) : (Calls Try.prog 18 #[.pointer (some ⟨g, 0, none⟩), .int .i64 i] w fun e w' => e = .returned (.tuple #[.string ⟨(readT S i).toArray⟩, .int .i64 (refuse S i)]) ∧ w = w') ∧
    (Calls Try.prog 27 #[.pointer (some ⟨r, 0, none⟩), .int .i64 i] w fun e w' => e = .returned (.tuple #[.string ⟨(readT S i).toArray⟩, .int .i64 (refuse S i)]) ∧ w = w') := ⟨di_read hA i, ri_read hA.swap i⟩
set_option maxRecDepth 100000 in
set_option maxHeartbeats 2000000 in
theorem same_walk (hA : All w0 w (Di w0.heap.size g S :: Rf w0.heap.size r S :: Ps)) : Calls Try.prog 10 #[.pointer (some ⟨g, 0, none⟩), .pointer (some ⟨r, 0, none⟩)] w fun e w' => e = .returned (.bool true) ∧ Below w.heap.size w w' := by
  obtain ⟨vf, A, cap, rfl, c0, c2, hl4⟩ := ri_cells hA.swap
  have hd := hA.drew
  have hbd : Below w.heap.size w w.drew := ⟨rfl, rfl, rfl, Nat.le_refl _, fun _ _ => rfl⟩
  have HR := Lib.hid (fun i => rread_same hd i)
  have d0 : w.drew.cell? ⟨r, 0, none⟩ = _ := c0
  have d2 : w.drew.cell? ⟨r, 2, none⟩ = _ := c2
  have hl0 : (0 : Int) ≤ S.fl.length := by omega
  go_enter Try.func10, Try.ntmps10
  go_wp2_with fail
  refine wp_region_held_drew (S := fun w' => w' = w.drew) (by kernel_rfl) rfl (fun hS => ?_)
  refine wpAnyH_take (i := 0) (v := (.pointer (some ⟨g, 0, none⟩))) (lit rfl) (by kernel_rfl) (by kernel_rfl) (by kernel_rfl) (fun _ _ _ h => h) (Or.inl ⟨by rfl, fun w _ => by go_simp⟩) rfl ?_
  simp only [Act.put, List.setIfInBounds_toArray, List.set_cons_zero, List.set_cons_succ]
  refine wpAnyH_take (i := 2) (v := (.pointer (some ⟨r, 0, none⟩))) (lit rfl) (by kernel_rfl) (by kernel_rfl) (by kernel_rfl) (fun _ _ _ h => h) (Or.inl ⟨by rfl, fun w _ => by go_simp⟩) rfl ?_
  simp only [Act.put, List.setIfInBounds_toArray, List.set_cons_zero, List.set_cons_succ]
  refine wpAnyH_take (i := 3) (v := (.pointer (some ⟨r, 0, none⟩))) (lit rfl) (by kernel_rfl) (by kernel_rfl) (by kernel_rfl) (fun _ _ _ h => h) (Or.inl ⟨by rfl, fun w _ => by go_simp⟩) rfl ?_
  simp only [Act.put, List.setIfInBounds_toArray, List.set_cons_zero, List.set_cons_succ]
  refine wpAnyH_take (i := 4) (v := (.pointer (some ⟨r, 2, none⟩))) (lit rfl) (by kernel_rfl) (by kernel_rfl) (by kernel_rfl) (fun _ _ _ h => h) (Or.inl ⟨by rfl, fun w _ => by go_simp⟩) rfl ?_
  simp only [Act.put, List.setIfInBounds_toArray, List.set_cons_zero, List.set_cons_succ]
  refine wpAnyH_take (i := 5) (v := (.bool S.on)) (lit rfl) (by kernel_rfl) (by kernel_rfl) (by kernel_rfl) (fun _ _ _ h => h) (Or.inl ⟨by rfl, fun w1 hw => by subst hw; go_simp⟩) rfl ?_
  simp only [Act.put, List.setIfInBounds_toArray, List.set_cons_zero, List.set_cons_succ]
  refine wpAnyH_ready (rs := [1]) (by kernel_rfl) (by simp) (AllReadyH.cons (lit rfl) (fun K hK => ?_) AllReadyH.nil)
  go_simp
  go_wp2_with (go_at_call 28; refine (di_on hd).mono ?_; rintro e w1 ⟨rfl, hw1⟩)
  refine hK.out _ _ hw1.symm (fun _ => ?_)
  subst hw1
  clear hK K
  refine wpAnyH_take (i := 6) (v := (.bool false)) (lit rfl) (by kernel_rfl) (by kernel_rfl) (by kernel_rfl) (fun _ _ _ h => h) (Or.inl ⟨by rfl, fun w _ => by go_simp⟩) rfl ?_
  simp only [Act.put, List.setIfInBounds_toArray, List.set_cons_zero, List.set_cons_succ]
  refine wpAnyH_take (i := 7) (v := (.bool false)) (lit rfl) (by kernel_rfl) (by kernel_rfl) (by kernel_rfl) (fun _ _ _ h => h) (Or.inl ⟨by rfl, fun w _ => by go_simp⟩) rfl ?_
  simp only [Act.put, List.setIfInBounds_toArray, List.set_cons_zero, List.set_cons_succ]
  refine wpAnyH_take (i := 8) (v := (.pointer (some ⟨g, 0, none⟩))) (lit rfl) (by kernel_rfl) (by kernel_rfl) (by kernel_rfl) (fun _ _ _ h => h) (Or.inl ⟨by rfl, fun w _ => by go_simp⟩) rfl ?_
  simp only [Act.put, List.setIfInBounds_toArray, List.set_cons_zero, List.set_cons_succ]
  refine wpAnyH_take (i := 10) (v := (.pointer (some ⟨r, 0, none⟩))) (lit rfl) (by kernel_rfl) (by kernel_rfl) (by kernel_rfl) (fun _ _ _ h => h) (Or.inl ⟨by rfl, fun w _ => by go_simp⟩) rfl ?_
  simp only [Act.put, List.setIfInBounds_toArray, List.set_cons_zero, List.set_cons_succ]
  refine wpAnyH_take (i := 11) (v := (.pointer (some ⟨r, 0, none⟩))) (lit rfl) (by kernel_rfl) (by kernel_rfl) (by kernel_rfl) (fun _ _ _ h => h) (Or.inl ⟨by rfl, fun w _ => by go_simp⟩) rfl ?_
  simp only [Act.put, List.setIfInBounds_toArray, List.set_cons_zero, List.set_cons_succ]
  refine wpAnyH_take (i := 12) (v := (.pointer (some ⟨r, 0, none⟩))) (lit rfl) (by kernel_rfl) (by kernel_rfl) (by kernel_rfl) (fun _ _ _ h => h) (Or.inl ⟨by rfl, fun w _ => by go_simp⟩) rfl ?_
  simp only [Act.put, List.setIfInBounds_toArray, List.set_cons_zero, List.set_cons_succ]
  refine wpAnyH_take (i := 13) (v := (.slice A S.fl.length cap)) (lit rfl) (by kernel_rfl) (by kernel_rfl) (by kernel_rfl) (fun _ _ _ h => h) (Or.inl ⟨by rfl, fun w1 hw => by subst hw; go_simp⟩) rfl ?_
  simp only [Act.put, List.setIfInBounds_toArray, List.set_cons_zero, List.set_cons_succ]
  refine wpAnyH_take (i := 14) (v := (.int .i64 S.fl.length)) (lit rfl) (by kernel_rfl) (by kernel_rfl) (by kernel_rfl) (fun _ _ _ h => h) (Or.inl ⟨by rfl, fun w _ => by go_simp⟩) rfl ?_
  simp only [Act.put, List.setIfInBounds_toArray, List.set_cons_zero, List.set_cons_succ]
  refine wpAnyH_ready (rs := [9]) (by kernel_rfl) (by simp) (AllReadyH.cons (lit rfl) (fun K hK => ?_) AllReadyH.nil)
  go_simp
  go_wp2_with (go_at_call 29; refine (di_len hd).mono ?_; rintro e w1 ⟨rfl, hw1⟩)
  refine hK.out _ _ hw1.symm (fun _ => ?_)
  subst hw1
  clear hK K
  refine wpAnyH_take (i := 15) (v := (.bool false)) (lit rfl) (by kernel_rfl) (by kernel_rfl) (by kernel_rfl) (fun _ _ _ h => h) (Or.inl ⟨by rfl, fun w _ => by go_simp⟩) rfl ?_
  simp only [Act.put, List.setIfInBounds_toArray, List.set_cons_zero, List.set_cons_succ]
  refine wpAnyH_take (i := 16) (v := (.bool false)) (lit rfl) (by kernel_rfl) (by kernel_rfl) (by kernel_rfl) (fun _ _ _ h => h) (Or.inl ⟨by rfl, fun w _ => by go_simp⟩) rfl ?_
  simp only [Act.put, List.setIfInBounds_toArray, List.set_cons_zero, List.set_cons_succ]
  refine wpAnyH_done (by kernel_rfl) ?_ _
  go_wp2
  go_loopw [5] (fun i wr => (∃ k : Nat, k ≤ S.fl.length ∧ i = .int .i64 k) ∧ wr = w.drew) (fun i _ => S.fl.length - (RowKit.intOf i).toNat)
  case atStart => exact ⟨⟨0, by omega, rfl⟩, rfl⟩
  case round =>
    obtain ⟨⟨k, hk, rfl⟩, rfl⟩ := hrel
    by_cases hlt : k < S.fl.length
    · obtain ⟨q1, q2⟩ := HR.out k
      have Q1 := Lib.hid q1
      have Q2 := Lib.hid q2
      clear q1 q2
      generalize readT S k = t at *
      generalize refuse S k = rf at *
      go_wp2_with fail
      refine Q1.out.mono ?_
      rintro e w2 ⟨rfl, hw2⟩
      subst hw2
      go_wp2_with fail
      refine Q2.out.mono ?_
      rintro e w3 ⟨rfl, hw3⟩
      subst hw3
      go_wp2
      go_roundw
      case rel => exact ⟨⟨k + 1, by omega, by go_num⟩, trivial⟩
      case measure => simp [RowKit.intOf]; omega
    · go_wp2
      go_ret
      exact ⟨rfl, hbd⟩
end
/-! ### do -/
theorem src_take {w : World} {A : Option Addr} {n cap : Nat} {l : List UInt8} (h : Src w (.slice A n cap) l) (m : Nat) (hm : m ≤ n) : Src w (.slice A m cap) (l.take m) := by
  rcases h with ⟨rfl, p, c, e⟩ | ⟨h0, b, off, c, e, h1, h2, h3, h4⟩
  · injection e with e1 e2 e3
    have : m = 0 := by omega
    subst this
    exact .inl ⟨by simp, _, _, rfl⟩
  · injection e with e1 e2 e3
    subst e1 e2 e3
    rcases Nat.eq_zero_or_pos m with rfl | hp
    · exact .inl ⟨by simp, _, _, rfl⟩
    · have hlm : (l.take m).length = m := by rw [List.length_take]; omega
      refine .inr ⟨by omega, b, off, cap, by rw [hlm], by omega, h2, h3, fun i hi => ?_⟩
      rw [List.getElem_take]
      exact h4 i (by omega)
theorem src_form' {w : World} {v : Value} {l : List UInt8} (h : Src w v l) : ∃ A cap, v = .slice A l.length cap ∧ (l.length ≤ cap) := by
  rcases h with ⟨rfl, p, c, e⟩ | ⟨h0, b, off, c, e, h1, h2, h3, h4⟩
  · exact ⟨p, c, e, by simp⟩
  · exact ⟨_, c, e, h1⟩
section
variable {w0 w : World} {g r : Nat} {S : St} {Ps : List (World → List Nat → Prop)}
set_option maxRecDepth 100000 in
set_option maxHeartbeats 8000000 in
theorem do_walk (hA : All w0 w (Di w0.heap.size g S :: Rf w0.heap.size r S :: Ps)) (x : Ac) (vf : Value) (hsrc : Src w0 vf x.fates) (hn : -9223372036854775808 ≤ x.n ∧ x.n ≤ 9223372036854775807) (hun : S.un.length < 999999990) :
    Calls Try.prog 9 #[.pointer (some ⟨g, 0, none⟩), .pointer (some ⟨r, 0, none⟩), .agg #[.int .i64 x.what, .int .i64 x.n, .int .u8 x.letter.toNat, .bool x.short, vf]] w fun e w' => e = .returned (.bool true) ∧ All w0 w' (Di w0.heap.size g (actS S x) :: Rf w0.heap.size r (actS S x) :: Ps) := by
  obtain ⟨A, cap, rfl, hcap⟩ := src_form' hsrc
  have a0 := all_third_back (bl_new hA 32 [.int .i64 x.what, .int .i64 x.n, .int .u8 x.letter.toNat, .bool x.short, .slice A x.fates.length cap])
  have HSEC := Lib.hid (fun w => DL.sector_walk x.letter x.short w)
  have HW := Lib.hid (fun h => act_write (S := S) (x := x) h)
  have HF := Lib.hid (fun h => act_flush (S := S) (x := x) h)
  have HR := Lib.hid (fun h => act_arm (S := S) (x := x) h)
  have HO := Lib.hid (fun h => act_off (S := S) (x := x) h)
  have HK := Lib.hid (fun h => act_wake (S := S) (x := x) h)
  have HN := Lib.hid (fun h => act_none (S := S) (x := x) h)
  have HL := Lib.hid (src_len hsrc)
  generalize DL.sectS x.letter x.short = sec at *
  generalize actS S x = T at *
  obtain ⟨what, n, c, sh, fates⟩ := x
  simp only at a0 HSEC HW HF HR HO HK HN hsrc hn HL hcap
  have hcb := c.toNat_lt
  generalize c.toNat = cn at *
  have hfin : ∀ (w' : World) (T1 T2 : St), All w0 w' (Di w0.heap.size g T1 :: Rf w0.heap.size r T2 :: Bl w0.heap.size w.heap.size 32 [.int .i64 what, .int .i64 n, .int .u8 cn, .bool sh, .slice A fates.length cap] :: Ps) → All w0 w' (Di w0.heap.size g T1 :: Rf w0.heap.size r T2 :: Ps) := fun _ _ _ h => (all_third h).tail
  have HFIN := Lib.hid hfin
  clear hfin
  have hbx := fun (w' : World) (Qs : List (World → List Nat → Prop)) (h : All w0 w' Qs) (hm : Bl w0.heap.size w.heap.size 32 [.int .i64 what, .int .i64 n, .int .u8 cn, .bool sh, .slice A fates.length cap] ∈ Qs) => all_has h hm
  have HBX := Lib.hid hbx
  clear hbx
  by_cases h0 : what = 0
  · subst h0
    have b0 := HBX.out _ _ a0 (by simp)
    have e2 := b0.cell 2
    have e3 := b0.cell 3
    go_enter Try.func9, Try.ntmps9
    go_wp2_with fail
    refine (HSEC.out _).mono ?_
    rintro e w1 ⟨rfl, y1⟩
    have a1 := a0.below y1
    have b1 := HBX.out _ _ a1 (by simp)
    have e0 := b1.cell 0
    have e1 := b1.cell 1
    have e4 := b1.cell 4
    go_wp2_with fail
    have ad := a1.drew
    have bd := (HBX.out _ _ ad (by simp)).cell 1
    refine wp_region_held_drew (S := fun w' => w'.cell? ⟨w.heap.size, 1, none⟩ = some (.int .i64 n)) (by kernel_rfl) bd (fun hS => ?_)
    refine wpAnyH_take (i := 0) (v := (.pointer (some ⟨g, 0, none⟩))) (lit rfl) (by kernel_rfl) (by kernel_rfl) (by kernel_rfl) (fun _ _ _ h => h) (Or.inl ⟨by rfl, fun w _ => by go_simp⟩) bd ?_
    simp only [Act.put, List.setIfInBounds_toArray, List.set_cons_zero, List.set_cons_succ]
    refine wpAnyH_take (i := 1) (v := (.pointer (some ⟨w.heap.size, 1, none⟩))) (lit rfl) (by kernel_rfl) (by kernel_rfl) (by kernel_rfl) (fun _ _ _ h => h) (Or.inl ⟨by rfl, fun w _ => by go_simp⟩) bd ?_
    simp only [Act.put, List.setIfInBounds_toArray, List.set_cons_zero, List.set_cons_succ]
    refine wpAnyH_take (i := 2) (v := (.int .i64 n)) (lit rfl) (by kernel_rfl) (by kernel_rfl) (by kernel_rfl) (fun _ _ _ h => h) (Or.inl ⟨by rfl, fun w hw => by go_simp⟩) bd ?_
    simp only [Act.put, List.setIfInBounds_toArray, List.set_cons_zero, List.set_cons_succ]
    refine wpAnyH_take (i := 3) (v := (.string ⟨sec.toArray⟩)) (lit rfl) (by kernel_rfl) (by kernel_rfl) (by kernel_rfl) (fun _ _ _ h => h) (Or.inl ⟨by rfl, fun w _ => by go_simp⟩) bd ?_
    simp only [Act.put, List.setIfInBounds_toArray, List.set_cons_zero, List.set_cons_succ]
    refine wpAnyH_take (i := 5) (v := (.pointer (some ⟨r, 0, none⟩))) (lit rfl) (by kernel_rfl) (by kernel_rfl) (by kernel_rfl) (fun _ _ _ h => h) (Or.inl ⟨by rfl, fun w _ => by go_simp⟩) bd ?_
    simp only [Act.put, List.setIfInBounds_toArray, List.set_cons_zero, List.set_cons_succ]
    refine wpAnyH_take (i := 6) (v := (.pointer (some ⟨w.heap.size, 1, none⟩))) (lit rfl) (by kernel_rfl) (by kernel_rfl) (by kernel_rfl) (fun _ _ _ h => h) (Or.inl ⟨by rfl, fun w _ => by go_simp⟩) bd ?_
    simp only [Act.put, List.setIfInBounds_toArray, List.set_cons_zero, List.set_cons_succ]
    refine wpAnyH_take (i := 7) (v := (.int .i64 n)) (lit rfl) (by kernel_rfl) (by kernel_rfl) (by kernel_rfl) (fun _ _ _ h => h) (Or.inl ⟨by rfl, fun w hw => by go_simp⟩) bd ?_
    simp only [Act.put, List.setIfInBounds_toArray, List.set_cons_zero, List.set_cons_succ]
    refine wpAnyH_take (i := 8) (v := (.string ⟨sec.toArray⟩)) (lit rfl) (by kernel_rfl) (by kernel_rfl) (by kernel_rfl) (fun _ _ _ h => h) (Or.inl ⟨by rfl, fun w _ => by go_simp⟩) bd ?_
    simp only [Act.put, List.setIfInBounds_toArray, List.set_cons_zero, List.set_cons_succ]
    refine wpAnyH_ready (rs := [4]) (by kernel_rfl) (by simp) (AllReadyH.cons (lit rfl) (fun K hK => ?_) AllReadyH.nil)
    go_simp
    go_wp2_with (go_at_call 13; refine (di_write ad n sec (by omega)).mono ?_; rintro e w2 ⟨rfl, a2⟩)
    have b2 := (HBX.out _ _ a2 (by simp)).cell 1
    refine hK.out _ _ b2 (fun _ => ?_)
    clear hK K
    refine wpAnyH_ready (rs := [9]) (by kernel_rfl) (by simp) (AllReadyH.cons (lit rfl) (fun K hK => ?_) AllReadyH.nil)
    go_simp
    go_wp2_with (go_at_call 21; refine (ri_write a2.swap n sec (by omega)).mono ?_; rintro e w3 ⟨rfl, a3⟩)
    have b3 := (HBX.out _ _ a3 (by simp)).cell 1
    refine hK.out _ _ b3 (fun _ => ?_)
    clear hK K
    refine wpAnyH_take (i := 10) (v := (.bool true)) (lit rfl) (by kernel_rfl) (by kernel_rfl) (by kernel_rfl) (fun _ _ _ h => h) (Or.inl ⟨by rfl, fun w _ => by go_simp⟩) b3 ?_
    simp only [Act.put, List.setIfInBounds_toArray, List.set_cons_zero, List.set_cons_succ]
    refine wpAnyH_ready (rs := [11]) (by kernel_rfl) (by simp) (AllReadyH.cons (lit rfl) (fun K hK => ?_) AllReadyH.nil)
    go_simp
    refine hK.out _ _ b3 (fun _ => ?_)
    clear hK K
    refine wpAnyH_done (by kernel_rfl) ?_ _
    have a4 := HFIN.out _ _ _ a3.swap
    go_wp2
    go_ret
    rw [HW.out (by simp)]
    exact ⟨rfl, a4⟩
  · skip
    by_cases h1 : what = 1
    · subst h1
      have b0 := HBX.out _ _ a0 (by simp)
      have e2 := b0.cell 2
      have e3 := b0.cell 3
      go_enter Try.func9, Try.ntmps9
      go_wp2_with fail
      refine (HSEC.out _).mono ?_
      rintro e w1 ⟨rfl, y1⟩
      have a1 := a0.below y1
      have b1 := HBX.out _ _ a1 (by simp)
      have e0 := b1.cell 0
      have e1 := b1.cell 1
      have e4 := b1.cell 4
      go_wp2_with fail
      have ad := a1.drew
      have bd := (HBX.out _ _ ad (by simp)).cell 1
      refine wp_region_held_drew (S := fun w' => w'.cell? ⟨w.heap.size, 1, none⟩ = some (.int .i64 n)) (by kernel_rfl) bd (fun hS => ?_)
      refine wpAnyH_take (i := 0) (v := (.pointer (some ⟨g, 0, none⟩))) (lit rfl) (by kernel_rfl) (by kernel_rfl) (by kernel_rfl) (fun _ _ _ h => h) (Or.inl ⟨by rfl, fun w _ => by go_simp⟩) bd ?_
      simp only [Act.put, List.setIfInBounds_toArray, List.set_cons_zero, List.set_cons_succ]
      refine wpAnyH_take (i := 1) (v := (.pointer (some ⟨w.heap.size, 1, none⟩))) (lit rfl) (by kernel_rfl) (by kernel_rfl) (by kernel_rfl) (fun _ _ _ h => h) (Or.inl ⟨by rfl, fun w _ => by go_simp⟩) bd ?_
      simp only [Act.put, List.setIfInBounds_toArray, List.set_cons_zero, List.set_cons_succ]
      refine wpAnyH_take (i := 2) (v := (.int .i64 n)) (lit rfl) (by kernel_rfl) (by kernel_rfl) (by kernel_rfl) (fun _ _ _ h => h) (Or.inl ⟨by rfl, fun w hw => by go_simp⟩) bd ?_
      simp only [Act.put, List.setIfInBounds_toArray, List.set_cons_zero, List.set_cons_succ]
      refine wpAnyH_take (i := 3) (v := (.string ⟨sec.toArray⟩)) (lit rfl) (by kernel_rfl) (by kernel_rfl) (by kernel_rfl) (fun _ _ _ h => h) (Or.inl ⟨by rfl, fun w _ => by go_simp⟩) bd ?_
      simp only [Act.put, List.setIfInBounds_toArray, List.set_cons_zero, List.set_cons_succ]
      refine wpAnyH_take (i := 5) (v := (.pointer (some ⟨r, 0, none⟩))) (lit rfl) (by kernel_rfl) (by kernel_rfl) (by kernel_rfl) (fun _ _ _ h => h) (Or.inl ⟨by rfl, fun w _ => by go_simp⟩) bd ?_
      simp only [Act.put, List.setIfInBounds_toArray, List.set_cons_zero, List.set_cons_succ]
      refine wpAnyH_take (i := 6) (v := (.pointer (some ⟨w.heap.size, 1, none⟩))) (lit rfl) (by kernel_rfl) (by kernel_rfl) (by kernel_rfl) (fun _ _ _ h => h) (Or.inl ⟨by rfl, fun w _ => by go_simp⟩) bd ?_
      simp only [Act.put, List.setIfInBounds_toArray, List.set_cons_zero, List.set_cons_succ]
      refine wpAnyH_take (i := 7) (v := (.int .i64 n)) (lit rfl) (by kernel_rfl) (by kernel_rfl) (by kernel_rfl) (fun _ _ _ h => h) (Or.inl ⟨by rfl, fun w hw => by go_simp⟩) bd ?_
      simp only [Act.put, List.setIfInBounds_toArray, List.set_cons_zero, List.set_cons_succ]
      refine wpAnyH_take (i := 8) (v := (.string ⟨sec.toArray⟩)) (lit rfl) (by kernel_rfl) (by kernel_rfl) (by kernel_rfl) (fun _ _ _ h => h) (Or.inl ⟨by rfl, fun w _ => by go_simp⟩) bd ?_
      simp only [Act.put, List.setIfInBounds_toArray, List.set_cons_zero, List.set_cons_succ]
      refine wpAnyH_ready (rs := [4]) (by kernel_rfl) (by simp) (AllReadyH.cons (lit rfl) (fun K hK => ?_) AllReadyH.nil)
      go_simp
      go_wp2_with (go_at_call 13; refine (di_write ad n sec (by omega)).mono ?_; rintro e w2 ⟨rfl, a2⟩)
      have b2 := (HBX.out _ _ a2 (by simp)).cell 1
      refine hK.out _ _ b2 (fun _ => ?_)
      clear hK K
      refine wpAnyH_ready (rs := [9]) (by kernel_rfl) (by simp) (AllReadyH.cons (lit rfl) (fun K hK => ?_) AllReadyH.nil)
      go_simp
      go_wp2_with (go_at_call 21; refine (ri_write a2.swap n sec (by omega)).mono ?_; rintro e w3 ⟨rfl, a3⟩)
      have b3 := (HBX.out _ _ a3 (by simp)).cell 1
      refine hK.out _ _ b3 (fun _ => ?_)
      clear hK K
      refine wpAnyH_take (i := 10) (v := (.bool true)) (lit rfl) (by kernel_rfl) (by kernel_rfl) (by kernel_rfl) (fun _ _ _ h => h) (Or.inl ⟨by rfl, fun w _ => by go_simp⟩) b3 ?_
      simp only [Act.put, List.setIfInBounds_toArray, List.set_cons_zero, List.set_cons_succ]
      refine wpAnyH_ready (rs := [11]) (by kernel_rfl) (by simp) (AllReadyH.cons (lit rfl) (fun K hK => ?_) AllReadyH.nil)
      go_simp
      refine hK.out _ _ b3 (fun _ => ?_)
      clear hK K
      refine wpAnyH_done (by kernel_rfl) ?_ _
      have a4 := HFIN.out _ _ _ a3.swap
      go_wp2
      go_ret
      rw [HW.out (by simp)]
      exact ⟨rfl, a4⟩
    · skip
      by_cases h2 : what = 2
      · subst h2
        have b0 := HBX.out _ _ a0 (by simp)
        have e2 := b0.cell 2
        have e3 := b0.cell 3
        go_enter Try.func9, Try.ntmps9
        go_wp2_with fail
        refine (HSEC.out _).mono ?_
        rintro e w1 ⟨rfl, y1⟩
        have a1 := a0.below y1
        have b1 := HBX.out _ _ a1 (by simp)
        have e0 := b1.cell 0
        have e1 := b1.cell 1
        have e4 := b1.cell 4
        go_wp2_with fail
        have ad := a1.drew
        have bd := (HBX.out _ _ ad (by simp)).cell 1
        refine wp_region_held_drew (S := fun w' => w'.cell? ⟨w.heap.size, 1, none⟩ = some (.int .i64 n)) (by kernel_rfl) bd (fun hS => ?_)
        refine wpAnyH_take (i := 0) (v := (.pointer (some ⟨g, 0, none⟩))) (lit rfl) (by kernel_rfl) (by kernel_rfl) (by kernel_rfl) (fun _ _ _ h => h) (Or.inl ⟨by rfl, fun w _ => by go_simp⟩) bd ?_
        simp only [Act.put, List.setIfInBounds_toArray, List.set_cons_zero, List.set_cons_succ]
        refine wpAnyH_take (i := 1) (v := (.pointer (some ⟨w.heap.size, 1, none⟩))) (lit rfl) (by kernel_rfl) (by kernel_rfl) (by kernel_rfl) (fun _ _ _ h => h) (Or.inl ⟨by rfl, fun w _ => by go_simp⟩) bd ?_
        simp only [Act.put, List.setIfInBounds_toArray, List.set_cons_zero, List.set_cons_succ]
        refine wpAnyH_take (i := 2) (v := (.int .i64 n)) (lit rfl) (by kernel_rfl) (by kernel_rfl) (by kernel_rfl) (fun _ _ _ h => h) (Or.inl ⟨by rfl, fun w hw => by go_simp⟩) bd ?_
        simp only [Act.put, List.setIfInBounds_toArray, List.set_cons_zero, List.set_cons_succ]
        refine wpAnyH_take (i := 3) (v := (.string ⟨sec.toArray⟩)) (lit rfl) (by kernel_rfl) (by kernel_rfl) (by kernel_rfl) (fun _ _ _ h => h) (Or.inl ⟨by rfl, fun w _ => by go_simp⟩) bd ?_
        simp only [Act.put, List.setIfInBounds_toArray, List.set_cons_zero, List.set_cons_succ]
        refine wpAnyH_take (i := 5) (v := (.pointer (some ⟨r, 0, none⟩))) (lit rfl) (by kernel_rfl) (by kernel_rfl) (by kernel_rfl) (fun _ _ _ h => h) (Or.inl ⟨by rfl, fun w _ => by go_simp⟩) bd ?_
        simp only [Act.put, List.setIfInBounds_toArray, List.set_cons_zero, List.set_cons_succ]
        refine wpAnyH_take (i := 6) (v := (.pointer (some ⟨w.heap.size, 1, none⟩))) (lit rfl) (by kernel_rfl) (by kernel_rfl) (by kernel_rfl) (fun _ _ _ h => h) (Or.inl ⟨by rfl, fun w _ => by go_simp⟩) bd ?_
        simp only [Act.put, List.setIfInBounds_toArray, List.set_cons_zero, List.set_cons_succ]
        refine wpAnyH_take (i := 7) (v := (.int .i64 n)) (lit rfl) (by kernel_rfl) (by kernel_rfl) (by kernel_rfl) (fun _ _ _ h => h) (Or.inl ⟨by rfl, fun w hw => by go_simp⟩) bd ?_
        simp only [Act.put, List.setIfInBounds_toArray, List.set_cons_zero, List.set_cons_succ]
        refine wpAnyH_take (i := 8) (v := (.string ⟨sec.toArray⟩)) (lit rfl) (by kernel_rfl) (by kernel_rfl) (by kernel_rfl) (fun _ _ _ h => h) (Or.inl ⟨by rfl, fun w _ => by go_simp⟩) bd ?_
        simp only [Act.put, List.setIfInBounds_toArray, List.set_cons_zero, List.set_cons_succ]
        refine wpAnyH_ready (rs := [4]) (by kernel_rfl) (by simp) (AllReadyH.cons (lit rfl) (fun K hK => ?_) AllReadyH.nil)
        go_simp
        go_wp2_with (go_at_call 13; refine (di_write ad n sec (by omega)).mono ?_; rintro e w2 ⟨rfl, a2⟩)
        have b2 := (HBX.out _ _ a2 (by simp)).cell 1
        refine hK.out _ _ b2 (fun _ => ?_)
        clear hK K
        refine wpAnyH_ready (rs := [9]) (by kernel_rfl) (by simp) (AllReadyH.cons (lit rfl) (fun K hK => ?_) AllReadyH.nil)
        go_simp
        go_wp2_with (go_at_call 21; refine (ri_write a2.swap n sec (by omega)).mono ?_; rintro e w3 ⟨rfl, a3⟩)
        have b3 := (HBX.out _ _ a3 (by simp)).cell 1
        refine hK.out _ _ b3 (fun _ => ?_)
        clear hK K
        refine wpAnyH_take (i := 10) (v := (.bool true)) (lit rfl) (by kernel_rfl) (by kernel_rfl) (by kernel_rfl) (fun _ _ _ h => h) (Or.inl ⟨by rfl, fun w _ => by go_simp⟩) b3 ?_
        simp only [Act.put, List.setIfInBounds_toArray, List.set_cons_zero, List.set_cons_succ]
        refine wpAnyH_ready (rs := [11]) (by kernel_rfl) (by simp) (AllReadyH.cons (lit rfl) (fun K hK => ?_) AllReadyH.nil)
        go_simp
        refine hK.out _ _ b3 (fun _ => ?_)
        clear hK K
        refine wpAnyH_done (by kernel_rfl) ?_ _
        have a4 := HFIN.out _ _ _ a3.swap
        go_wp2
        go_ret
        rw [HW.out (by simp)]
        exact ⟨rfl, a4⟩
      · skip
        by_cases h3 : what = 3
        · subst h3
          have b0 := HBX.out _ _ a0 (by simp)
          have e2 := b0.cell 2
          have e3 := b0.cell 3
          go_enter Try.func9, Try.ntmps9
          go_wp2_with fail
          refine (HSEC.out _).mono ?_
          rintro e w1 ⟨rfl, y1⟩
          have a1 := a0.below y1
          have b1 := HBX.out _ _ a1 (by simp)
          have e0 := b1.cell 0
          have e1 := b1.cell 1
          have e4 := b1.cell 4
          go_wp2_with fail
          refine (di_flush a1).mono ?_
          rintro e w2 ⟨rfl, a2⟩
          go_wp2_with fail
          refine (ri_flush a2.swap).mono ?_
          rintro e w3 ⟨rfl, a3⟩
          have a4 := HFIN.out _ _ _ a3.swap
          go_wp2
          go_ret
          rw [HF.out (by simp)]
          exact ⟨rfl, a4⟩
        · skip
          by_cases h4 : what = 4
          · subst h4
            have b0 := HBX.out _ _ a0 (by simp)
            have e2 := b0.cell 2
            have e3 := b0.cell 3
            go_enter Try.func9, Try.ntmps9
            go_wp2_with fail
            refine (HSEC.out _).mono ?_
            rintro e w1 ⟨rfl, y1⟩
            have a1 := a0.below y1
            have b1 := HBX.out _ _ a1 (by simp)
            have e0 := b1.cell 0
            have e1 := b1.cell 1
            have e4 := b1.cell 4
            go_wp2_with fail
            refine (di_arm a1 n hn.2).mono ?_
            rintro e w2 ⟨rfl, a2⟩
            have b2 := (HBX.out _ _ a2 (by simp)).cell 1
            go_wp2_with fail
            refine (ri_arm a2.swap n hn.2).mono ?_
            rintro e w3 ⟨rfl, a3⟩
            have a4 := HFIN.out _ _ _ a3.swap
            go_wp2
            go_ret
            rw [HR.out (by simp)]
            exact ⟨rfl, a4⟩
          · skip
            by_cases h5 : what = 5
            · subst h5
              have b0 := HBX.out _ _ a0 (by simp)
              have e2 := b0.cell 2
              have e3 := b0.cell 3
              go_enter Try.func9, Try.ntmps9
              go_wp2_with fail
              refine (HSEC.out _).mono ?_
              rintro e w1 ⟨rfl, y1⟩
              have a1 := a0.below y1
              have b1 := HBX.out _ _ a1 (by simp)
              have e0 := b1.cell 0
              have e1 := b1.cell 1
              have e4 := b1.cell 4
              go_wp2_with fail
              refine (di_off a1).mono ?_
              rintro e w2 ⟨rfl, a2⟩
              go_wp2_with fail
              refine (ri_off a2.swap).mono ?_
              rintro e w3 ⟨rfl, a3⟩
              have a4 := HFIN.out _ _ _ a3.swap
              go_wp2
              go_ret
              rw [HO.out (by simp)]
              exact ⟨rfl, a4⟩
            · skip
              by_cases h6 : what = 6
              · subst h6
                have hm : min (fates.length : Int) 80 = ((min fates.length 80 : Nat) : Int) := by omega
                have hml : min fates.length 80 ≤ fates.length := Nat.min_le_left _ _
                have hst := src_take hsrc _ hml
                have hlen : (fates.take (min fates.length 80)).length ≤ 9223372036854775807 := by have := HL.out; rw [List.length_take]; omega
                generalize min fates.length 80 = m at *
                have hmI : (m : Int) ≤ fates.length := by omega
                have hmC : (m : Int) ≤ cap := by omega
                have HST := Lib.hid hst
                have HLEN := Lib.hid hlen
                clear hst hlen hsrc
                have b0 := HBX.out _ _ a0 (by simp)
                have e2 := b0.cell 2
                have e3 := b0.cell 3
                go_enter Try.func9, Try.ntmps9
                go_wp2_with fail
                refine (HSEC.out _).mono ?_
                rintro e w1 ⟨rfl, y1⟩
                have a1 := a0.below y1
                have b1 := HBX.out _ _ a1 (by simp)
                have e0 := b1.cell 0
                have e1 := b1.cell 1
                have e4 := b1.cell 4
                go_wp2_with fail
                refine (di_wake_old a1 _ _ HLEN.out HST.out).mono ?_
                rintro e w2 ⟨rfl, a2⟩
                go_wp2_with fail
                refine (ri_wake_old a2.swap _ _ HLEN.out HST.out).mono ?_
                rintro e w3 ⟨rfl, a3⟩
                have a4 := HFIN.out _ _ _ a3.swap
                go_wp2
                go_ret
                rw [HK.out (by simp)]
                exact ⟨rfl, a4⟩
              · skip
                have t0 : (what == 0) = false := beq_eq_false_iff_ne.2 h0
                have t1 : (what == 1) = false := beq_eq_false_iff_ne.2 h1
                have t2 : (what == 2) = false := beq_eq_false_iff_ne.2 h2
                have t3 : (what == 3) = false := beq_eq_false_iff_ne.2 h3
                have t4 : (what == 4) = false := beq_eq_false_iff_ne.2 h4
                have t5 : (what == 5) = false := beq_eq_false_iff_ne.2 h5
                have t6 : (what == 6) = false := beq_eq_false_iff_ne.2 h6
                have HNN := Lib.hid (HN.out ⟨h0, h1, h2, h3, h4, h5, h6⟩)
                clear h0 h1 h2 h3 h4 h5 h6
                have b0 := HBX.out _ _ a0 (by simp)
                have e2 := b0.cell 2
                have e3 := b0.cell 3
                go_enter Try.func9, Try.ntmps9
                go_wp2_with fail
                refine (HSEC.out _).mono ?_
                rintro e w1 ⟨rfl, y1⟩
                have a1 := a0.below y1
                have b1 := HBX.out _ _ a1 (by simp)
                have e0 := b1.cell 0
                have e1 := b1.cell 1
                have e4 := b1.cell 4
                go_wp2_with fail
                refine (di_read a1 n).mono ?_
                rintro e w2 ⟨rfl, hw2⟩
                subst hw2
                go_wp2_with fail
                refine (ri_read a1.swap n).mono ?_
                rintro e w3 ⟨rfl, hw3⟩
                subst hw3
                have a4 := HFIN.out _ _ _ a1
                generalize readT S n = rt at *
                generalize refuse S n = rf at *
                go_wp2
                go_ret
                rw [HNN.out]
                exact ⟨rfl, a4⟩
end
section
variable {w0 w : World} {P Q R T : World → List Nat → Prop} {Ps : List (World → List Nat → Prop)}
theorem rot22 (h : All w0 w (P :: Q :: R :: T :: Ps)) : All w0 w (R :: T :: P :: Q :: Ps) := all_fourth (all_fourth h)
theorem sort4 (h : All w0 w (P :: Q :: R :: T :: Ps)) : All w0 w (T :: Q :: R :: P :: Ps) := all_third (all_fourth_back h)
end
theorem fresh_un (n : Nat) : (fresh n).un.length = 0 := rfl
set_option maxRecDepth 100000 in
set_option maxHeartbeats 16000000 in
theorem walk (W : World) (i0 : Int) (h0 : -9223372036854775808 ≤ i0) (h1 : i0 ≤ 9223372036854775807) (v : Value) (l : List Ac) (hL : Lst W 5 QA v l) : Calls Try.prog 3 #[.int .i64 i0, v] W fun e w' => e = .returned (.bool true) ∧ Below W.heap.size W w' := by
  obtain ⟨A, cap, rfl, hll⟩ := hL.form
  have hmx : max 0 i0 = ((i0.toNat : Nat) : Int) := by omega
  have htm : ((i0.toNat : Nat) : Int).tmod 12 = ((i0.toNat % 12 : Nat) : Int) := by rw [Int.tmod_eq_emod_of_nonneg (by omega)]; omega
  have hn12 : i0.toNat % 12 < 12 := Nat.mod_lt _ (by omega)
  have htd : (l.length : Int).tdiv 2 = ((l.length / 2 : Nat) : Int) := by rw [Int.tdiv_eq_ediv_of_nonneg (by omega)]; omega
  have hhf : l.length / 2 ≤ l.length := by omega
  generalize i0.toNat = j0 at *
  generalize j0 % 12 = d at *
  generalize l.length / 2 = hf at *
  go_enter Try.func3, Try.ntmps3
  go_wp2_with fail
  refine (di_new (All.start W) (1 + d) _ (by omega) (by omega) (by omega)).mono ?_
  rintro e w1 ⟨g, rfl, a1⟩
  go_wp2_with fail
  refine (ri_new a1 (1 + d) _ (by omega) (by omega) (by omega)).mono ?_
  rintro e w2 ⟨r, rfl, a2⟩
  have a2s := a2.swap
  have hfu := fresh_un (1 + d)
  generalize fresh (1 + d) = S0 at *
  clear a1 a2
  go_wp2
  go_loopw [8, 9, 10] (fun c q i wr => ∃ (k : Nat) (S : St), k ≤ l.length ∧ k ≤ 60 ∧ i = .int .i64 k ∧ S.un.length ≤ k ∧ ((k ≤ hf ∧ c = .pointer none ∧ q = .pointer none ∧ All W wr (Di W.heap.size g S :: Rf W.heap.size r S :: [])) ∨ (hf < k ∧ ∃ (gc gq : Nat) (T : St), c = .pointer (some ⟨gc, 0, none⟩) ∧ q = .pointer (some ⟨gq, 0, none⟩) ∧ T.un.length ≤ 2 * k ∧ All W wr (Di W.heap.size g S :: Rf W.heap.size r S :: Di W.heap.size gc T :: Rf W.heap.size gq T :: [])))) (fun _ _ i _ => l.length - (RowKit.intOf i).toNat)
  case atStart => exact ⟨0, S0, by omega, by omega, rfl, by omega, .inl ⟨by omega, rfl, rfl, a2s⟩⟩
  case round =>
    obtain ⟨k, S, hk, hk60', rfl, hSk, hrel2⟩ := hrel
    rcases Nat.lt_or_ge k l.length with hk1 | hk1
    · rcases Nat.lt_or_ge k 60 with hk60 | hk60
      · obtain ⟨b, off, cap', cs, e, hcl, ⟨hxn, vf, rfl, hsf⟩, hcell⟩ := hL.get k hk1
        injection e with e1 e2 e3
        subst e1 e3
        have hj : (l.length : Int) - 1 - (k : Int) = ((l.length - 1 - k : Nat) : Int) := by omega
        have hj1 : l.length - 1 - k < l.length := by omega
        obtain ⟨b', off', cap'', cs', e, hcl', ⟨hyn, vg, rfl, hsg⟩, hcell'⟩ := hL.get (l.length - 1 - k) hj1
        injection e with e1 e2 e3
        injection e1 with e1
        injection e1 with e1 e4
        subst e1 e4 e3
        have p0 := hcell 0 (by omega)
        have p1 := hcell 1 (by omega)
        have p2 := hcell 2 (by omega)
        have p3 := hcell 3 (by omega)
        have p4 := hcell 4 (by omega)
        have q0 := hcell' 0 (by omega)
        have q1 := hcell' 1 (by omega)
        have q2 := hcell' 2 (by omega)
        have q3 := hcell' 3 (by omega)
        have q4 := hcell' 4 (by omega)
        simp only [acells, List.getElem?_cons_zero, List.getElem?_cons_succ, Nat.add_zero] at p0 p1 p2 p3 p4 q0 q1 q2 q3 q4
        have hlt0 : b < W.heap.size := cell_lt p0
        have htm2 : (k : Int).tmod 2 = ((k % 2 : Nat) : Int) := by rw [Int.tmod_eq_emod_of_nonneg (by omega)]; omega
        have hk2 : k % 2 < 2 := Nat.mod_lt _ (by omega)
        generalize l.length - 1 - k = j at *
        have hx := actS_un S l[k]
        have HX := Lib.hid (fun (w' : World) (Ps : List (World → List Nat → Prop)) (h : All W w' (Di W.heap.size g S :: Rf W.heap.size r S :: Ps)) => do_walk h l[k] vf hsf hxn (by omega))
        generalize hxS : actS S l[k] = S2 at *
        generalize l[k] = x at *
        have hyu := fun T : St => actS_un T l[j]
        have HY := Lib.hid (fun (w' : World) (gc gq : Nat) (T : St) (Ps : List (World → List Nat → Prop)) (hT : T.un.length < 999999990) (h : All W w' (Di W.heap.size gc T :: Rf W.heap.size gq T :: Ps)) => do_walk h l[j] vg hsg hyn hT)
        generalize l[j] = y at *
        have P0 := Lib.hid (fun (w' : World) (u : Below W.heap.size W w') => (u.cell (p := ⟨b, off + k * 5, none⟩) hlt0).trans p0)
        have P1 := Lib.hid (fun (w' : World) (u : Below W.heap.size W w') => (u.cell (p := ⟨b, off + k * 5 + 1, none⟩) hlt0).trans p1)
        have P2 := Lib.hid (fun (w' : World) (u : Below W.heap.size W w') => (u.cell (p := ⟨b, off + k * 5 + 2, none⟩) hlt0).trans p2)
        have P3 := Lib.hid (fun (w' : World) (u : Below W.heap.size W w') => (u.cell (p := ⟨b, off + k * 5 + 3, none⟩) hlt0).trans p3)
        have P4 := Lib.hid (fun (w' : World) (u : Below W.heap.size W w') => (u.cell (p := ⟨b, off + k * 5 + 4, none⟩) hlt0).trans p4)
        have Q0 := Lib.hid (fun (w' : World) (u : Below W.heap.size W w') => (u.cell (p := ⟨b, off + j * 5, none⟩) hlt0).trans q0)
        have Q1 := Lib.hid (fun (w' : World) (u : Below W.heap.size W w') => (u.cell (p := ⟨b, off + j * 5 + 1, none⟩) hlt0).trans q1)
        have Q2 := Lib.hid (fun (w' : World) (u : Below W.heap.size W w') => (u.cell (p := ⟨b, off + j * 5 + 2, none⟩) hlt0).trans q2)
        have Q3 := Lib.hid (fun (w' : World) (u : Below W.heap.size W w') => (u.cell (p := ⟨b, off + j * 5 + 3, none⟩) hlt0).trans q3)
        have Q4 := Lib.hid (fun (w' : World) (u : Below W.heap.size W w') => (u.cell (p := ⟨b, off + j * 5 + 4, none⟩) hlt0).trans q4)
        clear hcell hcell' p0 p1 p2 p3 p4 q0 q1 q2 q3 q4 hxS
        rcases hrel2 with ⟨hkh, rfl, rfl, hA⟩ | ⟨hkh, gc, gq, T, rfl, rfl, hTk, hA⟩
        · by_cases hke : k = hf
          · have hkb : ((k : Int) == (hf : Int)) = true := beq_iff_eq.2 (by omega)
            have hge : hf ≤ k := by omega
            clear hke
            go_wp2_with fail
            refine (di_copy hA).mono ?_
            rintro e z1 ⟨gc, rfl, az⟩
            go_wp2_with fail
            refine (ri_copy (all_third az)).mono ?_
            rintro e z2 ⟨gq, rfl, az2⟩
            have az3 := sort4 az2
            have pc0 := P0.out z2 az3.under
            have pc1 := P1.out z2 az3.under
            have pc2 := P2.out z2 az3.under
            have pc3 := P3.out z2 az3.under
            have pc4 := P4.out z2 az3.under
            go_wp2_with fail
            refine (HX.out _ _ az3).mono ?_
            rintro e x1 ⟨rfl, ax⟩
            go_wp2_with fail
            refine (same_walk ax).mono ?_
            rintro e x2 ⟨rfl, yx⟩
            have ax2 := ax.below yx
            by_cases hpar : k % 2 = 0
            · have hpb : (((k % 2 : Nat) : Int) == 0) = true := beq_iff_eq.2 (by omega)
              have ay0 := rot22 ax2
              have qc0 := Q0.out x2 ax2.under
              have qc1 := Q1.out x2 ax2.under
              have qc2 := Q2.out x2 ax2.under
              have qc3 := Q3.out x2 ax2.under
              have qc4 := Q4.out x2 ax2.under
              generalize k % 2 = kp at *
              go_wp2_with fail
              refine (HY.out _ _ _ _ _ (by omega) ay0).mono ?_
              rintro e y1 ⟨rfl, ay⟩
              go_wp2_with fail
              refine (same_walk ay).mono ?_
              rintro e y2 ⟨rfl, yy⟩
              have ay2 := rot22 (ay.below yy)
              have hyT := hyu S
              go_wp2
              go_roundw
              case rel => exact ⟨k + 1, S2, by omega, by omega, by go_num, by omega, .inr ⟨by omega, gc, gq, _, rfl, rfl, by omega, ay2⟩⟩
              case measure => simp [RowKit.intOf]; omega
            · have hpb : (((k % 2 : Nat) : Int) == 0) = false := beq_eq_false_iff_ne.2 (by omega)
              generalize k % 2 = kp at *
              go_wp2
              go_roundw
              case rel => exact ⟨k + 1, S2, by omega, by omega, by go_num, by omega, .inr ⟨by omega, gc, gq, _, rfl, rfl, by omega, ax2⟩⟩
              case measure => simp [RowKit.intOf]; omega
          · have hkb : ((k : Int) == (hf : Int)) = false := beq_eq_false_iff_ne.2 (by omega)
            have pc0 := P0.out wr hA.under
            have pc1 := P1.out wr hA.under
            have pc2 := P2.out wr hA.under
            have pc3 := P3.out wr hA.under
            have pc4 := P4.out wr hA.under
            go_wp2_with fail
            refine (HX.out _ _ hA).mono ?_
            rintro e x1 ⟨rfl, ax⟩
            go_wp2_with fail
            refine (same_walk ax).mono ?_
            rintro e x2 ⟨rfl, yx⟩
            have ax2 := ax.below yx
            go_wp2
            go_roundw
            case rel => exact ⟨k + 1, S2, by omega, by omega, by go_num, by omega, .inl ⟨by omega, rfl, rfl, ax2⟩⟩
            case measure => simp [RowKit.intOf]; omega
        · have hkb : ((k : Int) == (hf : Int)) = false := beq_eq_false_iff_ne.2 (by omega)
          have pc0 := P0.out wr hA.under
          have pc1 := P1.out wr hA.under
          have pc2 := P2.out wr hA.under
          have pc3 := P3.out wr hA.under
          have pc4 := P4.out wr hA.under
          go_wp2_with fail
          refine (HX.out _ _ hA).mono ?_
          rintro e x1 ⟨rfl, ax⟩
          go_wp2_with fail
          refine (same_walk ax).mono ?_
          rintro e x2 ⟨rfl, yx⟩
          have ax2 := ax.below yx
          by_cases hpar : k % 2 = 0
          · have hpb : (((k % 2 : Nat) : Int) == 0) = true := beq_iff_eq.2 (by omega)
            have ay0 := rot22 ax2
            have qc0 := Q0.out x2 ax2.under
            have qc1 := Q1.out x2 ax2.under
            have qc2 := Q2.out x2 ax2.under
            have qc3 := Q3.out x2 ax2.under
            have qc4 := Q4.out x2 ax2.under
            generalize k % 2 = kp at *
            go_wp2_with fail
            refine (HY.out _ _ _ _ _ (by omega) ay0).mono ?_
            rintro e y1 ⟨rfl, ay⟩
            go_wp2_with fail
            refine (same_walk ay).mono ?_
            rintro e y2 ⟨rfl, yy⟩
            have ay2 := rot22 (ay.below yy)
            have hyT := hyu T
            go_wp2
            go_roundw
            case rel => exact ⟨k + 1, S2, by omega, by omega, by go_num, by omega, .inr ⟨by omega, gc, gq, _, rfl, rfl, by omega, ay2⟩⟩
            case measure => simp [RowKit.intOf]; omega
          · have hpb : (((k % 2 : Nat) : Int) == 0) = false := beq_eq_false_iff_ne.2 (by omega)
            generalize k % 2 = kp at *
            go_wp2
            go_roundw
            case rel => exact ⟨k + 1, S2, by omega, by omega, by go_num, by omega, .inr ⟨by omega, gc, gq, _, rfl, rfl, by omega, ax2⟩⟩
            case measure => simp [RowKit.intOf]; omega
      · rcases hrel2 with ⟨_, rfl, rfl, hA⟩ | ⟨_, gc, gq, T, rfl, rfl, _, hA⟩
        · clear hk60'
          go_wp2_with fail
          refine (same_walk hA).mono ?_
          rintro e wa ⟨rfl, ya⟩
          have hB := hA.under.trans (ya.mono hA.under.size)
          go_wp2_with fail
          refine (DO.works_walk _).mono ?_
          rintro e wb ⟨rfl, yb⟩
          have hB2 := hB.trans (yb.mono hB.size)
          go_wp2
          go_ret
          exact ⟨rfl, hB2⟩
        · clear hk60'
          go_wp2_with fail
          refine (same_walk hA).mono ?_
          rintro e wa ⟨rfl, ya⟩
          have hB := hA.under.trans (ya.mono hA.under.size)
          go_wp2_with fail
          refine (DO.works_walk _).mono ?_
          rintro e wb ⟨rfl, yb⟩
          have hB2 := hB.trans (yb.mono hB.size)
          go_wp2
          go_ret
          exact ⟨rfl, hB2⟩
    · rcases hrel2 with ⟨_, rfl, rfl, hA⟩ | ⟨_, gc, gq, T, rfl, rfl, _, hA⟩
      · skip
        go_wp2_with fail
        refine (same_walk hA).mono ?_
        rintro e wa ⟨rfl, ya⟩
        have hB := hA.under.trans (ya.mono hA.under.size)
        go_wp2_with fail
        refine (DO.works_walk _).mono ?_
        rintro e wb ⟨rfl, yb⟩
        have hB2 := hB.trans (yb.mono hB.size)
        go_wp2
        go_ret
        exact ⟨rfl, hB2⟩
      · skip
        go_wp2_with fail
        refine (same_walk hA).mono ?_
        rintro e wa ⟨rfl, ya⟩
        have hB := hA.under.trans (ya.mono hA.under.size)
        go_wp2_with fail
        refine (DO.works_walk _).mono ?_
        rintro e wb ⟨rfl, yb⟩
        have hB2 := hB.trans (yb.mono hB.size)
        go_wp2
        go_ret
        exact ⟨rfl, hB2⟩

set_option maxRecDepth 100000 in
theorem lifted (os : Os) (started : os.Started) (H : Type) (enc : TypeId × Value → H) :
    ReturnsInHanded {} Try.checked os 3 .any (Rows.diskPlaysSpec.pre6 enc Try.prog Try.f3 Rows.diskPlaysRow.domain false) (Rows.diskPlaysSpec.post enc Try.prog Try.f3 false true false false) := by
  refine returnsInHanded_of_change (C := Try.checked) own started (by kernel_rfl) Try.func3
    (ChangeSpec.witness6 (enc := enc) (C := Try.checked) false ⟨#[], #[.int .i64 0, .slice none 0 0], []⟩ 8 (by kernel_rfl) (by kernel_rfl) (by kernel_rfl) (by kernel_rfl)) ?_
  intro W base args ds gs before hval0 hW hcnd _
  have hval : ∀ (j : Nat) t v, Try.f3.params[j]? = some t → args[j]? = some v → Value.okWide Try.prog W .any base t v := hval0
  have hW' := hW
  obtain ⟨p, q, hA0, hV, rfl, hfz, hnd⟩ := hW
  have hA : DataW.TrodAll enc Try.prog W 0 (fun _ => true) true Try.f3.params.toList args.toList ds p := hA0
  rw [Try.params3] at hA hval
  obtain ⟨v0, vs0, d0, ds0, p0, q0, hargs, rfl, rfl, h0, r0⟩ := trodAll_cons hA
  obtain ⟨v1, vs1, d1, ds1, p1, q1, rfl, rfl, rfl, h1, r1⟩ := trodAll_cons r0
  obtain ⟨rfl, rfl, rfl⟩ := trodAll_nil r1
  obtain rfl : args = #[v0, v1] := by cases args; simp_all
  obtain ⟨rfl, rfl⟩ := trodVars_none hV
  obtain ⟨a0, rfl, rfl, rfl, w0⟩ := open_int Try.underlying3 (hval 0 3 v0 rfl rfl) h0
  have hb0 : -9223372036854775808 ≤ a0 ∧ a0 ≤ 9223372036854775807 := by simpa [Lit.wf, IntKind.min, IntKind.max, IntKind.signed, IntKind.bits] using w0
  obtain ⟨A1, len1, cap1, rfl⟩ := Go.WideShapes.okWide_slice Try.underlying22 (hval 1 22 v1 rfl rfl)
  obtain ⟨l1, hL1⟩ := open_acts h1 rfl
  clear hA0 hval0
  have hc := walk W a0 hb0.1 hb0.2 _ l1 hL1
  try simp only [Array.toArray_toList] at hc
  refine hc.mono fun e W' ⟨he, hg⟩ => ?_
  subst he
  exact ⟨_, rfl, law_post rfl (by decide +kernel) (by kernel_rfl) rfl hW' hg⟩

theorem over : Rows.diskPlaysRow.holds Try.pinned (OpenSpec.ofChange Rows.diskPlaysSpec) :=
  OpenClaim.holds_of_wide 3 Try.f3 rfl rfl rfl rfl rfl rfl rfl ⟨rfl, rfl, rfl, rfl, rfl⟩ rfl rfl rfl rfl rfl (by kernel_rfl) Try.func3 (by kernel_rfl)
    (of_decide_eq_true (by kernel_rfl)) (by unfold Func.isWrapper; first | (rw [if_pos (by decide +kernel)]; kernel_rfl) | (rw [if_neg (by decide +kernel)]; exact ⟨rfl, rfl⟩))
    (fun os started H enc _ => lifted os started H enc)

theorem proved : Rows.DiskPlaysSaid :=
  over
#print axioms proved
end DiskPlays
end Go.Proofs.Ytfikbnipkklliaa
