/- What the statements of layer 4 share: a twin on a new disk, what is left behind a fuse, the chapter's rows. -/
import Derived.Test.YtjdkmafbogaboaaTwinMany
import Derived.Test.YtjdkmafbogaboaaLawKit
namespace Go.Proofs.Ytjdkmafbogaboaa
open Go.RowKit Go.Lib MM MF DM DK TM FL TH DN DW DF DU MS DC MY DP TD TN TS TO TT TU TP
namespace TL
def ab : List UInt8 := [97, 98]
def cd : List UInt8 := [99, 100]
def A0 : St := fmtS (fresh 4) 1
def S0 : St := openS A0 1
def h0 : List UInt8 := best S0 1
def few (S : St) : Prop := S.un.length < 999999990
instance (S : St) : Decidable (few S) := by unfold few; infer_instance
theorem made_facts : few (fresh 4) ∧ fmtE (fresh 4) 1 = 0 ∧ few A0 ∧ openE A0 1 = 0 ∧ few S0 := by decide +kernel
set_option maxRecDepth 100000 in
set_option maxHeartbeats 1000000 in
theorem made_walk (w0 w : World) (Ps : List (World → List Nat → Prop)) (hA : All w0 w Ps) : Calls Try.prog 29 #[] w fun e w' => ∃ g gt, e = .returned (.tuple #[.pointer (some ⟨g, 0, none⟩), .pointer (some ⟨gt, 0, none⟩)]) ∧ All w0 w' (Ti w0.heap.size gt g 1 h0 false :: Di w0.heap.size g S0 :: Ps) := by
  obtain ⟨m1, m2, m3, m4, m5⟩ := made_facts
  go_enter Try.func29, Try.ntmps29
  go_wp2_with fail
  refine (di_new hA 4 _ rfl (by omega) (by omega)).mono ?_
  rintro e w1 ⟨g, rfl, a1⟩
  go_wp2_with fail
  refine (ti_format a1 _ m1).mono ?_
  rintro e w2 ⟨rfl, a2⟩
  rw [m2]
  replace a2 : All w0 w2 (Di w0.heap.size g A0 :: Ps) := a2
  go_wp2_with fail
  refine (ti_open a2 _ m3).mono ?_
  rintro e w3 ⟨v, rfl, h3⟩
  rw [m4]
  rcases h3 with ⟨h, _⟩ | ⟨_, gt, rfl, a3⟩
  · exact absurd m4 h
  replace a3 : All w0 w3 (Ti w0.heap.size gt g 1 h0 false :: Di w0.heap.size g S0 :: Ps) := a3
  go_wp2
  go_ret2
  exact ⟨g, gt, rfl, a3⟩

/-! ### Behind a fuse -/
def S1 : St := setS S0 1 h0 false ab
def h1 : List UInt8 := setH S0 1 h0 false ab
def l1 : Bool := setL S0 1 h0 false ab
theorem one_facts : setE S0 1 h0 false ab = 0 ∧ few S1 ∧ l1 = false := by decide +kernel
def F2 (n : Int) : St := { S1 with fuse := n.toNat }
def F3 (n : Int) : St := setS (F2 n) 1 h1 l1 cd
def f3 (n : Int) : List UInt8 := setH (F2 n) 1 h1 l1 cd
def m3 (n : Int) : Bool := setL (F2 n) 1 h1 l1 cd
def F4 (n : Int) : St := setS (F3 n) 1 (f3 n) (m3 n) cd
def F5 (n : Int) (c : UInt8) : St := wakeS (F4 n) [c]
def F6 (n : Int) (c : UInt8) : St := openS (F5 n c) 1
def Fine (n : Int) (c : UInt8) (T : List UInt8) : Prop := n ≤ 9223372036854775807 ∧ few (F2 n) ∧ setE (F2 n) 1 h1 l1 cd = 8 ∧ few (F3 n) ∧ setE (F3 n) 1 (f3 n) (m3 n) cd = 8 ∧ few (F5 n c) ∧ openE (F5 n c) 1 = 0 ∧ txt (best (F6 n c) 1) = T
instance (n : Int) (c : UInt8) (T : List UInt8) : Decidable (Fine n c T) := by unfold Fine; infer_instance
theorem fine_facts : Fine 1 70 ab ∧ Fine 2 70 ab ∧ Fine 2 1 cd := by decide +kernel
set_option maxRecDepth 100000 in
set_option maxHeartbeats 1000000 in
theorem after_walk (w : World) (n : Int) (c : UInt8) (ci : Int) (hci : (c.toNat : Int) = ci) (T : List UInt8) (hF : Fine n c T) : Calls Try.prog 55 #[.int .i64 n, .int .u8 ci] w fun e w' => e = .returned (.string ⟨T.toArray⟩) ∧ Below w.heap.size w w' := by
  obtain ⟨o1, o2, o3⟩ := one_facts
  obtain ⟨q1, q2, q3, q4, q5, q6, q7, q8⟩ := hF
  have m5 := made_facts.2.2.2.2
  have hc := c.toNat_lt
  have hci0 : 0 ≤ ci := by omega
  have hci1 : ci < 256 := by omega
  go_enter Try.func55, Try.ntmps55
  go_wp2_with fail
  refine (made_walk w w [] (All.start w)).mono ?_
  rintro e w1 ⟨g, gt, rfl, a1⟩
  go_wp2_with fail
  refine (ti_set a1 (by omega) (by omega) ab (by decide) m5).mono ?_
  rintro e w2 ⟨rfl, a2⟩
  rw [o1]
  replace a2 : All w w2 (Ti w.heap.size gt g 1 h1 l1 :: Di w.heap.size g S1 :: []) := a2
  go_wp2_with fail
  refine (di_arm a2.swap n q1).mono ?_
  rintro e w3 ⟨rfl, a3⟩
  replace a3 : All w w3 (Ti w.heap.size gt g 1 h1 l1 :: Di w.heap.size g (F2 n) :: []) := All.swap a3
  go_wp2_with fail
  refine (ti_set a3 (by omega) (by omega) cd (by decide) q2).mono ?_
  rintro e w4 ⟨rfl, a4⟩
  rw [q3]
  replace a4 : All w w4 (Ti w.heap.size gt g 1 (f3 n) (m3 n) :: Di w.heap.size g (F3 n) :: []) := a4
  go_wp2_with fail
  refine (ti_set a4 (by omega) (by omega) cd (by decide) q4).mono ?_
  rintro e w5 ⟨rfl, a5⟩
  rw [q5]
  have a5' : All w w5 (Di w.heap.size g (F4 n) :: Ti w.heap.size gt g 1 (setH (F3 n) 1 (f3 n) (m3 n) cd) (setL (F3 n) 1 (f3 n) (m3 n) cd) :: []) := a5.swap
  have hrow : Has (w5.alloc (.cells #[.int .u8 ci] 5)) w5.heap.size 5 (byteCells [c]) := by
    rw [show byteCells [c] = [.int .u8 ci] by rw [← hci]; rfl]
    exact heap_alloc_new _ _
  have a5a := a5'.alloc (.cells #[.int .u8 ci] 5)
  clear a5
  go_wp2_with fail
  refine (di_wake_in a5a [c] (by simp) (by unfold maxLen; simp) _ _ _ rfl rfl _ rfl hrow).mono ?_
  rintro e w6 ⟨rfl, a6⟩
  replace a6 : All w w6 (Di w.heap.size g (F5 n c) :: Ti w.heap.size gt g 1 (setH (F3 n) 1 (f3 n) (m3 n) cd) (setL (F3 n) 1 (f3 n) (m3 n) cd) :: []) := a6
  go_wp2_with fail
  refine (ti_open a6 _ q6).mono ?_
  rintro e w7 ⟨v, rfl, h7⟩
  rw [q7]
  rcases h7 with ⟨h, _⟩ | ⟨_, gu, rfl, a7⟩
  · exact absurd q7 h
  go_wp2_with fail
  refine (ti_text a7).mono ?_
  rintro e w8 ⟨rfl, b8⟩
  rw [show txt (best (openS (F5 n c) 1) 1) = T from q8]
  go_wp2
  go_ret
  exact ⟨rfl, a7.under.trans (b8.mono a7.under.size)⟩
/-! ### The chapter's rows -/
def zs (n : Nat) : List UInt8 := List.replicate n 0
theorem zs_length (n : Nat) : (zs n).length = n := by simp [zs]
theorem made_zeros (m : Nat) : madeCells #[Value.int .u8 0] m = (List.replicate m (Value.int .u8 0)).toArray := by
  apply Array.ext
  · simp [madeCells]
  · intro i h1 h2
    simp [madeCells, Nat.mod_one]
theorem make_zeros (n : Nat) (hn : n ≤ 1000000) (W : World) : (Instr.makeSlice 36 (.int .i64 n) (.int .i64 n)).run Try.prog W = .ok (.slice (some ⟨W.heap.size, 0, none⟩) n n) (W.alloc (.cells (byteCells (zs n)).toArray 5)) := by
  obtain ⟨i0, hi, hz, hs, hb⟩ := info_parts byteInfo
  have := run_make_rowN (P := Try.prog) 36 5 i0 _ Try.underlying36 hi hz .i64 .i64 n n (Nat.le_refl _) (by rw [hb]; omega) (by omega) W
  rw [hs] at this
  simp only [Value.cells] at this
  rw [made_zeros] at this
  have e : byteCells (zs n) = List.replicate (n * 1) (Value.int .u8 0) := by unfold zs byteCells; rw [List.map_replicate, Nat.mul_one]; rfl
  rw [e]
  exact this
theorem zeros_text (n : Nat) (W : World) : (convert 36 9 (.slice (some ⟨W.heap.size, 0, none⟩) n n)).run Try.prog (W.alloc (.cells (byteCells (zs n)).toArray 5)) = .ok (.string ⟨(zs n).toArray⟩) (W.alloc (.cells (byteCells (zs n)).toArray 5)) := by
  have := string_of_row (l := zs n) (show Has (W.alloc (.cells (byteCells (zs n)).toArray 5)) _ _ _ from heap_alloc_new W _)
  rw [zs_length] at this
  exact this
def R0 : St := openS (fresh 4) 1
def S2 : St := openS S1 1
def g2 : List UInt8 := best S2 1
def S3 : St := openS S2 (-1)
def S4 : St := setS S3 1 h1 l1 (zs 56)
theorem row_facts : openE (fresh 4) 1 = 9 ∧ txt h0 = [] ∧ num h0 = 1 ∧ txt h1 = ab ∧ num h1 = 2 ∧ openE S1 1 = 0 ∧ few S2 ∧ txt g2 = ab ∧ num g2 = 2 ∧ openE S2 (-1) = 6 ∧ few S3 ∧ setE S3 1 h1 l1 (zs 56) = 3 ∧ few S4 ∧ fmtE S4 3 = 6 := by decide +kernel
theorem ab_bytes : (⟨#[97, 98]⟩ : ByteArray) = ⟨ab.toArray⟩ := rfl
set_option maxRecDepth 100000 in
set_option maxHeartbeats 4000000 in
theorem works_walk (w : World) : Calls Try.prog 28 #[] w fun e w' => e = .returned (.bool true) ∧ Below w.heap.size w w' := by
  obtain ⟨o1, o2, o3⟩ := one_facts
  have m5 := made_facts.2.2.2.2
  have m1 := made_facts.1
  obtain ⟨r1, r2, r3, r4, r5, r6, r7, r8, r9, r10, r11, r12, r13, r14⟩ := row_facts
  have hmk : ∀ W : World, (Instr.makeSlice 36 (.int .i64 56) (.int .i64 56)).run Try.prog W = .ok (.slice (some ⟨W.heap.size, 0, none⟩) 56 56) (W.alloc (.cells (byteCells (zs 56)).toArray 5)) := make_zeros 56 (by omega)
  have hcv := zeros_text 56
  obtain ⟨ZC, hZ⟩ : ∃ ZC, ZC = byteCells (zs 56) := ⟨_, rfl⟩
  rw [← hZ] at hmk hcv
  clear hZ
  go_enter Try.func28, Try.ntmps28
  go_wp2_with fail
  refine (di_new (All.start w) 4 _ rfl (by omega) (by omega)).mono ?_
  rintro e w1 ⟨gr, rfl, a1⟩
  go_wp2_with fail
  refine (ti_open a1 _ m1).mono ?_
  rintro e w2 ⟨v, rfl, h2⟩
  rw [r1]
  obtain ⟨_, rfl, a2⟩ := h2.resolve_right (fun q => absurd q.1 (by rw [r1]; decide))
  replace a2 : All w w2 (Di w.heap.size gr R0 :: []) := a2
  go_wp2_with fail
  refine (made_walk w w2 _ a2).mono ?_
  rintro e w3 ⟨g, gt, rfl, a3⟩
  go_wp2_with fail
  refine (ti_text a3).mono ?_
  rintro e w4 ⟨rfl, b4⟩
  rw [r2]
  have a4 := a3.below b4
  go_wp2_with fail
  refine (ti_seq a4).mono ?_
  rintro e w5 ⟨rfl, b5⟩
  rw [r3]
  have a5 := a4.below b5
  go_wp2_with fail
  refine (ti_set a5 (by omega) (by omega) ab (by decide) m5).mono ?_
  rintro e w6 ⟨rfl, a6⟩
  rw [o1]
  replace a6 : All w w6 (Ti w.heap.size gt g 1 h1 l1 :: Di w.heap.size g S1 :: Di w.heap.size gr R0 :: []) := a6
  go_wp2_with fail
  refine (ti_text a6).mono ?_
  rintro e w7 ⟨rfl, b7⟩
  rw [r4]
  have a7 := a6.below b7
  go_wp2_with fail
  refine (ti_seq a7).mono ?_
  rintro e w8 ⟨rfl, b8⟩
  rw [r5]
  have a8 := (a7.below b8).swap
  go_wp2_with fail
  refine (ti_open a8 _ o2).mono ?_
  rintro e w9 ⟨v, rfl, h9⟩
  rw [r6]
  rcases h9 with ⟨h, _⟩ | ⟨_, gu, rfl, a9⟩
  · exact absurd r6 h
  replace a9 : All w w9 (Ti w.heap.size gu g 1 g2 false :: Di w.heap.size g S2 :: Ti w.heap.size gt g 1 h1 l1 :: Di w.heap.size gr R0 :: []) := a9
  go_wp2_with fail
  refine (ti_open a9.swap _ r7).mono ?_
  rintro e w10 ⟨v, rfl, h10⟩
  rw [r10]
  obtain ⟨_, rfl, a10⟩ := h10.resolve_right (fun q => absurd q.1 (by rw [r10]; decide))
  replace a10 : All w w10 (Ti w.heap.size gu g 1 g2 false :: Di w.heap.size g S3 :: Ti w.heap.size gt g 1 h1 l1 :: Di w.heap.size gr R0 :: []) := All.swap a10
  go_wp2_with fail
  refine (ti_text a10).mono ?_
  rintro e w11 ⟨rfl, b11⟩
  rw [r8]
  have a11 := a10.below b11
  go_wp2_with fail
  refine (ti_seq a11).mono ?_
  rintro e w12 ⟨rfl, b12⟩
  rw [r9]
  have a12 := (((a11.below b12).tail).swap).alloc (.cells ZC.toArray 5)
  go_wp2_with fail
  refine (ti_set a12 (by omega) (by omega) (zs 56) (by rw [zs_length]; omega) r11).mono ?_
  rintro e w13 ⟨rfl, a13⟩
  rw [r12]
  have a13' : All w w13 (Di w.heap.size g S4 :: _) := a13.swap
  go_wp2_with fail
  refine (ti_format a13' _ r13).mono ?_
  rintro e w14 ⟨rfl, a14⟩
  rw [r14]
  have hB14 := a14.under
  go_wp2_with fail
  refine (after_walk w14 1 70 _ rfl ab fine_facts.1).mono ?_
  rintro e w15 ⟨rfl, b15⟩
  go_wp2_with fail
  refine (after_walk w15 2 70 _ rfl ab fine_facts.2.1).mono ?_
  rintro e w16 ⟨rfl, b16⟩
  go_wp2_with fail
  refine (after_walk w16 2 1 _ rfl cd fine_facts.2.2).mono ?_
  rintro e w17 ⟨rfl, b17⟩
  have hB15 := hB14.trans (b15.mono hB14.size)
  have hB16 := hB15.trans (b16.mono hB15.size)
  have hB17 := hB16.trans (b17.mono hB16.size)
  go_wp2
  go_ret
  exact ⟨rfl, hB17⟩
end TL
end Go.Proofs.Ytjdkmafbogaboaa
