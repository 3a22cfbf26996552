/- A write of two copies over two copies that is torn leaves two alike copies just if they are all the old ones, or all the new ones: of all copies, and fates. No condition. -/
import Derived.Test.YtjdkmafbogaboaaTwinLaw
namespace Go.Proofs.Ytjdkmafbogaboaa
open Go.ChangeShapes Go.WideShapes Go.ChangeAt Go.RowKit Go.Lib MM MF DM DK TM FL TH DN DW DF DU MS DC MY DP TD TN TS TO TT TU TP TL LK
namespace TwinTorn
/-- A text's first 64 bytes, zeros behind. -/
def pad (l : List UInt8) : List UInt8 := l.take 64 ++ zs (64 - l.length)
theorem pad_length (l : List UInt8) : (pad l).length = 64 := by
  unfold pad
  rw [List.length_append, List.length_take, zs_length]
  omega
set_option maxRecDepth 100000 in
set_option maxHeartbeats 1000000 in
theorem twice_walk (l : List UInt8) (hl : l.length ≤ 9223372036854775807) (w : World) : Calls Try.prog 32 #[.string ⟨l.toArray⟩] w fun e w' => e = .returned (.string ⟨(two (pad l)).toArray⟩) ∧ Below w.heap.size w w' := by
  have HPAD := Lib.hid (show two (pad l) = pad l ++ pad l from rfl)
  have hpl := pad_length l
  rcases Nat.lt_or_ge 64 l.length with h64 | h64
  · have hp : pad l = l.take 64 ++ zs 0 := by unfold pad; rw [show 64 - l.length = 0 by omega]
    have hm : min (l.length : Int) 64 = 64 := by omega
    have hex : (⟨l.toArray⟩ : ByteArray).extract 0 64 = ⟨(l.take 64).toArray⟩ := by rw [ByteArray.extract_mk]; simp
    have htl : (l.take 64).length = 64 := by rw [List.length_take]; omega
    have hmk : ∀ W : World, (Instr.makeSlice 36 (.int .i64 0) (.int .i64 0)).run Try.prog W = .ok (.slice (some ⟨W.heap.size, 0, none⟩) 0 0) (W.alloc (.cells (byteCells (zs 0)).toArray 5)) := make_zeros 0 (by omega)
    have hcv := zeros_text 0
    have hadd := fun W : World => run_string_add_sum (P := Try.prog) (w := W) ⟨(l.take 64).toArray⟩ ⟨(zs 0).toArray⟩ (by show (l.take 64).length + 0 ≤ _; omega)
    rw [ByteArray.mk_append_mk, ← hp] at hadd
    have hadd2 := fun W : World => run_string_add_sum (P := Try.prog) (w := W) ⟨(pad l).toArray⟩ ⟨(pad l).toArray⟩ (by show (pad l).length + (pad l).length ≤ _; omega)
    rw [ByteArray.mk_append_mk, ← HPAD.out] at hadd2
    generalize two (pad l) = T at *
    generalize pad l = p at *
    generalize zs 0 = z at *
    generalize byteCells z = cz at *
    have hb : Below w.heap.size w (w.alloc (.cells cz.toArray 5)) := (Below.refl _ _).alloc (Nat.le_refl _) _
    clear hp HPAD
    go_enter Try.func32, Try.ntmps32
    go_wp2
    go_ret
    exact ⟨rfl, hb⟩
  · have hp : pad l = l ++ zs (64 - l.length) := by unfold pad; rw [List.take_of_length_le h64]
    have hm : min (l.length : Int) 64 = (l.length : Int) := by omega
    have hex : (⟨l.toArray⟩ : ByteArray).extract 0 l.length = ⟨l.toArray⟩ := by rw [ByteArray.extract_mk]; simp
    have hk : (64 : Int) - (l.length : Int) = ((64 - l.length : Nat) : Int) := by omega
    have hmk := make_zeros (64 - l.length) (by omega)
    have hcv := zeros_text (64 - l.length)
    have hadd := fun W : World => run_string_add_sum (P := Try.prog) (w := W) ⟨l.toArray⟩ ⟨(zs (64 - l.length)).toArray⟩ (by show l.length + (zs (64 - l.length)).length ≤ _; rw [zs_length]; omega)
    rw [ByteArray.mk_append_mk, ← hp] at hadd
    have hadd2 := fun W : World => run_string_add_sum (P := Try.prog) (w := W) ⟨(pad l).toArray⟩ ⟨(pad l).toArray⟩ (by show (pad l).length + (pad l).length ≤ _; omega)
    rw [ByteArray.mk_append_mk, ← HPAD.out] at hadd2
    generalize two (pad l) = T at *
    generalize pad l = p at *
    generalize hkk : 64 - l.length = k at *
    have hk64 : k ≤ 64 := by omega
    generalize zs k = z at *
    generalize byteCells z = cz at *
    have hb : Below w.heap.size w (w.alloc (.cells cz.toArray 5)) := (Below.refl _ _).alloc (Nat.le_refl _) _
    clear hp HPAD hkk
    go_enter Try.func32, Try.ntmps32
    go_wp2
    go_ret
    exact ⟨rfl, hb⟩
/-- Two copies over two copies, torn behind n bytes. -/
def torn (A C : List UInt8) (n : Nat) : List UInt8 := (two C).take n ++ (two A).drop n
theorem torn_length {A C : List UInt8} (hA : A.length = 64) (hC : C.length = 64) (n : Nat) (hn : n ≤ 128) : (torn A C n).length = 128 := by
  unfold torn
  rw [List.length_append, List.length_take, List.length_drop, two_length hA, two_length hC]; omega
theorem torn_alike {A C : List UInt8} (hA : A.length = 64) (hC : C.length = 64) (n : Nat) (hn : n ≤ 128) : ((torn A C n).take 64 = (torn A C n).drop 64) ↔ (torn A C n = two A ∨ torn A C n = two C) := by
  have hl := torn_length hA hC n hn
  constructor
  · intro h
    have hs := even_two h
    rcases Nat.lt_or_ge 64 n with h64 | h64
    · right
      have e : (torn A C n).take 64 = C := by
        unfold torn
        rw [List.take_append_of_le_length (by rw [List.length_take, two_length hC]; omega), List.take_take, show min 64 n = 64 by omega, two_first hC]
      rw [hs, e]
    · left
      have e : (torn A C n).drop 64 = A := by
        unfold torn
        rw [List.drop_append, List.drop_eq_nil_of_le (by rw [List.length_take, two_length hC]; omega), List.nil_append, List.length_take, two_length hC, show min n 128 = n by omega, List.drop_drop, show n + (64 - n) = 64 by omega, two_last hA]
      rw [hs, h, e]
  · rintro (h | h)
    · rw [h, two_first hA, two_last hA]
    · rw [h, two_first hC, two_last hC]
def P1 (a : List UInt8) : St := ⟨[zeros], [(0, a)], true, 0⟩
def P2 (a : List UInt8) : St := ⟨[a], [], true, 0⟩
def P3 (a b : List UInt8) : St := ⟨[a], [(0, b)], true, 0⟩
def P4 (a b : List UInt8) : St := ⟨[a], [(0, b)], false, 0⟩
def P5 (A C : List UInt8) (c : UInt8) : St := ⟨[torn A C (keep c)], [], true, 0⟩
theorem pw1 {a : List UInt8} (ha : a.length = 128) : writeE (fresh 1) 0 a = 0 ∧ writeS (fresh 1) 0 a = P1 a := by
  have hr : refuse (fresh 1) 0 = 0 := by decide
  unfold writeE writeS
  rw [hr]
  simp [ha]
  exact ⟨rfl, rfl⟩
theorem pw2 (a : List UInt8) : flushE (P1 a) = 0 ∧ flushS (P1 a) = P2 a := ⟨rfl, rfl⟩
theorem pw3 {a b : List UInt8} (hb : b.length = 128) : writeE (P2 a) 0 b = 0 ∧ writeS (P2 a) 0 b = P3 a b := by
  have hr : refuse (P2 a) 0 = 0 := rfl
  unfold writeE writeS
  rw [hr]
  simp [hb]
  exact ⟨rfl, rfl⟩
theorem pw5 (A C : List UInt8) (c : UInt8) : wakeS (P4 (two A) (two C)) [c] = P5 A C c := rfl
theorem pr5 (A C : List UInt8) (c : UInt8) : refuse (P5 A C c) 0 = 0 ∧ readT (P5 A C c) 0 = torn A C (keep c) := ⟨rfl, rfl⟩
set_option maxRecDepth 100000 in
set_option maxHeartbeats 4000000 in
theorem walk (l1 l2 : List UInt8) (hl1 : l1.length ≤ 9223372036854775807) (hl2 : l2.length ≤ 9223372036854775807) (c : UInt8) (ci : Int) (hci : (c.toNat : Int) = ci) (w : World) : Calls Try.prog 5 #[.string ⟨l1.toArray⟩, .string ⟨l2.toArray⟩, .int .u8 ci] w fun e w' => e = .returned (.bool true) ∧ Below w.heap.size w w' := by
  have hc := c.toNat_lt
  have hci0 : 0 ≤ ci := by omega
  have hci1 : ci < 256 := by omega
  have HT1 := Lib.hid (fun w => twice_walk l1 hl1 w)
  have HT2 := Lib.hid (fun w => twice_walk l2 hl2 w)
  have hA := pad_length l1
  have hC := pad_length l2
  generalize pad l1 = A at *
  generalize pad l2 = C at *
  have hkp := keep_le c
  have hal := torn_alike hA hC (keep c) hkp
  have htl := torn_length hA hC (keep c) hkp
  have HW1 := Lib.hid (pw1 (two_length hA))
  have HW3 := Lib.hid (pw3 (a := two A) (two_length hC))
  go_enter Try.func5, Try.ntmps5
  go_wp2_with fail
  refine (works_walk w).mono ?_
  rintro e w1 ⟨rfl, b1⟩
  go_wp2_with fail
  refine (di_new ((All.start w).below b1) 1 _ rfl (by omega) (by omega)).mono ?_
  rintro e w2 ⟨g, rfl, a2⟩
  go_wp2_with fail
  refine (HT1.out _).mono ?_
  rintro e w3 ⟨rfl, b3⟩
  have a3 := a2.below b3
  go_wp2_with fail
  refine (HT2.out _).mono ?_
  rintro e w4 ⟨rfl, b4⟩
  have a4 := a3.below b4
  go_wp2_with fail
  refine (di_write a4 0 (two A) (by decide)).mono ?_
  rintro e w5 ⟨rfl, a5⟩
  rw [HW1.out.1]
  rw [HW1.out.2] at a5
  go_wp2_with fail
  refine (di_flush a5).mono ?_
  rintro e w6 ⟨rfl, a6⟩
  rw [(pw2 (two A)).1]
  rw [(pw2 (two A)).2] at a6
  go_wp2_with fail
  refine (di_write a6 0 (two C) (show 0 < 1000000000 by omega)).mono ?_
  rintro e w7 ⟨rfl, a7⟩
  rw [HW3.out.1]
  rw [HW3.out.2] at a7
  go_wp2_with fail
  refine (di_off a7).mono ?_
  rintro e w8 ⟨rfl, a8⟩
  replace a8 : All w w8 (Di w.heap.size g (P4 (two A) (two C)) :: []) := a8
  have hrow : Has (w8.alloc (.cells #[.int .u8 ci] 5)) w8.heap.size 5 (byteCells [c]) := by
    rw [show byteCells [c] = [.int .u8 ci] by rw [← hci]; rfl]
    exact heap_alloc_new _ _
  have a8a := a8.alloc (.cells #[.int .u8 ci] 5)
  go_wp2_with fail
  refine (di_wake_in a8a [c] (by simp) (by unfold maxLen; simp) _ _ _ rfl rfl _ rfl hrow).mono ?_
  rintro e w9 ⟨rfl, a9⟩
  rw [pw5] at a9
  go_wp2_with fail
  refine (di_read a9 0).mono ?_
  rintro e w10 ⟨rfl, rfl⟩
  rw [(pr5 A C c).1, (pr5 A C c).2]
  have hB := a9.under
  generalize torn A C (keep c) = s at *
  have hx1 : (⟨s.toArray⟩ : ByteArray).extract 0 64 = ⟨(s.take 64).toArray⟩ := by rw [ByteArray.extract_mk]; simp
  have hx2 := cut_text s htl
  have hBd : Below w.heap.size w w9.drew := ⟨hB.os, hB.tape, hB.output, hB.size, hB.block⟩
  by_cases q1 : s = two A
  · have p1 : (s == two A) = true := beq_iff_eq.2 q1
    have p0 : (s.take 64 == s.drop 64) = true := beq_iff_eq.2 (hal.2 (.inl q1))
    clear hal q1
    generalize s.take 64 = sa at *
    generalize s.drop 64 = sb at *
    generalize two A = tA at *
    generalize two C = tC at *
    go_wp2_with fail
    go_region
    all_goals
      go_wp2
      go_ret
      exact ⟨rfl, hBd⟩
  · have p1 : (s == two A) = false := beq_eq_false_iff_ne.2 q1
    by_cases q2 : s = two C
    · have p2 : (s == two C) = true := beq_iff_eq.2 q2
      have p0 : (s.take 64 == s.drop 64) = true := beq_iff_eq.2 (hal.2 (.inr q2))
      clear hal q1 q2
      generalize s.take 64 = sa at *
      generalize s.drop 64 = sb at *
      generalize two A = tA at *
      generalize two C = tC at *
      go_wp2_with fail
      go_region
      all_goals
        go_wp2
        go_ret
        exact ⟨rfl, hBd⟩
    · have p2 : (s == two C) = false := beq_eq_false_iff_ne.2 q2
      have p0 : (s.take 64 == s.drop 64) = false := beq_eq_false_iff_ne.2 (fun q => (hal.1 q).elim q1 q2)
      clear hal q1 q2
      generalize s.take 64 = sa at *
      generalize s.drop 64 = sb at *
      generalize two A = tA at *
      generalize two C = tC at *
      go_wp2_with fail
      go_region
      all_goals
        go_wp2
        go_ret
        exact ⟨rfl, hBd⟩

set_option maxRecDepth 100000 in
theorem lifted (os : Os) (started : os.Started) (H : Type) (enc : TypeId × Value → H) :
    ReturnsInHanded {} Try.checked os 5 .any (Rows.twinTornSpec.pre6 enc Try.prog Try.f5 Rows.twinTornRow.domain false) (Rows.twinTornSpec.post enc Try.prog Try.f5 false true false false) := by
  refine returnsInHanded_of_change (C := Try.checked) own started (by kernel_rfl) Try.func5
    (ChangeSpec.witness6 (enc := enc) (C := Try.checked) false ⟨#[], #[.string ⟨#[]⟩, .string ⟨#[]⟩, .int .u8 0], []⟩ 8 (by kernel_rfl) (by kernel_rfl) (by kernel_rfl) (by kernel_rfl)) ?_
  intro W base args ds gs before hval0 hW hcnd _
  have hval : ∀ (j : Nat) t v, Try.f5.params[j]? = some t → args[j]? = some v → Value.okWide Try.prog W .any base t v := hval0
  have hW' := hW
  obtain ⟨p, q, hA0, hV, rfl, hfz, hnd⟩ := hW
  have hA : DataW.TrodAll enc Try.prog W 0 (fun _ => true) true Try.f5.params.toList args.toList ds p := hA0
  rw [Try.params5] at hA hval
  obtain ⟨v0, vs0, d0, ds0, p0, q0, hargs, rfl, rfl, h0, r0⟩ := trodAll_cons hA
  obtain ⟨v1, vs1, d1, ds1, p1, q1, rfl, rfl, rfl, h1, r1⟩ := trodAll_cons r0
  obtain ⟨v2, vs2, d2, ds2, p2, q2, rfl, rfl, rfl, h2, r2⟩ := trodAll_cons r1
  obtain ⟨rfl, rfl, rfl⟩ := trodAll_nil r2
  obtain rfl : args = #[v0, v1, v2] := by cases args; simp_all
  obtain ⟨rfl, rfl⟩ := trodVars_none hV
  obtain ⟨s0, rfl, rfl, rfl, ws0⟩ := Go.ChangeMaps.open_string Try.underlying9 (hval 0 9 v0 rfl rfl) h0
  have hsz0 : s0.data.toList.length ≤ 9223372036854775807 := by rw [Array.length_toList]; exact ws0
  obtain ⟨s1, rfl, rfl, rfl, ws1⟩ := Go.ChangeMaps.open_string Try.underlying9 (hval 1 9 v1 rfl rfl) h1
  have hsz1 : s1.data.toList.length ≤ 9223372036854775807 := by rw [Array.length_toList]; exact ws1
  obtain ⟨a2, rfl, rfl, rfl, w2⟩ := open_int Try.underlying5 (hval 2 5 v2 rfl rfl) h2
  have hw2 : 0 ≤ a2 ∧ a2 ≤ 255 := by simpa [Lit.wf, IntKind.min, IntKind.max, IntKind.signed, IntKind.bits] using w2
  obtain ⟨n2, rfl⟩ := Int.eq_ofNat_of_zero_le hw2.1
  clear hA0 hval0
  have hc := walk s0.data.toList s1.data.toList hsz0 hsz1 (UInt8.ofNat n2) n2 (by rw [UInt8.toNat_ofNat', Nat.mod_eq_of_lt (by omega)]) W
  try simp only [Array.toArray_toList] at hc
  refine hc.mono fun e W' ⟨he, hg⟩ => ?_
  subst he
  exact ⟨_, rfl, law_post rfl (by decide +kernel) (by kernel_rfl) rfl hW' hg⟩

theorem over : Rows.twinTornRow.holds Try.pinned (OpenSpec.ofChange Rows.twinTornSpec) :=
  OpenClaim.holds_of_wide 5 Try.f5 rfl rfl rfl rfl rfl rfl rfl ⟨rfl, rfl, rfl, rfl, rfl⟩ rfl rfl rfl rfl rfl (by kernel_rfl) Try.func5 (by kernel_rfl)
    (of_decide_eq_true (by kernel_rfl)) (by unfold Func.isWrapper; first | (rw [if_pos (by decide +kernel)]; kernel_rfl) | (rw [if_neg (by decide +kernel)]; exact ⟨rfl, rfl⟩))
    (fun os started H enc _ => lifted os started H enc)

theorem proved : Rows.TwinTornSaid :=
  over
#print axioms proved
end TwinTorn
end Go.Proofs.Ytjdkmafbogaboaa
