/- A closed statement: the chapter's examples of twins, sectors that say nothing, twins that are none, are so. No condition. -/
import Derived.Test.YtjdkmafbogaboaaTwinTorn
import Derived.Test.YtjdkmafbogaboaaBlocks
namespace Go.Proofs.Ytjdkmafbogaboaa
open Go.ChangeShapes Go.WideShapes Go.ChangeAt Go.RowKit Go.Lib MM MF DM DK TM FL TH DN DW DF DU MS DC MY DP TD TN TS TO TT TU TP TL LK BL TwinTorn
namespace TwinKnown
def full : List UInt8 := zs 55
def K1 : St := setS S0 1 h0 false full
def k1 : List UInt8 := setH S0 1 h0 false full
def j1 : Bool := setL S0 1 h0 false full
def K2 : St := setS K1 1 k1 j1 [120]
def k2 : List UInt8 := setH K1 1 k1 j1 [120]
def j2 : Bool := setL K1 1 k1 j1 [120]
theorem set_facts : setE S0 1 h0 false full = 0 ∧ few K1 ∧ setE K1 1 k1 j1 [120] = 0 ∧ few K2 ∧ K2.un.length < 1000000000 := by decide +kernel
def t1 : List UInt8 := two (pad [0, 0, 0, 8, 0])
def t2 : List UInt8 := two (pad [])
def t3 : List UInt8 := two (pad [0, 0, 0, 9, 56])
def t4 : List UInt8 := two (pad [0, 0, 0, 9, 0, 122])
def t5 : List UInt8 := two (pad [0, 0, 0, 9, 1, 122])
def t6 : List UInt8 := two (pad [0, 0, 0, 9, 1, 121])
def p5 : List UInt8 := pad [0, 0, 0, 9, 1, 122]
def p6 : List UInt8 := pad [0, 0, 0, 9, 1, 121]
def t7 : List UInt8 := two (pad [255, 255, 255, 255, 0])
def bad : List (List UInt8) := [t1, t2, t3, t4, p5 ++ p6]
def badOk (l : List UInt8) : Prop := (writeS K2 2 l).un.length < 1000000000 ∧ few (flushS (writeS K2 2 l)) ∧ openE (flushS (writeS K2 2 l)) 1 = 0 ∧ num (best (openS (flushS (writeS K2 2 l)) 1) 1) = 2 ∧ txt (best (openS (flushS (writeS K2 2 l)) 1) 1) = full
instance (l : List UInt8) : Decidable (badOk l) := by unfold badOk; infer_instance
theorem bad_ok : ∀ l ∈ bad, badOk l := by decide +kernel
def C1 : St := writeS K2 2 t5
def C2 : St := openS C1 1
def c2 : List UInt8 := best C2 1
theorem c_facts : few C1 ∧ openE C1 1 = 0 ∧ num c2 = 9 ∧ txt c2 = [122] := by decide +kernel
def V1 : St := writeS K2 2 t7
def V2 : St := openS V1 1
def v2 : List UInt8 := best V2 1
theorem v_facts : few V1 ∧ openE V1 1 = 0 ∧ num v2 = 4294967295 ∧ few V2 ∧ setE V2 1 v2 false [97] = 10 := by decide +kernel
def H1 : St := { K2 with on := false, fuse := 0 }
theorem h_facts : few H1 ∧ openE H1 1 = 8 := by decide +kernel
def K3 : St := openS K2 3
def K4 : St := openS K3 1
def k4 : List UInt8 := best K4 1
def K5 : St := { K4 with on := false, fuse := 0 }
def K6 : St := setS K5 1 k4 false [97]
def k6 : List UInt8 := setH K5 1 k4 false [97]
theorem k_facts : openE K2 3 = 6 ∧ few K3 ∧ openE K3 1 = 0 ∧ few K5 ∧ setE K5 1 k4 false [97] = 8 ∧ txt k6 = [120] ∧ few K6 ∧ fmtE K6 1 = 8 := by decide +kernel
theorem bad_at (k : Nat) (hk : k < 5) : bad[k]'(by simpa [bad] using hk) ∈ bad := List.getElem_mem _
def cells : List Value := bad.map fun l => Value.string ⟨l.toArray⟩
/-- The frame's tail from slot n on is given a name. -/
theorem tail_out {P : Program} {c : Code} {Q : Exit → Go.Act → World → Prop} {L : List Value} {D} {w : World} (n : Nat) (h : ∀ T, T = L.drop n → c.wp P Q ⟨(L.take n ++ T).toArray, D⟩ w) : c.wp P Q ⟨L.toArray, D⟩ w := by
  have := h _ rfl
  rwa [List.take_append_drop] at this
section
variable {w0 w : World} {P Q R T : World → List Nat → Prop} {Ps : List (World → List Nat → Prop)}
theorem rot22 (h : All w0 w (P :: Q :: R :: T :: Ps)) : All w0 w (R :: T :: P :: Q :: Ps) := all_fourth (all_fourth h)
end
set_option maxRecDepth 100000 in
set_option maxHeartbeats 8000000 in
theorem walk (w : World) : Calls Try.prog 6 #[] w fun e w' => e = .returned (.bool true) ∧ Below w.heap.size w w' := by
  obtain ⟨q1, q2, q3, q4, q5⟩ := set_facts
  have m5 := made_facts.2.2.2.2
  obtain ⟨cf1, cf2, cf3, cf4⟩ := c_facts
  obtain ⟨vf1, vf2, vf3, vf4, vf5⟩ := v_facts
  obtain ⟨hf1, hf2⟩ := h_facts
  obtain ⟨kf1, kf2, kf3, kf4, kf5, kf6, kf7, kf8⟩ := k_facts
  have hmk : ∀ W : World, (Instr.makeSlice 36 (.int .i64 55) (.int .i64 55)).run Try.prog W = .ok (.slice (some ⟨W.heap.size, 0, none⟩) 55 55) (W.alloc (.cells (byteCells (zs 55)).toArray 5)) := make_zeros 55 (by omega)
  have hcv := zeros_text 55
  rw [show zs 55 = full from rfl] at hmk hcv
  obtain ⟨ZC, hZ⟩ : ∃ ZC, ZC = byteCells full := ⟨_, rfl⟩
  rw [← hZ] at hmk hcv
  clear hZ
  go_enter Try.func6, Try.ntmps6
  go_wp2_with fail
  refine (made_walk w w _ (All.start w)).mono ?_
  rintro e w1 ⟨g, gt, rfl, a1⟩
  have a1z := a1.alloc (.cells ZC.toArray 5)
  go_wp2_with fail
  refine (ti_set a1z (by omega) (by omega) full (by decide) m5).mono ?_
  rintro e w2 ⟨rfl, a2⟩
  rw [q1]
  replace a2 : All w w2 (Ti w.heap.size gt g 1 k1 j1 :: Di w.heap.size g K1 :: []) := a2
  go_wp2_with fail
  refine (ti_set a2 (by omega) (by omega) [120] (by decide) q2).mono ?_
  rintro e w3 ⟨rfl, a3⟩
  rw [q3]
  replace a3 : All w w3 (Ti w.heap.size gt g 1 k2 j2 :: Di w.heap.size g K2 :: []) := a3
  go_wp2_with fail
  have p3 := a3.swap.drew
  clear a2 a1 a1z
  have hx5 : (⟨t5.toArray⟩ : ByteArray).extract 0 64 = ⟨p5.toArray⟩ := by rw [ByteArray.extract_mk]; show _ = ByteArray.mk ((pad [0, 0, 0, 9, 1, 122]).toArray); congr 1
  have hx6 : (⟨t6.toArray⟩ : ByteArray).extract 0 64 = ⟨p6.toArray⟩ := by rw [ByteArray.extract_mk]; show _ = ByteArray.mk ((pad [0, 0, 0, 9, 1, 121]).toArray); congr 1
  have hl5 : t5.length = 128 := two_length (pad_length _)
  have hl6 : t6.length = 128 := two_length (pad_length _)
  have hadd := fun W : World => run_string_add_sum (P := Try.prog) (w := W) ⟨p5.toArray⟩ ⟨p6.toArray⟩ (by show (pad [0, 0, 0, 9, 1, 122]).length + (pad [0, 0, 0, 9, 1, 121]).length ≤ _; rw [pad_length, pad_length]; decide)
  rw [ByteArray.mk_append_mk] at hadd
  have HT1 := Lib.hid (show ∀ w, Calls Try.prog 32 #[.string ⟨#[0, 0, 0, 8, 0]⟩] w fun e w' => e = .returned (.string ⟨t1.toArray⟩) ∧ Below w.heap.size w w' from fun w => twice_walk [0, 0, 0, 8, 0] (by decide) w)
  have HT2 := Lib.hid (show ∀ w, Calls Try.prog 32 #[.string ⟨#[]⟩] w fun e w' => e = .returned (.string ⟨t2.toArray⟩) ∧ Below w.heap.size w w' from fun w => twice_walk [] (by decide) w)
  have HT3 := Lib.hid (show ∀ w, Calls Try.prog 32 #[.string ⟨#[0, 0, 0, 9, 56]⟩] w fun e w' => e = .returned (.string ⟨t3.toArray⟩) ∧ Below w.heap.size w w' from fun w => twice_walk [0, 0, 0, 9, 56] (by decide) w)
  have HT4 := Lib.hid (show ∀ w, Calls Try.prog 32 #[.string ⟨#[0, 0, 0, 9, 0, 122]⟩] w fun e w' => e = .returned (.string ⟨t4.toArray⟩) ∧ Below w.heap.size w w' from fun w => twice_walk [0, 0, 0, 9, 0, 122] (by decide) w)
  have HT5 := Lib.hid (show ∀ w, Calls Try.prog 32 #[.string ⟨#[0, 0, 0, 9, 1, 122]⟩] w fun e w' => e = .returned (.string ⟨t5.toArray⟩) ∧ Below w.heap.size w w' from fun w => twice_walk [0, 0, 0, 9, 1, 122] (by decide) w)
  have HT6 := Lib.hid (show ∀ w, Calls Try.prog 32 #[.string ⟨#[0, 0, 0, 9, 1, 121]⟩] w fun e w' => e = .returned (.string ⟨t6.toArray⟩) ∧ Below w.heap.size w w' from fun w => twice_walk [0, 0, 0, 9, 1, 121] (by decide) w)
  have HT7 := Lib.hid (show ∀ w, Calls Try.prog 32 #[.string ⟨#[255, 255, 255, 255, 0]⟩] w fun e w' => e = .returned (.string ⟨t7.toArray⟩) ∧ Below w.heap.size w w' from fun w => twice_walk [255, 255, 255, 255, 0] (by decide) w)
  refine tail_out 50 fun T hT => ?_
  simp only [List.drop_succ_cons, List.drop_zero] at hT
  simp only [List.take_succ_cons, List.take_zero, List.cons_append, List.nil_append]
  refine wp_region_any (by kernel_rfl) ?_
  change wpAny _ _ _ _ _ _ _ (World.drew _)
  generalize World.drew _ = wd at *
  refine wpAny_ready (rs := [0]) (by kernel_rfl) (by simp) (AllReady.cons (lit rfl) (fun K hK => ?_) AllReady.nil)
  go_simp
  go_at_call 32
  refine (HT1.out _).mono ?_
  rintro e vw1 ⟨rfl, bb1⟩
  have p4 := p3.below bb1
  refine hK _ _ ?_
  clear hK K p3
  try simp only [Act.put, List.setIfInBounds_toArray, List.set_cons_zero, List.set_cons_succ]
  refine wpAny_ready (rs := [1]) (by kernel_rfl) (by simp) (AllReady.cons (lit rfl) (fun K hK => ?_) AllReady.nil)
  go_simp
  go_at_call 32
  refine (HT2.out _).mono ?_
  rintro e vw2 ⟨rfl, bb2⟩
  have p5a := p4.below bb2
  refine hK _ _ ?_
  clear hK K p4
  try simp only [Act.put, List.setIfInBounds_toArray, List.set_cons_zero, List.set_cons_succ]
  refine wpAny_ready (rs := [2]) (by kernel_rfl) (by simp) (AllReady.cons (lit rfl) (fun K hK => ?_) AllReady.nil)
  go_simp
  go_at_call 32
  refine (HT3.out _).mono ?_
  rintro e vw3 ⟨rfl, bb3⟩
  have p6a := p5a.below bb3
  refine hK _ _ ?_
  clear hK K p5a
  try simp only [Act.put, List.setIfInBounds_toArray, List.set_cons_zero, List.set_cons_succ]
  refine wpAny_ready (rs := [3]) (by kernel_rfl) (by simp) (AllReady.cons (lit rfl) (fun K hK => ?_) AllReady.nil)
  go_simp
  go_at_call 32
  refine (HT4.out _).mono ?_
  rintro e vw4 ⟨rfl, bb4⟩
  have p7 := p6a.below bb4
  refine hK _ _ ?_
  clear hK K p6a
  try simp only [Act.put, List.setIfInBounds_toArray, List.set_cons_zero, List.set_cons_succ]
  refine wpAny_ready (rs := [4]) (by kernel_rfl) (by simp) (AllReady.cons (lit rfl) (fun K hK => ?_) AllReady.nil)
  go_simp
  go_at_call 32
  refine (HT5.out _).mono ?_
  rintro e vw5 ⟨rfl, bb5⟩
  have p8 := p7.below bb5
  refine hK _ _ ?_
  clear hK K p7
  try simp only [Act.put, List.setIfInBounds_toArray, List.set_cons_zero, List.set_cons_succ]
  refine wpAny_take (i := 5) (v := (.string ⟨p5.toArray⟩)) (lit rfl) (by kernel_rfl) (by kernel_rfl) (by kernel_rfl) (fun _ _ _ h => h) (Or.inl ⟨by rfl, fun w => by go_simp⟩) ?_
  try simp only [Act.put, List.setIfInBounds_toArray, List.set_cons_zero, List.set_cons_succ]
  refine wpAny_ready (rs := [6]) (by kernel_rfl) (by simp) (AllReady.cons (lit rfl) (fun K hK => ?_) AllReady.nil)
  go_simp
  go_at_call 32
  refine (HT6.out _).mono ?_
  rintro e vw6 ⟨rfl, bb6⟩
  have p9 := p8.below bb6
  refine hK _ _ ?_
  clear hK K p8
  try simp only [Act.put, List.setIfInBounds_toArray, List.set_cons_zero, List.set_cons_succ]
  refine wpAny_take (i := 7) (v := (.string ⟨p6.toArray⟩)) (lit rfl) (by kernel_rfl) (by kernel_rfl) (by kernel_rfl) (fun _ _ _ h => h) (Or.inl ⟨by rfl, fun w => by go_simp⟩) ?_
  try simp only [Act.put, List.setIfInBounds_toArray, List.set_cons_zero, List.set_cons_succ]
  refine wpAny_take (i := 8) (v := (.string ⟨(p5 ++ p6).toArray⟩)) (lit rfl) (by kernel_rfl) (by kernel_rfl) (by kernel_rfl) (fun _ _ _ h => h) (Or.inl ⟨by rfl, fun w => by go_simp⟩) ?_
  try simp only [Act.put, List.setIfInBounds_toArray, List.set_cons_zero, List.set_cons_succ]
  refine wpAny_ready (rs := [9]) (by kernel_rfl) (by simp) (AllReady.cons (lit rfl) (fun K hK => ?_) AllReady.nil)
  go_simp
  refine hK _ _ ?_
  clear hK K
  try simp only [Act.put, List.setIfInBounds_toArray, List.set_cons_zero, List.set_cons_succ]
  refine wpAny_ready (rs := [10]) (by kernel_rfl) (by simp) (AllReady.cons (lit rfl) (fun K hK => ?_) AllReady.nil)
  go_simp
  refine hK _ _ ?_
  clear hK K
  try simp only [Act.put, List.setIfInBounds_toArray, List.set_cons_zero, List.set_cons_succ]
  refine wpAny_done (by kernel_rfl) ?_ _
  subst hT
  have a0 : All w (vw6.alloc (.cells cells.toArray 9)) (Bl w.heap.size vw6.heap.size 9 cells :: Di w.heap.size g K2 :: Ti w.heap.size gt g 1 k2 j2 :: []) := bl_new p9 _ _
  clear p9
  generalize vw6.heap.size = bl at *
  have hcl : cells.length = 5 := rfl
  go_wp2
  go_loopw [8] (fun i wr => ∃ k : Nat, k ≤ 5 ∧ i = .int .i64 k ∧ All w wr (Bl w.heap.size bl 9 cells :: Di w.heap.size g K2 :: Ti w.heap.size gt g 1 k2 j2 :: [])) (fun i _ => 5 - (RowKit.intOf i).toNat)
  case atStart => exact ⟨0, by omega, rfl, a0⟩
  case round =>
    obtain ⟨k, hk, rfl, hA⟩ := hrel
    by_cases hlt : k < 5
    · obtain ⟨x1, x2, x3, x4, x5⟩ := bad_ok _ (bad_at k hlt)
      have hcell := (all_has hA (g := bl) (t := 9) (cs := cells) (by simp)).cell k
      rw [show cells[k]? = some (.string ⟨(bad[k]'(by simpa [bad] using hlt)).toArray⟩) by unfold cells; rw [List.getElem?_map, List.getElem?_eq_getElem (by simpa [bad] using hlt)]; rfl] at hcell
      have HLB := Lib.hid (show cells[k]? = some (.string ⟨(bad[k]'(by simpa [bad] using hlt)).toArray⟩) by unfold cells; rw [List.getElem?_map, List.getElem?_eq_getElem (by simpa [bad] using hlt)]; rfl)
      generalize bad[k]'(by simpa [bad] using hlt) = lb at *
      go_wp2_with fail
      refine (di_copy hA.swap).mono ?_
      rintro e wa ⟨gc, rfl, aa⟩
      have hcell2 := (all_has aa (g := bl) (t := 9) (cs := cells) (by simp)).cell k
      rw [show cells[k]? = some (.string ⟨lb.toArray⟩) from HLB.out] at hcell2
      go_wp2_with fail
      refine (di_write aa 2 lb q5).mono ?_
      rintro e wb ⟨rfl, ab⟩
      go_wp2_with fail
      refine (di_flush ab).mono ?_
      rintro e wc ⟨rfl, ac⟩
      go_wp2_with fail
      refine (ti_open ac 1 x2).mono ?_
      rintro e wd' ⟨v', rfl, hd⟩
      rw [x3]
      rcases hd with ⟨hh, _⟩ | ⟨_, gu, rfl, ad⟩
      · exact absurd x3 hh
      go_wp2_with fail
      refine (ti_seq ad).mono ?_
      rintro e we ⟨rfl, be⟩
      rw [x4]
      have ae := ad.below be
      go_wp2_with fail
      refine (ti_text ae).mono ?_
      rintro e wf ⟨rfl, bf⟩
      rw [x5]
      have af := (((ae.below bf).tail).tail).swap
      go_wp2
      go_roundw
      case rel => exact ⟨k + 1, by omega, by go_num, af⟩
      case measure => simp [RowKit.intOf]; omega
    · have e0 := hA.tail
      clear hA HT1 HT2 HT3 HT4 HT6 a0
      go_wp2_with fail
      refine (di_copy e0).mono ?_
      rintro e x1 ⟨gc, rfl, e1⟩
      go_wp2_with fail
      refine (HT5.out _).mono ?_
      rintro e x2 ⟨rfl, y2⟩
      have e2 := e1.below y2
      go_wp2_with fail
      refine (di_write e2 2 t5 q5).mono ?_
      rintro e x3 ⟨rfl, e3⟩
      replace e3 : All w x3 (Di w.heap.size gc C1 :: Di w.heap.size g K2 :: Ti w.heap.size gt g 1 k2 j2 :: []) := e3
      go_wp2_with fail
      refine (ti_open e3 1 cf1).mono ?_
      rintro e x4 ⟨v4, rfl, h4⟩
      rw [cf2]
      rcases h4 with ⟨h, _⟩ | ⟨_, gu, rfl, e4⟩
      · exact absurd cf2 h
      replace e4 : All w x4 (Di w.heap.size g K2 :: Ti w.heap.size gu gc 1 c2 false :: Di w.heap.size gc C2 :: Ti w.heap.size gt g 1 k2 j2 :: []) := all_third e4
      clear e0 e1 e2 e3
      go_wp2_with fail
      refine (di_copy e4).mono ?_
      rintro e x5 ⟨gf, rfl, e5⟩
      go_wp2_with fail
      refine (HT7.out _).mono ?_
      rintro e x6 ⟨rfl, y6⟩
      have e6 := e5.below y6
      go_wp2_with fail
      refine (di_write e6 2 t7 q5).mono ?_
      rintro e x7 ⟨rfl, e7⟩
      replace e7 : All w x7 (Di w.heap.size gf V1 :: Di w.heap.size g K2 :: Ti w.heap.size gu gc 1 c2 false :: Di w.heap.size gc C2 :: Ti w.heap.size gt g 1 k2 j2 :: []) := e7
      go_wp2_with fail
      refine (ti_open e7 1 vf1).mono ?_
      rintro e x8 ⟨v8, rfl, h8⟩
      rw [vf2]
      rcases h8 with ⟨h, _⟩ | ⟨_, gv, rfl, e8⟩
      · exact absurd vf2 h
      replace e8 : All w x8 (Di w.heap.size g K2 :: Ti w.heap.size gv gf 1 v2 false :: Di w.heap.size gf V2 :: Ti w.heap.size gu gc 1 c2 false :: Di w.heap.size gc C2 :: Ti w.heap.size gt g 1 k2 j2 :: []) := all_third e8
      clear e4 e5 e6 e7
      go_wp2_with fail
      refine (di_copy e8).mono ?_
      rintro e x9 ⟨gh, rfl, e9⟩
      go_wp2_with fail
      refine (di_off e9).mono ?_
      rintro e x10 ⟨rfl, e10⟩
      replace e10 : All w x10 (Di w.heap.size gh H1 :: _) := e10
      go_wp2_with fail
      refine (ti_open e10 1 hf1).mono ?_
      rintro e x11 ⟨v11, rfl, h11⟩
      rw [hf2]
      obtain ⟨_, rfl, e11⟩ := h11.resolve_right (fun q => absurd q.1 (by rw [hf2]; decide))
      go_wp2_with fail
      refine (open_nil _ 1).mono ?_
      rintro e x12 ⟨rfl, y12⟩
      have e12 := (e11.below y12).tail
      clear e8 e9 e10 e11 h11
      go_wp2_with fail
      refine (ti_open e12 3 q4).mono ?_
      rintro e x13 ⟨v13, rfl, h13⟩
      rw [kf1]
      obtain ⟨_, rfl, e13⟩ := h13.resolve_right (fun q => absurd q.1 (by rw [kf1]; decide))
      go_wp2_with fail
      refine (ti_open e13 1 kf2).mono ?_
      rintro e x14 ⟨v14, rfl, h14⟩
      rw [show openE (openS K2 3) 1 = 0 from kf3]
      rcases h14 with ⟨h, _⟩ | ⟨_, gw, rfl, e14⟩
      · exact absurd kf3 h
      replace e14 : All w x14 (Ti w.heap.size gw g 1 k4 false :: Di w.heap.size g K4 :: Ti w.heap.size gv gf 1 v2 false :: Di w.heap.size gf V2 :: Ti w.heap.size gu gc 1 c2 false :: Di w.heap.size gc C2 :: Ti w.heap.size gt g 1 k2 j2 :: []) := e14
      clear e12 e13 h13
      go_wp2_with fail
      refine (di_off e14.swap).mono ?_
      rintro e x15 ⟨rfl, e15⟩
      replace e15 : All w x15 (Ti w.heap.size gw g 1 k4 false :: Di w.heap.size g K5 :: Ti w.heap.size gv gf 1 v2 false :: Di w.heap.size gf V2 :: Ti w.heap.size gu gc 1 c2 false :: Di w.heap.size gc C2 :: Ti w.heap.size gt g 1 k2 j2 :: []) := All.swap e15
      go_wp2_with fail
      refine (works_walk _).mono ?_
      rintro e x16 ⟨rfl, y16⟩
      have e16 := e15.below y16
      clear e14 e15
      go_wp2_with fail
      refine (ti_seq e16.tail.tail.tail.tail).mono ?_
      rintro e x17 ⟨rfl, y17⟩
      rw [cf3]
      have e17 := e16.below y17
      go_wp2_with fail
      refine (ti_text e17.tail.tail.tail.tail).mono ?_
      rintro e x18 ⟨rfl, y18⟩
      rw [cf4]
      have e18 := e17.below y18
      go_wp2_with fail
      refine (ti_seq e18.tail.tail).mono ?_
      rintro e x19 ⟨rfl, y19⟩
      rw [vf3]
      have e19 := rot22 (e18.below y19)
      clear e16 e17 e18
      go_wp2_with fail
      refine (ti_set e19 (by omega) (by omega) [97] (by decide) vf4).mono ?_
      rintro e x20 ⟨rfl, e20⟩
      rw [vf5]
      have e20' := rot22 e20
      go_wp2_with fail
      refine (ti_set e20' (by omega) (by omega) [97] (by decide) kf4).mono ?_
      rintro e x21 ⟨rfl, e21⟩
      rw [kf5]
      go_wp2_with fail
      refine (ti_text e21).mono ?_
      rintro e x22 ⟨rfl, y22⟩
      rw [show txt (setH K5 1 k4 false [97]) = [120] from kf6]
      have e22 := e21.below y22
      go_wp2_with fail
      refine (set_nil _ _).mono ?_
      rintro e x23 ⟨rfl, rfl⟩
      go_wp2_with fail
      refine (text_nil _).mono ?_
      rintro e x24 ⟨rfl, rfl⟩
      go_wp2_with fail
      refine (seq_nil _).mono ?_
      rintro e x25 ⟨rfl, rfl⟩
      go_wp2_with fail
      refine (format_nil _ _).mono ?_
      rintro e x26 ⟨rfl, rfl⟩
      go_wp2_with fail
      refine (ti_format e22.swap 1 kf7).mono ?_
      rintro e x27 ⟨rfl, e27⟩
      rw [show fmtE (setS K5 1 k4 false [97]) 1 = 8 from kf8]
      have hB := e27.under
      go_wp2
      go_ret
      exact ⟨rfl, hB⟩

set_option maxRecDepth 100000 in
theorem lifted (os : Os) (started : os.Started) (H : Type) (enc : TypeId × Value → H) :
    ReturnsInHanded {} Try.checked os 6 .any (Rows.twinKnownSpec.pre6 enc Try.prog Try.f6 Rows.twinKnownRow.domain false) (Rows.twinKnownSpec.post enc Try.prog Try.f6 false true false false) := by
  refine returnsInHanded_of_change (C := Try.checked) own started (by kernel_rfl) Try.func6
    (ChangeSpec.witness6 (enc := enc) (C := Try.checked) false ⟨#[], #[], []⟩ 8 (by kernel_rfl) (by kernel_rfl) (by kernel_rfl) (by kernel_rfl)) ?_
  intro W base args ds gs before hval0 hW hcnd _
  have hval : ∀ (j : Nat) t v, Try.f6.params[j]? = some t → args[j]? = some v → Value.okWide Try.prog W .any base t v := hval0
  have hW' := hW
  obtain ⟨p, q, hA0, hV, rfl, hfz, hnd⟩ := hW
  have hA : DataW.TrodAll enc Try.prog W 0 (fun _ => true) true Try.f6.params.toList args.toList ds p := hA0
  rw [Try.params6] at hA hval
  obtain ⟨hargs, rfl, rfl⟩ := trodAll_nil hA
  obtain rfl : args = #[] := by cases args; simp_all
  obtain ⟨rfl, rfl⟩ := trodVars_none hV
  clear hA0 hval0
  have hc := walk W
  try simp only [Array.toArray_toList] at hc
  refine hc.mono fun e W' ⟨he, hg⟩ => ?_
  subst he
  exact ⟨_, rfl, law_post rfl (by decide +kernel) (by kernel_rfl) rfl hW' hg⟩

theorem over : Rows.twinKnownRow.holds Try.pinned (OpenSpec.ofChange Rows.twinKnownSpec) :=
  OpenClaim.holds_of_wide 6 Try.f6 rfl rfl rfl rfl rfl rfl rfl ⟨rfl, rfl, rfl, rfl, rfl⟩ rfl rfl rfl rfl rfl (by kernel_rfl) Try.func6 (by kernel_rfl)
    (of_decide_eq_true (by kernel_rfl)) (by unfold Func.isWrapper; first | (rw [if_pos (by decide +kernel)]; kernel_rfl) | (rw [if_neg (by decide +kernel)]; exact ⟨rfl, rfl⟩))
    (fun os started H enc _ => lifted os started H enc)

theorem proved : Rows.TwinKnownSaid :=
  over
#print axioms proved
end TwinKnown
end Go.Proofs.Ytjdkmafbogaboaa
