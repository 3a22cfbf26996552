/- The walks of a twin that read and write its disk: a sector's halves, two copies put into a sector, refusal, mend. -/
import Derived.Test.YtkhdidhpcdlmcaaTwinHalf
import Derived.Test.YtkhdidhpcdlmcaaDiskNew
import Derived.Test.YtkhdidhpcdlmcaaDiskFlush
import Derived.StillTailTactics
namespace Go.Proofs.Ytkhdidhpcdlmcaa
open Go.RowKit Go.Lib MM MF DM DK TM FL TH DN DW DF
namespace TD
section
variable {P : Program} {ops : Array Oper} {rest : List Oper} {o : Oper} {a : Act} {w : World} {Q : Exit → Act → World → Prop}
/-- 'copy(dst, s)' of a text that is no shorter than dst: its beginning goes over. -/
theorem run_copy_first (dT sT ty elem : TypeId) (hu : P.underlying dT = some (.slice elem)) (hs : (P.info? elem).map (·.size) = some 1) (g off dLen dCap : Nat) (l : List UInt8) (t : TypeId) (xs : List Value) (hr : Row w g t xs)
    (hle : dLen ≤ l.length) (hl : off + dLen ≤ xs.length) :
    ∃ w', (Builtin.copy_ #[dT, sT] ty #[.slice (some ⟨g, off, none⟩) dLen dCap, .string ⟨l.toArray⟩]).run P w = .ok (goInt dLen) w' ∧ Row w' g t (splice xs off (byteCells (l.take dLen))) ∧ Fr w w' [g] := by
  have hlen : (byteCells (l.take dLen)).length = dLen := by rw [byteCells_length, List.length_take]; omega
  have ht := hr.there off dLen hl
  have hst := run_storeCells_cells (P := P) g off (byteCells (l.take dLen)) 0 w (by rw [hlen]; intro j hj; simpa using (ht j hj).1) (by rw [hlen]; intro j hj; simpa using (ht j hj).2) (byteCells_one _)
  have hmin : Nat.min l.length dLen = dLen := Nat.min_eq_right hle
  have htk : List.take dLen (List.map (fun b : UInt8 => Value.int IntKind.u8 (b.toNat : Int)) l) = byteCells (l.take dLen) := by
    unfold byteCells; rw [List.map_take]
  refine ⟨w.setCells g off (byteCells (l.take dLen)), ?_, hr.put off _ (by rw [hlen]; exact hl), (Fr.refl w [g]).setCells (by simp) off _⟩
  simp only [Nat.add_zero] at hst
  have hsz : (⟨l.toArray⟩ : ByteArray).size = l.length := rfl
  cases hq : P.info? elem with
  | none => simp [hq] at hs
  | some i =>
    simp [Builtin.copy_, run_underlying hu, Builtin.lenOf, Builtin.firstCells, sizeOf, typeInfo, hq, hsz, hmin]
    rw [htk, hst]
    simp [Result.andThen]
theorem wpList_copy_first (hgd : o.guard = none) (d s : Operand) (dT sT : TypeId) (ho : o.op = .call { callee := .builtin .copy, args := #[d, s], argTypes := #[dT, sT] })
    (elem : TypeId) (hu : P.underlying dT = some (.slice elem)) (hs : (P.info? elem).map (·.size) = some 1) (g off dLen dCap : Nat) (l : List UInt8) (hd : a.eval d = .slice (some ⟨g, off, none⟩) dLen dCap) (hx : a.eval s = .string ⟨l.toArray⟩)
    (t : TypeId) (xs : List Value) (hr : Row w g t xs) (hle : dLen ≤ l.length) (hl : off + dLen ≤ xs.length)
    (h : ∀ w', Row w' g t (splice xs off (byteCells (l.take dLen))) → Fr w w' [g] → wpList P ops Q rest (a.put o.dst (goInt dLen)) w') : wpList P ops Q (o :: rest) a w := by
  obtain ⟨w', hrun, h1, h2⟩ := run_copy_first (P := P) (w := w) dT sT o.type elem hu hs g off dLen dCap l t xs hr hle hl
  exact wpList_copy_run w hgd d s dT sT ho _ _ hd hx hrun (h w' h1 h2)
end
def hfirst (S : St) (i : Int) : List UInt8 := if refuse S i = 0 then (readT S i).take 64 else zeros64
def hlast (S : St) (i : Int) : List UInt8 := if refuse S i = 0 then (readT S i).drop 64 else zeros64
theorem read_length {S : St} (h : S.Ok) {i : Int} (hr : refuse S i = 0) : (readT S i).length = 128 := by
  have h0 : 0 ≤ i ∧ i < S.fl.length := by
    unfold refuse at hr
    split at hr
    · omega
    · split at hr <;> omega
  unfold readT
  rw [if_pos hr, List.getD_eq_getElem?_getD, List.getElem?_eq_getElem (by rw [St.now_length]; omega)]
  exact h.now_rows _ (List.getElem_mem _)
theorem hfirst_length {S : St} (h : S.Ok) (i : Int) : (hfirst S i).length = 64 := by
  unfold hfirst
  split
  · rename_i hr; rw [List.length_take, read_length h hr]; rfl
  · exact zeros64_length
theorem hlast_length {S : St} (h : S.Ok) (i : Int) : (hlast S i).length = 64 := by
  unfold hlast
  split
  · rename_i hr; rw [List.length_drop, read_length h hr]
  · exact zeros64_length
theorem cut_text (l : List UInt8) (hl : l.length = 128) : (⟨l.toArray⟩ : ByteArray).extract 64 128 = ⟨(l.drop 64).toArray⟩ := by
  rw [ByteArray.extract_mk]
  congr 1
  simp
  rw [List.take_of_length_le (by rw [List.length_drop]; omega)]
theorem half_size {l : List UInt8} (h : l.length = 64) : (Try.prog.info? 116).map (·.size) = some (byteCells l).length := by rw [byteCells_length, h]; kernel_rfl
theorem zeros_splice (l : List UInt8) (h : l.length = 64) : splice (byteCells zeros64) 0 (byteCells l) = byteCells l := splice_all _ _ (by rw [byteCells_length, byteCells_length, h]; rfl)
set_option maxRecDepth 100000 in
set_option maxHeartbeats 1000000 in
theorem halves_walk (w : World) (B g : Nat) (S : St) (fs : List Nat) (h : Dk w B g S fs) (i : Int) : Calls Try.prog 98 #[.pointer (some ⟨g, 0, none⟩), .int .i64 i] w fun e w' =>
    e = .returned (.tuple #[.agg (byteCells (hfirst S i)).toArray, .agg (byteCells (hlast S i)).toArray, .int .i64 (refuse S i)]) ∧ Below w.heap.size w w' := by
  obtain ⟨Z, hZ⟩ : ∃ Z, Z = byteCells zeros64 := ⟨_, rfl⟩
  have hzw := zero_half Z hZ
  have hZL : Z.length = 64 := by rw [hZ]; rfl
  have HZ := Lib.hid hZ
  clear hZ
  have r4 : Row ((w.alloc (.cells Z.toArray 116)).alloc (.cells Z.toArray 116)) w.heap.size 116 Z := Row.of_has ((show Has (w.alloc (.cells Z.toArray 116)) w.heap.size 116 Z from heap_alloc_new w _).grow _)
  have r5 : Row ((w.alloc (.cells Z.toArray 116)).alloc (.cells Z.toArray 116)) (w.heap.size + 1) 116 Z := by
    rw [show w.heap.size + 1 = (w.alloc (.cells Z.toArray 116)).heap.size by simp]
    exact Row.of_has (show Has _ _ 116 Z from heap_alloc_new _ _)
  have hb : Below w.heap.size w ((w.alloc (.cells Z.toArray 116)).alloc (.cells Z.toArray 116)) := ((Below.refl _ _).alloc (Nat.le_refl _) _).alloc (by simp) _
  have HC := Lib.hid (read_walk ((h.alloc (.cells Z.toArray 116)).alloc (.cells Z.toArray 116)) i)
  have hF := hfirst_length h.ok i
  have hL := hlast_length h.ok i
  have hF1 : refuse S i = 0 → hfirst S i = (readT S i).take 64 := fun hr => by unfold hfirst; rw [if_pos hr]
  have hL1 : refuse S i = 0 → hlast S i = (readT S i).drop 64 := fun hr => by unfold hlast; rw [if_pos hr]
  have hF0 : refuse S i ≠ 0 → hfirst S i = zeros64 := fun hr => by unfold hfirst; rw [if_neg hr]
  have hL0 : refuse S i ≠ 0 → hlast S i = zeros64 := fun hr => by unfold hlast; rw [if_neg hr]
  have hR := fun hr => read_length h.ok (i := i) hr
  generalize hfirst S i = F at *
  generalize hlast S i = L at *
  generalize readT S i = l at *
  generalize refuse S i = r at *
  clear h
  by_cases hr : r = 0
  · subst hr
    have e1 := hF1 rfl
    have e2 := hL1 rfl
    have hl := hR rfl
    have hcut := cut_text l hl
    have E1 := Lib.hid e1
    have E2 := Lib.hid e2
    have HL := Lib.hid hl
    have HSF := Lib.hid (half_size hF)
    have HSL := Lib.hid (half_size hL)
    clear hF1 hL1 hF0 hL0 hR e1 e2
    go_enter Try.func98, Try.ntmps98
    go_wp2_with fail
    refine HC.out.mono ?_
    rintro e w1 ⟨rfl, rfl⟩
    go_wp2_with (first
      | (refine wpList_copy_first rfl (.tmp 19) (.tmp 20) _ _ rfl 5 Try.underlying23 (by kernel_rfl) w.heap.size 0 64 64 l rfl rfl 116 Z r4 (by rw [HL.out]; omega) (by omega) ?_
         intro w3 hw3 hf3
         have r4' : Row w3 w.heap.size 116 (byteCells F) := by
           rw [← E1.out, HZ.out, zeros_splice F hF] at hw3; exact hw3
         have r5' := r5.kept hf3 (by simp)
         have hb3 := hb.trans (hf3.below (B := w.heap.size) (by simp) hb.size)))
    have r5d := r5'.drew
    have hb3d : Below w.heap.size w w3.drew := ⟨hb3.os, hb3.tape, hb3.output, hb3.size, hb3.block⟩
    have h64 : IntKind.i64.wrap 64 = 64 := by kernel_rfl
    refine wp_region_still_tail 6 (by kernel_rfl) (by kernel_rfl) ?_
    simp only [List.take_succ_cons, List.take_zero, List.drop_succ_cons, List.drop_zero]
    show wpStill _ _ (World.drew w3) (fun a' => wpList _ _ _ _ a' (World.drew w3)) _ _
    repeat still_step
    refine wpStill_nil ?_
    show wpList _ _ _ _ _ (World.drew w3)
    go_wp2_with (first
      | (refine wpList_copy_text rfl (.tmp 22) (.tmp 27) _ _ rfl 5 Try.underlying23 (by kernel_rfl) (w.heap.size + 1) 0 64 64 (l.drop 64) rfl (by first | rfl | exact congrArg Value.string hcut) 116 Z r5d (by rw [List.length_drop, HL.out]; omega) (by rw [List.length_drop, HL.out]; omega) ?_
         intro w4 hw4 hf4
         have r5' : Row w4 (w.heap.size + 1) 116 (byteCells L) := by
           rw [← E2.out, HZ.out, zeros_splice L hL] at hw4; exact hw4
         have r4d := r4'.drew.kept hf4 (by simp)
         have hb4 := hb3d.trans (hf4.below (B := w.heap.size) (by simp) hb3d.size)
         have l4 := r4d.range 0 _ (fun j hj => by rw [Nat.zero_add])
         have l5 := r5'.range 0 _ (fun j hj => by rw [Nat.zero_add]))
      | (refine wpList_load_mid rfl _ (.tmp 4) rfl w.heap.size 0 rfl (byteCells F) _ l4 Try.underlying116 rfl HSF.out ?_)
      | (refine wpList_load_mid rfl _ (.tmp 5) rfl (w.heap.size + 1) 0 rfl (byteCells L) _ l5 Try.underlying116 rfl HSL.out ?_)
      | (refine wpList_store_all rfl _ (.tmp 4) (.tmp 29) rfl w.heap.size (byteCells F) rfl rfl 116 _ r4d rfl HSF.out (byteCells_one _) ?_
         intro w5 hw5 hf5
         have r5e := r5'.kept hf5 (by simp)
         have hb5 := hb4.trans (hf5.below (B := w.heap.size) (by simp) hb4.size))
      | (refine wpList_store_all rfl _ (.tmp 5) (.tmp 30) rfl (w.heap.size + 1) (byteCells L) rfl rfl 116 _ r5e rfl HSL.out (byteCells_one _) ?_
         intro w6 hw6 hf6
         have r4f := hw5.kept hf6 (by simp)
         have hb6 := hb5.trans (hf6.below (B := w.heap.size) (by simp) hb5.size)))
    refine bodyPost_ret (results_two rfl _ _ w.heap.size 0 (w.heap.size + 1) 0 (byteCells F) (byteCells L) _ rfl (r4f.range 0 _ (fun j hj => by rw [Nat.zero_add])) rfl (hw6.range 0 _ (fun j hj => by rw [Nat.zero_add])) Try.underlying116 rfl HSF.out HSL.out) rfl ?_
    exact ⟨rfl, hb6⟩
  · have e1 := hF0 hr
    have e2 := hL0 hr
    rw [e1, e2] at *
    have hne : (r != 0) = true := by simpa using hr
    have l4 : ((w.alloc (.cells Z.toArray 116)).alloc (.cells Z.toArray 116)).rangeAt w.heap.size 0 Z := r4.range 0 _ (fun j hj => by rw [Nat.zero_add])
    have l5 : ((w.alloc (.cells Z.toArray 116)).alloc (.cells Z.toArray 116)).rangeAt (w.heap.size + 1) 0 Z := r5.range 0 _ (fun j hj => by rw [Nat.zero_add])
    have hsz : (Try.prog.info? 116).map (·.size) = some Z.length := by rw [hZL]; kernel_rfl
    have h1 : ∀ v ∈ Z, v.oneCell' = true := by rw [HZ.out]; exact byteCells_one _
    have HSZ := Lib.hid hsz
    have H1 := Lib.hid h1
    clear hF1 hL1 hF0 hL0 hR e1 e2 hF hL hsz h1
    rw [← HZ.out]
    go_enter Try.func98, Try.ntmps98
    go_wp2_with fail
    refine HC.out.mono ?_
    rintro e w1 ⟨rfl, rfl⟩
    go_wp2_with (first
      | (refine wpList_load_mid rfl _ (.tmp 4) rfl w.heap.size 0 rfl Z _ l4 Try.underlying116 rfl HSZ.out ?_)
      | (refine wpList_load_mid rfl _ (.tmp 5) rfl (w.heap.size + 1) 0 rfl Z _ l5 Try.underlying116 rfl HSZ.out ?_)
      | (refine wpList_store_all rfl _ (.tmp 4) (.tmp 16) rfl w.heap.size Z rfl rfl 116 _ r4 rfl HSZ.out H1.out ?_
         intro w5 hw5 hf5
         have r5e := r5.kept hf5 (by simp)
         have hb5 := hb.trans (hf5.below (B := w.heap.size) (by simp) hb.size))
      | (refine wpList_store_all rfl _ (.tmp 5) (.tmp 17) rfl (w.heap.size + 1) Z rfl rfl 116 _ r5e rfl HSZ.out H1.out ?_
         intro w6 hw6 hf6
         have r4f := hw5.kept hf6 (by simp)
         have hb6 := hb5.trans (hf6.below (B := w.heap.size) (by simp) hb5.size)))
    refine bodyPost_ret (results_two rfl _ _ w.heap.size 0 (w.heap.size + 1) 0 Z Z _ rfl (r4f.range 0 _ (fun j hj => by rw [Nat.zero_add])) rfl (hw6.range 0 _ (fun j hj => by rw [Nat.zero_add])) Try.underlying116 rfl HSZ.out HSZ.out) rfl ?_
    exact ⟨rfl, hb6⟩
/-- 'd.Write' as a value. -/
abbrev wr (g : Nat) : Value := .func (.func 110) #[.pointer (some ⟨g, 0, none⟩)] #[]
theorem make_wr (g : Nat) (w : World) : (Instr.makeFunc (.func 110) #[.pointer (some ⟨g, 0, none⟩)] #[]).run Try.prog w = .ok (wr g) w := rfl
set_option maxRecDepth 100000 in
set_option maxHeartbeats 1000000 in
theorem put_walk (w : World) (B g : Nat) (S : St) (fs : List Nat) (h : Dk w B g S fs) (i : Int) (l : List UInt8) (hl : l.length = 64) (hlen : S.un.length < 1000000000) : Calls Try.prog 116 #[wr g, .int .i64 i, .agg (byteCells l).toArray] w fun e w' =>
    e = .returned (.int .i64 (writeE S i (two l))) ∧ After w w' B g (writeS S i (two l)) fs := by
  have hrow : Has (w.alloc (.cells (byteCells l).toArray 116)) w.heap.size 116 (byteCells l) := heap_alloc_new _ _
  have hconv := string_of_range ((Row.of_has hrow).range 0 (byteCells l) (fun j hj => by rw [Nat.zero_add])) 64
  rw [hl] at hconv
  have hadd := fun W : World => run_string_add_sum (P := Try.prog) (w := W) ⟨l.toArray⟩ ⟨l.toArray⟩ (by show l.length + l.length ≤ _; omega)
  rw [ByteArray.mk_append_mk] at hadd
  have hm : Below w.heap.size w (w.alloc (.cells (byteCells l).toArray 116)) := (Below.refl _ _).alloc (Nat.le_refl _) _
  have HW := Lib.hid (write_walk (w.alloc (.cells (byteCells l).toArray 116)) B g S fs (h.alloc _) i (two l) hlen)
  have HT := Lib.hid (show two l = l ++ l from rfl)
  have HM := Lib.hid (fun w2 S2 (x : After (w.alloc (.cells (byteCells l).toArray 116)) w2 B g S2 fs) => After.next (Fr.of_below hm fs) (fun x hx => .inl hx) x)
  clear hrow hm h
  generalize byteCells l = cs at *
  go_enter Try.func116, Try.ntmps116
  go_wp2_with fail
  rw [← HT.out]
  refine HW.out.mono ?_
  rintro e w1 ⟨rfl, ha⟩
  have HA := Lib.hid (HM.out _ _ ha)
  clear ha
  go_wp2
  go_ret
  exact ⟨rfl, HA.out⟩

/-! ### Refusal -/
def refE (S : St) (at_ : Int) : Int := if at_ < 0 ∨ (S.fl.length : Int) - 2 < at_ then 6 else 0
theorem refE_in {S : St} {a : Int} (h0 : 0 ≤ a) (h1 : a + 1 < S.fl.length) : refE S a = 0 := by unfold refE; rw [if_neg (by omega)]
theorem refE_out {S : St} {a : Int} (h : a < 0 ∨ (S.fl.length : Int) - 2 < a) : refE S a = 6 := by unfold refE; rw [if_pos h]
theorem refE_eq (S : St) (a : Int) : (refE S a = 0 ∧ 0 ≤ a ∧ a + 1 < S.fl.length) ∨ (refE S a = 6 ∧ (a < 0 ∨ (S.fl.length : Int) - 2 < a)) := by
  by_cases h : a < 0 ∨ (S.fl.length : Int) - 2 < a
  · exact .inr ⟨refE_out h, h⟩
  · exact .inl ⟨refE_in (by omega) (by omega), by omega, by omega⟩
set_option maxRecDepth 100000 in
theorem refusal_walk (w : World) (B g : Nat) (S : St) (fs : List Nat) (h : Dk w B g S fs) (i : Int) : Calls Try.prog 95 #[.pointer (some ⟨g, 0, none⟩), .int .i64 i] w fun e w' => e = .returned (.int .i64 (refE S i)) ∧ w = w' := by
  have hn := h.ok.2.2.1
  have HL := Lib.hid (len_walk h)
  have HE := Lib.hid (refE_eq S i)
  generalize refE S i = r at *
  generalize S.fl.length = n at *
  clear h
  by_cases h0 : i < 0
  · have hr : r = 6 := by rcases HE.out with h | h <;> omega
    subst hr
    clear HE HL
    go_enter Try.func95, Try.ntmps95
    go_wp2
    go_ret
    exact ⟨rfl, rfl⟩
  · have hi0 : 0 ≤ i := by omega
    by_cases h2 : (n : Int) - 2 < i
    · have hr : r = 6 := by rcases HE.out with h | h <;> omega
      have hd : decide ((n : Int) - 2 < i) = true := by simpa using h2
      subst hr
      clear HE
      go_enter Try.func95, Try.ntmps95
      go_wp2_with fail
      refine HL.out.mono ?_
      rintro e w' ⟨rfl, rfl⟩
      go_wp2
      go_ret
      exact ⟨rfl, rfl⟩
    · have hr : r = 0 := by rcases HE.out with h | h <;> omega
      have hd : decide ((n : Int) - 2 < i) = false := by simpa using h2
      subst hr
      clear HE
      go_enter Try.func95, Try.ntmps95
      go_wp2_with fail
      refine HL.out.mono ?_
      rintro e w' ⟨rfl, rfl⟩
      go_wp2
      go_ret
      exact ⟨rfl, rfl⟩
end TD
end Go.Proofs.Ytkhdidhpcdlmcaa
