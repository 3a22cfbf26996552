/- The walk over a twin's Open. -/
import Derived.Test.YtkhdidhpcdlmcaaTwinSays
namespace Go.Proofs.Ytkhdidhpcdlmcaa
open Go.RowKit Go.Lib MM MF DM DK TM FL TH DN DW DF TD TN TS
namespace TO
/-- The cells of a twin. -/
def tcells (g : Nat) (a : Int) (h : List UInt8) (lost : Bool) : List Value := .pointer (some ⟨g, 0, none⟩) :: .int .i64 a :: (byteCells h ++ [.bool lost])
theorem tcells_length (g : Nat) (a : Int) (h : List UInt8) (lost : Bool) (hh : h.length = 64) : (tcells g a h lost).length = 67 := by simp [tcells, byteCells_length, hh]
theorem twin_range {w : World} {gt g : Nat} {a : Int} {h : List UInt8} {lost : Bool} {t : TypeId} (r : Row w gt t (tcells g a h lost)) : w.rangeAt gt 2 (byteCells h) :=
  r.range 2 _ (fun j hj => by
    unfold tcells
    rw [show 2 + j = j + 1 + 1 by omega, List.getElem?_cons_succ, List.getElem?_cons_succ, List.getElem?_append_left hj])
theorem twin_splice (g : Nat) (a : Int) (h h2 : List UInt8) (lost : Bool) (hh : h.length = 64) (hh2 : h2.length = 64) : splice (tcells g a h lost) 2 (byteCells h2) = tcells g a h2 lost := by
  unfold splice tcells
  rw [List.take_succ_cons, List.take_succ_cons, List.take_zero, byteCells_length, hh2, show 2 + 64 = 64 + 1 + 1 from rfl, List.drop_succ_cons, List.drop_succ_cons, List.drop_append, List.drop_eq_nil_of_le (by rw [byteCells_length]; omega), byteCells_length, hh]
  rfl
theorem wpList_built {P : Program} {ops : Array Oper} {rest : List Oper} {o : Oper} {a : Act} {w : World} {Q : Exit → Act → World → Prop} (hgd : o.guard = none) {t : TypeId} {fs : Array (Nat × Operand)} (_ : o.op = .build t fs) (v : Value) (h : (execOp a.eval o).run P w = .ok (.value v) w) (hk : wpList P ops Q rest (a.put o.dst v) w) : wpList P ops Q (o :: rest) a w :=
  wpList_plain hgd fun _ hK => by rw [wp_value h]; exact hK _ _ hk
/-- The half that counts, of k sectors. -/
def bestTo (S : St) (a : Int) : Nat → List UInt8
  | 0 => zeros64
  | k + 1 => if saysB S (a + k) k = true ∧ num (bestTo S a k) < num (hfirst S (a + k)) then hfirst S (a + k) else bestTo S a k
theorem bestTo_length {S : St} (hS : S.Ok) (a : Int) : ∀ k, (bestTo S a k).length = 64
  | 0 => rfl
  | k + 1 => by
    rw [bestTo]
    split
    · exact hfirst_length hS _
    · exact bestTo_length hS a k
def best (S : St) (a : Int) : List UInt8 := bestTo S a 2
def openE (S : St) (a : Int) : Int := if refE S a ≠ 0 then refE S a else if mendE S a ≠ 0 then mendE S a else if num (best (mendS S a) a) = 0 then 9 else 0
def openS (S : St) (a : Int) : St := if refE S a ≠ 0 then S else mendS S a
/-- What Open leaves: the disk, and a twin that was made, if it answers 0. -/
def Opened (w w' : World) (B g : Nat) (S : St) (a : Int) (fs : List Nat) (v : Value) : Prop := ∃ fs', Dk w' B g (openS S a) fs' ∧ Fr w w' fs ∧ (∀ x ∈ fs', x ∈ fs ∨ w.heap.size ≤ x) ∧
  ((openE S a ≠ 0 ∧ v = .pointer none) ∨ (openE S a = 0 ∧ ∃ gt, v = .pointer (some ⟨gt, 0, none⟩) ∧ Row w' gt 121 (tcells g a (best (openS S a) a) false) ∧ gt ∉ fs' ∧ w.heap.size ≤ gt))
theorem opened_ref {S : St} {a : Int} (h : refE S a ≠ 0) : openE S a = refE S a ∧ openS S a = S := by unfold openE openS; rw [if_pos h, if_pos h]; exact ⟨rfl, rfl⟩
theorem opened_mend {S : St} {a : Int} (h : refE S a = 0) (hm : mendE S a ≠ 0) : openE S a = mendE S a ∧ openS S a = mendS S a := by simp [openE, openS, h, hm]
theorem opened_none {S : St} {a : Int} (h : refE S a = 0) (hm : mendE S a = 0) (hb : num (best (mendS S a) a) = 0) : openE S a = 9 ∧ openS S a = mendS S a := by simp [openE, openS, h, hm, hb]
theorem opened_some {S : St} {a : Int} (h : refE S a = 0) (hm : mendE S a = 0) (hb : num (best (mendS S a) a) ≠ 0) : openE S a = 0 ∧ openS S a = mendS S a := by simp [openE, openS, h, hm, hb]
/-- What is held in a round: a half, the twin, what lay there. -/
def So (w2 : World) (b bt : Nat) (F : List Value) (T : List Value) (w' : World) : Prop := Row w' b 116 F ∧ Row w' bt 121 T ∧ Below w2.heap.size w2 w'
theorem so_next {w2 w3 w4 : World} {b bt : Nat} {F T : List Value} (h : So w2 b bt F T w3) (hb : Below w3.heap.size w3 w4) : So w2 b bt F T w4 :=
  ⟨h.1.kept (Fr.of_below hb []) (by simp), h.2.1.kept (Fr.of_below hb []) (by simp), h.2.2.trans (hb.mono h.2.2.size)⟩
theorem so_drew {w2 w3 : World} {b bt : Nat} {F T : List Value} (h : So w2 b bt F T w3) : So w2 b bt F T w3.drew := so_next h ⟨rfl, rfl, rfl, Nat.le_refl _, fun _ _ => rfl⟩
theorem so_first {w2 w3 : World} {b bt : Nat} {F T : List Value} (h : So w2 b bt F T w3) : w3.rangeAt b 0 F := h.1.range 0 _ (fun j hj => by rw [Nat.zero_add])
def RelO (w2 : World) (g : Nat) (M : St) (a : Int) (i : Value) (wr : World) : Prop := ∃ k : Nat, k ≤ 2 ∧ i = .int .i64 k ∧ Row wr w2.heap.size 121 (tcells g a (bestTo M a k) false) ∧ Below w2.heap.size w2 wr
set_option maxRecDepth 100000 in
set_option maxHeartbeats 4000000 in
theorem open_walk (w : World) (B g : Nat) (S : St) (fs : List Nat) (h : Dk w B g S fs) (a : Int) (hlen : S.un.length < 999999990) : Calls Try.prog 42 #[.pointer (some ⟨g, 0, none⟩), .int .i64 a] w fun e w' =>
    ∃ v, e = .returned (.tuple #[v, .int .i64 (openE S a)]) ∧ Opened w w' B g S a fs v := by
  obtain ⟨Z, hZ⟩ : ∃ Z, Z = byteCells zeros64 := ⟨_, rfl⟩
  have hzw := zero_half Z hZ
  have hZL : Z.length = 64 := by rw [hZ]; rfl
  have HZ := Lib.hid hZ
  clear hZ
  have hn := h.ok.2.2.1
  have hb : Below w.heap.size w ((w.alloc (.cells #[.pointer (some ⟨g, 0, none⟩)] 25)).alloc (.cells #[.int .i64 a] 3)) := ((Below.refl _ _).alloc (Nat.le_refl _) _).alloc (by simp) _
  have hsz : ((w.alloc (.cells #[.pointer (some ⟨g, 0, none⟩)] 25)).alloc (.cells #[.int .i64 a] 3)).heap.size = w.heap.size + 2 := by simp
  have hd0 : Has ((w.alloc (.cells #[.pointer (some ⟨g, 0, none⟩)] 25)).alloc (.cells #[.int .i64 a] 3)) w.heap.size 25 [.pointer (some ⟨g, 0, none⟩)] := (show Has (w.alloc (.cells #[.pointer (some ⟨g, 0, none⟩)] 25)) w.heap.size 25 [.pointer (some ⟨g, 0, none⟩)] from heap_alloc_new w _).grow _
  have ha0 : Has ((w.alloc (.cells #[.pointer (some ⟨g, 0, none⟩)] 25)).alloc (.cells #[.int .i64 a] 3)) (w.heap.size + 1) 3 [.int .i64 a] := by
    rw [show w.heap.size + 1 = (w.alloc (.cells #[.pointer (some ⟨g, 0, none⟩)] 25)).heap.size by simp]
    exact heap_alloc_new _ _
  have hcd := hd0.cell 0
  have hca := ha0.cell 0
  have d0 := h.below hb
  have hmem := fun x hx => (h.mem x hx).2
  have HR := Lib.hid (refusal_walk _ B g S fs d0 a)
  have HRE := Lib.hid (refE_eq S a)
  by_cases hr : refE S a = 0
  · have hin : 0 ≤ a ∧ a + 1 < S.fl.length := by rcases refE_eq S a with q | q <;> omega
    have h0 : 0 ≤ a := hin.1
    have h1 : a ≤ 4096 := by omega
    have HM := Lib.hid (mend_walk _ B g S fs d0 a h0 h1 hlen)
    rw [hr] at HR
    by_cases hm : mendE S a = 0
    · have HNO := Lib.hid (fun hb => opened_none hr hm hb)
      have HYES := Lib.hid (fun hb => opened_some hr hm hb)
      rw [hm] at HM
      generalize hMS : mendS S a = M at *
      unfold Opened
      generalize openE S a = oe at *
      generalize openS S a = os at *
      clear hr hm hMS HRE hin hn
      go_enter Try.func42, Try.ntmps42
      go_wp2_with fail
      refine HR.out.mono ?_
      rintro e w1 ⟨rfl, rfl⟩
      go_wp2_with fail
      refine HM.out.mono ?_
      rintro e w2 ⟨rfl, f2, d2, r2, m2⟩
      have hne : ∀ x ∈ fs, x ≠ w.heap.size ∧ x ≠ w.heap.size + 1 := fun x hx => by have := hmem x hx; omega
      have hd2 := r2.has hd0 (fun hx => (hne _ hx).1 rfl)
      have ha2 := r2.has ha0 (fun hx => (hne _ hx).2 rfl)
      have c2 := hd2.cell 0
      have c3 := ha2.cell 0
      have hs2 : w.heap.size + 2 ≤ w2.heap.size := by have := r2.size; omega
      have hMok := d2.ok
      have HFR := Lib.hid (show ∀ w', Below w2.heap.size w2 w' → Fr w w' fs from fun w' hw => ((Fr.of_below hb fs).trans r2 (fun x hx => .inl hx)).trans (Fr.of_below hw fs) (fun x hx => .inl hx))
      have HM2 := Lib.hid (show ∀ x ∈ f2, x ∈ fs ∨ w.heap.size ≤ x from fun x hx => (m2 x hx).imp id (fun h => by omega))
      have HLT := Lib.hid (show ∀ x ∈ f2, x < w2.heap.size from fun x hx => (d2.mem x hx).2)
      have D2 := Lib.hid d2
      have hT0 : Row (w2.alloc (.cells (tcells g a zeros64 false).toArray 121)) w2.heap.size 121 (tcells g a (bestTo M a 0) false) := Row.of_has (heap_alloc_new w2 _)
      have hBt : Below w2.heap.size w2 (w2.alloc (.cells (tcells g a zeros64 false).toArray 121)) := (Below.refl _ _).alloc (Nat.le_refl _) _
      clear d2 r2 m2 hd0 ha0 d0 h
      go_wp2_with (first | (refine wpList_built rfl rfl (.agg (tcells g a zeros64 false).toArray) (by kernel_rfl) ?_))
      go_loopw [30] (fun i wr => RelO w2 g M a i wr) (fun i _ => 2 - (RowKit.intOf i).toNat)
      case atStart => exact ⟨0, by omega, rfl, hT0, hBt⟩
      case round =>
        obtain ⟨k, hk, rfl, hT, hB⟩ := hrel
        by_cases hlt : k < 2
        · have hdr := hd2.under hB (by omega)
          have har := ha2.under hB (by omega)
          have HSAY := Lib.hid (says_walk wr B g M f2 (D2.out.below hB) a h0 h1 k hlt w.heap.size (w.heap.size + 1) hdr har)
          have hF := hfirst_length hMok (a + k)
          have hH := bestTo_length hMok a k
          have HB1 := Lib.hid (show bestTo M a (k + 1) = _ from bestTo.eq_2 M a k)
          generalize bestTo M a k = H at *
          generalize hHe : bestTo M a (k + 1) = H2 at *
          have HHE := Lib.hid hHe
          clear hHe
          generalize hfirst M (a + k) = F at *
          generalize saysB M (a + k) k = sb at *
          have HSF := Lib.hid (half_size hF)
          have HSH := Lib.hid (half_size hH)
          have hFc : (byteCells F).length = Z.length := by rw [byteCells_length, hF, hZL]
          have HQF := Lib.hid (fun w => seq_walk F hF w)
          have HQH := Lib.hid (fun w => seq_walk H hH w)
          have HTL := Lib.hid (tcells_length g a H false hH)
          have HSP := Lib.hid (twin_splice g a H F false hH hF)
          generalize hnF : num F = nF at *
          generalize hnH : num H = nH at *
          clear hnF hnH
          cases sb with
          | false =>
            have hH2 : H2 = H := HB1.out.trans (if_neg (by simp))
            go_wp2_with fail
            refine HSAY.out.mono ?_
            rintro e w3 ⟨rfl, b3⟩
            have hT3 := hT.kept (Fr.of_below b3 []) (by simp)
            have hB3 := hB.trans (b3.mono hB.size)
            have r3 : Row (w3.alloc (.cells Z.toArray 116)) w3.heap.size 116 Z := Row.of_has (heap_alloc_new w3 _)
            have hT4 := hT3.kept (Fr.of_below ((Below.refl w3.heap.size w3).alloc (Nat.le_refl _) (.cells Z.toArray 116)) []) (by simp)
            have hB4 := hB3.alloc hB3.size (.cells Z.toArray 116)
            have hlt3 : w2.heap.size < w3.heap.size := hT3.lt
            go_wp2_with (first
              | (refine wpList_store_all rfl _ (.tmp 11) (.tmp 37) rfl w3.heap.size (byteCells F) rfl rfl 116 _ r3 hFc HSF.out (byteCells_one _) ?_
                 intro w4 hw4 hf4
                 have hT5 := hT4.kept hf4 (by simp; omega)
                 have hB5 := hB4.trans (hf4.below (B := w2.heap.size) (by simp; omega) hB4.size)
                 have hS0 : So w2 w3.heap.size w2.heap.size (byteCells F) (tcells g a H false) w4 := ⟨hw4, hT5, hB5⟩))
            refine wp_region_held_drew (S := So w2 w3.heap.size w2.heap.size (byteCells F) (tcells g a H false)) (by kernel_rfl) (so_drew hS0) (fun hS => ?_)
            refine wpAnyH_take (i := 0) (v := (.bool false)) (lit rfl) (by kernel_rfl) (by kernel_rfl) (by kernel_rfl) (fun _ _ _ h => h) (Or.inl ⟨by rfl, fun w _ => by go_simp⟩) hS ?_
            simp only [Act.put, List.setIfInBounds_toArray, List.set_cons_zero, List.set_cons_succ]
            refine wpAnyH_take (i := 1) (v := (.bool false)) (lit rfl) (by kernel_rfl) (by kernel_rfl) (by kernel_rfl) (fun _ _ _ h => h) (Or.inl ⟨by rfl, fun w _ => by go_simp⟩) hS ?_
            simp only [Act.put, List.setIfInBounds_toArray, List.set_cons_zero, List.set_cons_succ]
            refine wpAnyH_take (i := 2) (v := undef) (lit rfl) (by kernel_rfl) (by kernel_rfl) (by kernel_rfl) (fun _ _ _ h => h) (Or.inr ⟨by rfl, rfl⟩) hS ?_
            simp only [Act.put, List.setIfInBounds_toArray, List.set_cons_zero, List.set_cons_succ]
            refine wpAnyH_take (i := 3) (v := undef) (lit rfl) (by kernel_rfl) (by kernel_rfl) (by kernel_rfl) (fun _ _ _ h => h) (Or.inr ⟨by rfl, rfl⟩) hS ?_
            simp only [Act.put, List.setIfInBounds_toArray, List.set_cons_zero, List.set_cons_succ]
            refine wpAnyH_take (i := 4) (v := undef) (lit rfl) (by kernel_rfl) (by kernel_rfl) (by kernel_rfl) (fun _ _ _ h => h) (Or.inr ⟨by rfl, rfl⟩) hS ?_
            simp only [Act.put, List.setIfInBounds_toArray, List.set_cons_zero, List.set_cons_succ]
            refine wpAnyH_take (i := 5) (v := undef) (lit rfl) (by kernel_rfl) (by kernel_rfl) (by kernel_rfl) (fun _ _ _ h => h) (Or.inr ⟨by rfl, rfl⟩) hS ?_
            simp only [Act.put, List.setIfInBounds_toArray, List.set_cons_zero, List.set_cons_succ]
            refine wpAnyH_take (i := 6) (v := undef) (lit rfl) (by kernel_rfl) (by kernel_rfl) (by kernel_rfl) (fun _ _ _ h => h) (Or.inr ⟨by rfl, rfl⟩) hS ?_
            simp only [Act.put, List.setIfInBounds_toArray, List.set_cons_zero, List.set_cons_succ]
            refine wpAnyH_take (i := 7) (v := undef) (lit rfl) (by kernel_rfl) (by kernel_rfl) (by kernel_rfl) (fun _ _ _ h => h) (Or.inr ⟨by rfl, rfl⟩) hS ?_
            simp only [Act.put, List.setIfInBounds_toArray, List.set_cons_zero, List.set_cons_succ]
            refine wpAnyH_take (i := 8) (v := undef) (lit rfl) (by kernel_rfl) (by kernel_rfl) (by kernel_rfl) (fun _ _ _ h => h) (Or.inr ⟨by rfl, rfl⟩) hS ?_
            simp only [Act.put, List.setIfInBounds_toArray, List.set_cons_zero, List.set_cons_succ]
            refine wpAnyH_take (i := 9) (v := undef) (lit rfl) (by kernel_rfl) (by kernel_rfl) (by kernel_rfl) (fun _ _ _ h => h) (Or.inr ⟨by rfl, rfl⟩) hS ?_
            simp only [Act.put, List.setIfInBounds_toArray, List.set_cons_zero, List.set_cons_succ]
            refine wpAnyH_take (i := 10) (v := (.bool false)) (lit rfl) (by kernel_rfl) (by kernel_rfl) (by kernel_rfl) (fun _ _ _ h => h) (Or.inl ⟨by rfl, fun w _ => by go_simp⟩) hS ?_
            simp only [Act.put, List.setIfInBounds_toArray, List.set_cons_zero, List.set_cons_succ]
            refine wpAnyH_done (by kernel_rfl) ?_ _
            go_wp2
            go_roundw
            case rel => exact ⟨k + 1, by omega, by go_num, by rw [HHE.out, hH2]; exact hS.2.1, hS.2.2⟩
            case measure => simp [RowKit.intOf]; omega
          | true =>
            by_cases hgt : nH < nF
            · have hH2 : H2 = F := HB1.out.trans (if_pos ⟨rfl, hgt⟩)
              have hgI : (nH : Int) < nF := by omega
              have hgd : decide ((nH : Int) < nF) = true := by simpa using hgt
              go_wp2_with fail
              refine HSAY.out.mono ?_
              rintro e w3 ⟨rfl, b3⟩
              have hT3 := hT.kept (Fr.of_below b3 []) (by simp)
              have hB3 := hB.trans (b3.mono hB.size)
              have r3 : Row (w3.alloc (.cells Z.toArray 116)) w3.heap.size 116 Z := Row.of_has (heap_alloc_new w3 _)
              have hT4 := hT3.kept (Fr.of_below ((Below.refl w3.heap.size w3).alloc (Nat.le_refl _) (.cells Z.toArray 116)) []) (by simp)
              have hB4 := hB3.alloc hB3.size (.cells Z.toArray 116)
              have hlt3 : w2.heap.size < w3.heap.size := hT3.lt
              go_wp2_with (first
                | (refine wpList_store_all rfl _ (.tmp 11) (.tmp 37) rfl w3.heap.size (byteCells F) rfl rfl 116 _ r3 hFc HSF.out (byteCells_one _) ?_
                   intro w4 hw4 hf4
                   have hT5 := hT4.kept hf4 (by simp; omega)
                   have hB5 := hB4.trans (hf4.below (B := w2.heap.size) (by simp; omega) hB4.size)
                   have hS0 : So w2 w3.heap.size w2.heap.size (byteCells F) (tcells g a H false) w4 := ⟨hw4, hT5, hB5⟩))
              refine wp_region_held_drew (S := So w2 w3.heap.size w2.heap.size (byteCells F) (tcells g a H false)) (by kernel_rfl) (so_drew hS0) (fun hS => ?_)
              refine wpAnyH_take (i := 0) (v := (.bool true)) (lit rfl) (by kernel_rfl) (by kernel_rfl) (by kernel_rfl) (fun _ _ _ h => h) (Or.inl ⟨by rfl, fun w _ => by go_simp⟩) hS ?_
              simp only [Act.put, List.setIfInBounds_toArray, List.set_cons_zero, List.set_cons_succ]
              refine wpAnyH_take (i := 1) (v := (.bool true)) (lit rfl) (by kernel_rfl) (by kernel_rfl) (by kernel_rfl) (fun _ _ _ h => h) (Or.inl ⟨by rfl, fun w _ => by go_simp⟩) hS ?_
              simp only [Act.put, List.setIfInBounds_toArray, List.set_cons_zero, List.set_cons_succ]
              refine wpAnyH_take (i := 2) (v := .agg (byteCells F).toArray) (lit rfl) (by kernel_rfl) (by kernel_rfl) (by kernel_rfl) (fun _ _ _ h => h) (yieldsIf_load_mid (by rfl) _ _ rfl (w3.heap.size) 0 rfl (byteCells F) _ (fun w h => so_first h) Try.underlying116 rfl HSF.out) hS ?_
              simp only [Act.put, List.setIfInBounds_toArray, List.set_cons_zero, List.set_cons_succ]
              refine wpAnyH_take (i := 4) (v := (.pointer (some ⟨w2.heap.size, 0, none⟩))) (lit rfl) (by kernel_rfl) (by kernel_rfl) (by kernel_rfl) (fun _ _ _ h => h) (Or.inl ⟨by rfl, fun w _ => by go_simp⟩) hS ?_
              simp only [Act.put, List.setIfInBounds_toArray, List.set_cons_zero, List.set_cons_succ]
              refine wpAnyH_take (i := 5) (v := (.pointer (some ⟨w2.heap.size, 0, none⟩))) (lit rfl) (by kernel_rfl) (by kernel_rfl) (by kernel_rfl) (fun _ _ _ h => h) (Or.inl ⟨by rfl, fun w _ => by go_simp⟩) hS ?_
              simp only [Act.put, List.setIfInBounds_toArray, List.set_cons_zero, List.set_cons_succ]
              refine wpAnyH_take (i := 6) (v := (.pointer (some ⟨w2.heap.size, 2, none⟩))) (lit rfl) (by kernel_rfl) (by kernel_rfl) (by kernel_rfl) (fun _ _ _ h => h) (Or.inl ⟨by rfl, fun w _ => by go_simp⟩) hS ?_
              simp only [Act.put, List.setIfInBounds_toArray, List.set_cons_zero, List.set_cons_succ]
              refine wpAnyH_take (i := 7) (v := .agg (byteCells H).toArray) (lit rfl) (by kernel_rfl) (by kernel_rfl) (by kernel_rfl) (fun _ _ _ h => h) (yieldsIf_load_mid (by rfl) _ _ rfl (w2.heap.size) 2 rfl (byteCells H) _ (fun w h => twin_range h.2.1) Try.underlying116 rfl HSH.out) hS ?_
              simp only [Act.put, List.setIfInBounds_toArray, List.set_cons_zero, List.set_cons_succ]
              refine wpAnyH_ready (rs := [3]) (by kernel_rfl) (by simp) (AllReadyH.cons (lit rfl) (fun K hK => ?_) AllReadyH.nil)
              go_simp
              go_wp2_with (go_at_call 100; refine (HQF.out _).mono ?_; rintro e w6 ⟨rfl, hb6⟩)
              have w6S := so_next hS hb6
              refine hK.out _ _ w6S (fun _ => ?_)
              clear hK K
              refine wpAnyH_ready (rs := [8]) (by kernel_rfl) (by simp) (AllReadyH.cons (lit rfl) (fun K hK => ?_) AllReadyH.nil)
              go_simp
              go_wp2_with (go_at_call 100; refine (HQH.out _).mono ?_; rintro e w7 ⟨rfl, hb7⟩)
              have w7S := so_next w6S hb7
              refine hK.out _ _ w7S (fun _ => ?_)
              clear hK K
              refine wpAnyH_take (i := 9) (v := (.bool true)) (lit rfl) (by kernel_rfl) (by kernel_rfl) (by kernel_rfl) (fun _ _ _ h => h) (Or.inl ⟨by rfl, fun w _ => by go_simp⟩) w7S ?_
              simp only [Act.put, List.setIfInBounds_toArray, List.set_cons_zero, List.set_cons_succ]
              refine wpAnyH_take (i := 10) (v := (.bool true)) (lit rfl) (by kernel_rfl) (by kernel_rfl) (by kernel_rfl) (fun _ _ _ h => h) (Or.inl ⟨by rfl, fun w _ => by go_simp⟩) w7S ?_
              simp only [Act.put, List.setIfInBounds_toArray, List.set_cons_zero, List.set_cons_succ]
              refine wpAnyH_done (by kernel_rfl) ?_ _
              have hT8 := w7S.2.1
              have l8 := so_first w7S
              go_wp2_with (first
                | (refine wpList_load_mid rfl _ (.tmp 11) rfl w3.heap.size 0 rfl (byteCells F) _ l8 Try.underlying116 rfl HSF.out ?_)
                | (refine wpList_store_at rfl _ (.tmp 53) (.tmp 51) rfl w2.heap.size 2 (byteCells F) rfl rfl 121 _ hT8 (by rw [HTL.out, byteCells_length, hF]; omega) HSF.out (byteCells_one _) ?_
                   intro w8 hw8 hf8
                   rw [HSP.out] at hw8
                   have hB8 := w7S.2.2.trans (hf8.below (B := w2.heap.size) (by simp) w7S.2.2.size)))
              go_roundw
              case rel => exact ⟨k + 1, by omega, by go_num, by rw [HHE.out, hH2]; exact hw8, hB8⟩
              case measure => simp [RowKit.intOf]; omega
            · have hH2 : H2 = H := HB1.out.trans (if_neg (by omega))
              have hgd : decide ((nH : Int) < nF) = false := by simpa using hgt
              go_wp2_with fail
              refine HSAY.out.mono ?_
              rintro e w3 ⟨rfl, b3⟩
              have hT3 := hT.kept (Fr.of_below b3 []) (by simp)
              have hB3 := hB.trans (b3.mono hB.size)
              have r3 : Row (w3.alloc (.cells Z.toArray 116)) w3.heap.size 116 Z := Row.of_has (heap_alloc_new w3 _)
              have hT4 := hT3.kept (Fr.of_below ((Below.refl w3.heap.size w3).alloc (Nat.le_refl _) (.cells Z.toArray 116)) []) (by simp)
              have hB4 := hB3.alloc hB3.size (.cells Z.toArray 116)
              have hlt3 : w2.heap.size < w3.heap.size := hT3.lt
              go_wp2_with (first
                | (refine wpList_store_all rfl _ (.tmp 11) (.tmp 37) rfl w3.heap.size (byteCells F) rfl rfl 116 _ r3 hFc HSF.out (byteCells_one _) ?_
                   intro w4 hw4 hf4
                   have hT5 := hT4.kept hf4 (by simp; omega)
                   have hB5 := hB4.trans (hf4.below (B := w2.heap.size) (by simp; omega) hB4.size)
                   have hS0 : So w2 w3.heap.size w2.heap.size (byteCells F) (tcells g a H false) w4 := ⟨hw4, hT5, hB5⟩))
              refine wp_region_held_drew (S := So w2 w3.heap.size w2.heap.size (byteCells F) (tcells g a H false)) (by kernel_rfl) (so_drew hS0) (fun hS => ?_)
              refine wpAnyH_take (i := 0) (v := (.bool true)) (lit rfl) (by kernel_rfl) (by kernel_rfl) (by kernel_rfl) (fun _ _ _ h => h) (Or.inl ⟨by rfl, fun w _ => by go_simp⟩) hS ?_
              simp only [Act.put, List.setIfInBounds_toArray, List.set_cons_zero, List.set_cons_succ]
              refine wpAnyH_take (i := 1) (v := (.bool true)) (lit rfl) (by kernel_rfl) (by kernel_rfl) (by kernel_rfl) (fun _ _ _ h => h) (Or.inl ⟨by rfl, fun w _ => by go_simp⟩) hS ?_
              simp only [Act.put, List.setIfInBounds_toArray, List.set_cons_zero, List.set_cons_succ]
              refine wpAnyH_take (i := 2) (v := .agg (byteCells F).toArray) (lit rfl) (by kernel_rfl) (by kernel_rfl) (by kernel_rfl) (fun _ _ _ h => h) (yieldsIf_load_mid (by rfl) _ _ rfl (w3.heap.size) 0 rfl (byteCells F) _ (fun w h => so_first h) Try.underlying116 rfl HSF.out) hS ?_
              simp only [Act.put, List.setIfInBounds_toArray, List.set_cons_zero, List.set_cons_succ]
              refine wpAnyH_take (i := 4) (v := (.pointer (some ⟨w2.heap.size, 0, none⟩))) (lit rfl) (by kernel_rfl) (by kernel_rfl) (by kernel_rfl) (fun _ _ _ h => h) (Or.inl ⟨by rfl, fun w _ => by go_simp⟩) hS ?_
              simp only [Act.put, List.setIfInBounds_toArray, List.set_cons_zero, List.set_cons_succ]
              refine wpAnyH_take (i := 5) (v := (.pointer (some ⟨w2.heap.size, 0, none⟩))) (lit rfl) (by kernel_rfl) (by kernel_rfl) (by kernel_rfl) (fun _ _ _ h => h) (Or.inl ⟨by rfl, fun w _ => by go_simp⟩) hS ?_
              simp only [Act.put, List.setIfInBounds_toArray, List.set_cons_zero, List.set_cons_succ]
              refine wpAnyH_take (i := 6) (v := (.pointer (some ⟨w2.heap.size, 2, none⟩))) (lit rfl) (by kernel_rfl) (by kernel_rfl) (by kernel_rfl) (fun _ _ _ h => h) (Or.inl ⟨by rfl, fun w _ => by go_simp⟩) hS ?_
              simp only [Act.put, List.setIfInBounds_toArray, List.set_cons_zero, List.set_cons_succ]
              refine wpAnyH_take (i := 7) (v := .agg (byteCells H).toArray) (lit rfl) (by kernel_rfl) (by kernel_rfl) (by kernel_rfl) (fun _ _ _ h => h) (yieldsIf_load_mid (by rfl) _ _ rfl (w2.heap.size) 2 rfl (byteCells H) _ (fun w h => twin_range h.2.1) Try.underlying116 rfl HSH.out) hS ?_
              simp only [Act.put, List.setIfInBounds_toArray, List.set_cons_zero, List.set_cons_succ]
              refine wpAnyH_ready (rs := [3]) (by kernel_rfl) (by simp) (AllReadyH.cons (lit rfl) (fun K hK => ?_) AllReadyH.nil)
              go_simp
              go_wp2_with (go_at_call 100; refine (HQF.out _).mono ?_; rintro e w6 ⟨rfl, hb6⟩)
              have w6S := so_next hS hb6
              refine hK.out _ _ w6S (fun _ => ?_)
              clear hK K
              refine wpAnyH_ready (rs := [8]) (by kernel_rfl) (by simp) (AllReadyH.cons (lit rfl) (fun K hK => ?_) AllReadyH.nil)
              go_simp
              go_wp2_with (go_at_call 100; refine (HQH.out _).mono ?_; rintro e w7 ⟨rfl, hb7⟩)
              have w7S := so_next w6S hb7
              refine hK.out _ _ w7S (fun _ => ?_)
              clear hK K
              refine wpAnyH_take (i := 9) (v := (.bool false)) (lit rfl) (by kernel_rfl) (by kernel_rfl) (by kernel_rfl) (fun _ _ _ h => h) (Or.inl ⟨by rfl, fun w _ => by go_simp⟩) w7S ?_
              simp only [Act.put, List.setIfInBounds_toArray, List.set_cons_zero, List.set_cons_succ]
              refine wpAnyH_take (i := 10) (v := (.bool false)) (lit rfl) (by kernel_rfl) (by kernel_rfl) (by kernel_rfl) (fun _ _ _ h => h) (Or.inl ⟨by rfl, fun w _ => by go_simp⟩) w7S ?_
              simp only [Act.put, List.setIfInBounds_toArray, List.set_cons_zero, List.set_cons_succ]
              refine wpAnyH_done (by kernel_rfl) ?_ _
              go_wp2
              go_roundw
              case rel => exact ⟨k + 1, by omega, by go_num, by rw [HHE.out, hH2]; exact w7S.2.1, w7S.2.2⟩
              case measure => simp [RowKit.intOf]; omega
        · have hk2 : k = 2 := by omega
          subst hk2
          have hH := bestTo_length hMok a 2
          have l2 := twin_range hT
          have HQH := Lib.hid (fun w => seq_walk (bestTo M a 2) hH w)
          have HBE := Lib.hid (show best M a = bestTo M a 2 from rfl)
          have HSH := Lib.hid (half_size hH)
          generalize bestTo M a 2 = H at *
          by_cases h0n : num H = 0
          · obtain ⟨e1, e2⟩ := HNO.out (by rw [HBE.out]; exact h0n)
            subst e1 e2
            rw [h0n] at HQH
            go_wp2_with (first
              | (refine wpList_load_mid rfl _ (.tmp 57) rfl w2.heap.size 2 rfl (byteCells H) _ l2 Try.underlying116 rfl HSH.out ?_)
              | (go_at_call 100
                 refine (HQH.out _).mono ?_
                 rintro e w3 ⟨rfl, b3⟩
                 have hB3 := hB.trans (b3.mono hB.size)))
            go_ret2
            exact ⟨_, rfl, f2, D2.out.below hB3, HFR.out _ hB3, HM2.out, .inl ⟨by decide, rfl⟩⟩
          · obtain ⟨e1, e2⟩ := HYES.out (by rw [HBE.out]; exact h0n)
            subst e1 e2
            have hq : ((num H : Int) == 0) = false := beq_eq_false_iff_ne.2 (by omega)
            generalize num H = n at *
            go_wp2_with (first
              | (refine wpList_load_mid rfl _ (.tmp 57) rfl w2.heap.size 2 rfl (byteCells H) _ l2 Try.underlying116 rfl HSH.out ?_)
              | (go_at_call 100
                 refine (HQH.out _).mono ?_
                 rintro e w3 ⟨rfl, b3⟩
                 have hT3 := hT.kept (Fr.of_below b3 []) (by simp)
                 have hB3 := hB.trans (b3.mono hB.size)))
            go_ret2
            exact ⟨_, rfl, f2, D2.out.below hB3, HFR.out _ hB3, HM2.out, ⟨w2.heap.size, rfl, by rw [HBE.out]; exact hT3, fun hx => Nat.lt_irrefl _ (HLT.out _ hx), by omega⟩⟩
    · have HO := Lib.hid (opened_mend hr hm)
      unfold Opened
      generalize openE S a = oe at *
      generalize openS S a = os at *
      generalize mendS S a = M at *
      generalize hme : mendE S a = me at *
      have hne : (me != 0) = true := by simpa using hm
      go_enter Try.func42, Try.ntmps42
      go_wp2_with fail
      refine HR.out.mono ?_
      rintro e w1 ⟨rfl, rfl⟩
      go_wp2_with fail
      refine HM.out.mono ?_
      rintro e w2 ⟨rfl, f2, d2, r2, m2⟩
      go_wp2
      go_ret2
      rw [HO.out.1, HO.out.2]
      exact ⟨_, rfl, f2, d2, (Fr.of_below hb fs).trans r2 (fun x hx => .inl hx), fun x hx => (m2 x hx).imp id (fun h => by omega), .inl ⟨hm, rfl⟩⟩
  · have HO := Lib.hid (opened_ref hr)
    unfold Opened
    generalize openE S a = oe at *
    generalize openS S a = os at *
    have hne : (refE S a != 0) = true := by simpa using hr
    generalize refE S a = re at *
    go_enter Try.func42, Try.ntmps42
    go_wp2_with fail
    refine HR.out.mono ?_
    rintro e w1 ⟨rfl, rfl⟩
    go_wp2
    go_ret2
    rw [HO.out.1, HO.out.2]
    exact ⟨_, rfl, fs, d0, Fr.of_below hb fs, fun x hx => .inl hx, .inl ⟨hr, rfl⟩⟩
end TO
end Go.Proofs.Ytkhdidhpcdlmcaa
