/- The walks over a twin's opening: what a sector says (a closure), and Open. -/
import Derived.Test.YtkhdidhpcdlmcaaTwinMend
import Derived.Deep.RegionHeld
namespace Go.Proofs.Ytkhdidhpcdlmcaa
open Go.RowKit Go.Lib MM MF DM DK TM FL TH DN DW DF TD TN
namespace TS
/-- Does the sector say something? -/
def saysB (S : St) (i : Int) (k : Nat) : Bool := decide (refuse S i = 0) && (hfirst S i == hlast S i) && isCopy (hfirst S i) && (num (hfirst S i) % 2 == k)
/-- Two rows that are known, one of its length, and what lay there ahead. -/
def Sy (w : World) (b4 b6 b7 : Nat) (F L : List Value) (w' : World) : Prop := Row w' b6 116 F ∧ Row w' b7 116 L ∧ (∃ X : List Value, X.length = 64 ∧ Row w' b4 116 X) ∧ Below w.heap.size w w'
theorem sy_next {w w1 w2 : World} {b4 b6 b7 : Nat} {F L : List Value} (h : Sy w b4 b6 b7 F L w1) (hb : Below w1.heap.size w1 w2) : Sy w b4 b6 b7 F L w2 := by
  obtain ⟨h1, h2, ⟨X, hX, h3⟩, h4⟩ := h
  have f := Fr.of_below hb []
  exact ⟨h1.kept f (by simp), h2.kept f (by simp), ⟨X, hX, h3.kept f (by simp)⟩, h4.trans (hb.mono h4.size)⟩
theorem sy_drew {w w1 : World} {b4 b6 b7 : Nat} {F L : List Value} (h : Sy w b4 b6 b7 F L w1) : Sy w b4 b6 b7 F L w1.drew := sy_next h ⟨rfl, rfl, rfl, Nat.le_refl _, fun _ _ => rfl⟩
theorem sy_first {w w1 : World} {b4 b6 b7 : Nat} {F L : List Value} (h : Sy w b4 b6 b7 F L w1) : w1.rangeAt b6 0 F := h.1.range 0 _ (fun j hj => by rw [Nat.zero_add])
theorem sy_last {w w1 : World} {b4 b6 b7 : Nat} {F L : List Value} (h : Sy w b4 b6 b7 F L w1) : w1.rangeAt b7 0 L := h.2.1.range 0 _ (fun j hj => by rw [Nat.zero_add])
theorem sy_stored {w w1 w2 : World} {b4 b6 b7 : Nat} {F L X : List Value} (h : Sy w b4 b6 b7 F L w1) (hX : X.length = 64) (r : Row w2 b4 116 X) (f : Fr w1 w2 [b4]) (h4 : w.heap.size ≤ b4) (h6 : b6 ≠ b4) (h7 : b7 ≠ b4) : Sy w b4 b6 b7 F L w2 := by
  obtain ⟨h1, h2, h3, hb⟩ := h
  exact ⟨h1.kept f (by simpa using h6), h2.kept f (by simpa using h7), ⟨X, hX, r⟩, hb.trans (f.below (B := w.heap.size) (by simpa using h4) hb.size)⟩
theorem parity (n k : Nat) : ((n : Int) % 2 == (k : Int)) = (n % 2 == k) := by
  rw [Bool.eq_iff_iff, beq_iff_eq, beq_iff_eq]
  omega
set_option maxRecDepth 100000 in
set_option maxHeartbeats 4000000 in
theorem says_walk (w : World) (B g : Nat) (S : St) (fs : List Nat) (h : Dk w B g S fs) (a : Int) (h0 : 0 ≤ a) (h1 : a ≤ 4096) (k : Nat) (hk : k < 2) (bd ba : Nat) (hcd : Has w bd 25 [.pointer (some ⟨g, 0, none⟩)]) (hca : Has w ba 3 [.int .i64 a]) :
    Calls Try.prog 97 #[.int .i64 k, .pointer (some ⟨bd, 0, none⟩), .pointer (some ⟨ba, 0, none⟩)] w fun e w' =>
      e = .returned (.tuple #[.agg (byteCells (hfirst S (a + k))).toArray, .bool (saysB S (a + k) k)]) ∧ Below w.heap.size w w' := by
  obtain ⟨Z, hZ⟩ : ∃ Z, Z = byteCells zeros64 := ⟨_, rfl⟩
  have hzw := zero_half Z hZ
  have hZL : Z.length = 64 := by rw [hZ]; rfl
  clear hZ
  have hd' : (w.alloc (.cells Z.toArray 116)).cell? ⟨bd, 0, none⟩ = some (.pointer (some ⟨g, 0, none⟩)) := (hcd.grow _).cell 0
  have ha' : (w.alloc (.cells Z.toArray 116)).cell? ⟨ba, 0, none⟩ = some (.int .i64 a) := (hca.grow _).cell 0
  have hF := hfirst_length h.ok (a + k)
  have hL := hlast_length h.ok (a + k)
  have HH := Lib.hid (halves_walk (w.alloc (.cells Z.toArray 116)) B g S fs (h.alloc _) (a + k))
  have b0 : Below w.heap.size w (w.alloc (.cells Z.toArray 116)) := (Below.refl _ _).alloc (Nat.le_refl _) _
  have HSAY := Lib.hid (show saysB S (a + k) k = (decide (refuse S (a + k) = 0) && (hfirst S (a + k) == hlast S (a + k)) && isCopy (hfirst S (a + k)) && (num (hfirst S (a + k)) % 2 == k)) from rfl)
  have r40 : Row (w.alloc (.cells Z.toArray 116)) w.heap.size 116 Z := Row.of_has (show Has _ _ 116 Z from heap_alloc_new w _)
  generalize saysB S (a + k) k = sb at *
  generalize refuse S (a + k) = r at *
  generalize hfirst S (a + k) = F at *
  generalize hlast S (a + k) = L at *
  have HSF := Lib.hid (half_size hF)
  have HSL := Lib.hid (half_size hL)
  have hFc : (byteCells F).length = Z.length := by rw [byteCells_length, hF, hZL]
  have hLc : (byteCells L).length = Z.length := by rw [byteCells_length, hL, hZL]
  have heq := eq_half F L hF hL
  have HC := Lib.hid (fun w => isCopy_walk F hF w)
  have HQ := Lib.hid (fun w => seq_walk F hF w)
  have hwk : IntKind.u64.wrap (k : Int) = (k : Int) := by simp [IntKind.wrap, IntKind.bits, IntKind.signed]; omega
  have HPAR := Lib.hid (parity (num F) k)
  generalize num F = n at *
  have htm : (n : Int).tmod 2 = (n : Int) % 2 := Int.tmod_eq_emod_of_nonneg (by omega)
  generalize isCopy F = ic at *
  have hFl : (byteCells F).length = 64 := by rw [byteCells_length, hF]
  have hOne := byteCells_one F
  have hOneL := byteCells_one L
  generalize byteCells F = cF at *
  generalize byteCells L = cL at *
  have HONEL := Lib.hid hOneL
  clear h hcd hca hOneL
  by_cases hr : r = 0
  · subst hr
    by_cases hFL : F = L
    · have hbq : (F == L) = true := by rw [hFL]; exact beq_self_eq_true _
      rw [hbq] at heq HSAY
      cases ic with
      | true =>
        have HSB := Lib.hid (HSAY.out.trans (show _ = ((n : Int) % 2 == (k : Int)) by rw [HPAR.out]; simp))
        clear hFL hbq HSAY
        go_enter Try.func97, Try.ntmps97
        go_wp2_with fail
        refine HH.out.mono ?_
        rintro e w1 ⟨rfl, b1⟩
        have hw1 : w.heap.size < w1.heap.size := by have := b1.size; simp at this; omega
        have r41 := r40.kept (Fr.of_below b1 []) (by simp)
        have r42 := Row.kept (r41.kept (Fr.of_below ((Below.refl w1.heap.size w1).alloc (Nat.le_refl _) (.cells Z.toArray 116)) []) (by simp)) (Fr.of_below ((Below.refl (w1.alloc (.cells Z.toArray 116)).heap.size (w1.alloc (.cells Z.toArray 116))).alloc (Nat.le_refl _) (.cells Z.toArray 116)) []) (by simp)
        have ha2 : Row ((w1.alloc (.cells Z.toArray 116)).alloc (.cells Z.toArray 116)) w1.heap.size 116 Z := Row.of_has ((show Has (w1.alloc (.cells Z.toArray 116)) w1.heap.size 116 Z from heap_alloc_new w1 _).grow _)
        have hb2 : Row ((w1.alloc (.cells Z.toArray 116)).alloc (.cells Z.toArray 116)) (w1.heap.size + 1) 116 Z := by
          rw [show w1.heap.size + 1 = (w1.alloc (.cells Z.toArray 116)).heap.size by simp]
          exact Row.of_has (show Has _ _ 116 Z from heap_alloc_new _ _)
        have bb0 : Below w.heap.size w w1 := b0.trans (b1.mono (by simp))
        have bb : Below w.heap.size w ((w1.alloc (.cells Z.toArray 116)).alloc (.cells Z.toArray 116)) := (bb0.alloc bb0.size _).alloc (by have := bb0.size; simp; omega) _
        go_wp2_with (first
          | (refine wpList_store_all rfl _ (.tmp 6) (.tmp 15) rfl w1.heap.size cF rfl rfl 116 _ ha2 hFc HSF.out hOne ?_
             intro w2 hw2 hf2
             have hb2' := hb2.kept hf2 (by simp)
             have r43 := r42.kept hf2 (by simp; omega)
             have bb2 := bb.trans (hf2.below (B := w.heap.size) (by simp; omega) bb.size))
          | (refine wpList_store_all rfl _ (.tmp 7) (.tmp 16) rfl (w1.heap.size + 1) cL rfl rfl 116 _ hb2' hLc HSL.out HONEL.out ?_
             intro w3 hw3 hf3
             have ha3 := hw2.kept hf3 (by simp)
             have r44 := r43.kept hf3 (by simp; omega)
             have bb3 := bb2.trans (hf3.below (B := w.heap.size) (by simp; omega) bb2.size)))
        have hS0 : Sy w w.heap.size w1.heap.size (w1.heap.size + 1) cF cL w3 := ⟨ha3, hw3, ⟨Z, hZL, r44⟩, bb3⟩
        refine wp_region_held_drew (S := Sy w w.heap.size w1.heap.size (w1.heap.size + 1) cF cL) (by kernel_rfl) (sy_drew hS0) (fun hS => ?_)
        refine wpAnyH_take (i := 0) (v := .agg (cF).toArray) (lit rfl) (by kernel_rfl) (by kernel_rfl) (by kernel_rfl) (fun _ _ _ h => h) (yieldsIf_load_mid (by rfl) _ _ rfl (w1.heap.size) 0 rfl (cF) _ (fun w h => sy_first h) Try.underlying116 rfl HSF.out) hS ?_
        simp only [Act.put, List.setIfInBounds_toArray, List.set_cons_zero, List.set_cons_succ]
        refine wpAnyH_take (i := 1) (v := (.int .i64 0)) (lit rfl) (by kernel_rfl) (by kernel_rfl) (by kernel_rfl) (fun _ _ _ h => h) (Or.inl ⟨by rfl, fun w _ => by go_simp⟩) hS ?_
        simp only [Act.put, List.setIfInBounds_toArray, List.set_cons_zero, List.set_cons_succ]
        refine wpAnyH_take (i := 2) (v := (.bool true)) (lit rfl) (by kernel_rfl) (by kernel_rfl) (by kernel_rfl) (fun _ _ _ h => h) (Or.inl ⟨by rfl, fun w _ => by go_simp⟩) hS ?_
        simp only [Act.put, List.setIfInBounds_toArray, List.set_cons_zero, List.set_cons_succ]
        refine wpAnyH_take (i := 3) (v := (.bool true)) (lit rfl) (by kernel_rfl) (by kernel_rfl) (by kernel_rfl) (fun _ _ _ h => h) (Or.inl ⟨by rfl, fun w _ => by go_simp⟩) hS ?_
        simp only [Act.put, List.setIfInBounds_toArray, List.set_cons_zero, List.set_cons_succ]
        refine wpAnyH_take (i := 4) (v := .agg (cF).toArray) (lit rfl) (by kernel_rfl) (by kernel_rfl) (by kernel_rfl) (fun _ _ _ h => h) (yieldsIf_load_mid (by rfl) _ _ rfl (w1.heap.size) 0 rfl (cF) _ (fun w h => sy_first h) Try.underlying116 rfl HSF.out) hS ?_
        simp only [Act.put, List.setIfInBounds_toArray, List.set_cons_zero, List.set_cons_succ]
        refine wpAnyH_take (i := 5) (v := .agg (cL).toArray) (lit rfl) (by kernel_rfl) (by kernel_rfl) (by kernel_rfl) (fun _ _ _ h => h) (yieldsIf_load_mid (by rfl) _ _ rfl (w1.heap.size + 1) 0 rfl (cL) _ (fun w h => sy_last h) Try.underlying116 rfl HSL.out) hS ?_
        simp only [Act.put, List.setIfInBounds_toArray, List.set_cons_zero, List.set_cons_succ]
        refine wpAnyH_take (i := 6) (v := (.bool true)) (lit rfl) (by kernel_rfl) (by kernel_rfl) (by kernel_rfl) (fun _ _ _ h => h) (Or.inl ⟨by rfl, fun w _ => by go_simp⟩) hS ?_
        simp only [Act.put, List.setIfInBounds_toArray, List.set_cons_zero, List.set_cons_succ]
        refine wpAnyH_take (i := 7) (v := (.bool true)) (lit rfl) (by kernel_rfl) (by kernel_rfl) (by kernel_rfl) (fun _ _ _ h => h) (Or.inl ⟨by rfl, fun w _ => by go_simp⟩) hS ?_
        simp only [Act.put, List.setIfInBounds_toArray, List.set_cons_zero, List.set_cons_succ]
        refine wpAnyH_take (i := 8) (v := (.bool true)) (lit rfl) (by kernel_rfl) (by kernel_rfl) (by kernel_rfl) (fun _ _ _ h => h) (Or.inl ⟨by rfl, fun w _ => by go_simp⟩) hS ?_
        simp only [Act.put, List.setIfInBounds_toArray, List.set_cons_zero, List.set_cons_succ]
        refine wpAnyH_take (i := 9) (v := .agg (cF).toArray) (lit rfl) (by kernel_rfl) (by kernel_rfl) (by kernel_rfl) (fun _ _ _ h => h) (yieldsIf_load_mid (by rfl) _ _ rfl (w1.heap.size) 0 rfl (cF) _ (fun w h => sy_first h) Try.underlying116 rfl HSF.out) hS ?_
        simp only [Act.put, List.setIfInBounds_toArray, List.set_cons_zero, List.set_cons_succ]
        refine wpAnyH_ready (rs := [10]) (by kernel_rfl) (by simp) (AllReadyH.cons (lit rfl) (fun K hK => ?_) AllReadyH.nil)
        go_simp
        go_wp2_with (go_at_call 99; refine (HC.out _).mono ?_; rintro e w4 ⟨rfl, hb4⟩)
        have w4S := sy_next hS hb4
        refine hK.out _ _ w4S (fun _ => ?_)
        clear hK K
        refine wpAnyH_take (i := 11) (v := (.bool true)) (lit rfl) (by kernel_rfl) (by kernel_rfl) (by kernel_rfl) (fun _ _ _ h => h) (Or.inl ⟨by rfl, fun w _ => by go_simp⟩) w4S ?_
        simp only [Act.put, List.setIfInBounds_toArray, List.set_cons_zero, List.set_cons_succ]
        refine wpAnyH_take (i := 12) (v := (.bool true)) (lit rfl) (by kernel_rfl) (by kernel_rfl) (by kernel_rfl) (fun _ _ _ h => h) (Or.inl ⟨by rfl, fun w _ => by go_simp⟩) w4S ?_
        simp only [Act.put, List.setIfInBounds_toArray, List.set_cons_zero, List.set_cons_succ]
        refine wpAnyH_take (i := 13) (v := .agg (cF).toArray) (lit rfl) (by kernel_rfl) (by kernel_rfl) (by kernel_rfl) (fun _ _ _ h => h) (yieldsIf_load_mid (by rfl) _ _ rfl (w1.heap.size) 0 rfl (cF) _ (fun w h => sy_first h) Try.underlying116 rfl HSF.out) w4S ?_
        simp only [Act.put, List.setIfInBounds_toArray, List.set_cons_zero, List.set_cons_succ]
        refine wpAnyH_take (i := 16) (v := (.int .i64 k)) (lit rfl) (by kernel_rfl) (by kernel_rfl) (by kernel_rfl) (fun _ _ _ h => h) (Or.inl ⟨by rfl, fun w _ => by go_simp⟩) w4S ?_
        simp only [Act.put, List.setIfInBounds_toArray, List.set_cons_zero, List.set_cons_succ]
        refine wpAnyH_take (i := 17) (v := (.int .u64 k)) (lit rfl) (by kernel_rfl) (by kernel_rfl) (by kernel_rfl) (fun _ _ _ h => h) (Or.inl ⟨by rfl, fun w _ => by go_simp⟩) w4S ?_
        simp only [Act.put, List.setIfInBounds_toArray, List.set_cons_zero, List.set_cons_succ]
        refine wpAnyH_ready (rs := [14]) (by kernel_rfl) (by simp) (AllReadyH.cons (lit rfl) (fun K hK => ?_) AllReadyH.nil)
        go_simp
        go_wp2_with (go_at_call 100; refine (HQ.out _).mono ?_; rintro e w6 ⟨rfl, hb6⟩)
        have w6S := sy_next w4S hb6
        refine hK.out _ _ w6S (fun _ => ?_)
        clear hK K
        refine wpAnyH_take (i := 15) (v := (.int .u64 ((n : Int) % 2))) (lit rfl) (by kernel_rfl) (by kernel_rfl) (by kernel_rfl) (fun _ _ _ h => h) (Or.inl ⟨by rfl, fun w _ => by go_simp⟩) w6S ?_
        simp only [Act.put, List.setIfInBounds_toArray, List.set_cons_zero, List.set_cons_succ]
        refine wpAnyH_take (i := 18) (v := (.bool ((n : Int) % 2 == (k : Int)))) (lit rfl) (by kernel_rfl) (by kernel_rfl) (by kernel_rfl) (fun _ _ _ h => h) (Or.inl ⟨by rfl, fun w _ => by go_simp⟩) w6S ?_
        simp only [Act.put, List.setIfInBounds_toArray, List.set_cons_zero, List.set_cons_succ]
        refine wpAnyH_take (i := 19) (v := (.bool ((n : Int) % 2 == (k : Int)))) (lit rfl) (by kernel_rfl) (by kernel_rfl) (by kernel_rfl) (fun _ _ _ h => h) (Or.inl ⟨by rfl, fun w _ => by go_simp⟩) w6S ?_
        simp only [Act.put, List.setIfInBounds_toArray, List.set_cons_zero, List.set_cons_succ]
        refine wpAnyH_ready (rs := [20]) (by kernel_rfl) (by simp) (AllReadyH.cons (lit rfl) (fun K hK => ?_) AllReadyH.nil)
        rw [if_pos (by rfl)]
        obtain ⟨X, hX, rX⟩ := w6S.2.2.1
        refine wp_store_at _ (.tmp 4) (.tmp 18) rfl w.heap.size 0 cF rfl rfl 116 X rX (by omega) HSF.out hOne (fun w5 hw5 hf5 => ?_)
        rw [splice_all X cF (by omega)] at hw5
        have hS5 := sy_stored w6S hFl hw5 hf5 (Nat.le_refl _) (by omega) (by omega)
        refine hK.out _ _ hS5 (fun _ => ?_)
        clear hK K
        simp only [Act.put]
        refine wpAnyH_ready (rs := [21]) (by kernel_rfl) (by simp) (AllReadyH.cons (lit rfl) (fun K hK => ?_) AllReadyH.nil)
        go_simp
        refine hK.out _ _ hS5 (fun _ => ?_)
        clear hK K
        refine wpAnyH_done (by kernel_rfl) ?_ _
        go_wp2
        refine bodyPost_ret (results_cell_one rfl _ _ w.heap.size 0 cF _ rfl (hw5.range 0 _ (fun j hj => by rw [Nat.zero_add])) Try.underlying116 rfl HSF.out) rfl ?_
        exact ⟨by rw [HSB.out]; rfl, hS5.2.2.2⟩
      | false =>
        have HSB := Lib.hid (HSAY.out.trans (show _ = false by simp))
        clear hFL hbq HSAY
        go_enter Try.func97, Try.ntmps97
        go_wp2_with fail
        refine HH.out.mono ?_
        rintro e w1 ⟨rfl, b1⟩
        have hw1 : w.heap.size < w1.heap.size := by have := b1.size; simp at this; omega
        have r41 := r40.kept (Fr.of_below b1 []) (by simp)
        have r42 := Row.kept (r41.kept (Fr.of_below ((Below.refl w1.heap.size w1).alloc (Nat.le_refl _) (.cells Z.toArray 116)) []) (by simp)) (Fr.of_below ((Below.refl (w1.alloc (.cells Z.toArray 116)).heap.size (w1.alloc (.cells Z.toArray 116))).alloc (Nat.le_refl _) (.cells Z.toArray 116)) []) (by simp)
        have ha2 : Row ((w1.alloc (.cells Z.toArray 116)).alloc (.cells Z.toArray 116)) w1.heap.size 116 Z := Row.of_has ((show Has (w1.alloc (.cells Z.toArray 116)) w1.heap.size 116 Z from heap_alloc_new w1 _).grow _)
        have hb2 : Row ((w1.alloc (.cells Z.toArray 116)).alloc (.cells Z.toArray 116)) (w1.heap.size + 1) 116 Z := by
          rw [show w1.heap.size + 1 = (w1.alloc (.cells Z.toArray 116)).heap.size by simp]
          exact Row.of_has (show Has _ _ 116 Z from heap_alloc_new _ _)
        have bb0 : Below w.heap.size w w1 := b0.trans (b1.mono (by simp))
        have bb : Below w.heap.size w ((w1.alloc (.cells Z.toArray 116)).alloc (.cells Z.toArray 116)) := (bb0.alloc bb0.size _).alloc (by have := bb0.size; simp; omega) _
        go_wp2_with (first
          | (refine wpList_store_all rfl _ (.tmp 6) (.tmp 15) rfl w1.heap.size cF rfl rfl 116 _ ha2 hFc HSF.out hOne ?_
             intro w2 hw2 hf2
             have hb2' := hb2.kept hf2 (by simp)
             have r43 := r42.kept hf2 (by simp; omega)
             have bb2 := bb.trans (hf2.below (B := w.heap.size) (by simp; omega) bb.size))
          | (refine wpList_store_all rfl _ (.tmp 7) (.tmp 16) rfl (w1.heap.size + 1) cL rfl rfl 116 _ hb2' hLc HSL.out HONEL.out ?_
             intro w3 hw3 hf3
             have ha3 := hw2.kept hf3 (by simp)
             have r44 := r43.kept hf3 (by simp; omega)
             have bb3 := bb2.trans (hf3.below (B := w.heap.size) (by simp; omega) bb2.size)))
        have hS0 : Sy w w.heap.size w1.heap.size (w1.heap.size + 1) cF cL w3 := ⟨ha3, hw3, ⟨Z, hZL, r44⟩, bb3⟩
        refine wp_region_held_drew (S := Sy w w.heap.size w1.heap.size (w1.heap.size + 1) cF cL) (by kernel_rfl) (sy_drew hS0) (fun hS => ?_)
        refine wpAnyH_take (i := 0) (v := .agg (cF).toArray) (lit rfl) (by kernel_rfl) (by kernel_rfl) (by kernel_rfl) (fun _ _ _ h => h) (yieldsIf_load_mid (by rfl) _ _ rfl (w1.heap.size) 0 rfl (cF) _ (fun w h => sy_first h) Try.underlying116 rfl HSF.out) hS ?_
        simp only [Act.put, List.setIfInBounds_toArray, List.set_cons_zero, List.set_cons_succ]
        refine wpAnyH_take (i := 1) (v := (.int .i64 0)) (lit rfl) (by kernel_rfl) (by kernel_rfl) (by kernel_rfl) (fun _ _ _ h => h) (Or.inl ⟨by rfl, fun w _ => by go_simp⟩) hS ?_
        simp only [Act.put, List.setIfInBounds_toArray, List.set_cons_zero, List.set_cons_succ]
        refine wpAnyH_take (i := 2) (v := (.bool true)) (lit rfl) (by kernel_rfl) (by kernel_rfl) (by kernel_rfl) (fun _ _ _ h => h) (Or.inl ⟨by rfl, fun w _ => by go_simp⟩) hS ?_
        simp only [Act.put, List.setIfInBounds_toArray, List.set_cons_zero, List.set_cons_succ]
        refine wpAnyH_take (i := 3) (v := (.bool true)) (lit rfl) (by kernel_rfl) (by kernel_rfl) (by kernel_rfl) (fun _ _ _ h => h) (Or.inl ⟨by rfl, fun w _ => by go_simp⟩) hS ?_
        simp only [Act.put, List.setIfInBounds_toArray, List.set_cons_zero, List.set_cons_succ]
        refine wpAnyH_take (i := 4) (v := .agg (cF).toArray) (lit rfl) (by kernel_rfl) (by kernel_rfl) (by kernel_rfl) (fun _ _ _ h => h) (yieldsIf_load_mid (by rfl) _ _ rfl (w1.heap.size) 0 rfl (cF) _ (fun w h => sy_first h) Try.underlying116 rfl HSF.out) hS ?_
        simp only [Act.put, List.setIfInBounds_toArray, List.set_cons_zero, List.set_cons_succ]
        refine wpAnyH_take (i := 5) (v := .agg (cL).toArray) (lit rfl) (by kernel_rfl) (by kernel_rfl) (by kernel_rfl) (fun _ _ _ h => h) (yieldsIf_load_mid (by rfl) _ _ rfl (w1.heap.size + 1) 0 rfl (cL) _ (fun w h => sy_last h) Try.underlying116 rfl HSL.out) hS ?_
        simp only [Act.put, List.setIfInBounds_toArray, List.set_cons_zero, List.set_cons_succ]
        refine wpAnyH_take (i := 6) (v := (.bool true)) (lit rfl) (by kernel_rfl) (by kernel_rfl) (by kernel_rfl) (fun _ _ _ h => h) (Or.inl ⟨by rfl, fun w _ => by go_simp⟩) hS ?_
        simp only [Act.put, List.setIfInBounds_toArray, List.set_cons_zero, List.set_cons_succ]
        refine wpAnyH_take (i := 7) (v := (.bool true)) (lit rfl) (by kernel_rfl) (by kernel_rfl) (by kernel_rfl) (fun _ _ _ h => h) (Or.inl ⟨by rfl, fun w _ => by go_simp⟩) hS ?_
        simp only [Act.put, List.setIfInBounds_toArray, List.set_cons_zero, List.set_cons_succ]
        refine wpAnyH_take (i := 8) (v := (.bool true)) (lit rfl) (by kernel_rfl) (by kernel_rfl) (by kernel_rfl) (fun _ _ _ h => h) (Or.inl ⟨by rfl, fun w _ => by go_simp⟩) hS ?_
        simp only [Act.put, List.setIfInBounds_toArray, List.set_cons_zero, List.set_cons_succ]
        refine wpAnyH_take (i := 9) (v := .agg (cF).toArray) (lit rfl) (by kernel_rfl) (by kernel_rfl) (by kernel_rfl) (fun _ _ _ h => h) (yieldsIf_load_mid (by rfl) _ _ rfl (w1.heap.size) 0 rfl (cF) _ (fun w h => sy_first h) Try.underlying116 rfl HSF.out) hS ?_
        simp only [Act.put, List.setIfInBounds_toArray, List.set_cons_zero, List.set_cons_succ]
        refine wpAnyH_ready (rs := [10]) (by kernel_rfl) (by simp) (AllReadyH.cons (lit rfl) (fun K hK => ?_) AllReadyH.nil)
        go_simp
        go_wp2_with (go_at_call 99; refine (HC.out _).mono ?_; rintro e w4 ⟨rfl, hb4⟩)
        have w4S := sy_next hS hb4
        refine hK.out _ _ w4S (fun _ => ?_)
        clear hK K
        refine wpAnyH_take (i := 11) (v := (.bool false)) (lit rfl) (by kernel_rfl) (by kernel_rfl) (by kernel_rfl) (fun _ _ _ h => h) (Or.inl ⟨by rfl, fun w _ => by go_simp⟩) w4S ?_
        simp only [Act.put, List.setIfInBounds_toArray, List.set_cons_zero, List.set_cons_succ]
        refine wpAnyH_take (i := 12) (v := (.bool false)) (lit rfl) (by kernel_rfl) (by kernel_rfl) (by kernel_rfl) (fun _ _ _ h => h) (Or.inl ⟨by rfl, fun w _ => by go_simp⟩) w4S ?_
        simp only [Act.put, List.setIfInBounds_toArray, List.set_cons_zero, List.set_cons_succ]
        refine wpAnyH_take (i := 13) (v := undef) (lit rfl) (by kernel_rfl) (by kernel_rfl) (by kernel_rfl) (fun _ _ _ h => h) (Or.inr ⟨by rfl, rfl⟩) w4S ?_
        simp only [Act.put, List.setIfInBounds_toArray, List.set_cons_zero, List.set_cons_succ]
        refine wpAnyH_take (i := 14) (v := undef) (lit rfl) (by kernel_rfl) (by kernel_rfl) (by kernel_rfl) (fun _ _ _ h => h) (Or.inr ⟨by rfl, rfl⟩) w4S ?_
        simp only [Act.put, List.setIfInBounds_toArray, List.set_cons_zero, List.set_cons_succ]
        refine wpAnyH_take (i := 15) (v := undef) (lit rfl) (by kernel_rfl) (by kernel_rfl) (by kernel_rfl) (fun _ _ _ h => h) (Or.inr ⟨by rfl, rfl⟩) w4S ?_
        simp only [Act.put, List.setIfInBounds_toArray, List.set_cons_zero, List.set_cons_succ]
        refine wpAnyH_take (i := 16) (v := undef) (lit rfl) (by kernel_rfl) (by kernel_rfl) (by kernel_rfl) (fun _ _ _ h => h) (Or.inr ⟨by rfl, rfl⟩) w4S ?_
        simp only [Act.put, List.setIfInBounds_toArray, List.set_cons_zero, List.set_cons_succ]
        refine wpAnyH_take (i := 17) (v := undef) (lit rfl) (by kernel_rfl) (by kernel_rfl) (by kernel_rfl) (fun _ _ _ h => h) (Or.inr ⟨by rfl, rfl⟩) w4S ?_
        simp only [Act.put, List.setIfInBounds_toArray, List.set_cons_zero, List.set_cons_succ]
        refine wpAnyH_take (i := 18) (v := undef) (lit rfl) (by kernel_rfl) (by kernel_rfl) (by kernel_rfl) (fun _ _ _ h => h) (Or.inr ⟨by rfl, rfl⟩) w4S ?_
        simp only [Act.put, List.setIfInBounds_toArray, List.set_cons_zero, List.set_cons_succ]
        refine wpAnyH_take (i := 19) (v := (.bool false)) (lit rfl) (by kernel_rfl) (by kernel_rfl) (by kernel_rfl) (fun _ _ _ h => h) (Or.inl ⟨by rfl, fun w _ => by go_simp⟩) w4S ?_
        simp only [Act.put, List.setIfInBounds_toArray, List.set_cons_zero, List.set_cons_succ]
        refine wpAnyH_ready (rs := [20]) (by kernel_rfl) (by simp) (AllReadyH.cons (lit rfl) (fun K hK => ?_) AllReadyH.nil)
        rw [if_pos (by rfl)]
        obtain ⟨X, hX, rX⟩ := w4S.2.2.1
        refine wp_store_at _ (.tmp 4) (.tmp 18) rfl w.heap.size 0 cF rfl rfl 116 X rX (by omega) HSF.out hOne (fun w5 hw5 hf5 => ?_)
        rw [splice_all X cF (by omega)] at hw5
        have hS5 := sy_stored w4S hFl hw5 hf5 (Nat.le_refl _) (by omega) (by omega)
        refine hK.out _ _ hS5 (fun _ => ?_)
        clear hK K
        simp only [Act.put]
        refine wpAnyH_ready (rs := [21]) (by kernel_rfl) (by simp) (AllReadyH.cons (lit rfl) (fun K hK => ?_) AllReadyH.nil)
        go_simp
        refine hK.out _ _ hS5 (fun _ => ?_)
        clear hK K
        refine wpAnyH_done (by kernel_rfl) ?_ _
        go_wp2
        refine bodyPost_ret (results_cell_one rfl _ _ w.heap.size 0 cF _ rfl (hw5.range 0 _ (fun j hj => by rw [Nat.zero_add])) Try.underlying116 rfl HSF.out) rfl ?_
        exact ⟨by rw [HSB.out]; rfl, hS5.2.2.2⟩
    · have hbq : (F == L) = false := beq_eq_false_iff_ne.2 hFL
      rw [hbq] at heq HSAY
      have HSB := Lib.hid (HSAY.out.trans (show _ = false by simp))
      clear hFL hbq HSAY
      go_enter Try.func97, Try.ntmps97
      go_wp2_with fail
      refine HH.out.mono ?_
      rintro e w1 ⟨rfl, b1⟩
      have hw1 : w.heap.size < w1.heap.size := by have := b1.size; simp at this; omega
      have r41 := r40.kept (Fr.of_below b1 []) (by simp)
      have r42 := Row.kept (r41.kept (Fr.of_below ((Below.refl w1.heap.size w1).alloc (Nat.le_refl _) (.cells Z.toArray 116)) []) (by simp)) (Fr.of_below ((Below.refl (w1.alloc (.cells Z.toArray 116)).heap.size (w1.alloc (.cells Z.toArray 116))).alloc (Nat.le_refl _) (.cells Z.toArray 116)) []) (by simp)
      have ha2 : Row ((w1.alloc (.cells Z.toArray 116)).alloc (.cells Z.toArray 116)) w1.heap.size 116 Z := Row.of_has ((show Has (w1.alloc (.cells Z.toArray 116)) w1.heap.size 116 Z from heap_alloc_new w1 _).grow _)
      have hb2 : Row ((w1.alloc (.cells Z.toArray 116)).alloc (.cells Z.toArray 116)) (w1.heap.size + 1) 116 Z := by
        rw [show w1.heap.size + 1 = (w1.alloc (.cells Z.toArray 116)).heap.size by simp]
        exact Row.of_has (show Has _ _ 116 Z from heap_alloc_new _ _)
      have bb0 : Below w.heap.size w w1 := b0.trans (b1.mono (by simp))
      have bb : Below w.heap.size w ((w1.alloc (.cells Z.toArray 116)).alloc (.cells Z.toArray 116)) := (bb0.alloc bb0.size _).alloc (by have := bb0.size; simp; omega) _
      go_wp2_with (first
        | (refine wpList_store_all rfl _ (.tmp 6) (.tmp 15) rfl w1.heap.size cF rfl rfl 116 _ ha2 hFc HSF.out hOne ?_
           intro w2 hw2 hf2
           have hb2' := hb2.kept hf2 (by simp)
           have r43 := r42.kept hf2 (by simp; omega)
           have bb2 := bb.trans (hf2.below (B := w.heap.size) (by simp; omega) bb.size))
        | (refine wpList_store_all rfl _ (.tmp 7) (.tmp 16) rfl (w1.heap.size + 1) cL rfl rfl 116 _ hb2' hLc HSL.out HONEL.out ?_
           intro w3 hw3 hf3
           have ha3 := hw2.kept hf3 (by simp)
           have r44 := r43.kept hf3 (by simp; omega)
           have bb3 := bb2.trans (hf3.below (B := w.heap.size) (by simp; omega) bb2.size)))
      have hS0 : Sy w w.heap.size w1.heap.size (w1.heap.size + 1) cF cL w3 := ⟨ha3, hw3, ⟨Z, hZL, r44⟩, bb3⟩
      refine wp_region_held_drew (S := Sy w w.heap.size w1.heap.size (w1.heap.size + 1) cF cL) (by kernel_rfl) (sy_drew hS0) (fun hS => ?_)
      refine wpAnyH_take (i := 0) (v := .agg (cF).toArray) (lit rfl) (by kernel_rfl) (by kernel_rfl) (by kernel_rfl) (fun _ _ _ h => h) (yieldsIf_load_mid (by rfl) _ _ rfl (w1.heap.size) 0 rfl (cF) _ (fun w h => sy_first h) Try.underlying116 rfl HSF.out) hS ?_
      simp only [Act.put, List.setIfInBounds_toArray, List.set_cons_zero, List.set_cons_succ]
      refine wpAnyH_take (i := 1) (v := (.int .i64 0)) (lit rfl) (by kernel_rfl) (by kernel_rfl) (by kernel_rfl) (fun _ _ _ h => h) (Or.inl ⟨by rfl, fun w _ => by go_simp⟩) hS ?_
      simp only [Act.put, List.setIfInBounds_toArray, List.set_cons_zero, List.set_cons_succ]
      refine wpAnyH_take (i := 2) (v := (.bool true)) (lit rfl) (by kernel_rfl) (by kernel_rfl) (by kernel_rfl) (fun _ _ _ h => h) (Or.inl ⟨by rfl, fun w _ => by go_simp⟩) hS ?_
      simp only [Act.put, List.setIfInBounds_toArray, List.set_cons_zero, List.set_cons_succ]
      refine wpAnyH_take (i := 3) (v := (.bool true)) (lit rfl) (by kernel_rfl) (by kernel_rfl) (by kernel_rfl) (fun _ _ _ h => h) (Or.inl ⟨by rfl, fun w _ => by go_simp⟩) hS ?_
      simp only [Act.put, List.setIfInBounds_toArray, List.set_cons_zero, List.set_cons_succ]
      refine wpAnyH_take (i := 4) (v := .agg (cF).toArray) (lit rfl) (by kernel_rfl) (by kernel_rfl) (by kernel_rfl) (fun _ _ _ h => h) (yieldsIf_load_mid (by rfl) _ _ rfl (w1.heap.size) 0 rfl (cF) _ (fun w h => sy_first h) Try.underlying116 rfl HSF.out) hS ?_
      simp only [Act.put, List.setIfInBounds_toArray, List.set_cons_zero, List.set_cons_succ]
      refine wpAnyH_take (i := 5) (v := .agg (cL).toArray) (lit rfl) (by kernel_rfl) (by kernel_rfl) (by kernel_rfl) (fun _ _ _ h => h) (yieldsIf_load_mid (by rfl) _ _ rfl (w1.heap.size + 1) 0 rfl (cL) _ (fun w h => sy_last h) Try.underlying116 rfl HSL.out) hS ?_
      simp only [Act.put, List.setIfInBounds_toArray, List.set_cons_zero, List.set_cons_succ]
      refine wpAnyH_take (i := 6) (v := (.bool false)) (lit rfl) (by kernel_rfl) (by kernel_rfl) (by kernel_rfl) (fun _ _ _ h => h) (Or.inl ⟨by rfl, fun w _ => by go_simp⟩) hS ?_
      simp only [Act.put, List.setIfInBounds_toArray, List.set_cons_zero, List.set_cons_succ]
      refine wpAnyH_take (i := 7) (v := (.bool false)) (lit rfl) (by kernel_rfl) (by kernel_rfl) (by kernel_rfl) (fun _ _ _ h => h) (Or.inl ⟨by rfl, fun w _ => by go_simp⟩) hS ?_
      simp only [Act.put, List.setIfInBounds_toArray, List.set_cons_zero, List.set_cons_succ]
      refine wpAnyH_take (i := 8) (v := (.bool false)) (lit rfl) (by kernel_rfl) (by kernel_rfl) (by kernel_rfl) (fun _ _ _ h => h) (Or.inl ⟨by rfl, fun w _ => by go_simp⟩) hS ?_
      simp only [Act.put, List.setIfInBounds_toArray, List.set_cons_zero, List.set_cons_succ]
      refine wpAnyH_take (i := 9) (v := undef) (lit rfl) (by kernel_rfl) (by kernel_rfl) (by kernel_rfl) (fun _ _ _ h => h) (Or.inr ⟨by rfl, rfl⟩) hS ?_
      simp only [Act.put, List.setIfInBounds_toArray, List.set_cons_zero, List.set_cons_succ]
      refine wpAnyH_take (i := 10) (v := undef) (lit rfl) (by kernel_rfl) (by kernel_rfl) (by kernel_rfl) (fun _ _ _ h => h) (Or.inr ⟨by rfl, rfl⟩) hS ?_
      simp only [Act.put, List.setIfInBounds_toArray, List.set_cons_zero, List.set_cons_succ]
      refine wpAnyH_take (i := 11) (v := (.bool false)) (lit rfl) (by kernel_rfl) (by kernel_rfl) (by kernel_rfl) (fun _ _ _ h => h) (Or.inl ⟨by rfl, fun w _ => by go_simp⟩) hS ?_
      simp only [Act.put, List.setIfInBounds_toArray, List.set_cons_zero, List.set_cons_succ]
      refine wpAnyH_take (i := 12) (v := (.bool false)) (lit rfl) (by kernel_rfl) (by kernel_rfl) (by kernel_rfl) (fun _ _ _ h => h) (Or.inl ⟨by rfl, fun w _ => by go_simp⟩) hS ?_
      simp only [Act.put, List.setIfInBounds_toArray, List.set_cons_zero, List.set_cons_succ]
      refine wpAnyH_take (i := 13) (v := undef) (lit rfl) (by kernel_rfl) (by kernel_rfl) (by kernel_rfl) (fun _ _ _ h => h) (Or.inr ⟨by rfl, rfl⟩) hS ?_
      simp only [Act.put, List.setIfInBounds_toArray, List.set_cons_zero, List.set_cons_succ]
      refine wpAnyH_take (i := 14) (v := undef) (lit rfl) (by kernel_rfl) (by kernel_rfl) (by kernel_rfl) (fun _ _ _ h => h) (Or.inr ⟨by rfl, rfl⟩) hS ?_
      simp only [Act.put, List.setIfInBounds_toArray, List.set_cons_zero, List.set_cons_succ]
      refine wpAnyH_take (i := 15) (v := undef) (lit rfl) (by kernel_rfl) (by kernel_rfl) (by kernel_rfl) (fun _ _ _ h => h) (Or.inr ⟨by rfl, rfl⟩) hS ?_
      simp only [Act.put, List.setIfInBounds_toArray, List.set_cons_zero, List.set_cons_succ]
      refine wpAnyH_take (i := 16) (v := undef) (lit rfl) (by kernel_rfl) (by kernel_rfl) (by kernel_rfl) (fun _ _ _ h => h) (Or.inr ⟨by rfl, rfl⟩) hS ?_
      simp only [Act.put, List.setIfInBounds_toArray, List.set_cons_zero, List.set_cons_succ]
      refine wpAnyH_take (i := 17) (v := undef) (lit rfl) (by kernel_rfl) (by kernel_rfl) (by kernel_rfl) (fun _ _ _ h => h) (Or.inr ⟨by rfl, rfl⟩) hS ?_
      simp only [Act.put, List.setIfInBounds_toArray, List.set_cons_zero, List.set_cons_succ]
      refine wpAnyH_take (i := 18) (v := undef) (lit rfl) (by kernel_rfl) (by kernel_rfl) (by kernel_rfl) (fun _ _ _ h => h) (Or.inr ⟨by rfl, rfl⟩) hS ?_
      simp only [Act.put, List.setIfInBounds_toArray, List.set_cons_zero, List.set_cons_succ]
      refine wpAnyH_take (i := 19) (v := (.bool false)) (lit rfl) (by kernel_rfl) (by kernel_rfl) (by kernel_rfl) (fun _ _ _ h => h) (Or.inl ⟨by rfl, fun w _ => by go_simp⟩) hS ?_
      simp only [Act.put, List.setIfInBounds_toArray, List.set_cons_zero, List.set_cons_succ]
      refine wpAnyH_ready (rs := [20]) (by kernel_rfl) (by simp) (AllReadyH.cons (lit rfl) (fun K hK => ?_) AllReadyH.nil)
      rw [if_pos (by rfl)]
      obtain ⟨X, hX, rX⟩ := hS.2.2.1
      refine wp_store_at _ (.tmp 4) (.tmp 18) rfl w.heap.size 0 cF rfl rfl 116 X rX (by omega) HSF.out hOne (fun w5 hw5 hf5 => ?_)
      rw [splice_all X cF (by omega)] at hw5
      have hS5 := sy_stored hS hFl hw5 hf5 (Nat.le_refl _) (by omega) (by omega)
      refine hK.out _ _ hS5 (fun _ => ?_)
      clear hK K
      simp only [Act.put]
      refine wpAnyH_ready (rs := [21]) (by kernel_rfl) (by simp) (AllReadyH.cons (lit rfl) (fun K hK => ?_) AllReadyH.nil)
      go_simp
      refine hK.out _ _ hS5 (fun _ => ?_)
      clear hK K
      refine wpAnyH_done (by kernel_rfl) ?_ _
      go_wp2
      refine bodyPost_ret (results_cell_one rfl _ _ w.heap.size 0 cF _ rfl (hw5.range 0 _ (fun j hj => by rw [Nat.zero_add])) Try.underlying116 rfl HSF.out) rfl ?_
      exact ⟨by rw [HSB.out]; rfl, hS5.2.2.2⟩
  · have HSB := Lib.hid (HSAY.out.trans (show _ = false by simp [hr]))
    have hne : (r == 0) = false := by simpa using hr
    clear HSAY hr
    go_enter Try.func97, Try.ntmps97
    go_wp2_with fail
    refine HH.out.mono ?_
    rintro e w1 ⟨rfl, b1⟩
    have hw1 : w.heap.size < w1.heap.size := by have := b1.size; simp at this; omega
    have r41 := r40.kept (Fr.of_below b1 []) (by simp)
    have r42 := Row.kept (r41.kept (Fr.of_below ((Below.refl w1.heap.size w1).alloc (Nat.le_refl _) (.cells Z.toArray 116)) []) (by simp)) (Fr.of_below ((Below.refl (w1.alloc (.cells Z.toArray 116)).heap.size (w1.alloc (.cells Z.toArray 116))).alloc (Nat.le_refl _) (.cells Z.toArray 116)) []) (by simp)
    have ha2 : Row ((w1.alloc (.cells Z.toArray 116)).alloc (.cells Z.toArray 116)) w1.heap.size 116 Z := Row.of_has ((show Has (w1.alloc (.cells Z.toArray 116)) w1.heap.size 116 Z from heap_alloc_new w1 _).grow _)
    have hb2 : Row ((w1.alloc (.cells Z.toArray 116)).alloc (.cells Z.toArray 116)) (w1.heap.size + 1) 116 Z := by
      rw [show w1.heap.size + 1 = (w1.alloc (.cells Z.toArray 116)).heap.size by simp]
      exact Row.of_has (show Has _ _ 116 Z from heap_alloc_new _ _)
    have bb0 : Below w.heap.size w w1 := b0.trans (b1.mono (by simp))
    have bb : Below w.heap.size w ((w1.alloc (.cells Z.toArray 116)).alloc (.cells Z.toArray 116)) := (bb0.alloc bb0.size _).alloc (by have := bb0.size; simp; omega) _
    go_wp2_with (first
      | (refine wpList_store_all rfl _ (.tmp 6) (.tmp 15) rfl w1.heap.size cF rfl rfl 116 _ ha2 hFc HSF.out hOne ?_
         intro w2 hw2 hf2
         have hb2' := hb2.kept hf2 (by simp)
         have r43 := r42.kept hf2 (by simp; omega)
         have bb2 := bb.trans (hf2.below (B := w.heap.size) (by simp; omega) bb.size))
      | (refine wpList_store_all rfl _ (.tmp 7) (.tmp 16) rfl (w1.heap.size + 1) cL rfl rfl 116 _ hb2' hLc HSL.out HONEL.out ?_
         intro w3 hw3 hf3
         have ha3 := hw2.kept hf3 (by simp)
         have r44 := r43.kept hf3 (by simp; omega)
         have bb3 := bb2.trans (hf3.below (B := w.heap.size) (by simp; omega) bb2.size)))
    have hS0 : Sy w w.heap.size w1.heap.size (w1.heap.size + 1) cF cL w3 := ⟨ha3, hw3, ⟨Z, hZL, r44⟩, bb3⟩
    refine wp_region_held_drew (S := Sy w w.heap.size w1.heap.size (w1.heap.size + 1) cF cL) (by kernel_rfl) (sy_drew hS0) (fun hS => ?_)
    refine wpAnyH_take (i := 0) (v := .agg (cF).toArray) (lit rfl) (by kernel_rfl) (by kernel_rfl) (by kernel_rfl) (fun _ _ _ h => h) (yieldsIf_load_mid (by rfl) _ _ rfl (w1.heap.size) 0 rfl (cF) _ (fun w h => sy_first h) Try.underlying116 rfl HSF.out) hS ?_
    simp only [Act.put, List.setIfInBounds_toArray, List.set_cons_zero, List.set_cons_succ]
    refine wpAnyH_take (i := 1) (v := (.int .i64 r)) (lit rfl) (by kernel_rfl) (by kernel_rfl) (by kernel_rfl) (fun _ _ _ h => h) (Or.inl ⟨by rfl, fun w _ => by go_simp⟩) hS ?_
    simp only [Act.put, List.setIfInBounds_toArray, List.set_cons_zero, List.set_cons_succ]
    refine wpAnyH_take (i := 2) (v := (.bool false)) (lit rfl) (by kernel_rfl) (by kernel_rfl) (by kernel_rfl) (fun _ _ _ h => h) (Or.inl ⟨by rfl, fun w _ => by go_simp⟩) hS ?_
    simp only [Act.put, List.setIfInBounds_toArray, List.set_cons_zero, List.set_cons_succ]
    refine wpAnyH_take (i := 3) (v := (.bool false)) (lit rfl) (by kernel_rfl) (by kernel_rfl) (by kernel_rfl) (fun _ _ _ h => h) (Or.inl ⟨by rfl, fun w _ => by go_simp⟩) hS ?_
    simp only [Act.put, List.setIfInBounds_toArray, List.set_cons_zero, List.set_cons_succ]
    refine wpAnyH_take (i := 4) (v := undef) (lit rfl) (by kernel_rfl) (by kernel_rfl) (by kernel_rfl) (fun _ _ _ h => h) (Or.inr ⟨by rfl, rfl⟩) hS ?_
    simp only [Act.put, List.setIfInBounds_toArray, List.set_cons_zero, List.set_cons_succ]
    refine wpAnyH_take (i := 5) (v := undef) (lit rfl) (by kernel_rfl) (by kernel_rfl) (by kernel_rfl) (fun _ _ _ h => h) (Or.inr ⟨by rfl, rfl⟩) hS ?_
    simp only [Act.put, List.setIfInBounds_toArray, List.set_cons_zero, List.set_cons_succ]
    refine wpAnyH_take (i := 6) (v := undef) (lit rfl) (by kernel_rfl) (by kernel_rfl) (by kernel_rfl) (fun _ _ _ h => h) (Or.inr ⟨by rfl, rfl⟩) hS ?_
    simp only [Act.put, List.setIfInBounds_toArray, List.set_cons_zero, List.set_cons_succ]
    refine wpAnyH_take (i := 7) (v := (.bool false)) (lit rfl) (by kernel_rfl) (by kernel_rfl) (by kernel_rfl) (fun _ _ _ h => h) (Or.inl ⟨by rfl, fun w _ => by go_simp⟩) hS ?_
    simp only [Act.put, List.setIfInBounds_toArray, List.set_cons_zero, List.set_cons_succ]
    refine wpAnyH_take (i := 8) (v := (.bool false)) (lit rfl) (by kernel_rfl) (by kernel_rfl) (by kernel_rfl) (fun _ _ _ h => h) (Or.inl ⟨by rfl, fun w _ => by go_simp⟩) hS ?_
    simp only [Act.put, List.setIfInBounds_toArray, List.set_cons_zero, List.set_cons_succ]
    refine wpAnyH_take (i := 9) (v := undef) (lit rfl) (by kernel_rfl) (by kernel_rfl) (by kernel_rfl) (fun _ _ _ h => h) (Or.inr ⟨by rfl, rfl⟩) hS ?_
    simp only [Act.put, List.setIfInBounds_toArray, List.set_cons_zero, List.set_cons_succ]
    refine wpAnyH_take (i := 10) (v := undef) (lit rfl) (by kernel_rfl) (by kernel_rfl) (by kernel_rfl) (fun _ _ _ h => h) (Or.inr ⟨by rfl, rfl⟩) hS ?_
    simp only [Act.put, List.setIfInBounds_toArray, List.set_cons_zero, List.set_cons_succ]
    refine wpAnyH_take (i := 11) (v := (.bool false)) (lit rfl) (by kernel_rfl) (by kernel_rfl) (by kernel_rfl) (fun _ _ _ h => h) (Or.inl ⟨by rfl, fun w _ => by go_simp⟩) hS ?_
    simp only [Act.put, List.setIfInBounds_toArray, List.set_cons_zero, List.set_cons_succ]
    refine wpAnyH_take (i := 12) (v := (.bool false)) (lit rfl) (by kernel_rfl) (by kernel_rfl) (by kernel_rfl) (fun _ _ _ h => h) (Or.inl ⟨by rfl, fun w _ => by go_simp⟩) hS ?_
    simp only [Act.put, List.setIfInBounds_toArray, List.set_cons_zero, List.set_cons_succ]
    refine wpAnyH_take (i := 13) (v := undef) (lit rfl) (by kernel_rfl) (by kernel_rfl) (by kernel_rfl) (fun _ _ _ h => h) (Or.inr ⟨by rfl, rfl⟩) hS ?_
    simp only [Act.put, List.setIfInBounds_toArray, List.set_cons_zero, List.set_cons_succ]
    refine wpAnyH_take (i := 14) (v := undef) (lit rfl) (by kernel_rfl) (by kernel_rfl) (by kernel_rfl) (fun _ _ _ h => h) (Or.inr ⟨by rfl, rfl⟩) hS ?_
    simp only [Act.put, List.setIfInBounds_toArray, List.set_cons_zero, List.set_cons_succ]
    refine wpAnyH_take (i := 15) (v := undef) (lit rfl) (by kernel_rfl) (by kernel_rfl) (by kernel_rfl) (fun _ _ _ h => h) (Or.inr ⟨by rfl, rfl⟩) hS ?_
    simp only [Act.put, List.setIfInBounds_toArray, List.set_cons_zero, List.set_cons_succ]
    refine wpAnyH_take (i := 16) (v := undef) (lit rfl) (by kernel_rfl) (by kernel_rfl) (by kernel_rfl) (fun _ _ _ h => h) (Or.inr ⟨by rfl, rfl⟩) hS ?_
    simp only [Act.put, List.setIfInBounds_toArray, List.set_cons_zero, List.set_cons_succ]
    refine wpAnyH_take (i := 17) (v := undef) (lit rfl) (by kernel_rfl) (by kernel_rfl) (by kernel_rfl) (fun _ _ _ h => h) (Or.inr ⟨by rfl, rfl⟩) hS ?_
    simp only [Act.put, List.setIfInBounds_toArray, List.set_cons_zero, List.set_cons_succ]
    refine wpAnyH_take (i := 18) (v := undef) (lit rfl) (by kernel_rfl) (by kernel_rfl) (by kernel_rfl) (fun _ _ _ h => h) (Or.inr ⟨by rfl, rfl⟩) hS ?_
    simp only [Act.put, List.setIfInBounds_toArray, List.set_cons_zero, List.set_cons_succ]
    refine wpAnyH_take (i := 19) (v := (.bool false)) (lit rfl) (by kernel_rfl) (by kernel_rfl) (by kernel_rfl) (fun _ _ _ h => h) (Or.inl ⟨by rfl, fun w _ => by go_simp⟩) hS ?_
    simp only [Act.put, List.setIfInBounds_toArray, List.set_cons_zero, List.set_cons_succ]
    refine wpAnyH_ready (rs := [20]) (by kernel_rfl) (by simp) (AllReadyH.cons (lit rfl) (fun K hK => ?_) AllReadyH.nil)
    rw [if_pos (by rfl)]
    obtain ⟨X, hX, rX⟩ := hS.2.2.1
    refine wp_store_at _ (.tmp 4) (.tmp 18) rfl w.heap.size 0 cF rfl rfl 116 X rX (by omega) HSF.out hOne (fun w5 hw5 hf5 => ?_)
    rw [splice_all X cF (by omega)] at hw5
    have hS5 := sy_stored hS hFl hw5 hf5 (Nat.le_refl _) (by omega) (by omega)
    refine hK.out _ _ hS5 (fun _ => ?_)
    clear hK K
    simp only [Act.put]
    refine wpAnyH_ready (rs := [21]) (by kernel_rfl) (by simp) (AllReadyH.cons (lit rfl) (fun K hK => ?_) AllReadyH.nil)
    go_simp
    refine hK.out _ _ hS5 (fun _ => ?_)
    clear hK K
    refine wpAnyH_done (by kernel_rfl) ?_ _
    go_wp2
    refine bodyPost_ret (results_cell_one rfl _ _ w.heap.size 0 cF _ rfl (hw5.range 0 _ (fun j hj => by rw [Nat.zero_add])) Try.underlying116 rfl HSF.out) rfl ?_
    exact ⟨by rw [HSB.out]; rfl, hS5.2.2.2⟩
end TS
end Go.Proofs.Ytkhdidhpcdlmcaa
