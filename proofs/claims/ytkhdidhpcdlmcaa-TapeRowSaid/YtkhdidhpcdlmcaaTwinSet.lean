/- The walks over a twin's Format, Set, Text and Seq. -/
import Derived.Test.YtkhdidhpcdlmcaaTwinOpen
namespace Go.Proofs.Ytkhdidhpcdlmcaa
open Go.RowKit Go.Lib MM MF DM DK TM FL TH DN DW DF TD TN TS TO
namespace TT
/-! ### Format -/
def fmt1 (S : St) (a : Int) : St := writeS S a (two zeros64)
def fmt2 (S : St) (a : Int) : St := writeS (fmt1 S a) (a + 1) (two (half 1 []))
def fmtE (S : St) (a : Int) : Int := if refE S a ≠ 0 then refE S a else if writeE S a (two zeros64) ≠ 0 then writeE S a (two zeros64) else if writeE (fmt1 S a) (a + 1) (two (half 1 [])) ≠ 0 then writeE (fmt1 S a) (a + 1) (two (half 1 [])) else flushE (fmt2 S a)
def fmtS (S : St) (a : Int) : St := if refE S a ≠ 0 then S else if writeE S a (two zeros64) ≠ 0 then fmt1 S a else if writeE (fmt1 S a) (a + 1) (two (half 1 [])) ≠ 0 then fmt2 S a else flushS (fmt2 S a)
set_option maxRecDepth 100000 in
set_option maxHeartbeats 2000000 in
theorem format_walk (w : World) (B g : Nat) (S : St) (fs : List Nat) (h : Dk w B g S fs) (a : Int) (hlen : S.un.length < 999999990) : Calls Try.prog 69 #[.pointer (some ⟨g, 0, none⟩), .int .i64 a] w fun e w' =>
    e = .returned (.int .i64 (fmtE S a)) ∧ After w w' B g (fmtS S a) fs := by
  obtain ⟨Z, hZ⟩ : ∃ Z, Z = byteCells zeros64 := ⟨_, rfl⟩
  have hzw := zero_half Z hZ
  have hbz := build_zeros Z hZ
  have hmf := make_wr g
  have HZ := Lib.hid hZ
  clear hZ
  have HR := Lib.hid (refusal_walk w B g S fs h a)
  by_cases hr : refE S a = 0
  · have hin : 0 ≤ a ∧ a + 1 < S.fl.length := by rcases refE_eq S a with q | q <;> omega
    have h1 : a ≤ 4096 := by have := h.ok.2.2.1; omega
    have h0 := hin.1
    have HP := Lib.hid (put_walk w B g S fs h a zeros64 rfl (by omega))
    rw [← HZ.out] at HP
    have hl1 := writeS_un S a (two zeros64)
    rw [hr] at HR
    by_cases he1 : writeE S a (two zeros64) = 0
    · have HP2 := Lib.hid (fun (w2 : World) (f2 : List Nat) (d2 : Dk w2 B g (fmt1 S a) f2) => put_walk w2 B g (fmt1 S a) f2 d2 (a + 1) (half 1 []) (half_length 1 [] (by decide)) (by unfold fmt1; omega))
      rw [he1] at HP
      have HN := Lib.hid (fun w => new_half 1 [] (by decide) w)
      by_cases he2 : writeE (fmt1 S a) (a + 1) (two (half 1 [])) = 0
      · have e1 : fmtE S a = flushE (fmt2 S a) := by simp [fmtE, hr, he1, he2]
        have e2 : fmtS S a = flushS (fmt2 S a) := by simp [fmtS, hr, he1, he2]
        rw [e1, e2]
        rw [he2] at HP2
        have HF := Lib.hid (fun (w2 : World) (f2 : List Nat) (d2 : Dk w2 B g (fmt2 S a) f2) => flush_walk w2 B g (fmt2 S a) f2 d2)
        replace HP2 := Lib.hid (show ∀ (w2 : World) (f2 : List Nat) (d2 : Dk w2 B g (fmt1 S a) f2), Calls Try.prog 116 #[wr g, .int .i64 (a + 1), .agg (byteCells (half 1 [])).toArray] w2 fun e w' => e = .returned (.int .i64 0) ∧ After w2 w' B g (fmt2 S a) f2 from HP2.out)
        generalize flushE (fmt2 S a) = fe at *
        generalize flushS (fmt2 S a) = fS at *
        generalize fmt2 S a = S2 at *
        replace HP := Lib.hid (show Calls Try.prog 116 #[wr g, .int .i64 a, .agg Z.toArray] w fun e w' => e = .returned (.int .i64 0) ∧ After w w' B g (fmt1 S a) fs from HP.out)
        generalize fmt1 S a = S1 at *
        generalize byteCells (half 1 []) = cH at *
        clear h he1 he2 e1 e2 hr hl1
        go_enter Try.func69, Try.ntmps69
        go_wp2_with fail
        refine HR.out.mono ?_
        rintro e w1 ⟨rfl, rfl⟩
        go_wp2_with fail
        refine HP.out.mono ?_
        rintro e w2 ⟨rfl, f2, d2, r2, m2⟩
        go_wp2_with fail
        refine (HN.out _).mono ?_
        rintro e w3 ⟨rfl, b3⟩
        have d3 := d2.below b3
        go_wp2_with fail
        refine (HP2.out _ _ d3).mono ?_
        rintro e w4 ⟨rfl, f4, d4, r4, m4⟩
        go_wp2_with fail
        refine (HF.out _ _ d4).mono ?_
        rintro e w5 ⟨rfl, a5⟩
        have HX := Lib.hid (After.next r2 m2 (After.next (Fr.of_below b3 f2) (fun x hx => .inl hx) (After.next r4 m4 a5)))
        clear a5 d4 d3 d2
        go_wp2
        go_ret
        exact ⟨rfl, HX.out⟩
      · have e1 : fmtE S a = writeE (fmt1 S a) (a + 1) (two (half 1 [])) := by simp [fmtE, hr, he1, he2]
        have e2 : fmtS S a = fmt2 S a := by simp [fmtS, hr, he1, he2]
        have hne : (writeE (fmt1 S a) (a + 1) (two (half 1 [])) != 0) = true := by simpa using he2
        rw [e1, e2]
        replace HP2 := Lib.hid (show ∀ (w2 : World) (f2 : List Nat) (d2 : Dk w2 B g (fmt1 S a) f2), Calls Try.prog 116 #[wr g, .int .i64 (a + 1), .agg (byteCells (half 1 [])).toArray] w2 fun e w' => e = .returned (.int .i64 (writeE (fmt1 S a) (a + 1) (two (half 1 [])))) ∧ After w2 w' B g (fmt2 S a) f2 from HP2.out)
        generalize writeE (fmt1 S a) (a + 1) (two (half 1 [])) = fe at *
        generalize fmt2 S a = S2 at *
        replace HP := Lib.hid (show Calls Try.prog 116 #[wr g, .int .i64 a, .agg Z.toArray] w fun e w' => e = .returned (.int .i64 0) ∧ After w w' B g (fmt1 S a) fs from HP.out)
        generalize fmt1 S a = S1 at *
        generalize byteCells (half 1 []) = cH at *
        clear h he1 he2 e1 e2 hr hl1
        go_enter Try.func69, Try.ntmps69
        go_wp2_with fail
        refine HR.out.mono ?_
        rintro e w1 ⟨rfl, rfl⟩
        go_wp2_with fail
        refine HP.out.mono ?_
        rintro e w2 ⟨rfl, f2, d2, r2, m2⟩
        go_wp2_with fail
        refine (HN.out _).mono ?_
        rintro e w3 ⟨rfl, b3⟩
        have d3 := d2.below b3
        go_wp2_with fail
        refine (HP2.out _ _ d3).mono ?_
        rintro e w4 ⟨rfl, a4⟩
        have HX := Lib.hid (After.next r2 m2 (After.next (Fr.of_below b3 f2) (fun x hx => .inl hx) a4))
        clear a4 d3 d2
        go_wp2
        go_ret
        exact ⟨rfl, HX.out⟩
    · have e1 : fmtE S a = writeE S a (two zeros64) := by simp [fmtE, hr, he1]
      have e2 : fmtS S a = writeS S a (two zeros64) := by simp [fmtS, hr, he1, fmt1]
      have hne : (writeE S a (two zeros64) != 0) = true := by simpa using he1
      rw [e1, e2]
      generalize writeE S a (two zeros64) = fe at *
      generalize writeS S a (two zeros64) = S2 at *
      clear h he1 e1 e2 hr hl1
      go_enter Try.func69, Try.ntmps69
      go_wp2_with fail
      refine HR.out.mono ?_
      rintro e w1 ⟨rfl, rfl⟩
      go_wp2_with fail
      refine HP.out.mono ?_
      rintro e w2 ⟨rfl, a2⟩
      have HX := Lib.hid a2
      clear a2
      go_wp2
      go_ret
      exact ⟨rfl, HX.out⟩
  · have e1 : fmtE S a = refE S a := by simp [fmtE, hr]
    have e2 : fmtS S a = S := by simp [fmtS, hr]
    have hne : (refE S a != 0) = true := by simpa using hr
    rw [e1, e2]
    have HX := Lib.hid (After.refl h)
    generalize refE S a = fe at *
    clear h e1 e2 hr
    go_enter Try.func69, Try.ntmps69
    go_wp2_with fail
    refine HR.out.mono ?_
    rintro e w1 ⟨rfl, rfl⟩
    go_wp2
    go_ret
    exact ⟨rfl, HX.out⟩

/-! ### Text, Seq -/
theorem twin_cell {w : World} {gt g : Nat} {a : Int} {h : List UInt8} {lost : Bool} {t : TypeId} (hh : h.length = 64) (r : Row w gt t (tcells g a h lost)) : w.cell? ⟨gt, 0, none⟩ = some (.pointer (some ⟨g, 0, none⟩)) ∧ w.cell? ⟨gt, 1, none⟩ = some (.int .i64 a) ∧ w.cell? ⟨gt, 66, none⟩ = some (.bool lost) := by
  have hl := tcells_length g a h lost hh
  refine ⟨?_, ?_, ?_⟩
  · rw [r.cell 0 (by omega)]; rfl
  · rw [r.cell 1 (by omega)]; rfl
  · rw [r.cell 66 (by omega)]
    unfold tcells
    simp only [List.getElem_cons_succ]
    rw [List.getElem_append_right (by rw [byteCells_length]; omega)]
    simp
set_option maxRecDepth 100000 in
theorem text_of (w : World) (gt g : Nat) (a : Int) (h : List UInt8) (lost : Bool) (hh : h.length = 64) (hT : Row w gt 121 (tcells g a h lost)) : Calls Try.prog 101 #[.pointer (some ⟨gt, 0, none⟩)] w fun e w' => e = .returned (.string ⟨(txt h).toArray⟩) ∧ Below w.heap.size w w' := by
  have l2 := twin_range hT
  have HSH := Lib.hid (half_size hh)
  have HQ := Lib.hid (fun w => text_walk h hh w)
  have hfz := hT.free 0
  generalize txt h = t at *
  generalize byteCells h = cH at *
  clear hT
  go_enter Try.func101, Try.ntmps101
  go_wp2_with (first
    | (refine wpList_load_mid rfl _ (.tmp 7) rfl gt 2 rfl cH _ l2 Try.underlying116 rfl HSH.out ?_)
    | (go_at_call 126
       refine (HQ.out _).mono ?_
       rintro e w3 ⟨rfl, b3⟩))
  go_ret
  exact ⟨rfl, b3⟩
theorem text_nil (w : World) : Calls Try.prog 101 #[.pointer none] w fun e w' => e = .returned (.string ⟨#[]⟩) ∧ w = w' := by
  go_enter Try.func101, Try.ntmps101
  go_wp2
  go_ret
  exact ⟨rfl, rfl⟩
theorem set_nil (w : World) (v : Value) : Calls Try.prog 60 #[.pointer none, v] w fun e w' => e = .returned (.int .i64 1) ∧ w = w' := by
  go_enter Try.func60, Try.ntmps60
  go_wp2
  go_ret
  exact ⟨rfl, rfl⟩
theorem format_nil (w : World) (a : Int) : Calls Try.prog 69 #[.pointer none, .int .i64 a] w fun e w' => e = .returned (.int .i64 1) ∧ w = w' := by
  have hr : ∀ w, Calls Try.prog 95 #[.pointer none, .int .i64 a] w fun e w' => e = .returned (.int .i64 1) ∧ w = w' := fun w => by
    go_enter Try.func95, Try.ntmps95
    go_wp2
    go_ret
    exact ⟨rfl, rfl⟩
  go_enter Try.func69, Try.ntmps69
  go_wp2_with fail
  refine (hr _).mono ?_
  rintro e w1 ⟨rfl, rfl⟩
  go_wp2
  go_ret
  exact ⟨rfl, rfl⟩
theorem open_nil (w : World) (a : Int) : Calls Try.prog 42 #[.pointer none, .int .i64 a] w fun e w' => e = .returned (.tuple #[.pointer none, .int .i64 1]) ∧ Below w.heap.size w w' := by
  have hr : ∀ w, Calls Try.prog 95 #[.pointer none, .int .i64 a] w fun e w' => e = .returned (.int .i64 1) ∧ w = w' := fun w => by
    go_enter Try.func95, Try.ntmps95
    go_wp2
    go_ret
    exact ⟨rfl, rfl⟩
  have hb : Below w.heap.size w ((w.alloc (.cells #[.pointer none] 25)).alloc (.cells #[.int .i64 a] 3)) := ((Below.refl _ _).alloc (Nat.le_refl _) _).alloc (by simp) _
  go_enter Try.func42, Try.ntmps42
  go_wp2_with fail
  refine (hr _).mono ?_
  rintro e w1 ⟨rfl, rfl⟩
  go_wp2
  go_ret2
  exact ⟨rfl, hb⟩

/-! ### Set -/
def place (a : Int) (n : Nat) : Int := a + (n % 2 : Nat)
def stE (S : St) (a : Int) (N : List UInt8) : Int := if writeE S (place a (num N)) (two N) ≠ 0 then writeE S (place a (num N)) (two N) else flushE (writeS S (place a (num N)) (two N))
def stS (S : St) (a : Int) (N : List UInt8) : St := if writeE S (place a (num N)) (two N) ≠ 0 then writeS S (place a (num N)) (two N) else flushS (writeS S (place a (num N)) (two N))
/-- What is held: a half in a variable, the twin. -/
theorem so_cell0 {w2 w3 : World} {b bt g : Nat} {a : Int} {F : List Value} {h : List UInt8} {lost : Bool} (hh : Hid (h.length = 64)) (hS : So w2 b bt F (tcells g a h lost) w3) : w3.cell? ⟨bt, 0, none⟩ = some (.pointer (some ⟨g, 0, none⟩)) := (twin_cell hh.out hS.2.1).1
theorem so_cell1 {w2 w3 : World} {b bt g : Nat} {a : Int} {F : List Value} {h : List UInt8} {lost : Bool} (hh : Hid (h.length = 64)) (hS : So w2 b bt F (tcells g a h lost) w3) : w3.cell? ⟨bt, 1, none⟩ = some (.int .i64 a) := (twin_cell hh.out hS.2.1).2.1
theorem row_cell0 {w3 : World} {b bt g : Nat} {a : Int} {F : List Value} {h : List UInt8} {lost : Bool} (hh : Hid (h.length = 64)) (hS : Row w3 b 116 F ∧ Row w3 bt 121 (tcells g a h lost)) : w3.cell? ⟨bt, 0, none⟩ = some (.pointer (some ⟨g, 0, none⟩)) := (twin_cell hh.out hS.2).1
theorem row_cell1 {w3 : World} {b bt g : Nat} {a : Int} {F : List Value} {h : List UInt8} {lost : Bool} (hh : Hid (h.length = 64)) (hS : Row w3 b 116 F ∧ Row w3 bt 121 (tcells g a h lost)) : w3.cell? ⟨bt, 1, none⟩ = some (.int .i64 a) := (twin_cell hh.out hS.2).2.1
theorem row_first {w3 : World} {b : Nat} {F : List Value} {p : Prop} (h : Row w3 b 116 F ∧ p) : w3.rangeAt b 0 F := h.1.range 0 _ (fun j hj => by rw [Nat.zero_add])
set_option maxRecDepth 100000 in
set_option maxHeartbeats 2000000 in
theorem store_walk (w : World) (B g : Nat) (S : St) (fs : List Nat) (h : Dk w B g S fs) (gt : Nat) (a : Int) (h0 : 0 ≤ a) (h1 : a ≤ 4096) (H : List UInt8) (lost : Bool) (hH : H.length = 64) (hT : Row w gt 121 (tcells g a H lost)) (hgt : gt ∉ fs) (X : List UInt8) (hX : X.length = 64) (hlen : S.un.length < 999999990) :
    Calls Try.prog 113 #[.pointer (some ⟨gt, 0, none⟩), .agg (byteCells X).toArray] w fun e w' => e = .returned (.int .i64 (stE S a X)) ∧ After w w' B g (stS S a X) fs := by
  have hb : Below w.heap.size w (w.alloc (.cells (byteCells X).toArray 116)) := (Below.refl _ _).alloc (Nat.le_refl _) _
  have hrow : Row (w.alloc (.cells (byteCells X).toArray 116)) w.heap.size 116 (byteCells X) := Row.of_has (heap_alloc_new w _)
  have hT1 := hT.kept (Fr.of_below hb []) (by simp)
  have hgl := hT.lt
  have hmem := fun x hx => (h.mem x hx).2
  have HNW := Lib.hid (show w.heap.size ∉ fs from fun hx => Nat.lt_irrefl _ (hmem _ hx))
  have HSZ := Lib.hid (fun (w3 : World) (b3 : Below (w.alloc (.cells (byteCells X).toArray 116)).heap.size (w.alloc (.cells (byteCells X).toArray 116)) w3) (x : Nat) (h : w3.drew.heap.size ≤ x) => show w.heap.size ≤ x by have := b3.size; simp at this h; omega)
  have lx := hrow.range 0 _ (fun j hj => by rw [Nat.zero_add])
  have HSX := Lib.hid (half_size hX)
  have HQ := Lib.hid (seq_walk X hX (w.alloc (.cells (byteCells X).toArray 116)))
  have HHH := Lib.hid hH
  have hmf := make_wr g
  have htm : ((num X : Nat) : Int).tmod 2 = (((num X) % 2 : Nat) : Int) := by rw [Int.tmod_eq_emod_of_nonneg (by omega)]; omega
  have HP := Lib.hid (fun (w2 : World) (hb2 : Below (w.alloc (.cells (byteCells X).toArray 116)).heap.size (w.alloc (.cells (byteCells X).toArray 116)) w2) => put_walk w2 B g S fs ((h.below hb).below hb2) (place a (num X)) X hX (by omega))
  have HFL := Lib.hid (fun (w2 : World) (f2 : List Nat) (d2 : Dk w2 B g (writeS S (place a (num X)) (two X)) f2) => flush_walk w2 B g _ f2 d2)
  have HE := Lib.hid (show ∀ (_ : writeE S (place a (num X)) (two X) ≠ 0), stE S a X = writeE S (place a (num X)) (two X) ∧ stS S a X = writeS S (place a (num X)) (two X) from fun x => by simp [stE, stS, x])
  have HE0 := Lib.hid (show ∀ (_ : writeE S (place a (num X)) (two X) = 0), stE S a X = flushE (writeS S (place a (num X)) (two X)) ∧ stS S a X = flushS (writeS S (place a (num X)) (two X)) from fun x => by simp [stE, stS, x])
  have HFB := Lib.hid (fun (w2 : World) (hb2 : Below (w.alloc (.cells (byteCells X).toArray 116)).heap.size (w.alloc (.cells (byteCells X).toArray 116)) w2) => show Fr w w2 fs from Fr.of_below (hb.trans (hb2.mono (by simp))) fs)
  generalize stE S a X = se at *
  generalize stS S a X = sS at *
  have hpl : place a (num X) = a + ((num X % 2 : Nat) : Int) := rfl
  have hn2 : num X % 2 < 2 := Nat.mod_lt _ (by omega)
  generalize num X % 2 = od at *
  have HPL := Lib.hid hpl
  have hwo : IntKind.i64.wrap (a + (od : Int)) = a + (od : Int) := by simp [IntKind.wrap, IntKind.bits, IntKind.signed]; omega
  generalize flushE (writeS S (place a (num X)) (two X)) = fe at *
  generalize flushS (writeS S (place a (num X)) (two X)) = fS at *
  generalize writeE S (place a (num X)) (two X) = we at *
  generalize writeS S (place a (num X)) (two X) = S1 at *
  rw [hpl] at HP
  clear HPL hpl
  generalize num X = nX at *
  generalize byteCells X = cX at *
  have hS0 : So (w.alloc (.cells cX.toArray 116)) w.heap.size gt cX (tcells g a H lost) (w.alloc (.cells cX.toArray 116)) := ⟨hrow, hT1, Below.refl _ _⟩
  clear h hT hrow hT1 hb
  by_cases hw : we = 0
  · subst hw
    obtain ⟨q1, q2⟩ := HE0.out rfl
    subst q1 q2
    go_enter Try.func113, Try.ntmps113
    go_wp2_with (first
      | (refine wpList_load_mid rfl _ (.tmp 3) rfl w.heap.size 0 rfl cX _ lx Try.underlying116 rfl HSX.out ?_)
      | (go_at_call 100
         refine HQ.out.mono ?_
         rintro e w3 ⟨rfl, b3⟩
         have hS3 := so_next hS0 b3))
    refine wp_region_held_drew (S := fun w' => Row w' w.heap.size 116 cX ∧ Row w' gt 121 (tcells g a H lost)) (by kernel_rfl) ⟨(so_drew hS3).1, (so_drew hS3).2.1⟩ (fun hS => ?_)
    refine wpAnyH_take (i := 0) (v := (.pointer (some ⟨gt, 0, none⟩))) (lit rfl) (by kernel_rfl) (by kernel_rfl) (by kernel_rfl) (fun _ _ _ h => h) (Or.inl ⟨by rfl, fun w _ => by go_simp⟩) hS ?_
    simp only [Act.put, List.setIfInBounds_toArray, List.set_cons_zero, List.set_cons_succ]
    refine wpAnyH_take (i := 1) (v := (.pointer (some ⟨gt, 0, none⟩))) (lit rfl) (by kernel_rfl) (by kernel_rfl) (by kernel_rfl) (fun _ _ _ h => h) (Or.inl ⟨by rfl, fun w _ => by go_simp⟩) hS ?_
    simp only [Act.put, List.setIfInBounds_toArray, List.set_cons_zero, List.set_cons_succ]
    refine wpAnyH_take (i := 2) (v := (.pointer (some ⟨gt, 0, none⟩))) (lit rfl) (by kernel_rfl) (by kernel_rfl) (by kernel_rfl) (fun _ _ _ h => h) (Or.inl ⟨by rfl, fun w _ => by go_simp⟩) hS ?_
    simp only [Act.put, List.setIfInBounds_toArray, List.set_cons_zero, List.set_cons_succ]
    refine wpAnyH_take (i := 3) (v := (.pointer (some ⟨g, 0, none⟩))) (lit rfl) (by kernel_rfl) (by kernel_rfl) (by kernel_rfl) (fun _ _ _ h => h) (Or.inl ⟨by rfl, fun w hw => by have hc := row_cell0 HHH hw; go_simp⟩) hS ?_
    simp only [Act.put, List.setIfInBounds_toArray, List.set_cons_zero, List.set_cons_succ]
    refine wpAnyH_take (i := 5) (v := (.pointer (some ⟨gt, 0, none⟩))) (lit rfl) (by kernel_rfl) (by kernel_rfl) (by kernel_rfl) (fun _ _ _ h => h) (Or.inl ⟨by rfl, fun w _ => by go_simp⟩) hS ?_
    simp only [Act.put, List.setIfInBounds_toArray, List.set_cons_zero, List.set_cons_succ]
    refine wpAnyH_take (i := 6) (v := (.pointer (some ⟨gt, 0, none⟩))) (lit rfl) (by kernel_rfl) (by kernel_rfl) (by kernel_rfl) (fun _ _ _ h => h) (Or.inl ⟨by rfl, fun w _ => by go_simp⟩) hS ?_
    simp only [Act.put, List.setIfInBounds_toArray, List.set_cons_zero, List.set_cons_succ]
    refine wpAnyH_take (i := 7) (v := (.pointer (some ⟨gt, 1, none⟩))) (lit rfl) (by kernel_rfl) (by kernel_rfl) (by kernel_rfl) (fun _ _ _ h => h) (Or.inl ⟨by rfl, fun w _ => by go_simp⟩) hS ?_
    simp only [Act.put, List.setIfInBounds_toArray, List.set_cons_zero, List.set_cons_succ]
    refine wpAnyH_take (i := 8) (v := (.int .i64 a)) (lit rfl) (by kernel_rfl) (by kernel_rfl) (by kernel_rfl) (fun _ _ _ h => h) (Or.inl ⟨by rfl, fun w hw => by have hc := row_cell1 HHH hw; go_simp⟩) hS ?_
    simp only [Act.put, List.setIfInBounds_toArray, List.set_cons_zero, List.set_cons_succ]
    refine wpAnyH_take (i := 9) (v := (.int .i64 od)) (lit rfl) (by kernel_rfl) (by kernel_rfl) (by kernel_rfl) (fun _ _ _ h => h) (Or.inl ⟨by rfl, fun w _ => by go_simp⟩) hS ?_
    simp only [Act.put, List.setIfInBounds_toArray, List.set_cons_zero, List.set_cons_succ]
    refine wpAnyH_take (i := 10) (v := (.int .i64 (a + od))) (lit rfl) (by kernel_rfl) (by kernel_rfl) (by kernel_rfl) (fun _ _ _ h => h) (Or.inl ⟨by rfl, fun w _ => by go_simp⟩) hS ?_
    simp only [Act.put, List.setIfInBounds_toArray, List.set_cons_zero, List.set_cons_succ]
    refine wpAnyH_take (i := 11) (v := .agg (cX).toArray) (lit rfl) (by kernel_rfl) (by kernel_rfl) (by kernel_rfl) (fun _ _ _ h => h) (yieldsIf_load_mid (by rfl) _ _ rfl (w.heap.size) 0 rfl (cX) _ (fun w h => row_first h) Try.underlying116 rfl HSX.out) hS ?_
    simp only [Act.put, List.setIfInBounds_toArray, List.set_cons_zero, List.set_cons_succ]
    refine wpAnyH_ready (rs := [4]) (by kernel_rfl) (by simp) (AllReadyH.cons (lit rfl) (fun K hK => ?_) AllReadyH.nil)
    go_simp
    refine hK.out _ _ hS (fun _ => ?_)
    clear hK K
    have F3 := Lib.hid (HFB.out _ (so_drew hS3).2.2)
    refine wpAnyH_ready (rs := [12]) (by kernel_rfl) (by simp) (AllReadyH.cons (lit rfl) (fun K hK => ?_) AllReadyH.nil)
    go_simp
    go_wp2_with (go_at_call 116; refine (HP.out _ (so_drew hS3).2.2).mono ?_; rintro e w4 ⟨rfl, f4, d4, r4, m4⟩)
    have hT4 := hS.2.kept r4 hgt
    have hS4 : Row w4 w.heap.size 116 cX ∧ Row w4 gt 121 (tcells g a H lost) := ⟨hS.1.kept r4 HNW.out, hT4⟩
    refine hK.out _ _ hS4 (fun _ => ?_)
    clear hK K
    refine wpAnyH_ready (rs := [13]) (by kernel_rfl) (by simp) (AllReadyH.cons (lit rfl) (fun K hK => ?_) AllReadyH.nil)
    go_simp
    refine hK.out _ _ hS4 (fun _ => ?_)
    clear hK K
    refine wpAnyH_done (by kernel_rfl) ?_ _
    have hc0 := (twin_cell HHH.out hT4).1
    have c5 := HFL.out w4 f4 d4
    have HMV := Lib.hid (fun x hx => (m4 x hx).imp id (fun (h : w3.drew.heap.size ≤ x) => HSZ.out w3 b3 x h))
    clear d4
    go_wp2_with fail
    refine c5.mono ?_
    rintro e w5 ⟨rfl, a5⟩
    have HX := Lib.hid (After.next (F3.out.trans r4 (fun x hx => .inl hx)) HMV.out a5)
    clear a5
    go_wp2
    go_ret
    exact ⟨rfl, HX.out⟩
  · obtain ⟨q1, q2⟩ := HE.out hw
    have hne : (we != 0) = true := by simpa using hw
    subst q1 q2
    go_enter Try.func113, Try.ntmps113
    go_wp2_with (first
      | (refine wpList_load_mid rfl _ (.tmp 3) rfl w.heap.size 0 rfl cX _ lx Try.underlying116 rfl HSX.out ?_)
      | (go_at_call 100
         refine HQ.out.mono ?_
         rintro e w3 ⟨rfl, b3⟩
         have hS3 := so_next hS0 b3))
    refine wp_region_held_drew (S := fun w' => Row w' w.heap.size 116 cX ∧ Row w' gt 121 (tcells g a H lost)) (by kernel_rfl) ⟨(so_drew hS3).1, (so_drew hS3).2.1⟩ (fun hS => ?_)
    refine wpAnyH_take (i := 0) (v := (.pointer (some ⟨gt, 0, none⟩))) (lit rfl) (by kernel_rfl) (by kernel_rfl) (by kernel_rfl) (fun _ _ _ h => h) (Or.inl ⟨by rfl, fun w _ => by go_simp⟩) hS ?_
    simp only [Act.put, List.setIfInBounds_toArray, List.set_cons_zero, List.set_cons_succ]
    refine wpAnyH_take (i := 1) (v := (.pointer (some ⟨gt, 0, none⟩))) (lit rfl) (by kernel_rfl) (by kernel_rfl) (by kernel_rfl) (fun _ _ _ h => h) (Or.inl ⟨by rfl, fun w _ => by go_simp⟩) hS ?_
    simp only [Act.put, List.setIfInBounds_toArray, List.set_cons_zero, List.set_cons_succ]
    refine wpAnyH_take (i := 2) (v := (.pointer (some ⟨gt, 0, none⟩))) (lit rfl) (by kernel_rfl) (by kernel_rfl) (by kernel_rfl) (fun _ _ _ h => h) (Or.inl ⟨by rfl, fun w _ => by go_simp⟩) hS ?_
    simp only [Act.put, List.setIfInBounds_toArray, List.set_cons_zero, List.set_cons_succ]
    refine wpAnyH_take (i := 3) (v := (.pointer (some ⟨g, 0, none⟩))) (lit rfl) (by kernel_rfl) (by kernel_rfl) (by kernel_rfl) (fun _ _ _ h => h) (Or.inl ⟨by rfl, fun w hw => by have hc := row_cell0 HHH hw; go_simp⟩) hS ?_
    simp only [Act.put, List.setIfInBounds_toArray, List.set_cons_zero, List.set_cons_succ]
    refine wpAnyH_take (i := 5) (v := (.pointer (some ⟨gt, 0, none⟩))) (lit rfl) (by kernel_rfl) (by kernel_rfl) (by kernel_rfl) (fun _ _ _ h => h) (Or.inl ⟨by rfl, fun w _ => by go_simp⟩) hS ?_
    simp only [Act.put, List.setIfInBounds_toArray, List.set_cons_zero, List.set_cons_succ]
    refine wpAnyH_take (i := 6) (v := (.pointer (some ⟨gt, 0, none⟩))) (lit rfl) (by kernel_rfl) (by kernel_rfl) (by kernel_rfl) (fun _ _ _ h => h) (Or.inl ⟨by rfl, fun w _ => by go_simp⟩) hS ?_
    simp only [Act.put, List.setIfInBounds_toArray, List.set_cons_zero, List.set_cons_succ]
    refine wpAnyH_take (i := 7) (v := (.pointer (some ⟨gt, 1, none⟩))) (lit rfl) (by kernel_rfl) (by kernel_rfl) (by kernel_rfl) (fun _ _ _ h => h) (Or.inl ⟨by rfl, fun w _ => by go_simp⟩) hS ?_
    simp only [Act.put, List.setIfInBounds_toArray, List.set_cons_zero, List.set_cons_succ]
    refine wpAnyH_take (i := 8) (v := (.int .i64 a)) (lit rfl) (by kernel_rfl) (by kernel_rfl) (by kernel_rfl) (fun _ _ _ h => h) (Or.inl ⟨by rfl, fun w hw => by have hc := row_cell1 HHH hw; go_simp⟩) hS ?_
    simp only [Act.put, List.setIfInBounds_toArray, List.set_cons_zero, List.set_cons_succ]
    refine wpAnyH_take (i := 9) (v := (.int .i64 od)) (lit rfl) (by kernel_rfl) (by kernel_rfl) (by kernel_rfl) (fun _ _ _ h => h) (Or.inl ⟨by rfl, fun w _ => by go_simp⟩) hS ?_
    simp only [Act.put, List.setIfInBounds_toArray, List.set_cons_zero, List.set_cons_succ]
    refine wpAnyH_take (i := 10) (v := (.int .i64 (a + od))) (lit rfl) (by kernel_rfl) (by kernel_rfl) (by kernel_rfl) (fun _ _ _ h => h) (Or.inl ⟨by rfl, fun w _ => by go_simp⟩) hS ?_
    simp only [Act.put, List.setIfInBounds_toArray, List.set_cons_zero, List.set_cons_succ]
    refine wpAnyH_take (i := 11) (v := .agg (cX).toArray) (lit rfl) (by kernel_rfl) (by kernel_rfl) (by kernel_rfl) (fun _ _ _ h => h) (yieldsIf_load_mid (by rfl) _ _ rfl (w.heap.size) 0 rfl (cX) _ (fun w h => row_first h) Try.underlying116 rfl HSX.out) hS ?_
    simp only [Act.put, List.setIfInBounds_toArray, List.set_cons_zero, List.set_cons_succ]
    refine wpAnyH_ready (rs := [4]) (by kernel_rfl) (by simp) (AllReadyH.cons (lit rfl) (fun K hK => ?_) AllReadyH.nil)
    go_simp
    refine hK.out _ _ hS (fun _ => ?_)
    clear hK K
    have F3 := Lib.hid (HFB.out _ (so_drew hS3).2.2)
    refine wpAnyH_ready (rs := [12]) (by kernel_rfl) (by simp) (AllReadyH.cons (lit rfl) (fun K hK => ?_) AllReadyH.nil)
    go_simp
    go_wp2_with (go_at_call 116; refine (HP.out _ (so_drew hS3).2.2).mono ?_; rintro e w4 ⟨rfl, f4, d4, r4, m4⟩)
    have hT4 := hS.2.kept r4 hgt
    have hS4 : Row w4 w.heap.size 116 cX ∧ Row w4 gt 121 (tcells g a H lost) := ⟨hS.1.kept r4 HNW.out, hT4⟩
    refine hK.out _ _ hS4 (fun _ => ?_)
    clear hK K
    refine wpAnyH_ready (rs := [13]) (by kernel_rfl) (by simp) (AllReadyH.cons (lit rfl) (fun K hK => ?_) AllReadyH.nil)
    go_simp
    refine hK.out _ _ hS4 (fun _ => ?_)
    clear hK K
    refine wpAnyH_done (by kernel_rfl) ?_ _
    have HMV := Lib.hid (fun x hx => (m4 x hx).imp id (fun (h : w3.drew.heap.size ≤ x) => HSZ.out w3 b3 x h))
    have HX := Lib.hid (show After w w4 B g _ fs from ⟨f4, d4, F3.out.trans r4 (fun x hx => .inl hx), HMV.out⟩)
    clear d4
    go_wp2
    go_ret
    exact ⟨rfl, HX.out⟩
end TT
end Go.Proofs.Ytkhdidhpcdlmcaa
