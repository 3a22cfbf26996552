/- The walks over a twin's copies: a number and a text out of a copy, a copy of a number and a text. -/
import Derived.Test.YtkhdidhpcdlmcaaDiskMem
import Derived.Test.YtkhdidhpcdlmcaaTwinMath
import Derived.Test.YtkhdidhpcdlmcaaFootLaws
import Derived.Laws.BitsAllLaws
import Derived.Laws.ResultCell
import Derived.Stop.BytesEq
import Derived.Deep.RegionHeld
import Derived.Deep.LoopGhost
import Derived.BigQuiet
import Derived.Deep.QuietTactic
namespace Go.Proofs.Ytkhdidhpcdlmcaa
open Go.RowKit Go.Lib MM MF DM DK TM FL
namespace TH
/-! ### Results that lie in variables: whole arrays -/
section
variable {P : Program} {fn : Func} {w : World} {tmps : Array Value} {ty : TypeId} {d : TypeDesc}
theorem load_var {p : Tmp} {g o : Nat} {cs : List Value} (hp : tmps.getD p undef = .pointer (some ⟨g, o, none⟩)) (hc : w.rangeAt g o cs) (hu : P.underlying ty = some d) (hd : d.isRow = true) (hi : (P.info? ty).map (·.size) = some cs.length) :
    ((asAddr (tmps.getD p undef)).run P w).andThen (fun a w1 => (loadVar ty a).run P w1) = .ok (.agg cs.toArray) w := by
  rw [hp]
  simp only [asAddr, Sem.run_pure, Result.andThen_ok, run_loadVar_mid w g o ty cs d hc hu hd hi]
theorem results_cell {p : Tmp} (h : fn.results = #[.cell p ty]) (tmps : Array Value) (w : World) (g o : Nat) (cs : List Value) (d : TypeDesc) (hp : tmps.getD p undef = .pointer (some ⟨g, o, none⟩)) (hc : w.rangeAt g o cs) (hu : P.underlying ty = some d) (hd : d.isRow = true) (hi : (P.info? ty).map (·.size) = some cs.length) :
    (results fn tmps).run P w = .ok (.agg cs.toArray) w := by
  have e := load_var (P := P) hp hc hu hd hi
  simp only [results, h]
  simp [Sem.run_bind]
  rw [Array.getD_eq_getD_getElem?] at e
  exact e
theorem results_cell_one {p u : Tmp} (h : fn.results = #[.cell p ty, .tmp u]) (tmps : Array Value) (w : World) (g o : Nat) (cs : List Value) (d : TypeDesc) (hp : tmps.getD p undef = .pointer (some ⟨g, o, none⟩)) (hc : w.rangeAt g o cs) (hu : P.underlying ty = some d) (hd : d.isRow = true) (hi : (P.info? ty).map (·.size) = some cs.length) :
    (results fn tmps).run P w = .ok (.tuple #[.agg cs.toArray, tmps.getD u undef]) w := by
  rw [results_cell_tmp h]
  rw [hp]
  simp only [asAddr, Sem.run_pure, Result.andThen_ok, run_loadVar_mid w g o ty cs d hc hu hd hi]
theorem results_two {p q u : Tmp} (h : fn.results = #[.cell p ty, .cell q ty, .tmp u]) (tmps : Array Value) (w : World) (g o g' o' : Nat) (cs cs' : List Value) (d : TypeDesc) (hp : tmps.getD p undef = .pointer (some ⟨g, o, none⟩)) (hc : w.rangeAt g o cs)
    (hq : tmps.getD q undef = .pointer (some ⟨g', o', none⟩)) (hc' : w.rangeAt g' o' cs') (hu : P.underlying ty = some d) (hd : d.isRow = true) (hi : (P.info? ty).map (·.size) = some cs.length) (hi' : (P.info? ty).map (·.size) = some cs'.length) :
    (results fn tmps).run P w = .ok (.tuple #[.agg cs.toArray, .agg cs'.toArray, tmps.getD u undef]) w := by
  have e : (results fn tmps).run P w = ((asAddr (tmps.getD p undef)).run P w).andThen fun a w1 => ((loadVar ty a).run P w1).andThen fun v w2 => ((asAddr (tmps.getD q undef)).run P w2).andThen fun b w3 => ((loadVar ty b).run P w3).andThen fun u' w4 => .ok (.tuple #[v, u', tmps.getD u undef]) w4 := by
    simp only [results, h]
    simp [Sem.run_bind, Result.andThen]
  rw [e, hp, hq]
  simp only [asAddr, Sem.run_pure, Result.andThen_ok, run_loadVar_mid w g o ty cs d hc hu hd hi, run_loadVar_mid w g' o' ty cs' d hc' hu hd hi']
end
/-- A byte is put behind a number. -/
theorem join8 (n : Nat) (c : UInt8) (hn : n < 72057594037927936) : bits .or .u64 ((n : Int) * 256) (IntKind.u64.wrap (c.toNat : Int)) = ((n * 256 + c.toNat : Nat) : Int) := by
  have hc := c.toNat_lt
  rw [show IntKind.u64.wrap (c.toNat : Int) = c.toNat by simp [IntKind.wrap, IntKind.bits, IntKind.signed]; omega]
  have := u64_or_nat (n * 256) c.toNat (by omega) (by omega)
  rw [nat_join 8 (n * 256) c.toNat (by omega) (by omega)] at this
  rw [← this]
  congr 1
set_option maxRecDepth 100000 in
set_option maxHeartbeats 400000 in
theorem seq_walk (h : List UInt8) (hh : h.length = 64) (w : World) : Calls Try.prog 100 #[.agg (byteCells h).toArray] w fun e w' => e = .returned (.int .u64 (num h)) ∧ Below w.heap.size w w' := by
  have hrow : Has (w.alloc (.cells (byteCells h).toArray 116)) w.heap.size 116 (byteCells h) := heap_alloc_new _ _
  go_enter Try.func100, Try.ntmps100
  go_wp2
  go_loopw [3, 5, 8] (fun x y i wr => (∃ k : Nat, k ≤ 4 ∧ i = .int .i64 k ∧ x = .int .u64 (numTo h k) ∧ y.oneCell' = y.oneCell') ∧ wr = w.alloc (.cells (byteCells h).toArray 116)) (fun _ _ i _ => 4 - (RowKit.intOf i).toNat)
  case atStart => exact ⟨⟨0, by omega, rfl, rfl, rfl⟩, rfl⟩
  case round =>
    obtain ⟨⟨k, hk, rfl, rfl, -⟩, rfl⟩ := hrel
    by_cases hlt : k < 4
    · have hc := hrow.cell k
      have hk' : k < h.length := by omega
      have e1 : (byteCells h)[k]? = some (.int .u8 (h.getD k 0).toNat) := by simp [byteCells, hk']
      rw [e1] at hc
      have hlt4 := numTo_lt h k
      have hp : 256 ^ k ≤ 256 ^ 3 := Nat.pow_le_pow_right (by omega) (by omega)
      have hj := join8 (numTo h k) (h.getD k 0) (by omega)
      have HN := Lib.hid (show numTo h (k + 1) = numTo h k * 256 + (h.getD k 0).toNat from rfl)
      generalize h.getD k 0 = c at *
      generalize numTo h k = n at *
      have hn : n < 16777216 := by omega
      clear hlt4 hp e1
      go_wp2
      go_roundw
      case rel => exact ⟨⟨k + 1, by omega, by go_num, by rw [HN.out]; congr 1, trivial⟩, trivial⟩
      case measure => simp [RowKit.intOf]; omega
    · have hk4 : k = 4 := by omega
      have HK := Lib.hid hk4
      clear hk4
      go_wp2
      go_ret
      exact ⟨by rw [show num h = numTo h k by rw [HK.out, numTo_four]]; rfl, (Below.refl _ _).alloc (Nat.le_refl _) _⟩
theorem cell_four {h : List UInt8} (hh : h.length = 64) {w : World} {g : Nat} {t : TypeId} (hr : Has w g t (byteCells h)) : w.cell? ⟨g, 4, none⟩ = some (.int .u8 (h.getD 4 0).toNat) := by
  rw [hr.cell 4]
  simp [byteCells, show 4 < h.length by omega]
theorem txt_range {h : List UInt8} (hh : h.length = 64) {w : World} {g : Nat} {t : TypeId} (hr : Has w g t (byteCells h)) : w.rangeAt g 5 (byteCells (txt h)) :=
  (Row.of_has hr).range 5 _ (fun j hj => by
    rw [byteCells_length, txt_length h hh] at hj
    unfold txt byteCells
    rw [List.map_take, List.getElem?_take_of_lt hj, List.map_drop, List.getElem?_drop])
theorem slice_text (c : Nat) (hc : c ≤ 55) (g : Nat) (w : World) : (Instr.sliceAt 116 (.pointer (some ⟨g, 0, none⟩)) (some (.int .i64 5)) (some (.int .i64 (5 + (c : Int)))) none).run Try.prog w = .ok (.slice (some ⟨g, 5, none⟩) c 59) w := by
  have hl : Try.prog.arrayLen 116 = 64 := by kernel_rfl
  rw [run_sliceAt_array_lh (P := Try.prog) w 116 ⟨g, 0, none⟩ (by kernel_rfl) .i64 .i64 5 (5 + (c : Int)) (by omega) (by omega) (by rw [hl]; omega)]
  have hz : (sizeOf (Try.prog.elem 116)).run Try.prog w = .ok 1 w := by kernel_rfl
  rw [hl, hz, show (5 + (c : Int)).toNat = 5 + c by omega]
  simp [slicedAt, Addr.add_mid]
set_option maxRecDepth 100000 in
set_option maxHeartbeats 400000 in
theorem text_walk (h : List UInt8) (hh : h.length = 64) (w : World) : Calls Try.prog 126 #[.agg (byteCells h).toArray] w fun e w' => e = .returned (.string ⟨(txt h).toArray⟩) ∧ Below w.heap.size w w' := by
  have hrow : Has (w.alloc (.cells (byteCells h).toArray 116)) w.heap.size 116 (byteCells h) := heap_alloc_new _ _
  have hc := cell_four hh hrow
  have hconv := string_of_range (txt_range hh hrow) 59
  rw [txt_length h hh] at hconv
  have ht : tlen h = min (h.getD 4 0).toNat 55 := rfl
  have hcb := (h.getD 4 0).toNat_lt
  generalize (h.getD 4 0).toNat = c at *
  generalize txt h = l at *
  generalize byteCells h = hc8 at *
  rcases Nat.lt_or_ge c 55 with hb | hb
  · rw [show min c 55 = c by omega] at ht
    rw [ht] at hconv
    have hm : min (c : Int) 55 = (c : Int) := by omega
    have hs := slice_text c (by omega)
    clear ht
    go_enter Try.func126, Try.ntmps126
    go_wp2
    go_ret
    exact ⟨rfl, (Below.refl _ _).alloc (Nat.le_refl _) _⟩
  · rw [show min c 55 = 55 by omega] at ht
    rw [ht] at hconv
    have hm : min (c : Int) 55 = 55 := by omega
    clear ht
    go_enter Try.func126, Try.ntmps126
    go_wp2
    go_ret
    exact ⟨rfl, (Below.refl _ _).alloc (Nat.le_refl _) _⟩
theorem zero_half (Z : List Value) (hZ : Z = byteCells zeros64) (W : World) : (zeroValue 116).run Try.prog W = .ok (.agg Z.toArray) W := by
  rw [hZ]; exact (zero_of_info (P := Try.prog) (t := 116) (v := .agg (byteCells zeros64).toArray) (n := 64) (by kernel_rfl)).1 W
theorem byte_at (n k : Nat) (hk : k < 4) : (n : Int) / 2 ^ (8 * (3 - k)) % 256 = (((b4 n).getD k 0).toNat : Int) := by
  rw [b4_at n k hk, UInt8.toNat_ofNat']
  simp
def RelN (w : World) (n : Nat) (Z : List Value) (i : Value) (wr : World) : Prop := ∃ k : Nat, k ≤ 4 ∧ i = .int .i64 k ∧ Has wr (w.heap.size + 1) 116 (byteCells (lay4 n k)) ∧ Has wr w.heap.size 116 Z ∧ Below w.heap.size w wr
set_option maxRecDepth 100000 in
set_option maxHeartbeats 1000000 in
theorem new_half (n : Nat) (t : List UInt8) (ht : t.length ≤ 55) (w : World) : Calls Try.prog 112 #[.int .u64 n, .string ⟨t.toArray⟩] w fun e w' => e = .returned (.agg (byteCells (half n t)).toArray) ∧ Below w.heap.size w w' := by
  obtain ⟨Z, hZ⟩ : ∃ Z, Z = byteCells zeros64 := ⟨_, rfl⟩
  have hzw := zero_half Z hZ
  have HZ := Lib.hid hZ
  clear hZ
  go_enter Try.func112, Try.ntmps112
  go_wp2
  go_loopw [6, 7] (fun y i wr => RelN w n Z i wr ∧ y.oneCell' = y.oneCell') (fun _ i _ => 4 - (RowKit.intOf i).toNat)
  case atStart =>
    refine ⟨⟨0, by omega, rfl, ?_, ?_, ((Below.refl _ _).alloc (Nat.le_refl _) _).alloc (by simp) _⟩, rfl⟩
    · rw [lay4_zero, ← HZ.out, show w.heap.size + 1 = (w.alloc (.cells Z.toArray 116)).heap.size by simp]
      exact (show Has ((w.alloc (.cells Z.toArray 116)).alloc (.cells Z.toArray 116)) (w.alloc (.cells Z.toArray 116)).heap.size 116 Z from heap_alloc_new _ _)
    · exact (show Has (w.alloc (.cells Z.toArray 116)) w.heap.size 116 Z from heap_alloc_new w _).grow _
  case round =>
    obtain ⟨⟨k, hk, rfl, hrow, hz, hb⟩, -⟩ := hrel
    by_cases hlt : k < 4
    · have hfz := hrow.free k
      obtain ⟨u, hu⟩ : ∃ u, wr.cell? ⟨w.heap.size + 1, k, none⟩ = some u := ⟨_, (hrow.cell k).trans (List.getElem?_eq_getElem (by rw [byteCells_length, lay4_length n k hk]; omega))⟩
      have hput := hrow.put k (.int .u8 (((b4 n).getD k 0).toNat : Int))
      have e1 : (byteCells (lay4 n k)).set k (.int .u8 (((b4 n).getD k 0).toNat : Int)) = byteCells (lay4 n (k + 1)) := by
        rw [← lay4_step n k hlt]; unfold byteCells; rw [List.map_set]
      rw [e1] at hput
      have HP := Lib.hid hput
      have HB := Lib.hid (byte_at n k hlt)
      have hzf := hz.far (p := ⟨w.heap.size + 1, k, none⟩) (by simp) (.int .u8 (((b4 n).getD k 0).toNat : Int))
      clear hput e1
      go_wp2
      go_roundw
      case rel => exact ⟨⟨k + 1, by omega, by go_num, by rw [HB.out]; exact HP.out, by rw [HB.out]; exact hzf, hb.setCell (by simp) _⟩, trivial⟩
      case measure => simp [RowKit.intOf]; omega
    · have hk4 : k = 4 := by omega
      rw [hk4] at hrow
      have hf4 := hrow.free 4
      obtain ⟨u, hu⟩ : ∃ u, wr.cell? ⟨w.heap.size + 1, 4, none⟩ = some u := ⟨_, (hrow.cell 4).trans (List.getElem?_eq_getElem (by rw [byteCells_length, lay4_length n 4 (by omega)]; omega))⟩
      have h5 : Has (wr.setCell ⟨w.heap.size + 1, 4, none⟩ (.int .u8 (t.length : Int))) (w.heap.size + 1) 116 (byteCells ((lay4 n 4).set 4 (UInt8.ofNat t.length))) := by
        have := hrow.put 4 (.int .u8 (t.length : Int))
        rw [show (byteCells (lay4 n 4)).set 4 (.int .u8 (t.length : Int)) = byteCells ((lay4 n 4).set 4 (UInt8.ofNat t.length)) by
          unfold byteCells; rw [List.map_set, UInt8.toNat_ofNat', Nat.mod_eq_of_lt (by omega)]] at this
        exact this
      have hz5 := hz.far (p := ⟨w.heap.size + 1, 4, none⟩) (by simp) (.int .u8 (t.length : Int))
      have hb5 := hb.setCell (p := ⟨w.heap.size + 1, 4, none⟩) (by simp) (.int .u8 (t.length : Int))
      clear hrow hz hb hk4
      have hL : ((lay4 n 4).set 4 (UInt8.ofNat t.length)).length = 64 := by rw [List.length_set, lay4_length n 4 (by omega)]
      have HH := Lib.hid (half_laid n t (by omega))
      have HHL := Lib.hid (half_length n t (by omega))
      have hZL : Z.length = 64 := by rw [HZ.out]; rfl
      go_wp2_with (first
        | (refine wpList_copy_text rfl (.tmp 23) (.tmp 24) _ _ rfl 5 Try.underlying23 (by kernel_rfl) (w.heap.size + 1) 5 59 59 t rfl rfl 116 _ (Row.of_has h5) (by omega) (by rw [byteCells_length, hL]; omega) ?_
           intro w3 hw3 hf3
           have hw3' : Row w3 (w.heap.size + 1) 116 (byteCells (half n t)) := by
             rw [← HH.out]; unfold byteCells; rw [map_splice]; exact hw3
           have hld := hw3'.range 0 _ (fun j hj => by rw [Nat.zero_add])
           have hz3 := Row.kept (Row.of_has hz5) hf3 (by simp)
           have hb3 := hb5.trans (hf3.below (B := w.heap.size) (by simp) (by have := hb5.size; omega)))
        | (refine wpList_load_mid rfl _ (.tmp 5) rfl (w.heap.size + 1) 0 rfl (byteCells (half n t)) _ hld Try.underlying116 rfl (by rw [byteCells_length, HHL.out]; kernel_rfl) ?_)
        | (refine wpList_store_all rfl _ (.tmp 4) (.tmp 26) rfl w.heap.size (byteCells (half n t)) rfl rfl 116 Z hz3 (by rw [byteCells_length, HHL.out, hZL]) (by rw [byteCells_length, HHL.out]; kernel_rfl) (byteCells_one _) ?_
           intro w4 hw4 hf4
           have hb4 := hb3.trans (hf4.below (B := w.heap.size) (by simp) (by have := hb3.size; omega))))
      refine bodyPost_ret (results_cell rfl _ _ w.heap.size 0 (byteCells (half n t)) _ rfl (hw4.range 0 _ (fun j hj => by rw [Nat.zero_add])) Try.underlying116 rfl (by rw [byteCells_length, HHL.out]; kernel_rfl)) rfl ?_
      exact ⟨rfl, hb4⟩
/-- Two halves, compared whole. -/
theorem eq_half (xs ys : List UInt8) (hx : xs.length = 64) (hy : ys.length = 64) (w : World) : (binOp .eql 116 (.agg (byteCells xs).toArray) (.agg (byteCells ys).toArray)).run Try.prog w = .ok (.bool (xs == ys)) w :=
  run_eql_bytes w 116 5 64 Try.underlying116 Try.underlying5 (fun _ => by kernel_rfl) xs ys hx hy
theorem held_start {w : World} {g : Nat} {t : TypeId} {cs : List Value} {w1 : World} (h : Has w1 g t cs) (hb : Below w.heap.size w w1) : w1.rangeAt g 0 cs ∧ Has w1 g t cs ∧ Below w.heap.size w w1 :=
  ⟨(Row.of_has h).range 0 _ (fun j hj => by rw [Nat.zero_add]), h, hb⟩
theorem held_drew {w : World} {g : Nat} {t : TypeId} {cs : List Value} {w1 : World} (h : w1.rangeAt g 0 cs ∧ Has w1 g t cs ∧ Below w.heap.size w w1) : w1.drew.rangeAt g 0 cs ∧ Has w1.drew g t cs ∧ Below w.heap.size w w1.drew := held_start h.2.1.draw (h.2.2.trans ⟨rfl, rfl, rfl, Nat.le_refl _, fun _ _ => rfl⟩)
theorem held_next {w : World} {g : Nat} {t : TypeId} {cs : List Value} {w1 w2 : World} (h : w1.rangeAt g 0 cs ∧ Has w1 g t cs ∧ Below w.heap.size w w1) (hb : Below w1.heap.size w1 w2) : w2.rangeAt g 0 cs ∧ Has w2 g t cs ∧ Below w.heap.size w w2 :=
  held_start (h.2.1.under hb h.2.1.lt) (h.2.2.trans (hb.mono h.2.2.size))
set_option maxRecDepth 100000 in
set_option maxHeartbeats 2000000 in
theorem isCopy_walk (h : List UInt8) (hh : h.length = 64) (w : World) : Calls Try.prog 99 #[.agg (byteCells h).toArray] w fun e w' => e = .returned (.bool (isCopy h)) ∧ Below w.heap.size w w' := by
  have hrow : Has (w.alloc (.cells (byteCells h).toArray 116)) w.heap.size 116 (byteCells h) := heap_alloc_new _ _
  have hst := held_start hrow ((Below.refl _ _).alloc (Nat.le_refl _) (.cells (byteCells h).toArray 116))
  have heq := eq_half h (half (num h) (txt h)) hh (half_length _ _ (Nat.le_trans (txt_le h) (by omega)))
  have hu := Try.underlying116
  have hi : (Try.prog.info? 116).map (·.size) = some (byteCells h).length := by rw [byteCells_length, hh]; kernel_rfl
  have H1 := Lib.hid (fun w => seq_walk h hh w)
  have H2 := Lib.hid (fun w => text_walk h hh w)
  have H3 := Lib.hid (fun w => new_half (num h) (txt h) (txt_le h) w)
  have HC := Lib.hid (show isCopy h = (h == half (num h) (txt h)) from rfl)
  generalize num h = n at *
  generalize txt h = l at *
  generalize byteCells (half n l) = cs2 at *
  generalize byteCells h = cs at *
  clear hrow
  go_enter Try.func99, Try.ntmps99
  go_wp2_with fail
  refine wp_region_held_drew (S := fun w' => w'.rangeAt w.heap.size 0 cs ∧ Has w' w.heap.size 116 cs ∧ Below w.heap.size w w') (by kernel_rfl) (held_drew hst) (fun hS => ?_)
  refine wpAnyH_take (i := 0) (v := .agg cs.toArray) (lit rfl) (by kernel_rfl) (by kernel_rfl) (by kernel_rfl) (fun _ _ _ h => h) (yieldsIf_load_mid (by rfl) _ _ rfl w.heap.size 0 rfl cs _ (fun w h => h.1) hu rfl hi) hS ?_
  simp only [Act.put, List.setIfInBounds_toArray, List.set_cons_zero, List.set_cons_succ]
  refine wpAnyH_take (i := 1) (v := .agg cs.toArray) (lit rfl) (by kernel_rfl) (by kernel_rfl) (by kernel_rfl) (fun _ _ _ h => h) (yieldsIf_load_mid (by rfl) _ _ rfl w.heap.size 0 rfl cs _ (fun w h => h.1) hu rfl hi) hS ?_
  simp only [Act.put, List.setIfInBounds_toArray, List.set_cons_zero, List.set_cons_succ]
  refine wpAnyH_take (i := 3) (v := .agg cs.toArray) (lit rfl) (by kernel_rfl) (by kernel_rfl) (by kernel_rfl) (fun _ _ _ h => h) (yieldsIf_load_mid (by rfl) _ _ rfl w.heap.size 0 rfl cs _ (fun w h => h.1) hu rfl hi) hS ?_
  simp only [Act.put, List.setIfInBounds_toArray, List.set_cons_zero, List.set_cons_succ]
  refine wpAnyH_ready (rs := [2]) (by kernel_rfl) (by simp) (AllReadyH.cons (lit rfl) (fun K hK => ?_) AllReadyH.nil)
  go_simp
  go_wp2_with (go_at_call 100; refine (H1.out _).mono ?_; rintro e w1 ⟨rfl, hb1⟩)
  have w1S := held_next hS hb1
  refine hK.out _ _ w1S (fun _ => ?_)
  clear hK K
  refine wpAnyH_ready (rs := [4]) (by kernel_rfl) (by simp) (AllReadyH.cons (lit rfl) (fun K hK => ?_) AllReadyH.nil)
  go_simp
  go_wp2_with (go_at_call 126; refine (H2.out _).mono ?_; rintro e w2 ⟨rfl, hb2⟩)
  have w2S := held_next w1S hb2
  refine hK.out _ _ w2S (fun _ => ?_)
  clear hK K
  refine wpAnyH_ready (rs := [5]) (by kernel_rfl) (by simp) (AllReadyH.cons (lit rfl) (fun K hK => ?_) AllReadyH.nil)
  go_simp
  go_wp2_with (go_at_call 112; refine (H3.out _).mono ?_; rintro e w3 ⟨rfl, hb3⟩)
  have w3S := held_next w2S hb3
  refine hK.out _ _ w3S (fun _ => ?_)
  clear hK K
  refine wpAnyH_ready (rs := [6]) (by kernel_rfl) (by simp) (AllReadyH.cons (lit rfl) (fun K hK => ?_) AllReadyH.nil)
  go_simp
  refine hK.out _ _ w3S (fun _ => ?_)
  clear hK K
  refine wpAnyH_ready (rs := [7]) (by kernel_rfl) (by simp) (AllReadyH.cons (lit rfl) (fun K hK => ?_) AllReadyH.nil)
  go_simp
  refine hK.out _ _ w3S (fun _ => ?_)
  clear hK K
  refine wpAnyH_done (by kernel_rfl) ?_ _
  go_wp2
  go_ret
  exact ⟨by rw [HC.out]; rfl, w3S.2.2⟩
end TH
end Go.Proofs.Ytkhdidhpcdlmcaa
