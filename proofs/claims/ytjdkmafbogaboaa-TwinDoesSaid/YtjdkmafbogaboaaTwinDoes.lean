/- TwinDoes: whatever is done to a twin, the document's does the same. -/
import Derived.Test.YtjdkmafbogaboaaRefTwinDo
import Derived.Test.YtjdkmafbogaboaaTwinArgs
import Derived.Test.YtjdkmafbogaboaaBlocks
import Derived.Deep.DeepCutAuto
import Derived.Deep.CutBlock
import Derived.Deep.CutRange
namespace Go.Proofs.Ytjdkmafbogaboaa
open Go.ChangeShapes Go.WideShapes Go.ChangeAt Go.RowKit Go.Lib MM MB MS MF DM DK DN TM FL TH DW DF DU MY DP RM RD RW RI TD TN TS TO TT TU TP TL RT RU DE TA BL LK
namespace TwinDoes
/-! ### How many writes are not flushed -/
theorem flushS_un (S : St) : (flushS S).un.length ≤ S.un.length := by
  unfold flushS
  split
  · split
    · exact Nat.zero_le _
    · rw [opS_un]; exact Nat.le_refl _
  · exact Nat.le_refl _
theorem mendS_un (S : St) (a : Int) : (mendS S a).un.length ≤ S.un.length + 2 := by
  have h := mendTo_un S a 2
  have h2 := flushS_un (mendTo S a 2).S
  unfold mendS
  simp only
  split
  · exact h
  · split
    · omega
    · exact h
theorem openS_un (S : St) (a : Int) : (openS S a).un.length ≤ S.un.length + 2 := by
  unfold openS
  split
  · omega
  · exact mendS_un S a
theorem fmtS_un (S : St) (a : Int) : (fmtS S a).un.length ≤ S.un.length + 2 := by
  have h1 := writeS_un S a (two zeros64)
  have h2 := writeS_un (fmt1 S a) (a + 1) (two (half 1 []))
  have h3 := flushS_un (fmt2 S a)
  have e1 : (fmt1 S a).un.length = (writeS S a (two zeros64)).un.length := rfl
  have e2 : (fmt2 S a).un.length = (writeS (fmt1 S a) (a + 1) (two (half 1 []))).un.length := rfl
  unfold fmtS
  split
  · omega
  · split
    · omega
    · split <;> omega
theorem setS_un (S : St) (a : Int) (H : List UInt8) (lost : Bool) (t : List UInt8) : (setS S a H lost t).un.length ≤ S.un.length + 1 := by
  have h1 := writeS_un S (place a (num (nextH H t))) (two (nextH H t))
  have h2 := flushS_un (writeS S (place a (num (nextH H t))) (two (nextH H t)))
  unfold setS
  split
  · omega
  · unfold stS
    split <;> omega
theorem wakeS_un (S : St) (cs : List UInt8) : (wakeS S cs).un.length ≤ S.un.length := by
  unfold wakeS
  split
  · omega
  · exact Nat.zero_le _
theorem open_in {S : St} {a : Int} (h : openE S a = 0) (hS : S.Ok) : 0 ≤ a ∧ a ≤ 4096 := by
  have hr : refE S a = 0 := Classical.byContradiction fun q => by have := (opened_ref q).1; omega
  have := hS.2.2.1
  rcases refE_eq S a with q | q <;> omega
/-! ### Two disks, and two twins, or none -/
def Bo (W : World) (g r : Nat) (a : Int) (Qs : List (World → List Nat → Prop)) (S T : St) (t u : Value) (w : World) : Prop :=
  (t = .pointer none ∧ u = .pointer none ∧ All W w ([Di W.heap.size g S, Rf W.heap.size r T] ++ Qs)) ∨
  (∃ gt gu H lost, t = .pointer (some ⟨gt, 0, none⟩) ∧ u = .pointer (some ⟨gu, 0, none⟩) ∧ (0 ≤ a ∧ a ≤ 4096) ∧ All W w ([Ti W.heap.size gt g a H lost, Di W.heap.size g S, Ru W.heap.size gu r a H lost, Rf W.heap.size r T] ++ Qs))
section
variable {W w w' : World} {g r : Nat} {a : Int} {Qs : List (World → List Nat → Prop)} {S T : St} {t u : Value}
theorem bo_under (h : Bo W g r a Qs S T t u w) : Below W.heap.size W w := by
  rcases h with ⟨_, _, h⟩ | ⟨_, _, _, _, _, _, _, h⟩ <;> exact h.under
theorem bo_below (h : Bo W g r a Qs S T t u w) (b : Below w.heap.size w w') : Bo W g r a Qs S T t u w' := by
  rcases h with ⟨e1, e2, h⟩ | ⟨gt, gu, H, lost, e1, e2, ha, h⟩
  · exact .inl ⟨e1, e2, h.below b⟩
  · exact .inr ⟨gt, gu, H, lost, e1, e2, ha, h.below b⟩
theorem bo_disk (h : Bo W g r a Qs S T t u w) : ∃ Ps, All W w (Di W.heap.size g S :: Ps) ∧ ∀ w' S', All W w' (Di W.heap.size g S' :: Ps) → Bo W g r a Qs S' T t u w' := by
  rcases h with ⟨e1, e2, h⟩ | ⟨gt, gu, H, lost, e1, e2, ha, h⟩
  · exact ⟨_, h, fun w' S' q => .inl ⟨e1, e2, q⟩⟩
  · exact ⟨_, All.swap h, fun w' S' q => .inr ⟨gt, gu, H, lost, e1, e2, ha, All.swap q⟩⟩
theorem bo_ref (h : Bo W g r a Qs S T t u w) : ∃ Ps, All W w (Rf W.heap.size r T :: Ps) ∧ ∀ w' T', All W w' (Rf W.heap.size r T' :: Ps) → Bo W g r a Qs S T' t u w' := by
  rcases h with ⟨e1, e2, h⟩ | ⟨gt, gu, H, lost, e1, e2, ha, h⟩
  · exact ⟨_, All.swap h, fun w' T' q => .inl ⟨e1, e2, All.swap q⟩⟩
  · exact ⟨_, all_fourth h, fun w' T' q => .inr ⟨gt, gu, H, lost, e1, e2, ha, all_fourth_back q⟩⟩
theorem bo_less (h : Bo W g r a Qs S T t u w) : All W w ([Di W.heap.size g S, Rf W.heap.size r T] ++ Qs) := by
  rcases h with ⟨e1, e2, h⟩ | ⟨gt, gu, H, lost, e1, e2, ha, h⟩
  · exact h
  · exact (All.swap (All.tail h)).tail
/-- Both are opened. -/
theorem bo_opened (h : All W w ([Di W.heap.size g S, Rf W.heap.size r S] ++ Qs)) (hlen : S.un.length < 999999990) (a : Int) : Calls Try.prog 11 #[.pointer (some ⟨g, 0, none⟩), .int .i64 a] w fun e w1 => ∃ v, e = .returned (.tuple #[v, .int .i64 (openE S a)]) ∧
    Calls Try.prog 12 #[.pointer (some ⟨r, 0, none⟩), .int .i64 a] w1 fun e w2 => ∃ v2, e = .returned (.tuple #[v2, .int .i64 (openE S a)]) ∧ Bo W g r a Qs (openS S a) (openS S a) v v2 w2 := by
  have hok := di_ok h
  refine (ti_open h a hlen).mono ?_
  rintro e w1 ⟨v, rfl, q⟩
  refine ⟨v, rfl, ?_⟩
  rcases q with ⟨h1, rfl, hA⟩ | ⟨h1, gt, rfl, hA⟩
  · refine (ru_open (All.swap hA) a hlen).mono ?_
    rintro e w2 ⟨v2, rfl, q2⟩
    refine ⟨v2, rfl, ?_⟩
    rcases q2 with ⟨h2, rfl, hB⟩ | ⟨h2, _⟩
    · exact .inl ⟨rfl, rfl, All.swap hB⟩
    · exact absurd h2 h1
  · refine (ru_open (all_third hA) a hlen).mono ?_
    rintro e w2 ⟨v2, rfl, q2⟩
    refine ⟨v2, rfl, ?_⟩
    rcases q2 with ⟨h2, _⟩ | ⟨_, gu, rfl, hB⟩
    · exact absurd h1 h2
    · refine .inr ⟨gt, gu, best (openS S a) a, false, rfl, rfl, open_in h1 hok, ?_⟩
      exact hB.perm ((List.perm_append_comm (l₁ := [Ru W.heap.size gu r a (best (openS S a) a) false, Rf W.heap.size r (openS S a)]) (l₂ := [Ti W.heap.size gt g a (best (openS S a) a) false, Di W.heap.size g (openS S a)])).append_right Qs)
end
/-! ### The statement's sectors -/
def secB (n : Int) : List UInt8 := (List.range 128).map fun i => if i < 64 ∨ n.tmod 2 = 0 then UInt8.ofNat (n % 256).toNat else 0
def secTo (n : Int) (k : Nat) : List UInt8 := (secB n).take k ++ List.replicate (128 - k) 0
theorem secB_length (n : Int) : (secB n).length = 128 := by simp [secB]
theorem secTo_length (n : Int) (k : Nat) (h : k ≤ 128) : (secTo n k).length = 128 := by
  unfold secTo
  rw [List.length_append, List.length_take, List.length_replicate, secB_length]; omega
theorem secTo_end (n : Int) : secTo n 128 = secB n := by
  unfold secTo
  rw [List.take_of_length_le (by rw [secB_length]; omega)]; simp
theorem secTo_zero (n : Int) : secTo n 0 = ZE.zs 128 := rfl
theorem secTo_next (n : Int) (k : Nat) (h : k < 128) (c : UInt8) (hc : (secB n)[k]? = some c) : (secTo n k).set k c = secTo n (k + 1) := by
  have hl : ((secB n).take k).length = k := by rw [List.length_take, secB_length]; omega
  have hk : (secB n)[k]'(by rw [secB_length]; exact h) = c := by rw [List.getElem?_eq_getElem (by rw [secB_length]; exact h)] at hc; injection hc
  unfold secTo
  rw [List.set_append_right _ _ (by omega), hl, Nat.sub_self, show 128 - k = (128 - (k + 1)) + 1 by omega, List.replicate_succ, List.set_cons_zero, List.take_succ_eq_append_getElem (by rw [secB_length]; exact h), hk, List.append_assoc]
  rfl
theorem secTo_yes (n : Int) (k : Nat) (hk : k < 128) (h : k < 64 ∨ n.tmod 2 = 0) : (secTo n k).set k (UInt8.ofNat (n % 256).toNat) = secTo n (k + 1) :=
  secTo_next n k hk _ (by unfold secB; simp [hk]; intro q q2; rcases h with h | h; omega; exact absurd h q2)
theorem secTo_no (n : Int) (k : Nat) (hk : k < 128) (h : ¬ (k < 64 ∨ n.tmod 2 = 0)) : secTo n (k + 1) = secTo n k := by
  have h0 : (secB n)[k]? = some 0 := by unfold secB; simp [hk]; intro q; exact absurd q h
  rw [← secTo_next n k hk 0 h0]
  have hl : ((secB n).take k).length = k := by rw [List.length_take, secB_length]; omega
  unfold secTo
  rw [List.set_append_right _ _ (by omega), hl, Nat.sub_self, show 128 - k = (128 - (k + 1)) + 1 by omega, List.replicate_succ, List.set_cons_zero]
def RelS (w : World) (g : Nat) (n : Int) (i : Value) (wr : World) : Prop := ∃ k : Nat, k ≤ 128 ∧ i = .int .i64 k ∧ Has wr g 5 (byteCells (secTo n k)) ∧ Below w.heap.size w wr
set_option maxRecDepth 100000 in
set_option maxHeartbeats 1000000 in
theorem sector_walk (n : Int) (w : World) : Calls Try.prog 20 #[.int .i64 n] w fun e w' => e = .returned (.string ⟨(secB n).toArray⟩) ∧ Below w.heap.size w w' := by
  have hmk : ∀ W : World, (Instr.makeSlice 36 (.int .i64 128) (.int .i64 128)).run Try.prog W = .ok (.slice (some ⟨W.heap.size, 0, none⟩) 128 128) (W.alloc (.cells (byteCells (ZE.zs 128)).toArray 5)) := fun W => ZE.make_zeros 128 (by omega) W
  have hz : byteCells (ZE.zs 128) = byteCells (secTo n 0) := rfl
  obtain ⟨ZC, hZ⟩ : ∃ ZC, ZC = byteCells (ZE.zs 128) := ⟨_, rfl⟩
  rw [← hZ] at hmk hz
  have HZ := Lib.hid hz
  clear hZ hz
  have hby : ((UInt8.ofNat (n % 256).toNat).toNat : Int) = n % 256 := by rw [UInt8.toNat_ofNat']; omega
  go_enter Try.func20, Try.ntmps20
  go_wp2
  go_loopw [4] (fun i wr => RelS w w.heap.size n i wr) (fun i _ => 128 - (RowKit.intOf i).toNat)
  case atStart => exact ⟨0, by omega, rfl, by rw [← HZ.out]; exact heap_alloc_new _ _, (Below.refl _ _).alloc (Nat.le_refl _) _⟩
  case round =>
    obtain ⟨k, hk, rfl, hrow, hb⟩ := hrel
    by_cases hlt : k < 128
    · have hcl : (byteCells (secTo n k)).length = 128 := by rw [byteCells_length, secTo_length n k hk]
      obtain ⟨u, hu⟩ : ∃ u, wr.cell? ⟨w.heap.size, k, none⟩ = some u := ⟨_, (hrow.cell k).trans (List.getElem?_eq_getElem (by omega))⟩
      have hfz := hrow.free k
      by_cases hc : k < 64 ∨ n.tmod 2 = 0
      · have hput := hrow.put k (.int .u8 ((UInt8.ofNat (n % 256).toNat).toNat : Int))
        have e1 : (byteCells (secTo n k)).set k (.int .u8 ((UInt8.ofNat (n % 256).toNat).toNat : Int)) = byteCells (secTo n (k + 1)) := by
          rw [← secTo_yes n k hlt hc]; unfold byteCells; rw [List.map_set]
        rw [e1, hby] at hput
        have HP := Lib.hid hput
        clear hput e1 hcl hby
        have HR := Lib.hid hrow
        clear hrow
        by_cases h64 : k < 64
        · clear hc
          go_wp2
          go_roundw
          case rel => exact ⟨k + 1, by omega, by go_num, HP.out, hb.setCell (Nat.le_refl _) _⟩
          case measure => simp [RowKit.intOf]; omega
        · have hev : (n.tmod 2 == 0) = true := by rw [beq_iff_eq]; exact hc.resolve_left h64
          clear hc
          go_wp2
          go_roundw
          case rel => exact ⟨k + 1, by omega, by go_num, HP.out, hb.setCell (Nat.le_refl _) _⟩
          case measure => simp [RowKit.intOf]; omega
      · have hev : (n.tmod 2 == 0) = false := by rw [beq_eq_false_iff_ne]; exact fun q => hc (.inr q)
        have h64 : ¬ k < 64 := fun q => hc (.inl q)
        have HE := Lib.hid (secTo_no n k hlt hc)
        have HR := Lib.hid hrow
        clear hc hrow hby
        go_wp2
        go_roundw
        case rel => exact ⟨k + 1, by omega, by go_num, by rw [HE.out]; exact HR.out, hb⟩
        case measure => simp [RowKit.intOf]; omega
    · have hk128 : k = 128 := by omega
      subst hk128
      rw [secTo_end] at hrow
      have hr := Row.of_has hrow
      have hl := secB_length n
      have hs := string_of_range (l := secB n) (hr.range 0 (byteCells (secB n)) (fun j hj => by rw [Nat.zero_add])) 128
      rw [hl] at hs
      go_wp2
      go_ret
      exact ⟨rfl, hb⟩
theorem bo_nil {W w : World} {g r : Nat} {a : Int} {Qs : List (World → List Nat → Prop)} {S T : St} {t u : Value} (h : Bo W g r a Qs S T t u w) : ∃ b, (∀ w : World, (binOp .eql 30 t (.pointer none)).run Try.prog w = .ok (.bool b) w) ∧ (∀ w : World, (binOp .eql 33 u (.pointer none)).run Try.prog w = .ok (.bool b) w) ∧
    (∀ (x y : Operand) (w : World), (eqGuard .eql 30 x y t (.pointer none)).run Try.prog w = .ok () w) ∧ (∀ (x y : Operand) (w : World), (eqGuard .eql 33 x y u (.pointer none)).run Try.prog w = .ok () w) := by
  rcases h with ⟨rfl, rfl, _⟩ | ⟨_, _, _, _, rfl, rfl, _⟩
  · exact ⟨true, fun w => by go_simp, fun w => by go_simp, fun x y w => by go_simp, fun x y w => by go_simp⟩
  · exact ⟨false, fun w => by go_simp, fun w => by go_simp, fun x y w => by go_simp, fun x y w => by go_simp⟩
theorem src_slice {w : World} {v : Value} {l : List UInt8} (h : Src w v l) : ∃ A n c, v = .slice A n c := by
  rcases h with ⟨rfl, q⟩ | ⟨_, b, off, cap, rfl, _⟩
  · obtain ⟨p, cap, rfl⟩ := q; exact ⟨_, _, _, rfl⟩
  · exact ⟨_, _, _, rfl⟩
section
variable {W w w' : World} {g r bx : Nat} {a : Int} {Qs : List (World → List Nat → Prop)} {S T : St} {t u : Value} {what n : Int} {text : List UInt8} {v : Value} {P Q R X Z : World → List Nat → Prop}
theorem bo_add (h : Bo W g r a [] S T t u w) (ty : TypeId) (cs : List Value) : Bo W g r a [Bl W.heap.size w.heap.size ty cs] S T t u (w.alloc (.cells cs.toArray ty)) := by
  rcases h with ⟨e1, e2, h⟩ | ⟨gt, gu, H, lost, e1, e2, ha, h⟩
  · exact .inl ⟨e1, e2, (bl_new h ty cs).perm (List.perm_append_comm (l₁ := [Bl W.heap.size w.heap.size ty cs]) (l₂ := [Di W.heap.size g S, Rf W.heap.size r T]))⟩
  · exact .inr ⟨gt, gu, H, lost, e1, e2, ha, (bl_new h ty cs).perm (List.perm_append_comm (l₁ := [Bl W.heap.size w.heap.size ty cs]) (l₂ := [Ti W.heap.size gt g a H lost, Di W.heap.size g S, Ru W.heap.size gu r a H lost, Rf W.heap.size r T]))⟩
theorem bo_drop (h : Bo W g r a [Q] S T t u w) : Bo W g r a [] S T t u w := by
  rcases h with ⟨e1, e2, h⟩ | ⟨gt, gu, H, lost, e1, e2, ha, h⟩
  · exact .inl ⟨e1, e2, (h.perm (List.perm_append_comm (l₁ := [Di W.heap.size g S, Rf W.heap.size r T]) (l₂ := [Q]))).tail⟩
  · exact .inr ⟨gt, gu, H, lost, e1, e2, ha, (h.perm (List.perm_append_comm (l₁ := [Ti W.heap.size gt g a H lost, Di W.heap.size g S, Ru W.heap.size gu r a H lost, Rf W.heap.size r T]) (l₂ := [Q]))).tail⟩
theorem bo_drew (h : Bo W g r a Qs S T t u w) : Bo W g r a Qs S T t u w.drew := bo_below h ⟨rfl, rfl, rfl, Nat.le_refl _, fun _ _ => rfl⟩
theorem bo_x {ty : TypeId} {cs : List Value} (h : Bo W g r a [Bl W.heap.size bx ty cs] S T t u w) : Has w bx ty cs := by
  rcases h with ⟨e1, e2, h⟩ | ⟨gt, gu, H, lost, e1, e2, ha, h⟩
  · exact all_has h (by simp)
  · exact all_has h (by simp)
theorem bo_x1 {ty : TypeId} (h : Bo W g r a [Bl W.heap.size bx ty [.int .i64 what, .int .i64 n, .string ⟨text.toArray⟩, v]] S T t u w) : w.cell? ⟨bx, 1, none⟩ = some (.int .i64 n) := (bo_x h).cell 1
theorem bo_x2 {ty : TypeId} (h : Bo W g r a [Bl W.heap.size bx ty [.int .i64 what, .int .i64 n, .string ⟨text.toArray⟩, v]] S T t u w) : w.cell? ⟨bx, 2, none⟩ = some (.string ⟨text.toArray⟩) := (bo_x h).cell 2
theorem bo_x3 {ty : TypeId} (h : Bo W g r a [Bl W.heap.size bx ty [.int .i64 what, .int .i64 n, .string ⟨text.toArray⟩, v]] S T t u w) : w.cell? ⟨bx, 3, none⟩ = some v := (bo_x h).cell 3
theorem ru_in {gu : Nat} {H : List UInt8} {lost : Bool} {Ps : List (World → List Nat → Prop)} (h : All W w Ps) (hm : Ru W.heap.size gu r a H lost ∈ Ps) : Has w gu 47 (rtc r a H lost) := by obtain ⟨f, hh⟩ := all_get h hm; exact hh.1
theorem all_last2 (h : All W w ([P, Q, R, X, Z])) : All W w (R :: X :: [P, Q, Z]) :=
  h.perm ((List.perm_append_comm (l₁ := [P, Q]) (l₂ := [R, X])).append_right [Z])
theorem all_first2 (h : All W w (R :: X :: [P, Q, Z])) : All W w ([P, Q, R, X] ++ [Z]) :=
  h.perm ((List.perm_append_comm (l₁ := [R, X]) (l₂ := [P, Q])).append_right [Z])
end
theorem all_two_swap {W w : World} {P Q : World → List Nat → Prop} {Qs : List (World → List Nat → Prop)} (h : All W w (P :: Q :: Qs)) : All W w ([Q, P] ++ Qs) := All.swap h
def RelD (W : World) (g r : Nat) (a : Int) (n : Nat) (t u i : Value) (wr : World) : Prop := ∃ (k : Nat) (S : St), k ≤ n ∧ k ≤ 40 ∧ i = .int .i64 k ∧ S.un.length ≤ 10 * k + 30 ∧ Bo W g r a [] S S t u wr
set_option maxRecDepth 100000 in
set_option maxHeartbeats 4000000 in
theorem walk (W : World) (v : Value) (l : List Ac) (hL : Lst W 4 QA v l) (a : Int) : Calls Try.prog 3 #[v, .int .i64 a] W fun e w' => e = .returned (.bool true) ∧ Below W.heap.size W w' := by
  obtain ⟨A, cap, rfl, hll⟩ := hL.form
  have u0 := fmtS_un (fresh 5) a
  have u1 := openS_un (fmtS (fresh 5) a) a
  have u2 : (fresh 5).un.length = 0 := rfl
  go_enter Try.func3, Try.ntmps3
  go_wp2_with fail
  refine (di_new (All.start W) 5 5 rfl (by omega) (by omega)).mono ?_
  rintro e w1 ⟨g, rfl, a1⟩
  go_wp2_with fail
  refine (ri_new a1 5 5 rfl (by omega) (by omega)).mono ?_
  rintro e w2 ⟨r, rfl, a2⟩
  go_wp2_with fail
  refine (ti_format (All.swap a2) a (by omega)).mono ?_
  rintro e w3 ⟨rfl, a3⟩
  go_wp2_with fail
  refine (ru_format (All.swap a3) a (by omega)).mono ?_
  rintro e w4 ⟨rfl, a4⟩
  generalize fmtE (fresh 5) a = fe at *
  generalize fmtS (fresh 5) a = S1 at *
  go_wp2_with fail
  refine (bo_opened (Qs := []) (All.swap a4) (by omega) a).mono ?_
  rintro e w5 ⟨v1, rfl, k5⟩
  go_wp2_with fail
  refine k5.mono ?_
  rintro e w6 ⟨v2, rfl, hB⟩
  clear k5 a4 a3 a2 a1
  have hS2 : (openS S1 a).un.length ≤ 30 := by omega
  generalize openE S1 a = oe at *
  generalize openS S1 a = S2 at *
  obtain ⟨b0, hb1, hb2, hg1, hg2⟩ := bo_nil hB
  have HB := Lib.hid hB
  clear hB
  go_wp2
  go_loopw [7, 8, 9, 10, 11, 12, 13, 14, 15, 16, 17] (fun t _ u _ i _ _ _ _ _ _ wr => RelD W g r a l.length t u i wr) (fun _ _ _ _ i _ _ _ _ _ _ _ => 40 - (RowKit.intOf i).toNat)
  case atStart => exact ⟨0, S2, by omega, by omega, rfl, by omega, HB.out⟩
  case round =>
    obtain ⟨k, S, hk, hk40, rfl, hun, hB⟩ := hrel
    clear hb1 hb2 hg1 hg2 HB
    rcases Nat.lt_or_ge k l.length with hk1 | hk1
    · rcases Nat.lt_or_ge k 40 with hk2 | hk2
      · obtain ⟨b, off, cap', cs, e, hcl, ⟨hwh, hn, htl, vf, rfl, hsf⟩, hcell⟩ := hL.get k hk1
        injection e with e1 e2 e3
        subst e1 e3
        have q0 := hcell 0 (by omega)
        have q1 := hcell 1 (by omega)
        have q2 := hcell 2 (by omega)
        have q3 := hcell 3 (by omega)
        have hlt0 : b < W.heap.size := cell_lt q0
        simp only [List.getElem?_cons_zero, List.getElem?_cons_succ, Nat.add_zero] at q0 q1 q2 q3
        generalize (l[k]).what = what at *
        generalize (l[k]).n = n at *
        generalize (l[k]).text = text at *
        generalize (l[k]).fates = fates at *
        have hu := bo_under hB
        have c0 : wr.cell? ⟨b, off + k * 4, none⟩ = some (.int .i64 what) := (hu.cell (p := ⟨b, off + k * 4, none⟩) hlt0).trans q0
        have c1 : wr.cell? ⟨b, off + k * 4 + 1, none⟩ = some (.int .i64 n) := (hu.cell (p := ⟨b, off + k * 4 + 1, none⟩) hlt0).trans q1
        have c2 : wr.cell? ⟨b, off + k * 4 + 2, none⟩ = some (.string ⟨text.toArray⟩) := (hu.cell (p := ⟨b, off + k * 4 + 2, none⟩) hlt0).trans q2
        have c3 : wr.cell? ⟨b, off + k * 4 + 3, none⟩ = some vf := (hu.cell (p := ⟨b, off + k * 4 + 3, none⟩) hlt0).trans q3
        clear hcell hu q0 q1 q2 q3
        obtain ⟨Av, nv, cv, rfl⟩ := src_slice hsf
        have HBo := Lib.hid hB
        clear hB
        go_upto_block 2 with fail
        have hBx := bo_add HBo.out 38 [.int .i64 what, .int .i64 n, .string ⟨text.toArray⟩, .slice Av nv cv]
        have hwx0 : wr.alloc (.cells ([Value.int .i64 what, .int .i64 n, .string ⟨text.toArray⟩, .slice Av nv cv]).toArray 38) = wr.alloc (.cells #[Value.int .i64 what, .int .i64 n, .string ⟨text.toArray⟩, .slice Av nv cv] 38) := rfl
        rw [hwx0] at hBx
        clear hwx0 c0 c1 c2 c3 HBo hcl hL
        generalize wr.alloc (.cells #[Value.int .i64 what, .int .i64 n, .string ⟨text.toArray⟩, .slice Av nv cv] 38) = wx at *
        generalize wr.heap.size = bx at *
        have HBx := Lib.hid hBx
        clear hBx
        go_cut [7, 8, 9, 10] from 57 to 208 (fun t _ u _ wy => ∃ S', S'.un.length ≤ 10 * k + 38 ∧ Bo W g r a [Bl W.heap.size bx 38 [.int .i64 what, .int .i64 n, .string ⟨text.toArray⟩, .slice Av nv cv]] S' S' t u wy)
        case first =>
          have hNW := Lib.hid hn
          by_cases w2 : what = 2
          · subst w2
            have cx := bo_x1 HBx.out
            go_wp2_with fail
            obtain ⟨Ps, hP, back⟩ := bo_disk HBx.out
            refine (di_arm hP n hNW.out.2).mono ?_
            rintro e y1 ⟨rfl, p1⟩
            have B1 := back _ _ p1
            clear hP back p1
            have cx1 := bo_x1 B1
            go_wp2_with fail
            obtain ⟨Ps, hP, back⟩ := bo_ref B1
            refine (ri_arm hP n hNW.out.2).mono ?_
            rintro e y2 ⟨rfl, p2⟩
            have B2 := Lib.hid (back _ _ p2)
            clear hP back p2 B1
            go_wp2
            go_meet
            exact ⟨_, by show S.un.length ≤ _; omega, B2.out⟩
          have hw2 : (what == 2) = false := by rw [beq_eq_false_iff_ne]; exact w2
          by_cases w3 : what = 3
          · subst w3
            clear w2
            go_wp2_with fail
            obtain ⟨Ps, hP, back⟩ := bo_disk HBx.out
            refine (di_off hP).mono ?_
            rintro e y1 ⟨rfl, p1⟩
            have B1 := back _ _ p1
            clear hP back p1
            go_wp2_with fail
            obtain ⟨Ps, hP, back⟩ := bo_ref B1
            refine (ri_off hP).mono ?_
            rintro e y2 ⟨rfl, p2⟩
            have B2 := Lib.hid (back _ _ p2)
            clear hP back p2 B1
            go_wp2
            go_meet
            exact ⟨_, by show S.un.length ≤ _; omega, B2.out⟩
          have hw3 : (what == 3) = false := by rw [beq_eq_false_iff_ne]; exact w3
          by_cases w4 : what = 4
          · subst w4
            clear w2 w3
            go_wp2_with fail
            obtain ⟨Ps, hP, back⟩ := bo_disk HBx.out
            refine (di_off hP).mono ?_
            rintro e y1 ⟨rfl, p1⟩
            have B1 := back _ _ p1
            clear hP back p1
            go_wp2_with fail
            obtain ⟨Ps, hP, back⟩ := bo_ref B1
            refine (ri_off hP).mono ?_
            rintro e y2 ⟨rfl, p2⟩
            have B2 := back _ _ p2
            clear hP back p2 B1
            have cx2 := bo_x3 B2
            go_wp2_with fail
            obtain ⟨Ps, hP, back⟩ := bo_disk B2
            refine (di_wake_old hP _ fates (src_len hsf) hsf).mono ?_
            rintro e y3 ⟨rfl, p3⟩
            have B3 := back _ _ p3
            clear hP back p3 B2
            have cx3 := bo_x3 B3
            go_wp2_with fail
            obtain ⟨Ps, hP, back⟩ := bo_ref B3
            refine (ri_wake_old hP _ fates (src_len hsf) hsf).mono ?_
            rintro e y4 ⟨rfl, p4⟩
            have B4 := back _ _ p4
            clear hP back p4 B3 cx2 cx3
            have hu4 := wakeS_un { S with on := false, fuse := 0 } fates
            have hu4' : (wakeS { S with on := false, fuse := 0 } fates).un.length ≤ S.un.length := hu4
            clear hu4
            generalize wakeS { S with on := false, fuse := 0 } fates = S4 at *
            have hu5 := openS_un S4 a
            go_wp2_with fail
            refine (bo_opened (bo_less B4) (by omega) a).mono ?_
            rintro e y5 ⟨x1, rfl, k5⟩
            go_wp2_with fail
            refine k5.mono ?_
            rintro e y6 ⟨x2, rfl, B6⟩
            clear k5 B4
            generalize openE S4 a = oe2 at *
            generalize openS S4 a = S6 at *
            obtain ⟨bq, hb1, hb2, hg1, hg2⟩ := bo_nil B6
            have HB6 := Lib.hid B6
            clear B6
            go_wp2
            go_meet
            exact ⟨S6, by omega, HB6.out⟩
          have hw4 : (what == 4) = false := by rw [beq_eq_false_iff_ne]; exact w4
          by_cases w5 : what = 5
          · subst w5
            clear w2 w3 w4
            go_wp2_with fail
            refine wp_region_held_drew (S := fun w' => w'.cell? ⟨bx, 1, none⟩ = some (.int .i64 n)) (by kernel_rfl) (bo_x1 (bo_drew HBx.out)) (fun hS => ?_)
            refine wpAnyH_take (i := 0) (v := (.pointer (some ⟨g, 0, none⟩))) (lit rfl) (by kernel_rfl) (by kernel_rfl) (by kernel_rfl) (fun _ _ _ h => h) (Or.inl ⟨by rfl, fun w _ => by go_simp⟩) hS ?_
            simp only [Act.put, List.setIfInBounds_toArray, List.set_cons_zero, List.set_cons_succ]
            refine wpAnyH_take (i := 1) (v := (.pointer (some ⟨bx, 1, none⟩))) (lit rfl) (by kernel_rfl) (by kernel_rfl) (by kernel_rfl) (fun _ _ _ h => h) (Or.inl ⟨by rfl, fun w _ => by go_simp⟩) hS ?_
            simp only [Act.put, List.setIfInBounds_toArray, List.set_cons_zero, List.set_cons_succ]
            refine wpAnyH_take (i := 2) (v := (.int .i64 n)) (lit rfl) (by kernel_rfl) (by kernel_rfl) (by kernel_rfl) (fun _ _ _ h => h) (Or.inl ⟨by rfl, fun w hw => by have hc := hw; go_simp⟩) hS ?_
            simp only [Act.put, List.setIfInBounds_toArray, List.set_cons_zero, List.set_cons_succ]
            refine wpAnyH_take (i := 3) (v := (.int .i64 (n.tmod 5))) (lit rfl) (by kernel_rfl) (by kernel_rfl) (by kernel_rfl) (fun _ _ _ h => h) (Or.inl ⟨by rfl, fun w _ => by go_simp⟩) hS ?_
            simp only [Act.put, List.setIfInBounds_toArray, List.set_cons_zero, List.set_cons_succ]
            refine wpAnyH_take (i := 4) (v := (.pointer (some ⟨bx, 1, none⟩))) (lit rfl) (by kernel_rfl) (by kernel_rfl) (by kernel_rfl) (fun _ _ _ h => h) (Or.inl ⟨by rfl, fun w _ => by go_simp⟩) hS ?_
            simp only [Act.put, List.setIfInBounds_toArray, List.set_cons_zero, List.set_cons_succ]
            refine wpAnyH_take (i := 5) (v := (.int .i64 n)) (lit rfl) (by kernel_rfl) (by kernel_rfl) (by kernel_rfl) (fun _ _ _ h => h) (Or.inl ⟨by rfl, fun w hw => by have hc := hw; go_simp⟩) hS ?_
            simp only [Act.put, List.setIfInBounds_toArray, List.set_cons_zero, List.set_cons_succ]
            refine wpAnyH_take (i := 8) (v := (.pointer (some ⟨r, 0, none⟩))) (lit rfl) (by kernel_rfl) (by kernel_rfl) (by kernel_rfl) (fun _ _ _ h => h) (Or.inl ⟨by rfl, fun w _ => by go_simp⟩) hS ?_
            simp only [Act.put, List.setIfInBounds_toArray, List.set_cons_zero, List.set_cons_succ]
            refine wpAnyH_take (i := 9) (v := (.pointer (some ⟨bx, 1, none⟩))) (lit rfl) (by kernel_rfl) (by kernel_rfl) (by kernel_rfl) (fun _ _ _ h => h) (Or.inl ⟨by rfl, fun w _ => by go_simp⟩) hS ?_
            simp only [Act.put, List.setIfInBounds_toArray, List.set_cons_zero, List.set_cons_succ]
            refine wpAnyH_take (i := 10) (v := (.int .i64 n)) (lit rfl) (by kernel_rfl) (by kernel_rfl) (by kernel_rfl) (fun _ _ _ h => h) (Or.inl ⟨by rfl, fun w hw => by have hc := hw; go_simp⟩) hS ?_
            simp only [Act.put, List.setIfInBounds_toArray, List.set_cons_zero, List.set_cons_succ]
            refine wpAnyH_take (i := 11) (v := (.int .i64 (n.tmod 5))) (lit rfl) (by kernel_rfl) (by kernel_rfl) (by kernel_rfl) (fun _ _ _ h => h) (Or.inl ⟨by rfl, fun w _ => by go_simp⟩) hS ?_
            simp only [Act.put, List.setIfInBounds_toArray, List.set_cons_zero, List.set_cons_succ]
            refine wpAnyH_take (i := 12) (v := (.pointer (some ⟨bx, 1, none⟩))) (lit rfl) (by kernel_rfl) (by kernel_rfl) (by kernel_rfl) (fun _ _ _ h => h) (Or.inl ⟨by rfl, fun w _ => by go_simp⟩) hS ?_
            simp only [Act.put, List.setIfInBounds_toArray, List.set_cons_zero, List.set_cons_succ]
            refine wpAnyH_take (i := 13) (v := (.int .i64 n)) (lit rfl) (by kernel_rfl) (by kernel_rfl) (by kernel_rfl) (fun _ _ _ h => h) (Or.inl ⟨by rfl, fun w hw => by have hc := hw; go_simp⟩) hS ?_
            simp only [Act.put, List.setIfInBounds_toArray, List.set_cons_zero, List.set_cons_succ]
            refine wpAnyH_ready (rs := [6]) (by kernel_rfl) (by simp) (AllReadyH.cons (lit rfl) (fun K hK => ?_) AllReadyH.nil)
            go_simp
            go_wp2_with (go_at_call 20; refine (TwinDoes.sector_walk n _).mono ?_; rintro e y1 ⟨rfl, d1⟩)
            have B1 := bo_below (bo_drew HBx.out) d1
            refine hK.out _ _ (bo_x1 B1) (fun _ => ?_)
            clear hK K
            obtain ⟨Ps, hP, back⟩ := bo_disk B1
            refine wpAnyH_ready (rs := [7]) (by kernel_rfl) (by simp) (AllReadyH.cons (lit rfl) (fun K hK => ?_) AllReadyH.nil)
            go_simp
            go_wp2_with (go_at_call 19; refine (di_write hP (n.tmod 5) (secB n) (by omega)).mono ?_; rintro e y2 ⟨rfl, p2⟩)
            have B2 := back _ _ p2
            clear hP back p2
            refine hK.out _ _ (bo_x1 B2) (fun _ => ?_)
            clear hK K
            refine wpAnyH_ready (rs := [14]) (by kernel_rfl) (by simp) (AllReadyH.cons (lit rfl) (fun K hK => ?_) AllReadyH.nil)
            go_simp
            go_wp2_with (go_at_call 20; refine (TwinDoes.sector_walk n _).mono ?_; rintro e y3 ⟨rfl, d3⟩)
            have B3 := bo_below B2 d3
            refine hK.out _ _ (bo_x1 B3) (fun _ => ?_)
            clear hK K
            obtain ⟨Ps3, hP3, back3⟩ := bo_ref B3
            refine wpAnyH_ready (rs := [15]) (by kernel_rfl) (by simp) (AllReadyH.cons (lit rfl) (fun K hK => ?_) AllReadyH.nil)
            go_simp
            go_wp2_with (go_at_call 21; refine (ri_write hP3 (n.tmod 5) (secB n) (by omega)).mono ?_; rintro e y4 ⟨rfl, p4⟩)
            have B4 := back3 _ _ p4
            clear hP3 back3 p4
            refine hK.out _ _ (bo_x1 B4) (fun _ => ?_)
            clear hK K
            have hu4 := writeS_un S (n.tmod 5) (secB n)
            generalize writeE S (n.tmod 5) (secB n) = we at *
            generalize writeS S (n.tmod 5) (secB n) = S4 at *
            refine wpAnyH_ready (rs := [16]) (by kernel_rfl) (by simp) (AllReadyH.cons (lit rfl) (fun K hK => ?_) AllReadyH.nil)
            go_simp
            refine hK.out _ _ (bo_x1 B4) (fun _ => ?_)
            clear hK K
            refine wpAnyH_done (by kernel_rfl) ?_ _
            go_wp2
            go_meet
            exact ⟨S4, by omega, B4⟩
          have hw5 : (what == 5) = false := by rw [beq_eq_false_iff_ne]; exact w5
          clear w2 w3 w4 w5
          rcases HBx.out with ⟨e1, e2, hA⟩ | ⟨gt, gu, H, lost, e1, e2, ha, hA⟩
          · subst e1 e2
            clear hA
            go_wp2_with fail
            go_region
            go_wp2
            go_meet
            exact ⟨S, by omega, bo_drew HBx.out⟩
          · subst e1 e2
            go_wp2_with fail
            refine wp_region_held_drew (S := fun w' => w'.cell? ⟨bx, 2, none⟩ = some (.string ⟨text.toArray⟩)) (by kernel_rfl) (bo_x2 (bo_drew HBx.out)) (fun hS => ?_)
            refine wpAnyH_take (i := 0) (v := (.pointer (some ⟨gt, 0, none⟩))) (lit rfl) (by kernel_rfl) (by kernel_rfl) (by kernel_rfl) (fun _ _ _ h => h) (Or.inl ⟨by rfl, fun w _ => by go_simp⟩) hS ?_
            simp only [Act.put, List.setIfInBounds_toArray, List.set_cons_zero, List.set_cons_succ]
            refine wpAnyH_take (i := 1) (v := (.bool true)) (lit rfl) (by kernel_rfl) (by kernel_rfl) (by kernel_rfl) (fun _ _ _ h => h) (Or.inl ⟨by rfl, fun w _ => by go_simp⟩) hS ?_
            simp only [Act.put, List.setIfInBounds_toArray, List.set_cons_zero, List.set_cons_succ]
            refine wpAnyH_take (i := 2) (v := (.bool true)) (lit rfl) (by kernel_rfl) (by kernel_rfl) (by kernel_rfl) (fun _ _ _ h => h) (Or.inl ⟨by rfl, fun w _ => by go_simp⟩) hS ?_
            simp only [Act.put, List.setIfInBounds_toArray, List.set_cons_zero, List.set_cons_succ]
            refine wpAnyH_take (i := 3) (v := (.pointer (some ⟨gu, 0, none⟩))) (lit rfl) (by kernel_rfl) (by kernel_rfl) (by kernel_rfl) (fun _ _ _ h => h) (Or.inl ⟨by rfl, fun w _ => by go_simp⟩) hS ?_
            simp only [Act.put, List.setIfInBounds_toArray, List.set_cons_zero, List.set_cons_succ]
            refine wpAnyH_take (i := 4) (v := (.bool true)) (lit rfl) (by kernel_rfl) (by kernel_rfl) (by kernel_rfl) (fun _ _ _ h => h) (Or.inl ⟨by rfl, fun w _ => by go_simp⟩) hS ?_
            simp only [Act.put, List.setIfInBounds_toArray, List.set_cons_zero, List.set_cons_succ]
            refine wpAnyH_take (i := 5) (v := (.bool true)) (lit rfl) (by kernel_rfl) (by kernel_rfl) (by kernel_rfl) (fun _ _ _ h => h) (Or.inl ⟨by rfl, fun w _ => by go_simp⟩) hS ?_
            simp only [Act.put, List.setIfInBounds_toArray, List.set_cons_zero, List.set_cons_succ]
            refine wpAnyH_take (i := 6) (v := (.bool true)) (lit rfl) (by kernel_rfl) (by kernel_rfl) (by kernel_rfl) (fun _ _ _ h => h) (Or.inl ⟨by rfl, fun w _ => by go_simp⟩) hS ?_
            simp only [Act.put, List.setIfInBounds_toArray, List.set_cons_zero, List.set_cons_succ]
            refine wpAnyH_take (i := 7) (v := (.pointer (some ⟨gt, 0, none⟩))) (lit rfl) (by kernel_rfl) (by kernel_rfl) (by kernel_rfl) (fun _ _ _ h => h) (Or.inl ⟨by rfl, fun w _ => by go_simp⟩) hS ?_
            simp only [Act.put, List.setIfInBounds_toArray, List.set_cons_zero, List.set_cons_succ]
            refine wpAnyH_take (i := 8) (v := (.pointer (some ⟨bx, 2, none⟩))) (lit rfl) (by kernel_rfl) (by kernel_rfl) (by kernel_rfl) (fun _ _ _ h => h) (Or.inl ⟨by rfl, fun w _ => by go_simp⟩) hS ?_
            simp only [Act.put, List.setIfInBounds_toArray, List.set_cons_zero, List.set_cons_succ]
            refine wpAnyH_take (i := 9) (v := (.string ⟨text.toArray⟩)) (lit rfl) (by kernel_rfl) (by kernel_rfl) (by kernel_rfl) (fun _ _ _ h => h) (Or.inl ⟨by rfl, fun w hw => by have hc := hw; go_simp⟩) hS ?_
            simp only [Act.put, List.setIfInBounds_toArray, List.set_cons_zero, List.set_cons_succ]
            refine wpAnyH_take (i := 11) (v := (.pointer (some ⟨gu, 0, none⟩))) (lit rfl) (by kernel_rfl) (by kernel_rfl) (by kernel_rfl) (fun _ _ _ h => h) (Or.inl ⟨by rfl, fun w _ => by go_simp⟩) hS ?_
            simp only [Act.put, List.setIfInBounds_toArray, List.set_cons_zero, List.set_cons_succ]
            refine wpAnyH_take (i := 12) (v := (.pointer (some ⟨bx, 2, none⟩))) (lit rfl) (by kernel_rfl) (by kernel_rfl) (by kernel_rfl) (fun _ _ _ h => h) (Or.inl ⟨by rfl, fun w _ => by go_simp⟩) hS ?_
            simp only [Act.put, List.setIfInBounds_toArray, List.set_cons_zero, List.set_cons_succ]
            refine wpAnyH_take (i := 13) (v := (.string ⟨text.toArray⟩)) (lit rfl) (by kernel_rfl) (by kernel_rfl) (by kernel_rfl) (fun _ _ _ h => h) (Or.inl ⟨by rfl, fun w hw => by have hc := hw; go_simp⟩) hS ?_
            simp only [Act.put, List.setIfInBounds_toArray, List.set_cons_zero, List.set_cons_succ]
            refine wpAnyH_ready (rs := [10]) (by kernel_rfl) (by simp) (AllReadyH.cons (lit rfl) (fun K hK => ?_) AllReadyH.nil)
            go_simp
            go_wp2_with (go_at_call 22; refine (ti_set hA.drew ha.1 ha.2 text htl (by omega)).mono ?_; rintro e y1 ⟨rfl, a1⟩)
            refine hK.out _ _ ((all_has (g := bx) (t := 38) (cs := [.int .i64 what, .int .i64 n, .string ⟨text.toArray⟩, .slice Av nv cv]) a1 (by simp)).cell 2) (fun _ => ?_)
            clear hK K
            refine wpAnyH_ready (rs := [14]) (by kernel_rfl) (by simp) (AllReadyH.cons (lit rfl) (fun K hK => ?_) AllReadyH.nil)
            go_simp
            go_wp2_with (go_at_call 23; refine (ru_set (all_last2 a1) ha.1 ha.2 text htl (by omega)).mono ?_; rintro e y2 ⟨rfl, a2⟩)
            refine hK.out _ _ ((all_has (g := bx) (t := 38) (cs := [.int .i64 what, .int .i64 n, .string ⟨text.toArray⟩, .slice Av nv cv]) a2 (by simp)).cell 2) (fun _ => ?_)
            clear hK K
            have hu4 := setS_un S a H lost text
            have B4 : Bo W g r a [Bl W.heap.size bx 38 [.int .i64 what, .int .i64 n, .string ⟨text.toArray⟩, .slice Av nv cv]] (setS S a H lost text) (setS S a H lost text) (.pointer (some ⟨gt, 0, none⟩)) (.pointer (some ⟨gu, 0, none⟩)) y2 := .inr ⟨gt, gu, _, _, rfl, rfl, ha, all_first2 a2⟩
            have X4 := (bo_x2 B4)
            generalize setE S a H lost text = se at *
            generalize setS S a H lost text = S4 at *
            clear a1 a2
            refine wpAnyH_take (i := 15) (v := (.bool false)) (lit rfl) (by kernel_rfl) (by kernel_rfl) (by kernel_rfl) (fun _ _ _ h => h) (Or.inl ⟨by rfl, fun w _ => by go_simp⟩) X4 ?_
            simp only [Act.put, List.setIfInBounds_toArray, List.set_cons_zero, List.set_cons_succ]
            refine wpAnyH_ready (rs := [16]) (by kernel_rfl) (by simp) (AllReadyH.cons (lit rfl) (fun K hK => ?_) AllReadyH.nil)
            go_simp
            refine hK.out _ _ X4 (fun _ => ?_)
            clear hK K
            refine wpAnyH_done (by kernel_rfl) ?_ _
            go_wp2
            go_meet
            exact ⟨S4, by omega, B4⟩
        case rest =>
          obtain ⟨S', hun', hB⟩ := hcut
          have HBc := Lib.hid hB
          clear hB HBx
          go_upto_region 33 with fail
          go_cut [184] from 57 to 208 (fun x wy => x = .bool false ∧ Bo W g r a [Bl W.heap.size bx 38 [.int .i64 what, .int .i64 n, .string ⟨text.toArray⟩, .slice Av nv cv]] S' S' u7 u9 wy)
          case first =>
            rcases HBc.out with ⟨e1, e2, hA⟩ | ⟨gt, gu, H, lost, e1, e2, ha, hA⟩
            · subst e1 e2
              clear hA
              go_region
              go_wp2
              go_meet
              exact ⟨rfl, bo_drew HBc.out⟩
            · subst e1 e2
              refine wp_region_held_drew (S := fun w' => Has w' gu 47 (rtc r a H lost)) (by kernel_rfl) (ru_in hA.drew (by simp)) (fun hS => ?_)
              refine wpAnyH_take (i := 0) (v := (.pointer (some ⟨gt, 0, none⟩))) (lit rfl) (by kernel_rfl) (by kernel_rfl) (by kernel_rfl) (fun _ _ _ h => h) (Or.inl ⟨by rfl, fun w _ => by go_simp⟩) hS ?_
              simp only [Act.put, List.setIfInBounds_toArray, List.set_cons_zero, List.set_cons_succ]
              refine wpAnyH_take (i := 1) (v := (.bool true)) (lit rfl) (by kernel_rfl) (by kernel_rfl) (by kernel_rfl) (fun _ _ _ h => h) (Or.inl ⟨by rfl, fun w _ => by go_simp⟩) hS ?_
              simp only [Act.put, List.setIfInBounds_toArray, List.set_cons_zero, List.set_cons_succ]
              refine wpAnyH_take (i := 2) (v := (.bool true)) (lit rfl) (by kernel_rfl) (by kernel_rfl) (by kernel_rfl) (fun _ _ _ h => h) (Or.inl ⟨by rfl, fun w _ => by go_simp⟩) hS ?_
              simp only [Act.put, List.setIfInBounds_toArray, List.set_cons_zero, List.set_cons_succ]
              refine wpAnyH_take (i := 3) (v := (.pointer (some ⟨gu, 0, none⟩))) (lit rfl) (by kernel_rfl) (by kernel_rfl) (by kernel_rfl) (fun _ _ _ h => h) (Or.inl ⟨by rfl, fun w _ => by go_simp⟩) hS ?_
              simp only [Act.put, List.setIfInBounds_toArray, List.set_cons_zero, List.set_cons_succ]
              refine wpAnyH_take (i := 4) (v := (.bool true)) (lit rfl) (by kernel_rfl) (by kernel_rfl) (by kernel_rfl) (fun _ _ _ h => h) (Or.inl ⟨by rfl, fun w _ => by go_simp⟩) hS ?_
              simp only [Act.put, List.setIfInBounds_toArray, List.set_cons_zero, List.set_cons_succ]
              refine wpAnyH_take (i := 5) (v := (.bool true)) (lit rfl) (by kernel_rfl) (by kernel_rfl) (by kernel_rfl) (fun _ _ _ h => h) (Or.inl ⟨by rfl, fun w _ => by go_simp⟩) hS ?_
              simp only [Act.put, List.setIfInBounds_toArray, List.set_cons_zero, List.set_cons_succ]
              refine wpAnyH_take (i := 6) (v := (.bool true)) (lit rfl) (by kernel_rfl) (by kernel_rfl) (by kernel_rfl) (fun _ _ _ h => h) (Or.inl ⟨by rfl, fun w _ => by go_simp⟩) hS ?_
              simp only [Act.put, List.setIfInBounds_toArray, List.set_cons_zero, List.set_cons_succ]
              refine wpAnyH_take (i := 7) (v := (.pointer (some ⟨gt, 0, none⟩))) (lit rfl) (by kernel_rfl) (by kernel_rfl) (by kernel_rfl) (fun _ _ _ h => h) (Or.inl ⟨by rfl, fun w _ => by go_simp⟩) hS ?_
              simp only [Act.put, List.setIfInBounds_toArray, List.set_cons_zero, List.set_cons_succ]
              refine wpAnyH_take (i := 9) (v := (.pointer (some ⟨gu, 0, none⟩))) (lit rfl) (by kernel_rfl) (by kernel_rfl) (by kernel_rfl) (fun _ _ _ h => h) (Or.inl ⟨by rfl, fun w _ => by go_simp⟩) hS ?_
              simp only [Act.put, List.setIfInBounds_toArray, List.set_cons_zero, List.set_cons_succ]
              refine wpAnyH_take (i := 10) (v := (.pointer (some ⟨gu, 0, none⟩))) (lit rfl) (by kernel_rfl) (by kernel_rfl) (by kernel_rfl) (fun _ _ _ h => h) (Or.inl ⟨by rfl, fun w _ => by go_simp⟩) hS ?_
              simp only [Act.put, List.setIfInBounds_toArray, List.set_cons_zero, List.set_cons_succ]
              refine wpAnyH_take (i := 11) (v := (.pointer (some ⟨gu, 3, none⟩))) (lit rfl) (by kernel_rfl) (by kernel_rfl) (by kernel_rfl) (fun _ _ _ h => h) (Or.inl ⟨by rfl, fun w _ => by go_simp⟩) hS ?_
              simp only [Act.put, List.setIfInBounds_toArray, List.set_cons_zero, List.set_cons_succ]
              refine wpAnyH_take (i := 12) (v := (.string ⟨(txt H).toArray⟩)) (lit rfl) (by kernel_rfl) (by kernel_rfl) (by kernel_rfl) (fun _ _ _ h => h) (Or.inl ⟨by rfl, fun w hw => by have hc := rtc_cell3 hw; go_simp⟩) hS ?_
              simp only [Act.put, List.setIfInBounds_toArray, List.set_cons_zero, List.set_cons_succ]
              refine wpAnyH_ready (rs := [8]) (by kernel_rfl) (by simp) (AllReadyH.cons (lit rfl) (fun K hK => ?_) AllReadyH.nil)
              go_simp
              go_wp2_with (go_at_call 24; refine (ti_text hA.drew).mono ?_; rintro e y1 ⟨rfl, d1⟩)
              have A1 := hA.drew.below d1
              have S1' := ru_in (gu := gu) (r := r) (a := a) (H := H) (lost := lost) A1 (by simp)
              refine hK.out _ _ S1' (fun _ => ?_)
              clear hK K
              refine wpAnyH_take (i := 13) (v := (.bool false)) (lit rfl) (by kernel_rfl) (by kernel_rfl) (by kernel_rfl) (fun _ _ _ h => h) (Or.inl ⟨by rfl, fun w _ => by go_simp⟩) S1' ?_
              simp only [Act.put, List.setIfInBounds_toArray, List.set_cons_zero, List.set_cons_succ]
              refine wpAnyH_take (i := 14) (v := (.bool false)) (lit rfl) (by kernel_rfl) (by kernel_rfl) (by kernel_rfl) (fun _ _ _ h => h) (Or.inl ⟨by rfl, fun w _ => by go_simp⟩) S1' ?_
              simp only [Act.put, List.setIfInBounds_toArray, List.set_cons_zero, List.set_cons_succ]
              refine wpAnyH_take (i := 15) (v := (.pointer (some ⟨gt, 0, none⟩))) (lit rfl) (by kernel_rfl) (by kernel_rfl) (by kernel_rfl) (fun _ _ _ h => h) (Or.inl ⟨by rfl, fun w _ => by go_simp⟩) S1' ?_
              simp only [Act.put, List.setIfInBounds_toArray, List.set_cons_zero, List.set_cons_succ]
              refine wpAnyH_take (i := 17) (v := (.pointer (some ⟨gu, 0, none⟩))) (lit rfl) (by kernel_rfl) (by kernel_rfl) (by kernel_rfl) (fun _ _ _ h => h) (Or.inl ⟨by rfl, fun w _ => by go_simp⟩) S1' ?_
              simp only [Act.put, List.setIfInBounds_toArray, List.set_cons_zero, List.set_cons_succ]
              refine wpAnyH_take (i := 18) (v := (.pointer (some ⟨gu, 0, none⟩))) (lit rfl) (by kernel_rfl) (by kernel_rfl) (by kernel_rfl) (fun _ _ _ h => h) (Or.inl ⟨by rfl, fun w _ => by go_simp⟩) S1' ?_
              simp only [Act.put, List.setIfInBounds_toArray, List.set_cons_zero, List.set_cons_succ]
              refine wpAnyH_take (i := 19) (v := (.pointer (some ⟨gu, 2, none⟩))) (lit rfl) (by kernel_rfl) (by kernel_rfl) (by kernel_rfl) (fun _ _ _ h => h) (Or.inl ⟨by rfl, fun w _ => by go_simp⟩) S1' ?_
              simp only [Act.put, List.setIfInBounds_toArray, List.set_cons_zero, List.set_cons_succ]
              refine wpAnyH_take (i := 20) (v := (.int .u64 (num H))) (lit rfl) (by kernel_rfl) (by kernel_rfl) (by kernel_rfl) (fun _ _ _ h => h) (Or.inl ⟨by rfl, fun w hw => by have hc := rtc_cell2 hw; go_simp⟩) S1' ?_
              simp only [Act.put, List.setIfInBounds_toArray, List.set_cons_zero, List.set_cons_succ]
              refine wpAnyH_ready (rs := [16]) (by kernel_rfl) (by simp) (AllReadyH.cons (lit rfl) (fun K hK => ?_) AllReadyH.nil)
              go_simp
              go_wp2_with (go_at_call 25; refine (ti_seq A1).mono ?_; rintro e y2 ⟨rfl, d2⟩)
              have A2 := A1.below d2
              have S2' := ru_in (gu := gu) (r := r) (a := a) (H := H) (lost := lost) A2 (by simp)
              refine hK.out _ _ S2' (fun _ => ?_)
              clear hK K
              refine wpAnyH_take (i := 21) (v := (.bool false)) (lit rfl) (by kernel_rfl) (by kernel_rfl) (by kernel_rfl) (fun _ _ _ h => h) (Or.inl ⟨by rfl, fun w _ => by go_simp⟩) S2' ?_
              simp only [Act.put, List.setIfInBounds_toArray, List.set_cons_zero, List.set_cons_succ]
              refine wpAnyH_take (i := 22) (v := (.bool false)) (lit rfl) (by kernel_rfl) (by kernel_rfl) (by kernel_rfl) (fun _ _ _ h => h) (Or.inl ⟨by rfl, fun w _ => by go_simp⟩) S2' ?_
              simp only [Act.put, List.setIfInBounds_toArray, List.set_cons_zero, List.set_cons_succ]
              refine wpAnyH_ready (rs := [23]) (by kernel_rfl) (by simp) (AllReadyH.cons (lit rfl) (fun K hK => ?_) AllReadyH.nil)
              go_simp
              refine hK.out _ _ S2' (fun _ => ?_)
              clear hK K
              refine wpAnyH_done (by kernel_rfl) ?_ _
              go_wp2
              go_meet
              exact ⟨rfl, .inr ⟨gt, gu, H, lost, rfl, rfl, ha, A2⟩⟩
          case rest =>
            obtain ⟨rfl, hB⟩ := hcut
            have HB2 := Lib.hid hB
            clear hB HBc
            go_wp2
            go_loopw [13, 14, 15, 16, 17] (fun i _ _ _ _ wy => ∃ j : Nat, j ≤ 5 ∧ i = .int .i64 j ∧ Bo W g r a [Bl W.heap.size bx 38 [.int .i64 what, .int .i64 n, .string ⟨text.toArray⟩, .slice Av nv cv]] S' S' u7 u9 wy) (fun i _ _ _ _ _ => 5 - (RowKit.intOf i).toNat)
            case atStart => exact ⟨0, by omega, rfl, HB2.out⟩
            case round =>
              obtain ⟨j, hj, rfl, hB⟩ := hrel
              by_cases hlt : j < 5
              · obtain ⟨Ps, hP, _⟩ := bo_disk hB
                obtain ⟨Ps2, hP2, _⟩ := bo_ref hB
                have HR1 := Lib.hid (di_read hP j)
                have HR2 := Lib.hid (ri_read hP2 j)
                have HB3 := Lib.hid hB
                clear hB hP hP2
                generalize readT S' j = s at *
                generalize refuse S' j = rf at *
                go_wp2_with fail
                refine HR1.out.mono ?_
                rintro e y1 ⟨rfl, rfl⟩
                go_wp2_with fail
                refine HR2.out.mono ?_
                rintro e y2 ⟨rfl, rfl⟩
                go_wp2
                go_roundw
                case rel => exact ⟨j + 1, by omega, by go_num, HB3.out⟩
                case measure => simp [RowKit.intOf]; omega
              · have HB3 := Lib.hid hB
                clear hB
                go_wp2
                go_roundw
                case rel => exact ⟨k + 1, S', by omega, by omega, by go_num, by omega, bo_drop HB3.out⟩
                case measure => simp [RowKit.intOf]; omega
      · go_wp2_with fail
        refine (works_walk _).mono ?_
        rintro e w9 ⟨rfl, b9⟩
        go_wp2
        go_ret
        exact ⟨rfl, (bo_under hB).trans (b9.mono (bo_under hB).size)⟩
    · go_wp2_with fail
      refine (works_walk _).mono ?_
      rintro e w9 ⟨rfl, b9⟩
      go_wp2
      go_ret
      exact ⟨rfl, (bo_under hB).trans (b9.mono (bo_under hB).size)⟩

set_option maxRecDepth 100000 in
theorem lifted (os : Os) (started : os.Started) (H : Type) (enc : TypeId × Value → H) :
    ReturnsInHanded {} Try.checked os 3 .any (Rows.twinDoesSpec.pre6 enc Try.prog Try.f3 Rows.twinDoesRow.domain false) (Rows.twinDoesSpec.post enc Try.prog Try.f3 false true false false) := by
  refine returnsInHanded_of_change (C := Try.checked) own started (by kernel_rfl) Try.func3
    (ChangeSpec.witness6 (enc := enc) (C := Try.checked) false ⟨#[], #[.slice none 0 0, .int .i64 0], []⟩ 8 (by kernel_rfl) (by kernel_rfl) (by kernel_rfl) (by kernel_rfl)) ?_
  intro W base args ds gs before hval0 hW hcnd _
  have hval : ∀ (j : Nat) t v, Try.f3.params[j]? = some t → args[j]? = some v → Value.okWide Try.prog W .any base t v := hval0
  have hW' := hW
  obtain ⟨p, q, hA0, hV, rfl, hfz, hnd⟩ := hW
  have hA : DataW.TrodAll enc Try.prog W 0 (fun _ => true) true Try.f3.params.toList args.toList ds p := hA0
  rw [Try.params3] at hA hval
  obtain ⟨v0, vs0, d0, ds0, p0, q0, hargs, rfl, rfl, h0, r0⟩ := trodAll_cons hA
  obtain ⟨v1, vs1, d1, ds1, p1, q1, rfl, rfl, rfl, h1, r1⟩ := trodAll_cons r0
  obtain ⟨rfl, rfl, rfl⟩ := trodAll_nil r1
  obtain rfl : args = #[v0, v1] := by cases args; simp_all
  obtain ⟨rfl, rfl⟩ := trodVars_none hV
  obtain ⟨a1, rfl, rfl, rfl, w1⟩ := open_int Try.underlying3 (hval 1 3 v1 rfl rfl) h1
  obtain ⟨A0, len0, cap0, rfl⟩ := Go.WideShapes.okWide_slice Try.underlying22 (hval 0 22 v0 rfl rfl)
  obtain ⟨l0, hL0⟩ := open_acts h0 rfl
  clear hA0 hval0
  have hc := walk W _ l0 hL0 a1
  try simp only [Array.toArray_toList] at hc
  refine hc.mono fun e W' ⟨he, hg⟩ => ?_
  subst he
  exact ⟨_, rfl, law_post rfl (by decide +kernel) (by kernel_rfl) rfl hW' hg⟩

theorem over : Rows.twinDoesRow.holds Try.pinned (OpenSpec.ofChange Rows.twinDoesSpec) :=
  OpenClaim.holds_of_wide 3 Try.f3 rfl rfl rfl rfl rfl rfl rfl ⟨rfl, rfl, rfl, rfl, rfl⟩ rfl rfl rfl rfl rfl (by kernel_rfl) Try.func3 (by kernel_rfl)
    (of_decide_eq_true (by kernel_rfl)) (by unfold Func.isWrapper; first | (rw [if_pos (by decide +kernel)]; kernel_rfl) | (rw [if_neg (by decide +kernel)]; exact ⟨rfl, rfl⟩))
    (fun os started H enc _ => lifted os started H enc)

theorem proved : Rows.TwinDoesSaid :=
  over
#print axioms proved
end TwinDoes
end Go.Proofs.Ytjdkmafbogaboaa
