/- Entries in memory; what is judged by closures; which records may be. -/
import Derived.Test.YtkhdidhpcdlmcaaLrecMath
import Derived.Test.YtkhdidhpcdlmcaaDeep
import Derived.Test.YtkhdidhpcdlmcaaWireWords
import Derived.Shelf.Abstract
namespace Go.Proofs.Ytkhdidhpcdlmcaa
set_option maxRecDepth 100000
open Go.RowKit Go.Lib MM DE LM
namespace LQ
/-- A record's cells. -/
def ocells (x : Ro) : List Value := [.string ⟨x.key.toArray⟩, .int .u64 x.lsn, .bool x.del, .string ⟨x.val.toArray⟩]
def QO (_w : World) (x : Ro) (cs : List Value) : Prop := x.key.length ≤ 9223372036854775807 ∧ x.lsn < 18446744073709551616 ∧ x.val.length ≤ 9223372036854775807 ∧ cs = ocells x
theorem qo_firm : Firm QO := fun _ _ _ _ h _ => h
/-- A function that is called by its value. -/
def Ent (f : Nat) : Prop := ∀ (args : Array Value) (w : World), (callFunc f args).run Try.prog w = .ok (.enter f args) w
/-- Is it so? asked by a closure. -/
def IsSo (v : Value) (W : World) (b : Bool) : Prop := ∃ (f : Nat) (bnd caps : Array Value), v = .func (.func f) bnd caps ∧ Ent f ∧ Calls Try.prog f (bnd ++ caps) W fun e W' => e = .returned (.bool b) ∧ Below W.heap.size W W'
def judgeOf (long : Bool) (bs : List Bool) : Int := if long then 3 else if bs.any id then 2 else 0
theorem any_of_get {bs : List Bool} {i : Nat} (h : bs[i]? = some true) : bs.any id = true := by
  rw [List.any_eq_true]
  exact ⟨true, List.mem_of_getElem? h, rfl⟩
theorem not_any {bs : List Bool} (h : ∀ j, j < bs.length → bs[j]? = some false) : bs.any id = false := by
  rw [List.any_eq_false]
  intro x hx
  obtain ⟨j, hj⟩ := List.getElem?_of_mem hx
  have hlt := (List.getElem?_eq_some_iff.1 hj).1
  rw [h j hlt] at hj
  cases hj
  decide
theorem judge_walk (w : World) (vf : Value) (g n : Nat) (fs : List Value) (bs : List Bool) (long : Bool) (hn : n ≤ 100) (hl : fs.length = n) (hl2 : bs.length = n) (t : TypeId) (hb : Has w g t fs) (hf : IsSo vf w long)
    (hA : long = false → ∀ (i : Nat) (W : World) (v : Value) (b : Bool), Below w.heap.size w W → fs[i]? = some v → bs[i]? = some b → (∀ j, j < i → bs[j]? = some false) → IsSo v W b) :
    Calls Try.prog 77 #[vf, .slice (some ⟨g, 0, none⟩) n n] w fun e w' => e = .returned (.int .i64 (judgeOf long bs)) ∧ Below w.heap.size w w' := by
  obtain ⟨f0, bnd0, caps0, rfl, hf0, hk0⟩ := hf
  have HK0 := Lib.hid hk0
  unfold Ent at hf0
  clear hk0
  cases long with
  | true =>
    go_enter Try.func77, Try.ntmps77
    clear hA
    go_wp2
    refine HK0.out.mono ?_
    rintro e w1 ⟨rfl, b1⟩
    go_wp2
    go_ret
    exact ⟨rfl, b1⟩
  | false =>
    have hA := hA rfl
    have HA := Lib.hid hA
    have HB := Lib.hid hb
    clear hA hb
    go_enter Try.func77, Try.ntmps77
    go_wp2
    refine HK0.out.mono ?_
    rintro e w1 ⟨rfl, b1⟩
    have B1 := Lib.hid b1
    clear b1
    clear hf0
    go_wp2
    go_loopw [11] (fun p wr => ∃ i : Nat, p = .int .i64 i ∧ i ≤ n ∧ Below w.heap.size w wr ∧ ∀ j, j < i → bs[j]? = some false) (fun p _ => match p with | .int _ i => (n - i.toNat) | _ => 0)
    case atStart => exact ⟨0, rfl, Nat.zero_le _, B1.out, fun j hj => absurd hj (Nat.not_lt_zero _)⟩
    case round =>
      obtain ⟨i, rfl, hi, hi2, hi3⟩ := hrel
      rcases Nat.lt_or_ge i n with hlt | hge
      · obtain ⟨v, hfv⟩ : ∃ v, fs[i]? = some v := ⟨_, List.getElem?_eq_getElem (by omega)⟩
        obtain ⟨b, hbv⟩ : ∃ b, bs[i]? = some b := ⟨_, List.getElem?_eq_getElem (by omega)⟩
        have hv := (HB.out.under hi2 HB.out.lt).cell i
        rw [hfv] at hv
        obtain ⟨f, bnd, caps, rfl, hf, hk⟩ := HA.out i wr v b hi2 hfv hbv hi3
        have HK := Lib.hid hk
        have HI := Lib.hid hi3
        have HBV := Lib.hid hbv
        have B2 := Lib.hid hi2
        unfold Ent at hf
        clear hk hi3 hbv hi2 hfv
        cases b with
        | true =>
          go_wp2
          refine HK.out.mono ?_
          rintro e w3 ⟨rfl, b3⟩
          go_wp2
          go_ret
          refine ⟨?_, B2.out.trans (b3.mono B2.out.size)⟩
          unfold judgeOf
          rw [any_of_get HBV.out]
          rfl
        | false =>
          have e1 : IntKind.i64.wrap ((i : Int) + 1) = ((i + 1 : Nat) : Int) := by unfold IntKind.wrap; simp [IntKind.bits, IntKind.signed]; omega
          go_wp2
          refine HK.out.mono ?_
          rintro e w3 ⟨rfl, b3⟩
          have B3 := Lib.hid b3
          clear b3
          go_wp2
          go_roundw
          case rel =>
            refine ⟨i + 1, by simp, hlt, B2.out.trans (B3.out.mono B2.out.size), fun j hj => ?_⟩
            rcases Nat.lt_or_ge j i with h | h
            · exact HI.out j h
            · have : j = i := by omega
              rw [this]
              exact HBV.out
          case measure => simp; omega
      · obtain rfl : i = n := by omega
        have HI := Lib.hid hi3
        clear hi3
        go_wp2
        go_ret
        refine ⟨?_, hi2⟩
        unfold judgeOf
        rw [not_any (fun j hj => HI.out j (by omega))]
        rfl
section
variable {w : World} {b : Nat} {x : Ro}
theorem may1_walk (hb : Has w b 57 (ocells x)) : Calls Try.prog 78 #[.pointer (some ⟨b, 0, none⟩)] w fun e w' => e = .returned (.bool (decide (16 < x.key.length ∨ 24 < x.val.length))) ∧ Below w.heap.size w w' := by
  have c0 : w.cell? ⟨b, 0, none⟩ = some (.string ⟨x.key.toArray⟩) := hb.cell 0
  have c3 : w.cell? ⟨b, 3, none⟩ = some (.string ⟨x.val.toArray⟩) := hb.cell 3
  have hz1 : (⟨x.key.toArray⟩ : ByteArray).size = x.key.length := rfl
  have hz2 : (⟨x.val.toArray⟩ : ByteArray).size = x.val.length := rfl
  generalize hk : x.key = k at *
  generalize hv : x.val = v at *
  clear hb hk hv
  by_cases h1 : 16 < k.length
  · have d1 : decide ((16 : Int) < (k.length : Int)) = true := decide_eq_true (by omega)
    rw [show decide (16 < k.length ∨ 24 < v.length) = true by simp [h1]]
    go_enter Try.func78, Try.ntmps78
    go_wp2
    go_ret
    exact ⟨rfl, Below.refl _ _⟩
  · have d1 : decide ((16 : Int) < (k.length : Int)) = false := decide_eq_false (by omega)
    have d2 : decide (16 < k.length ∨ 24 < v.length) = decide ((24 : Int) < (v.length : Int)) := decide_eq_decide.2 (by omega)
    rw [d2]
    go_enter Try.func78, Try.ntmps78
    go_wp2
    go_ret
    exact ⟨rfl, Below.refl _ _⟩
theorem no_text {k : List UInt8} (h : k ≠ []) : ∃ c r, k = c :: r := by
  cases k with
  | nil => exact absurd rfl h
  | cons c r => exact ⟨c, r, rfl⟩
theorem may2_walk (hb : Has w b 57 (ocells x)) : Calls Try.prog 79 #[.pointer (some ⟨b, 0, none⟩)] w fun e w' => e = .returned (.bool (decide (x.key = []))) ∧ Below w.heap.size w w' := by
  have c0 : w.cell? ⟨b, 0, none⟩ = some (.string ⟨x.key.toArray⟩) := hb.cell 0
  generalize hk : x.key = k at *
  clear hb hk
  by_cases h : k = []
  · rw [decide_eq_true h]
    subst h
    go_enter Try.func79, Try.ntmps79
    go_wp2
    go_ret
    exact ⟨rfl, Below.refl _ _⟩
  · rw [decide_eq_false h]
    obtain ⟨c, r, rfl⟩ := no_text h
    clear h
    go_enter Try.func79, Try.ntmps79
    go_wp2
    go_ret
    exact ⟨rfl, Below.refl _ _⟩
theorem may3_walk (hb : Has w b 57 (ocells x)) : Calls Try.prog 80 #[.pointer (some ⟨b, 0, none⟩)] w fun e w' => e = .returned (.bool (x.del && !decide (x.val = []))) ∧ Below w.heap.size w w' := by
  have c2 : w.cell? ⟨b, 2, none⟩ = some (.bool x.del) := hb.cell 2
  have c3 : w.cell? ⟨b, 3, none⟩ = some (.string ⟨x.val.toArray⟩) := hb.cell 3
  generalize hk : x.val = k at *
  generalize hd : x.del = d at *
  clear hb hk hd
  cases d with
  | true =>
    by_cases h : k = []
    · rw [decide_eq_true h]
      subst h
      go_enter Try.func80, Try.ntmps80
      go_wp2
      go_ret
      exact ⟨rfl, Below.refl _ _⟩
    · rw [decide_eq_false h]
      obtain ⟨c, r, rfl⟩ := no_text h
      clear h
      go_enter Try.func80, Try.ntmps80
      go_wp2
      go_ret
      exact ⟨rfl, Below.refl _ _⟩
  | false =>
    go_enter Try.func80, Try.ntmps80
    go_wp2
    go_ret
    exact ⟨rfl, Below.refl _ _⟩
end
theorem ent_may1 : Ent 78 := enters_of Try.func78 (by kernel_rfl) rfl
theorem ent_may2 : Ent 79 := enters_of Try.func79 (by kernel_rfl) rfl
theorem ent_may3 : Ent 80 := enters_of Try.func80 (by kernel_rfl) rfl
theorem mayO_judge (x : Ro) : mayO x = judgeOf (decide (16 < x.key.length ∨ 24 < x.val.length)) [decide (x.key = []), x.del && !decide (x.val = [])] := by
  unfold mayO judgeOf
  by_cases h1 : 16 < x.key.length ∨ 24 < x.val.length
  · rw [if_pos h1, decide_eq_true h1]
    rfl
  · by_cases h2 : x.key = []
    · simp [h2]
    · by_cases h3 : x.del = true <;> by_cases h4 : x.val = [] <;> simp [h1, h2, h3, h4]
theorem so_of {f : Nat} {p : Addr} {W : World} {b : Bool} (he : Ent f) (hk : Calls Try.prog f #[.pointer (some p)] W fun e W' => e = .returned (.bool b) ∧ Below W.heap.size W W') : IsSo (.func (.func f) #[] #[.pointer (some p)]) W b :=
  ⟨_, _, _, rfl, he, hk⟩
theorem may_walk (w : World) (x : Ro) : Calls Try.prog 31 #[.agg (ocells x).toArray] w fun e w' => e = .returned (.int .i64 (mayO x)) ∧ Below w.heap.size w w' := by
  have hmf : ∀ (fn : Fn) (first cap : Array Value) (w : World), (Instr.makeFunc fn first cap).run Try.prog w = .ok (.func fn first cap) w := fun _ _ _ _ => rfl
  have HJ : ∀ w2 : World, w2 = (w.alloc (.cells (ocells x).toArray 57)).alloc (.cells #[.func (.func 79) #[] #[.pointer (some ⟨w.heap.size, 0, none⟩)], .func (.func 80) #[] #[.pointer (some ⟨w.heap.size, 0, none⟩)]] 45) →
      Calls Try.prog 77 #[.func (.func 78) #[] #[.pointer (some ⟨w.heap.size, 0, none⟩)], .slice (some ⟨w.heap.size + 1, 0, none⟩) 2 2] w2 fun e w' => e = .returned (.int .i64 (mayO x)) ∧ Below w.heap.size w w' := by
    rintro w2 rfl
    have b1 : Below w.heap.size w (w.alloc (.cells (ocells x).toArray 57)) := (Below.refl _ _).alloc (Nat.le_refl _) _
    have h1 : Has (w.alloc (.cells (ocells x).toArray 57)) w.heap.size 57 (ocells x) := heap_alloc_new _ _
    have h2 := h1.grow (.cells #[.func (.func 79) #[] #[.pointer (some ⟨w.heap.size, 0, none⟩)], .func (.func 80) #[] #[.pointer (some ⟨w.heap.size, 0, none⟩)]] 45)
    have h3 : Has ((w.alloc (.cells (ocells x).toArray 57)).alloc (.cells #[.func (.func 79) #[] #[.pointer (some ⟨w.heap.size, 0, none⟩)], .func (.func 80) #[] #[.pointer (some ⟨w.heap.size, 0, none⟩)]] 45)) (w.heap.size + 1) 45 [.func (.func 79) #[] #[.pointer (some ⟨w.heap.size, 0, none⟩)], .func (.func 80) #[] #[.pointer (some ⟨w.heap.size, 0, none⟩)]] := by
      have := heap_alloc_new (w.alloc (.cells (ocells x).toArray 57)) (.cells #[.func (.func 79) #[] #[.pointer (some ⟨w.heap.size, 0, none⟩)], .func (.func 80) #[] #[.pointer (some ⟨w.heap.size, 0, none⟩)]] 45)
      rw [World.size_alloc] at this
      exact this
    have b2 := b1.alloc (by rw [World.size_alloc]; exact Nat.le_succ _) (.cells #[.func (.func 79) #[] #[.pointer (some ⟨w.heap.size, 0, none⟩)], .func (.func 80) #[] #[.pointer (some ⟨w.heap.size, 0, none⟩)]] 45)
    rw [mayO_judge]
    refine (judge_walk _ _ (w.heap.size + 1) 2 _ [decide (x.key = []), x.del && !decide (x.val = [])] _ (by decide) rfl rfl 45 h3 (so_of ent_may1 (may1_walk h2)) ?_).mono fun e w' ⟨he, hb⟩ => ⟨he, b2.trans (hb.mono b2.size)⟩
    intro _ i W v b hB hv hbv _
    have h4 := h2.under hB h2.lt
    match i, hv, hbv with
    | 0, hv, hbv =>
      injection hv with hv
      injection hbv with hbv
      subst hv hbv
      exact so_of ent_may2 (may2_walk h4)
    | 1, hv, hbv =>
      injection hv with hv
      injection hbv with hbv
      subst hv hbv
      exact so_of ent_may3 (may3_walk h4)
    | i + 2, hv, hbv => simp at hv
  have HJ := Lib.hid HJ
  unfold ocells at HJ ⊢
  go_enter Try.func31, Try.ntmps31
  go_wp2_with fail
  refine (HJ.out _ rfl).mono ?_
  rintro e w' ⟨rfl, hb⟩
  go_wp2
  go_ret
  exact ⟨rfl, hb⟩
end LQ
end Go.Proofs.Ytkhdidhpcdlmcaa
