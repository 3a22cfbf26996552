/- Which entries may be: stamp, some, twice, row, Check. -/
import Derived.Test.YtkhdidhpcdlmcaaLrecMem
import Derived.Maps.Own
import Derived.Maps.OwnOps
import Derived.Maps.Views
import Derived.StringKeys
namespace Go.Proofs.Ytkhdidhpcdlmcaa
set_option maxRecDepth 100000
open Go.RowKit Go.Lib Go.Maps MM MS DE LM LQ
namespace LC
theorem stamp_walk (w : World) (n : Nat) (hn : n < 18446744073709551616) : Calls Try.prog 84 #[.int .u64 n] w fun e w' => e = .returned (.bool (stampB n)) ∧ w' = w := by
  unfold stampB
  by_cases h1 : 1 ≤ n
  · rw [decide_eq_true h1, Bool.true_and]
    have d1 : decide ((1 : Int) ≤ (n : Int)) = true := decide_eq_true (by omega)
    have d2 : decide ((n : Int) ≤ 1099511627776) = decide (n ≤ 1099511627776) := decide_eq_decide.2 (by omega)
    have D2 := Lib.hid d2
    clear d2
    go_enter Try.func84, Try.ntmps84
    go_wp2
    go_ret
    exact ⟨by rw [← D2.out]; rfl, rfl⟩
  · rw [decide_eq_false h1, Bool.false_and]
    have d1 : decide ((1 : Int) ≤ (n : Int)) = false := decide_eq_false (by omega)
    go_enter Try.func84, Try.ntmps84
    go_wp2
    go_ret
    exact ⟨rfl, rfl⟩
/-- One of the operations, later. -/
theorem ops_get {w wr : World} {A : Option Addr} {cap : Nat} {l : List Ro} (hL : Lst w 4 QO (.slice A l.length cap) l) (hb : Below w.heap.size w wr) (k : Nat) (hk : k < l.length) :
    ∃ (b off : Nat) (x : Ro), A = some ⟨b, off, none⟩ ∧ l.drop k = x :: l.drop (k + 1) ∧ l[k] = x ∧ x.key.length ≤ 9223372036854775807 ∧ x.lsn < 18446744073709551616 ∧ x.val.length ≤ 9223372036854775807 ∧
      wr.cell? ⟨b, off + k * 4, none⟩ = some (.string ⟨x.key.toArray⟩) ∧ wr.cell? ⟨b, off + k * 4 + 1, none⟩ = some (.int .u64 x.lsn) ∧ wr.cell? ⟨b, off + k * 4 + 2, none⟩ = some (.bool x.del) ∧ wr.cell? ⟨b, off + k * 4 + 3, none⟩ = some (.string ⟨x.val.toArray⟩) := by
  obtain ⟨b, off, cap', cs, e, hcl, ⟨hx1, hx2, hx3, rfl⟩, hcell⟩ := hL.get k hk
  injection e with e1 e2 e3
  subst e1
  have q0 := hcell 0 (by omega)
  have q1 := hcell 1 (by omega)
  have q2 := hcell 2 (by omega)
  have q3 := hcell 3 (by omega)
  simp only [ocells, List.getElem?_cons_zero, List.getElem?_cons_succ, Nat.add_zero] at q0 q1 q2 q3
  have hlt0 : b < w.heap.size := cell_lt q0
  exact ⟨b, off, l[k], rfl, List.drop_eq_getElem_cons hk, rfl, hx1, hx2, hx3, (hb.cell (p := ⟨b, off + k * 4, none⟩) hlt0).trans q0, (hb.cell (p := ⟨b, off + k * 4 + 1, none⟩) hlt0).trans q1, (hb.cell (p := ⟨b, off + k * 4 + 2, none⟩) hlt0).trans q2, (hb.cell (p := ⟨b, off + k * 4 + 3, none⟩) hlt0).trans q3⟩
theorem next64 {k n : Nat} (hk : k < n) (hn : n ≤ 9223372036854775807) : IntKind.i64.wrap ((k : Int) + 1) = ((k + 1 : Nat) : Int) := by unfold IntKind.wrap; simp [IntKind.bits, IntKind.signed]; omega
theorem some_walk (w : World) (v : Value) (l : List Ro) (hL : Lst w 4 QO v l) (c : Int) : Calls Try.prog 82 #[v, .int .i64 c] w fun e w' => e = .returned (.bool (someO c l)) ∧ Below w.heap.size w w' := by
  obtain ⟨A, cap, rfl, hol⟩ := hL.form
  have HL := Lib.hid hL
  clear hL
  go_enter Try.func82, Try.ntmps82
  go_wp2
  go_loopw [9] (fun i wr => ∃ k : Nat, k ≤ l.length ∧ i = .int .i64 k ∧ someO c (l.drop k) = someO c l ∧ Below w.heap.size w wr) (fun i _ => l.length - (RowKit.intOf i).toNat)
  case atStart => exact ⟨0, by omega, rfl, rfl, Below.refl _ _⟩
  case round =>
    obtain ⟨k, hk, rfl, hs, hb⟩ := hrel
    rcases Nat.lt_or_ge k l.length with hk1 | hk1
    · obtain ⟨b, off, x, rfl, hd, _, hx1, hx2, hx3, c0, c1, c2, c3⟩ := ops_get HL.out hb k hk1
      rw [hd] at hs
      have HS := Lib.hid hs
      have HB := Lib.hid hb
      have HM := Lib.hid (fun w1 => may_walk w1 x)
      unfold ocells at HM
      have e1 := next64 hk1 hol
      clear hs hd hb HL
      have HX := Lib.hid hx1
      clear hx1 hx2 hx3
      by_cases hm : mayO x = c
      · go_wp2_with fail
        refine (HM.out _).mono ?_
        rintro e w2 ⟨rfl, b2⟩
        rw [hm]
        go_wp2
        go_ret
        refine ⟨?_, HB.out.trans ((Below.alloc (Below.refl _ _) (Nat.le_refl _) _).trans (b2.mono (by simp [World.size_alloc])) |>.mono HB.out.size)⟩
        rw [← HS.out]
        simp [someO, hm]
      · have hmb : (mayO x == c) = false := beq_eq_false_iff_ne.2 hm
        have hs2 : someO c (l.drop (k + 1)) = someO c l := by rw [← HS.out]; simp [someO, hmb]
        go_wp2_with fail
        refine (HM.out _).mono ?_
        rintro e w2 ⟨rfl, b2⟩
        have B2 : Below w.heap.size w w2 := HB.out.trans ((Below.alloc (Below.refl _ _) (Nat.le_refl _) _).trans (b2.mono (by simp [World.size_alloc])) |>.mono HB.out.size)
        clear b2
        go_wp2
        go_roundw
        case rel => exact ⟨k + 1, by omega, by go_num, hs2, B2⟩
        case measure => simp [RowKit.intOf]; omega
    · obtain rfl : k = l.length := by omega
      have hz : someO c l = false := by rw [← hs, List.drop_length]; rfl
      clear hs
      go_wp2
      go_ret
      exact ⟨by rw [hz]; rfl, hb⟩
set_option maxHeartbeats 2000000 in
theorem row_walk (w : World) (v : Value) (l : List Ro) (hL : Lst w 4 QO v l) (f : Nat) (hf : f ≤ 1099511627776) (hl : l.length ≤ 6) : Calls Try.prog 89 #[.int .u64 f, v] w fun e w' => e = .returned (.bool (rowO f l)) ∧ Below w.heap.size w w' := by
  obtain ⟨A, cap, rfl, hol⟩ := hL.form
  have HL := Lib.hid hL
  clear hL
  go_enter Try.func89, Try.ntmps89
  go_wp2
  go_loopw [9] (fun i wr => ∃ k : Nat, k ≤ l.length ∧ i = .int .i64 k ∧ rowO (f + k) (l.drop k) = rowO f l ∧ Below w.heap.size w wr) (fun i _ => l.length - (RowKit.intOf i).toNat)
  case atStart => exact ⟨0, by omega, rfl, rfl, Below.refl _ _⟩
  case round =>
    obtain ⟨k, hk, rfl, hs, hb⟩ := hrel
    rcases Nat.lt_or_ge k l.length with hk1 | hk1
    · obtain ⟨b, off, x, rfl, hd, _, hx1, hx2, hx3, c0, c1, c2, c3⟩ := ops_get HL.out hb k hk1
      rw [hd] at hs
      have HS := Lib.hid hs
      have HB := Lib.hid hb
      have HM := Lib.hid (fun w1 => stamp_walk w1 x.lsn hx2)
      have e1 := next64 hk1 hol
      have e2 : IntKind.u64.wrap (k : Int) = (k : Int) := by unfold IntKind.wrap; simp [IntKind.bits, IntKind.signed]; omega
      obtain ⟨n, hn⟩ : ∃ n, n = f + k := ⟨_, rfl⟩
      have e3 : IntKind.u64.wrap ((f : Int) + (k : Int)) = (n : Int) := by unfold IntKind.wrap; simp [IntKind.bits, IntKind.signed]; omega
      rw [← hn] at HS
      have HN := Lib.hid hn
      have HBx : Hid (Below w.heap.size w (wr.alloc (.cells (ocells x).toArray 57))) := Lib.hid (HB.out.trans ((Below.alloc (Below.refl _ _) (Nat.le_refl _) _).mono HB.out.size))
      have HLN := Lib.hid hl
      clear hs hd hb HL hx1 hx2 hx3 hn hl hf
      by_cases hm : x.lsn = n
      · subst hm
        cases hst : stampB x.lsn with
        | true =>
          have hs2 : rowO (f + (k + 1)) (l.drop (k + 1)) = rowO f l := by
            rw [← HS.out, ← Nat.add_assoc, ← HN.out]
            simp [rowO, hst]
          rw [hst] at HM
          go_wp2_with (go_at_call 84; refine (HM.out _).mono ?_; rintro e w2 ⟨rfl, rfl⟩)
          go_roundw
          case rel => exact ⟨k + 1, by omega, by go_num, hs2, HBx.out⟩
          case measure => simp [RowKit.intOf]; omega
        | false =>
          have hz : rowO f l = false := by rw [← HS.out]; simp [rowO, hst]
          rw [hst] at HM
          go_wp2_with (go_at_call 84; refine (HM.out _).mono ?_; rintro e w2 ⟨rfl, rfl⟩)
          go_ret
          exact ⟨by rw [hz]; rfl, HBx.out⟩
      · have hne : ((x.lsn : Int) == (n : Int)) = false := beq_eq_false_iff_ne.2 (by omega)
        have hne2 : (x.lsn == n) = false := beq_eq_false_iff_ne.2 hm
        have hz : rowO f l = false := by rw [← HS.out]; simp [rowO, hm]
        go_wp2_with (go_at_call 84; refine (HM.out _).mono ?_; rintro e w2 ⟨rfl, rfl⟩)
        go_ret
        exact ⟨by rw [hz]; rfl, HBx.out⟩
    · obtain rfl : k = l.length := by omega
      have hz : rowO f l = true := by rw [← hs, List.drop_length]; rfl
      clear hs
      go_wp2
      go_ret
      exact ⟨by rw [hz]; rfl, hb⟩
/-! The keys that were seen. -/
theorem law : Keyed Try.prog 9 := string_keyed Try.underlying9
theorem zeroE (w : World) : (zeroValue 3).run Try.prog w = .ok (.int .i64 0) w := by kernel_rfl
/-- The map reads as these keys, 1 each. -/
def Seen (D : DataW Unit) (ks : List (List UInt8)) : Prop := IsMap D ∧ ∀ u : List UInt8, D.atKey (.string u) (.lit (.int .i64 0)) = .lit (.int .i64 (if u ∈ ks then 1 else 0))
theorem seen_none : Seen (.map []) [] := ⟨isMap_empty, fun _ => rfl⟩
theorem seen_put {D : DataW Unit} {ks : List (List UInt8)} (h : Seen D ks) (u : List UInt8) : Seen (D.put (.string u) (.lit (.int .i64 1))) (ks ++ [u]) := by
  obtain ⟨hm, hs⟩ := h
  refine ⟨?_, fun t => ?_⟩
  · obtain ⟨es, rfl⟩ := hm
    exact ⟨_, rfl⟩
  · by_cases ht : t = u
    · subst ht
      rw [atKey_put_same hm (by trivial)]
      simp
    · rw [atKey_put_other (by intro h; injection h with h; exact ht h), hs t]
      simp [ht]
theorem own_alloc {wr : World} {b n : Nat} {D : DataW Unit} (h : wr.ownsMap Try.prog 9 (plainElem Try.prog 3) b n D) (o : Obj) : (wr.alloc o).ownsMap Try.prog 9 (plainElem Try.prog 3) b n D := by
  obtain ⟨es, clock, hb, F, hs, hD⟩ := h
  exact ⟨es, clock, (Below.heap_alloc wr o b (lt_of_block hb)).trans hb, F, hs, hD⟩
set_option maxHeartbeats 2000000 in
theorem twice_walk (w : World) (v : Value) (l : List Ro) (hL : Lst w 4 QO v l) (hl : l.length ≤ 6) : Calls Try.prog 87 #[v] w fun e w' => e = .returned (.bool (twiceO [] l)) ∧ Below w.heap.size w w' := by
  obtain ⟨A, cap, rfl, hol⟩ := hL.form
  have HL := Lib.hid hL
  clear hL
  have hmm := @run_makeMap Try.prog
  go_enter Try.func87, Try.ntmps87
  go_wp2
  go_loopw [9] (fun i wr => ∃ (k : Nat) (ks : List (List UInt8)) (D : DataW Unit), k ≤ l.length ∧ i = .int .i64 k ∧ twiceO ks (l.drop k) = twiceO [] l ∧ wr.ownsMap Try.prog 9 (plainElem Try.prog 3) w.heap.size k D ∧ Seen D ks ∧ Below w.heap.size w wr) (fun i _ => l.length - (RowKit.intOf i).toNat)
  case atStart => exact ⟨0, [], _, by omega, rfl, rfl, World.ownsMap_made _ _ _ _, seen_none, (Below.refl _ _).alloc (Nat.le_refl _) _⟩
  case round =>
    obtain ⟨k, ks, D, hk, rfl, hs, hown, hseen, hb⟩ := hrel
    rcases Nat.lt_or_ge k l.length with hk1 | hk1
    · obtain ⟨b, off, x, rfl, hd, _, hx1, hx2, hx3, c0, c1, c2, c3⟩ := ops_get HL.out hb k hk1
      rw [hd] at hs
      have HS := Lib.hid hs
      have HB := Lib.hid hb
      have e1 := next64 hk1 hol
      have hown2 := own_alloc hown (.cells (ocells x).toArray 57)
      have HBx : Hid (Below w.heap.size w (wr.alloc (.cells (ocells x).toArray 57))) := Lib.hid (HB.out.trans ((Below.alloc (Below.refl _ _) (Nat.le_refl _) _).mono HB.out.size))
      have hkey : keyOf Try.prog 9 (.string ⟨x.key.toArray⟩) = some (.string x.key) := Go.WideMaps.keyOf_string_mk Try.underlying9 (by show x.key.length ≤ maxLen; unfold maxLen; exact hx1)
      have hat0 := hseen.2 x.key
      have HSE := Lib.hid hseen
      have HW := Lib.hid hown2
      have HK := Lib.hid hkey
      have HL6 := Lib.hid hl
      have HSZ : Hid (w.heap.size ≤ wr.heap.size) := Lib.hid hb.size
      clear hs hd hb HL hx1 hx2 hx3 hl hseen hown hown2 hkey
      by_cases hin : x.key ∈ ks
      · rw [if_pos hin] at hat0
        have hz : twiceO [] l = true := by rw [← HS.out]; simp [twiceO, hin]
        have HAT := Lib.hid hat0
        clear hat0 hin
        go_wp2_with (at_lookup; refine wpList_lookup_own_int _ rfl _ _ 138 rfl 9 3 .i64 law Try.underlying138 Try.underlying3 (zeroE _) w.heap.size k _ rfl HW.out _ _ rfl HK.out ?_; intro c hat hwc; obtain rfl : c = 1 := (by have := HAT.out.symm.trans hat; simpa using this.symm))
        go_ret
        exact ⟨by rw [hz]; rfl, HBx.out⟩
      · rw [if_neg hin] at hat0
        have hs2 : twiceO (ks ++ [x.key]) (l.drop (k + 1)) = twiceO [] l := by rw [← HS.out]; simp [twiceO, hin]
        have HAT := Lib.hid hat0
        clear hat0 hin
        have w1f : (Lit.int .i64 1).wf = true := by decide
        go_wp2_with (first
          | (at_lookup; refine wpList_lookup_own_int _ rfl _ _ 138 rfl 9 3 .i64 law Try.underlying138 Try.underlying3 (zeroE _) w.heap.size k _ rfl HW.out _ _ rfl HK.out ?_; intro c hat hwc; obtain rfl : c = 0 := (by have := HAT.out.symm.trans hat; simpa using this.symm))
          | (at_mapUpdate; refine wpList_mapUpdate_own _ rfl _ _ _ 138 rfl 9 3 law Try.underlying138 _ w.heap.size k _ rfl HW.out (by have := HL6.out; unfold maxLen; omega) _ _ _ rfl rfl HK.out _ [] (plainElem_int Try.underlying3 w1f) ?_; intro w1 hown1 hgrow1))
        go_roundw
        case rel => exact ⟨k + 1, ks ++ [x.key], _, by omega, by go_num, hs2, hown1, seen_put HSE.out _, HBx.out.grown hgrow1 HBx.out.size (fun j hj => by cases hj; exact Nat.le_refl _)⟩
        case measure => simp [RowKit.intOf]; omega
    · obtain rfl : k = l.length := by omega
      have hz : twiceO [] l = false := by rw [← hs, List.drop_length]; rfl
      clear hs
      go_wp2
      go_ret
      exact ⟨by rw [hz]; rfl, hb⟩
end LC
end Go.Proofs.Ytkhdidhpcdlmcaa
