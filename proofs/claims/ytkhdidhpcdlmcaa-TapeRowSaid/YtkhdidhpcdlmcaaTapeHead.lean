/- A tape's head is read. -/
import Derived.Test.YtkhdidhpcdlmcaaTapeTools
import Derived.BigQuiet
namespace Go.Proofs.Ytkhdidhpcdlmcaa
set_option maxRecDepth 100000
open Go.RowKit Go.Lib MM MF DM DK MY TM DP TP RN PL TF TR TQ BL FL TA TZ WM
namespace TI
/-- A tape's cells, whatever it has. -/
def rcs (gR g gt : Nat) (a : Int) (N st sb fz : Nat) (more : List UInt8) (over : Bool) : List Value := [.pointer (some ⟨g, 0, none⟩), .pointer (some ⟨gt, 0, none⟩), .int .i64 a, .slice (some ⟨gR, 0, none⟩) N N, .int .u64 st, .int .u64 sb, .int .u64 fz, .string ⟨more.toArray⟩, .bool over]
def hSt (t : List UInt8) : Nat := (numS t false).1
def hA1 (t : List UInt8) : List UInt8 × Bool := (numS t false).2
def hSb (t : List UInt8) : Nat := (numS (hA1 t).1 (hA1 t).2).1
def hA2 (t : List UInt8) : List UInt8 × Bool := (numS (hA1 t).1 (hA1 t).2).2
def hMo (t : List UInt8) : List UInt8 := (textS (hA2 t).1 (hA2 t).2).1
def hA3 (t : List UInt8) : List UInt8 × Bool := (textS (hA2 t).1 (hA2 t).2).2
def hEnd (t : List UInt8) : Bool := !(hA3 t).2 && (hA3 t).1.isEmpty
/-- What a head's reading answers. -/
def headE (N : Nat) (t : List UInt8) : Int := if t = [] then 0 else if hEnd t = false ∨ hSb t < hSt t ∨ N * 128 < hSb t - hSt t ∨ 1099511627776 < hSb t ∨ 32 < (hMo t).length then 9 else 0
theorem numS_lt (s : List UInt8) (b : Bool) : (numS s b).1 < 2 ^ 64 ∧ (numS s b).2.1.length ≤ s.length := by
  cases b with
  | true => rw [numS_bad]; exact ⟨Nat.pos_of_ne_zero (by decide), Nat.le_refl _⟩
  | false =>
    rcases hf : first s with _ | ⟨n, k⟩
    · rw [numS_none hf]; exact ⟨Nat.pos_of_ne_zero (by decide), by simp⟩
    · rw [numS_some hf]; exact ⟨(first_some hf).2.2.2.1, by simp⟩
theorem textS_len (s : List UInt8) (b : Bool) : (textS s b).1.length ≤ s.length ∧ (textS s b).2.1.length ≤ s.length := by
  have h := (numS_lt s b).2
  unfold textS
  simp only
  split
  · exact ⟨by simp, h⟩
  · split
    · exact ⟨by simp, by simp⟩
    · exact ⟨by simp; omega, by simp; omega⟩
theorem head_lens (t : List UInt8) : hSt t < 2 ^ 64 ∧ hSb t < 2 ^ 64 ∧ (hA1 t).1.length ≤ t.length ∧ (hA2 t).1.length ≤ t.length ∧ (hMo t).length ≤ t.length := by
  have h1 := numS_lt t false
  have h2 := numS_lt (hA1 t).1 (hA1 t).2
  have h3 := textS_len (hA2 t).1 (hA2 t).2
  have e1 : (hA1 t).1.length ≤ t.length := h1.2
  have e2 : (hA2 t).1.length ≤ (hA1 t).1.length := h2.2
  exact ⟨h1.1, h2.1, e1, Nat.le_trans e2 e1, Nat.le_trans h3.1 (Nat.le_trans e2 e1)⟩
theorem head_nil : hSt [] = 0 ∧ hSb [] = 0 ∧ hMo [] = [] := by decide
section
variable {w0 w : World} {gT gR g gt N : Nat} {a : Int} {h r : List UInt8} {lost : Bool} {Ps : List (World → List Nat → Prop)}
theorem rcs_cells {st sb fz : Nat} {more : List UInt8} {over : Bool} (h : Has w gT 80 (rcs gR g gt a N st sb fz more over)) : w.cell? ⟨gT, 0, none⟩ = some (.pointer (some ⟨g, 0, none⟩)) ∧ w.cell? ⟨gT, 1, none⟩ = some (.pointer (some ⟨gt, 0, none⟩)) ∧ w.cell? ⟨gT, 2, none⟩ = some (.int .i64 a) ∧
    w.cell? ⟨gT, 3, none⟩ = some (.slice (some ⟨gR, 0, none⟩) N N) ∧ w.cell? ⟨gT, 4, none⟩ = some (.int .u64 st) ∧ w.cell? ⟨gT, 5, none⟩ = some (.int .u64 sb) ∧ w.cell? ⟨gT, 6, none⟩ = some (.int .u64 fz) ∧
    w.cell? ⟨gT, 7, none⟩ = some (.string ⟨more.toArray⟩) ∧ w.cell? ⟨gT, 8, none⟩ = some (.bool over) :=
  ⟨h.cell 0, h.cell 1, h.cell 2, h.cell 3, h.cell 4, h.cell 5, h.cell 6, h.cell 7, h.cell 8⟩
theorem readHead_nil (ht : txt h = []) (hA : All w0 w (Tr w0.heap.size gT gR (rcs gR g gt a N 0 0 0 [] false) r :: Ti w0.heap.size gt g a h lost :: Ps)) :
    Calls Try.prog 44 #[.pointer (some ⟨gT, 0, none⟩)] w fun e w' => e = .returned (.int .i64 0) ∧ All w0 w' (Tr w0.heap.size gT gR (rcs gR g gt a N 0 0 0 [] false) r :: Ti w0.heap.size gt g a h lost :: Ps) := by
  obtain ⟨c0, c1, c2, c3, c4, c5, c6, c7, c8⟩ := rcs_cells (tr_get hA (List.mem_cons_self ..)).1
  have HT := Lib.hid (ti_text hA.swap)
  rw [ht] at HT
  have HA := Lib.hid hA
  clear hA
  go_enter Try.func44, Try.ntmps44
  go_wp2_with (go_at_call 101; refine HT.out.mono ?_; rintro e w1 ⟨rfl, b1⟩)
  go_ret
  exact ⟨rfl, HA.out.below b1⟩
theorem num_step {gq : Nat} {s : List UInt8} {b : Bool} {Qs : List (World → List Nat → Prop)} (A : All w0 w (Bl w0.heap.size gq 144 [.string ⟨s.toArray⟩, .bool b] :: Qs)) (hs : s.length ≤ 55) :
    Calls Try.prog 103 #[.pointer (some ⟨gq, 0, none⟩)] w fun e w' => e = .returned (.int .u64 (numS s b).1) ∧ All w0 w' (Bl w0.heap.size gq 144 [.string ⟨(numS s b).2.1.toArray⟩, .bool (numS s b).2.2] :: Qs) :=
  (WR.num_walk s b (by omega) gq w (all_has A (List.mem_cons_self ..))).mono fun e w' ⟨he, hr, hg⟩ => ⟨he, bl_all A hr (Fr.of_grown hg (fun g e => by cases e; simp))⟩
theorem text_step {gq : Nat} {s : List UInt8} {b : Bool} {Qs : List (World → List Nat → Prop)} (A : All w0 w (Bl w0.heap.size gq 144 [.string ⟨s.toArray⟩, .bool b] :: Qs)) (hs : s.length ≤ 55) :
    Calls Try.prog 104 #[.pointer (some ⟨gq, 0, none⟩)] w fun e w' => e = .returned (.string ⟨(textS s b).1.toArray⟩) ∧ All w0 w' (Bl w0.heap.size gq 144 [.string ⟨(textS s b).2.1.toArray⟩, .bool (textS s b).2.2] :: Qs) :=
  (WR.text_walk s b (by omega) gq w (all_has A (List.mem_cons_self ..))).mono fun e w' ⟨he, hr, hg⟩ => ⟨he, bl_all A hr (Fr.of_grown hg (fun g e => by cases e; simp))⟩
theorem sub64 {a b c : Nat} (h : a + b = c) (hc : c < 2 ^ 64) : IntKind.u64.wrap ((c : Int) - (a : Int)) = (b : Int) := by unfold IntKind.wrap; simp [IntKind.bits, IntKind.signed]; omega
set_option maxHeartbeats 4000000 in
theorem readHead_some (t : List UInt8) (et : txt h = t) (ht : t ≠ []) (hN : N ≤ 4096) (hA : All w0 w (Tr w0.heap.size gT gR (rcs gR g gt a N 0 0 0 [] false) r :: Ti w0.heap.size gt g a h lost :: Ps)) :
    Calls Try.prog 44 #[.pointer (some ⟨gT, 0, none⟩)] w fun e w' => e = .returned (.int .i64 (headE N t)) ∧ All w0 w' (Tr w0.heap.size gT gR (rcs gR g gt a N (hSt t) (hSb t) (hSb t) (hMo t) false) r :: Ti w0.heap.size gt g a h lost :: Ps) := by
  obtain ⟨c0, c1, c2, c3, c4, c5, c6, c7, c8⟩ := rcs_cells (tr_get hA (List.mem_cons_self ..)).1
  have HT := Lib.hid (ti_text hA.swap)
  rw [et] at HT
  have hlt : t.length ≤ 55 := et ▸ txt_le h
  obtain ⟨l1, l2, l3, l4, l5⟩ := head_lens t
  have HL := Lib.hid l5
  have e0 : t.isEmpty = false := by cases t with | nil => exact absurd rfl ht | cons x l => rfl
  have HA := Lib.hid hA
  have HN := Lib.hid (fun w' => WR.newReader_walk t w')
  clear hA c0 c2 c3 c4 c5 c6 c7 c8
  go_enter Try.func44, Try.ntmps44
  go_wp2_with (go_at_call 101; refine HT.out.mono ?_; rintro e w1 ⟨rfl, b1⟩)
  go_wp2_with (go_at_call 102; refine (HN.out _).mono ?_; rintro e w2 ⟨rfl, d2, b2⟩)
  have A2 := (HA.out.below b1).made b2 (f := [w1.heap.size]) (bl_kp w0.heap.size w1.heap.size 144 [.string ⟨t.toArray⟩, .bool false]) ⟨d2, (HA.out.below b1).under.size, rfl⟩ (by simp)
  clear HA HT HN b1 b2 d2 c1
  generalize w1.heap.size = gq at *
  have S1 : Calls Try.prog 103 #[.pointer (some ⟨gq, 0, none⟩)] w2 fun e w' => e = .returned (.int .u64 (hSt t)) ∧ All w0 w' (Bl w0.heap.size gq 144 [.string ⟨(hA1 t).1.toArray⟩, .bool (hA1 t).2] :: Tr w0.heap.size gT gR (rcs gR g gt a N 0 0 0 [] false) r :: Ti w0.heap.size gt g a h lost :: Ps) := num_step A2 hlt
  refine S1.mono ?_
  clear S1 A2
  rintro e w3 ⟨rfl, A3⟩
  go_wp2_with fail
  have S2 : Calls Try.prog 103 #[.pointer (some ⟨gq, 0, none⟩)] w3 fun e w' => e = .returned (.int .u64 (hSb t)) ∧ All w0 w' (Bl w0.heap.size gq 144 [.string ⟨(hA2 t).1.toArray⟩, .bool (hA2 t).2] :: Tr w0.heap.size gT gR (rcs gR g gt a N 0 0 0 [] false) r :: Ti w0.heap.size gt g a h lost :: Ps) := num_step A3 (by omega)
  refine S2.mono ?_
  clear S2 A3
  rintro e w4 ⟨rfl, A4⟩
  go_wp2_with fail
  have S3 : Calls Try.prog 104 #[.pointer (some ⟨gq, 0, none⟩)] w4 fun e w' => e = .returned (.string ⟨(hMo t).toArray⟩) ∧ All w0 w' (Bl w0.heap.size gq 144 [.string ⟨(hA3 t).1.toArray⟩, .bool (hA3 t).2] :: Tr w0.heap.size gT gR (rcs gR g gt a N 0 0 0 [] false) r :: Ti w0.heap.size gt g a h lost :: Ps) := text_step A4 (by omega)
  refine S3.mono ?_
  clear S3 A4
  rintro e w5 ⟨rfl, A5⟩
  have HE9 := Lib.hid (show headE N t = if hEnd t = false ∨ hSb t < hSt t ∨ N * 128 < hSb t - hSt t ∨ 1099511627776 < hSb t ∨ 32 < (hMo t).length then 9 else 0 from if_neg ht)
  have HEE := Lib.hid (show ∀ W, Has W gq 144 [.string ⟨(hA3 t).1.toArray⟩, .bool (hA3 t).2] → Calls Try.prog 105 #[.pointer (some ⟨gq, 0, none⟩)] W fun e w' => e = .returned (.bool (hEnd t)) ∧ w' = W from fun W hq => (WR.end_walk _ _ gq W hq).mono fun e w' ⟨he, hw⟩ => ⟨he, hw.symm⟩)
  obtain ⟨st, xst⟩ : ∃ st, hSt t = st := ⟨_, rfl⟩
  obtain ⟨sb, xsb⟩ : ∃ sb, hSb t = sb := ⟨_, rfl⟩
  obtain ⟨mo, xmo⟩ : ∃ mo, hMo t = mo := ⟨_, rfl⟩
  have HX := Lib.hid (⟨xst, xsb, xmo⟩ : hSt t = st ∧ hSb t = sb ∧ hMo t = mo)
  rw [xst, xsb, xmo] at HE9
  rw [xst] at l1
  rw [xsb] at l2
  rw [xmo] at l5
  rw [xst, xsb, xmo]
  clear HL xst xsb xmo
  generalize hEnd t = en at *
  generalize hA3 t = z3 at *
  have hT5 := (tr_get A5 (List.mem_cons_of_mem _ (List.mem_cons_self ..))).1
  obtain ⟨c0, c1, c2, c3, c4, c5, c6, c7, c8⟩ := rcs_cells hT5
  have f4 := hT5.free 4
  have f5 := hT5.free 5
  have f6 := hT5.free 6
  have f7 := hT5.free 7
  have A6 : All w0 ((((w5.setCell ⟨gT, 4, none⟩ (.int .u64 st)).setCell ⟨gT, 5, none⟩ (.int .u64 sb)).setCell ⟨gT, 7, none⟩ (.string ⟨mo.toArray⟩)).setCell ⟨gT, 6, none⟩ (.int .u64 sb)) (Tr w0.heap.size gT gR (rcs gR g gt a N st sb sb mo false) r :: Bl w0.heap.size gq 144 [.string ⟨z3.1.toArray⟩, .bool z3.2] :: Ti w0.heap.size gt g a h lost :: Ps) := tr_set (tr_set (tr_set (tr_set A5.swap 4 _) 5 _) 7 _) 6 _
  clear hT5 A5
  go_wp2_with fail
  clear c0 c1 c2 c3 c4 c5 c6 c7 c8 f4 f5 f6 f7
  generalize ((((w5.setCell ⟨gT, 4, none⟩ (.int .u64 st)).setCell ⟨gT, 5, none⟩ (.int .u64 sb)).setCell ⟨gT, 7, none⟩ (.string ⟨mo.toArray⟩)).setCell ⟨gT, 6, none⟩ (.int .u64 sb)) = w6 at *
  obtain ⟨d0, d1, d2, d3, d4, d5, d6, d7, d8⟩ := rcs_cells (tr_get A6 (List.mem_cons_self ..)).1
  have hq := all_has A6 (List.mem_cons_of_mem _ (List.mem_cons_self ..))
  have HS := Lib.hid (fun w h => size_walk w gT gR N (by omega) h)
  have hz1 : N * 128 ≤ 524288 := by omega
  generalize N * 128 = z at *
  have hml : mo.length ≤ 55 := Nat.le_trans l5 hlt
  obtain ⟨m, hm⟩ : ∃ m, m = mo.length := ⟨_, rfl⟩
  rw [← hm] at HE9 hml
  have hmi : ((ByteArray.size ⟨mo.toArray⟩ : Nat) : Int) = (m : Int) := by rw [hm]; rfl
  have hsz : IntKind.i64.wrap (m : Int) = (m : Int) := by unfold IntKind.wrap; simp [IntKind.bits, IntKind.signed]; omega
  clear d0 d1 d2 d6 d8 l3 l4 l5 hlt
  cases en with
  | false =>
    have hr : headE N t = 9 := by rw [HE9.out]; exact if_pos (.inl rfl)
    go_quiet ((first | (go_at_call 105; exact Calls.quiet_of_same (HEE.out _ hq)) | (go_at_call 53; exact Calls.quiet_of_same (HS.out _ d3))))
    go_wp2
    go_ret
    refine ⟨by first | rfl | (rw [hr]; rfl), ?_⟩
    obtain ⟨x1, x2, x3⟩ := HX.out
    rw [x1, x2, x3]
    exact (A6.swap.tail).below (drawn_below _ nq)
  | true =>
  rcases Nat.lt_or_ge sb st with k1 | k1
  · have hr : headE N t = 9 := by rw [HE9.out]; exact if_pos (.inr (.inl k1))
    have g1 : decide (sb < st) = true := decide_eq_true (by omega)
    have g1' : decide ((sb : Int) < (st : Int)) = true := decide_eq_true (by omega)
    go_quiet ((first | (go_at_call 105; exact Calls.quiet_of_same (HEE.out _ hq)) | (go_at_call 53; exact Calls.quiet_of_same (HS.out _ d3))))
    go_wp2
    go_ret
    refine ⟨by first | rfl | (rw [hr]; rfl), ?_⟩
    obtain ⟨x1, x2, x3⟩ := HX.out
    rw [x1, x2, x3]
    exact (A6.swap.tail).below (drawn_below _ nq)
  obtain ⟨u, hu⟩ : ∃ u, u = sb - st := ⟨_, rfl⟩
  have hw : IntKind.u64.wrap ((sb : Int) - (st : Int)) = (u : Int) := by rw [hu]; exact sub64 (by omega) l2
  have g1 : decide (sb < st) = false := decide_eq_false (by omega)
  have g1' : decide ((sb : Int) < (st : Int)) = false := decide_eq_false (by omega)
  rw [← hu] at HE9
  clear hu
  rcases Nat.lt_or_ge z u with k2 | k2
  · have hr : headE N t = 9 := by rw [HE9.out]; exact if_pos (.inr (.inr (.inl k2)))
    have g2 : decide (z < u) = true := decide_eq_true (by omega)
    have g2' : decide ((z : Int) < (u : Int)) = true := decide_eq_true (by omega)
    go_quiet ((first | (go_at_call 105; exact Calls.quiet_of_same (HEE.out _ hq)) | (go_at_call 53; exact Calls.quiet_of_same (HS.out _ d3))))
    go_wp2
    go_ret
    refine ⟨by first | rfl | (rw [hr]; rfl), ?_⟩
    obtain ⟨x1, x2, x3⟩ := HX.out
    rw [x1, x2, x3]
    exact (A6.swap.tail).below (drawn_below _ nq)
  have g2 : decide (z < u) = false := decide_eq_false (by omega)
  have g2' : decide ((z : Int) < (u : Int)) = false := decide_eq_false (by omega)
  rcases Nat.lt_or_ge 1099511627776 sb with k3 | k3
  · have hr : headE N t = 9 := by rw [HE9.out]; exact if_pos (.inr (.inr (.inr (.inl k3))))
    have g3 : decide (1099511627776 < sb) = true := decide_eq_true (by omega)
    have g3' : decide ((1099511627776 : Int) < (sb : Int)) = true := decide_eq_true (by omega)
    go_quiet ((first | (go_at_call 105; exact Calls.quiet_of_same (HEE.out _ hq)) | (go_at_call 53; exact Calls.quiet_of_same (HS.out _ d3))))
    go_wp2
    go_ret
    refine ⟨by first | rfl | (rw [hr]; rfl), ?_⟩
    obtain ⟨x1, x2, x3⟩ := HX.out
    rw [x1, x2, x3]
    exact (A6.swap.tail).below (drawn_below _ nq)
  have g3 : decide (1099511627776 < sb) = false := decide_eq_false (by omega)
  have g3' : decide ((1099511627776 : Int) < (sb : Int)) = false := decide_eq_false (by omega)
  rcases Nat.lt_or_ge 32 m with k4 | k4
  · have hr : headE N t = 9 := by rw [HE9.out]; exact if_pos (.inr (.inr (.inr (.inr k4))))
    have g4 : decide (32 < m) = true := decide_eq_true (by omega)
    have g4' : decide ((32 : Int) < (m : Int)) = true := decide_eq_true (by omega)
    go_quiet ((first | (go_at_call 105; exact Calls.quiet_of_same (HEE.out _ hq)) | (go_at_call 53; exact Calls.quiet_of_same (HS.out _ d3))))
    go_wp2
    go_ret
    refine ⟨by first | rfl | (rw [hr]; rfl), ?_⟩
    obtain ⟨x1, x2, x3⟩ := HX.out
    rw [x1, x2, x3]
    exact (A6.swap.tail).below (drawn_below _ nq)
  · have hr : headE N t = 0 := by rw [HE9.out]; refine if_neg ?_; rintro (h | h | h | h | h) <;> first | omega | exact absurd h (by decide)
    have g4 : decide (32 < m) = false := decide_eq_false (by omega)
    have g4' : decide ((32 : Int) < (m : Int)) = false := decide_eq_false (by omega)
    go_quiet ((first | (go_at_call 105; exact Calls.quiet_of_same (HEE.out _ hq)) | (go_at_call 53; exact Calls.quiet_of_same (HS.out _ d3))))
    go_wp2
    go_ret
    refine ⟨by first | rfl | (rw [hr]; rfl), ?_⟩
    obtain ⟨x1, x2, x3⟩ := HX.out
    rw [x1, x2, x3]
    exact (A6.swap.tail).below (drawn_below _ nq)
theorem readHead_walk (hN : N ≤ 4096) (hA : All w0 w (Tr w0.heap.size gT gR (rcs gR g gt a N 0 0 0 [] false) r :: Ti w0.heap.size gt g a h lost :: Ps)) :
    Calls Try.prog 44 #[.pointer (some ⟨gT, 0, none⟩)] w fun e w' => e = .returned (.int .i64 (headE N (txt h))) ∧ All w0 w' (Tr w0.heap.size gT gR (rcs gR g gt a N (hSt (txt h)) (hSb (txt h)) (hSb (txt h)) (hMo (txt h)) false) r :: Ti w0.heap.size gt g a h lost :: Ps) := by
  by_cases ht : txt h = []
  · obtain ⟨n1, n2, n3⟩ := head_nil
    have := readHead_nil ht hA
    rw [ht, n1, n2, n3]
    exact this
  · exact readHead_some _ rfl ht hN hA
end
end TI
end Go.Proofs.Ytkhdidhpcdlmcaa
