/- A tape's places are emptied. -/
import Derived.Test.YtkhdidhpcdlmcaaTapeAppend
namespace Go.Proofs.Ytkhdidhpcdlmcaa
set_option maxRecDepth 100000
open Go.RowKit Go.Lib MM MF DM DK MY TM DP TP RN PL TF TR TQ BL FL TA
namespace TE
attribute [local go_sem] Oper.semAt_some
theorem ring_turn {N s n : Nat} {l r : List UInt8} (h : IsRing N s (List.replicate n 0 ++ l) r) (hn : n ≤ N * 128) (hl : n + l.length ≤ N * 128) : IsRing N (s + n) l r := by
  refine ⟨h.1, fun x hx => ?_⟩
  rcases Nat.lt_or_ge (n + x) (N * 128) with h2 | h2
  · rw [show s + n + x = s + (n + x) by omega, h.2 _ h2]
    simp only [List.getD_eq_getElem?_getD]
    rw [List.getElem?_append_right (by simp)]
    simp
  · rw [show s + n + x = s + (n + x - N * 128) + N * 128 by omega, Nat.add_mod_right, h.2 _ (by omega)]
    simp only [List.getD_eq_getElem?_getD]
    rw [List.getElem?_append_left (by rw [List.length_replicate]; omega), List.getElem?_replicate, if_pos (by omega), List.getElem?_eq_none (show l.length ≤ x by omega)]
    rfl
/-- What a round keeps. -/
structure EmpI (w : World) (gT gR N : Nat) (cs : List Value) (bf bt2 bs2 f fz : Nat) (l : List UInt8) (k : Nat) (W : World) : Prop where
  bt2 : Has W bt2 30 [.int .u64 fz]
  bs2 : Has W bs2 26 [.pointer (some ⟨gT, 0, none⟩)]
  tape : Has W gT 80 cs
  rng : ∃ r, Row W gR 126 (byteCells r) ∧ IsRing N f (List.replicate k 0 ++ l.drop k) r
  fr : Fr w W [gR]
theorem EmpI.own {w A B : World} {gT gR N bf bt2 bs2 f fz k n : Nat} {cs : List Value} {l : List UInt8} {row : Option Nat} (i : EmpI w gT gR N cs bf bt2 bs2 f fz l k A) (hn : w.heap.size ≤ n) (hg : A.grownBy B row)
    (hr : ∀ r, row = some r → n ≤ r ∧ ∃ o : Obj, A.heap[r]? = some o ∧ o.isCells = false) : EmpI w gT gR N cs bf bt2 bs2 f fz l k B := by
  obtain ⟨r, h1, h2⟩ := i.rng
  exact ⟨own_has i.bt2 hg hr, own_has i.bs2 hg hr, own_has i.tape hg hr, ⟨r, own_row h1 hg hr, h2⟩, own_fr i.fr hn hg hr⟩
theorem byteZero (w : World) : (zeroValue 5).run Try.prog w = .ok (.int .u8 0) w := by kernel_rfl
theorem EmpI.step {w W : World} {gT gR N bf bt2 bs2 f fz k c : Nat} {cs : List Value} {l : List UInt8} (i : EmpI w gT gR N cs bf bt2 bs2 f fz l k W) (hk : k + c ≤ N * 128) (hq : (f + k) % (N * 128) + c ≤ N * 128) (hc : 0 < c) (cap : Nat) :
    (Builtin.clear_ #[23] 0 #[.slice (some ⟨gR, (f + k) % (N * 128), none⟩) c cap]).run Try.prog W = .ok (.tuple #[]) (W.setCells gR ((f + k) % (N * 128)) (List.replicate c (.int .u8 0))) ∧
    EmpI w gT gR N cs bf bt2 bs2 f fz l (k + c) (W.setCells gR ((f + k) % (N * 128)) (List.replicate c (.int .u8 0))) ∧ Fr W (W.setCells gR ((f + k) % (N * 128)) (List.replicate c (.int .u8 0))) [gR] := by
  obtain ⟨r, h1, h2⟩ := i.rng
  have hlen : (byteCells r).length = N * 128 := by rw [byteCells_length]; exact h2.1
  have hth := h1.there ((f + k) % (N * 128)) c (by omega)
  have fr : Fr W (W.setCells gR ((f + k) % (N * 128)) (List.replicate c (.int .u8 0))) [gR] := (Fr.refl W [gR]).setCells (by simp) _ _
  have nR : ∀ {b : Nat} {t : TypeId} {cs : List Value}, Has W b t cs → t ≠ 126 → b ∉ [gR] := fun h ht hm => by
    rw [List.mem_singleton] at hm
    exact has_ne h h1 ht hm
  have e0 : List.replicate c (Value.int .u8 0) = byteCells (List.replicate c 0) := by simp [byteCells]
  refine ⟨run_clear_slice W _ 5 _ (.int .u8 0) Try.underlying23 byteZero rfl rfl gR _ c cap hc (fun j hj => (hth j hj).1) (fun j hj => (hth j hj).2), ⟨fr.has i.bt2 (nR i.bt2 (by decide)), fr.has i.bs2 (nR i.bs2 (by decide)), fr.has i.tape (nR i.tape (by decide)), ⟨r.take ((f + k) % (N * 128)) ++ List.replicate c 0 ++ r.drop ((f + k) % (N * 128) + c), ?_, ?_⟩, i.fr.trans fr (fun x hx => .inl hx)⟩, fr⟩
  · have := h1.put ((f + k) % (N * 128)) (List.replicate c (.int .u8 0)) (by rw [List.length_replicate]; omega)
    rw [e0, cells_splice _ _ _ c (by simp)] at this
    rw [e0]
    exact this
  · refine ring_write (vs := List.replicate c 0) (k := k) (n := c) h2 (by simp) hk hq (fun x hx => ?_)
    simp only [List.getD_eq_getElem?_getD]
    by_cases a1 : x < k
    · rw [if_neg (by omega), List.getElem?_append_left (by simp; omega), List.getElem?_append_left (by simpa using a1), List.getElem?_replicate, List.getElem?_replicate, if_pos (by omega), if_pos a1]
    · by_cases a2 : x < k + c
      · rw [if_pos ⟨by omega, a2⟩, List.getElem?_append_left (by simpa using a2), List.getElem?_replicate, List.getElem?_replicate, if_pos a2, if_pos (by omega)]
      · rw [if_neg (by omega), List.getElem?_append_right (by simp; omega), List.getElem?_append_right (by simp; omega), List.getElem?_drop, List.getElem?_drop]
        congr 2
        simp
        omega
theorem empty_walk (w : World) (gT gR N f fz : Nat) (cs : List Value) (l r : List UInt8) (hT : Has w gT 80 cs) (h3 : cs[3]? = some (.slice (some ⟨gR, 0, none⟩) N N)) (hR : Row w gR 126 (byteCells r)) (hr : IsRing N f l r) (hl : l.length ≤ N * 128)
    (h1 : 1 ≤ N) (hN : N ≤ 4096) (hf : f ≤ fz) (hz : fz ≤ f + N * 128) (hb : f < 2199023255552) :
    Calls Try.prog 65 #[.pointer (some ⟨gT, 0, none⟩), .int .u64 f, .int .u64 fz] w fun e w' => e = .returned (.tuple #[]) ∧ (∃ r', Row w' gR 126 (byteCells r') ∧ IsRing N fz (l.drop (fz - f)) r') ∧ Fr w w' [gR] := by
  refine calls_of_marks Try.func65 rfl ?_
  simp only [Try.ntmps65, List.size_toArray, List.length_cons, List.length_nil, Nat.reduceAdd, Nat.reduceSub, Array.replicate_succ, Array.replicate_zero, List.push_toArray, List.append_toArray, List.nil_append, List.cons_append]
  go_wp2_with (go_at_call 49; refine (places_walk _ gT f fz).mono ?_; rintro e y5 ⟨bf, bt2, bs2, rfl, hbf, hbt2, hbs2, b5, l1, l2, l3⟩)
  have HP := Lib.hid (⟨h1, hN, hf, hz, hb, hl⟩ : 1 ≤ N ∧ N ≤ 4096 ∧ f ≤ fz ∧ fz ≤ f + N * 128 ∧ f < 2199023255552 ∧ l.length ≤ N * 128)
  have i0 : EmpI w gT gR N cs bf bt2 bs2 f fz l 0 y5 := ⟨hbt2, hbs2, hT.under b5 hT.lt, ⟨r, hR.of_block (b5.block _ hR.lt), by simpa using hr⟩, Fr.of_below b5 _⟩
  refine (wpIn_wide (n := 9)).1 (range_places (n := 9) bf bt2 bs2 gT gR N f fz h1 (by omega) hf (by omega) rfl rfl (hbf.cell 0) (fun p W => ∃ k, p = f + k ∧ p ≤ fz ∧ EmpI w gT gR N cs bf bt2 bs2 f fz l k W) (fun _ _ => False)
    (fun p A B row h hg hr => by obtain ⟨k, h1, h2, i⟩ := h; exact ⟨k, h1, h2, i.own b5.size hg hr⟩) (fun _ _ _ _ h _ _ => h) (fun p W h => by obtain ⟨k, _, _, i⟩ := h; exact ⟨i.bt2.cell 0, i.bs2.cell 0, (i.tape.cell 3).trans h3⟩) ⟨0, rfl, hf, i0⟩ ?a1 ?assign ?body ?done ?stop)
  case assign =>
    intro l' p W K hK
    unfold enc
    gi_wp2
    exact hK
  case stop =>
    intro D c W _ h
    exact h.elim
  case body =>
    rintro l' p W ⟨k, rfl, hk, i⟩ hlt
    have hc0 : 0 < cut (f + k) fz := by
      have h4 : (f + k) % 128 < 128 := Nat.mod_lt _ (by decide)
      unfold cut
      omega
    have hc1 : f + k + cut (f + k) fz ≤ fz := by unfold cut; omega
    have hc2 : (f + k) % (N * 128) + cut (f + k) fz ≤ N * 128 := by
      have e1 := place_eq N (f + k)
      have e2 := sec_lt (p := f + k) h1
      have e3 : cut (f + k) fz ≤ 128 - (f + k) % 128 := by unfold cut; omega
      have e4 : (f + k) % 128 < 128 := Nat.mod_lt _ (by decide)
      generalize cut (f + k) fz = c at *
      generalize (f + k) % (N * 128) = q at *
      generalize (f + k) % 128 = t at *
      generalize sec N (f + k) = s at *
      clear HP hf hz hb hl hc1 hc0
      omega
    have hk1 : k + cut (f + k) fz ≤ N * 128 := by omega
    obtain ⟨k1, k2, k3⟩ := i.step hk1 hc2 hc0 (128 - (f + k) % 128)
    have HZ := Lib.hid (⟨keeps_fr k3 (fun x hx => by
      rw [List.mem_singleton] at hx
      subst hx
      obtain ⟨r, ⟨rr, hrr⟩, _⟩ := i.rng
      exact ⟨_, _, _, hrr⟩), k + cut (f + k) fz, by omega, hc1, k2⟩ : KeepsFrom y5.heap.size W (W.setCells gR ((f + k) % (N * 128)) (List.replicate (cut (f + k) fz) (.int .u8 0))) ∧ ∃ k', f + k + cut (f + k) fz = f + k' ∧ f + k + cut (f + k) fz ≤ fz ∧ EmpI w gT gR N cs bf bt2 bs2 f fz l k' (W.setCells gR ((f + k) % (N * 128)) (List.replicate (cut (f + k) fz) (.int .u8 0))))
    clear hc0 hc1 hc2 hk1 k2 k3 hf hz hb hl h1 hN hlt hk
    gi_wp2
    exact HZ.out
  case done =>
    rintro D W hD ⟨k, hk, hkl, i⟩ hK
    obtain ⟨r', q1, q2⟩ := i.rng
    have e1 : k = fz - f := by omega
    have hD' : w.heap.size ≤ D := Nat.le_trans b5.size hD
    have q3 : IsRing N fz (l.drop (fz - f)) r' := by
      rw [e1] at q2
      have := ring_turn q2 (by omega) (by rw [List.length_drop]; omega)
      rwa [show f + (fz - f) = fz by omega] at this
    clear HP
    go_wp2
    refine post_mark_end rfl hK (results_none rfl _ _ _) ?_
    refine ⟨rfl, ⟨r', q1.of_block (World.putObj_heap_other (mark_ne q1 hK)), q3⟩, ?_⟩
    exact own_fr (n := w.heap.size) (A := W) i.fr (Nat.le_refl _) (grownBy_putObj' _ D _) (fun r e => by cases e; exact ⟨hD', _, hK, rfl⟩)
end TE
end Go.Proofs.Ytkhdidhpcdlmcaa
