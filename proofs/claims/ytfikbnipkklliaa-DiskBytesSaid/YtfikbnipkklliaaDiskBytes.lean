/- DiskBytes: behind a Wake each byte is what it was when it was last flushed, or what a write since gave it: of all puts, all fates. -/
import Derived.Test.YtfikbnipkklliaaDiskSlots
import Derived.Test.YtfikbnipkklliaaDiskWorks
import Derived.Test.YtfikbnipkklliaaLawKit
import Derived.StillTailTactics
namespace Go.Proofs.Ytfikbnipkklliaa
open Go.ChangeShapes Go.WideShapes Go.ChangeAt Go.RowKit Go.Lib MM MF DM DK DN FL DW DF DU MS DC DL DO LK MY DP BL PU DY DSl
namespace DiskBytes
/-- The disk, and the lists of what may be, behind k puts. -/
structure Inv (S : St) (T : List Slot) (k : Nat) : Prop where
  on : S.on = true
  fuse : S.fuse = 0
  eight : S.fl.length = 8
  few : S.un.length ≤ k
  eights : T.length = 8
  ok : ∀ s ∈ T, SlotOk s
  may : ∀ j s, T[j]? = some s → s.L = mayOf S.fl S.un j
def T0 (m : Nat) : List Slot := [⟨m + 1, 0, 1, [.string ⟨zeros.toArray⟩], [zeros]⟩, ⟨m + 1 + 1, 0, 1, [.string ⟨zeros.toArray⟩], [zeros]⟩, ⟨m + 1 + 1 + 1, 0, 1, [.string ⟨zeros.toArray⟩], [zeros]⟩, ⟨m + 1 + 1 + 1 + 1, 0, 1, [.string ⟨zeros.toArray⟩], [zeros]⟩, ⟨m + 1 + 1 + 1 + 1 + 1, 0, 1, [.string ⟨zeros.toArray⟩], [zeros]⟩, ⟨m + 1 + 1 + 1 + 1 + 1 + 1, 0, 1, [.string ⟨zeros.toArray⟩], [zeros]⟩, ⟨m + 1 + 1 + 1 + 1 + 1 + 1 + 1, 0, 1, [.string ⟨zeros.toArray⟩], [zeros]⟩, ⟨m + 1 + 1 + 1 + 1 + 1 + 1 + 1 + 1, 0, 1, [.string ⟨zeros.toArray⟩], [zeros]⟩]
theorem inv_start (m : Nat) : Inv (fresh 8) (T0 m) 0 := by
  refine ⟨rfl, rfl, List.length_replicate, by simp [fresh], rfl, ?_, ?_⟩
  · have key : ∀ b : Nat, SlotOk ⟨b, 0, 1, [.string ⟨zeros.toArray⟩], [zeros]⟩ := fun b => ⟨rfl, by simp, by simp [maxLen], fun j hj => by
      have : j = 0 := by simpa using hj
      subst this; rfl⟩
    intro s hs
    simp only [T0, List.mem_cons, List.not_mem_nil, or_false] at hs
    rcases hs with rfl | rfl | rfl | rfl | rfl | rfl | rfl | rfl <;> exact key _
  · intro j s hs
    have hj : j < 8 := (List.getElem?_eq_some_iff.1 hs).1
    have : j = 0 ∨ j = 1 ∨ j = 2 ∨ j = 3 ∨ j = 4 ∨ j = 5 ∨ j = 6 ∨ j = 7 := by omega
    rcases this with rfl | rfl | rfl | rfl | rfl | rfl | rfl | rfl <;> (injection hs with hs; subst hs; rfl)
theorem inv_read {S : St} {T : List Slot} {k q : Nat} (h : Inv S T k) (hq : q < 8) (l : List UInt8) (hl : l.length = 128) :
    writeE S q l = 0 ∧ refuse (writeS S q l) q = 0 ∧ readT (writeS S q l) q = l := by
  have hr : refuse S q = 0 := refuse_in h.on (by omega) (by rw [h.eight]; omega)
  have hop : opOk S = true := by unfold opOk; rw [h.fuse]; rfl
  have ho : opS S = S := by unfold opS; rw [if_pos h.fuse]
  have e : writeS S q l = { S with un := S.un ++ [(q, l)] } := by unfold writeS; rw [if_neg (by simp [hr]), if_neg (by simp [hl]), if_pos hop, ho]; rfl
  have hr2 : refuse (writeS S q l) q = 0 := by rw [e]; exact refuse_in h.on (by omega) (by show (q : Int) < S.fl.length; rw [h.eight]; omega)
  refine ⟨by unfold writeE; rw [if_neg (by simp [hr]), if_neg (by simp [hl]), if_pos hop], hr2, ?_⟩
  · unfold readT
    rw [if_pos hr2, Int.toNat_natCast, e]
    show (nowOf S.fl (S.un ++ [(q, l)])).getD q [] = l
    rw [nowOf_snoc, List.getD_eq_getElem?_getD, List.getElem?_set_self (by have e := St.now_length S; rw [h.eight] at e; show q < S.now.length; omega)]
    rfl
theorem inv_write {S : St} {T : List Slot} {k q : Nat} (h : Inv S T k) (hq : q < 8) (l : List UInt8) (hl : l.length = 128) (t s : Slot) (ht : T[q]? = some t) (hs : SlotOk s) (hsL : s.L = t.L ++ [l]) :
    Inv (writeS S q l) (T.set q s) (k + 1) := by
  have hr : refuse S q = 0 := refuse_in h.on (by omega) (by rw [h.eight]; omega)
  have hop : opOk S = true := by unfold opOk; rw [h.fuse]; rfl
  have ho : opS S = S := by unfold opS; rw [if_pos h.fuse]
  have e : writeS S q l = { S with un := S.un ++ [(q, l)] } := by unfold writeS; rw [if_neg (by simp [hr]), if_neg (by simp [hl]), if_pos hop, ho]; rfl
  rw [e]
  refine ⟨h.on, h.fuse, h.eight, by have := h.few; simp; omega, by rw [List.length_set]; exact h.eights, ?_, ?_⟩
  · intro x hx
    rcases List.mem_or_eq_of_mem_set hx with hx | rfl
    · exact h.ok x hx
    · exact hs
  · intro j x hx
    by_cases hj : j = q
    · subst hj
      rw [List.getElem?_set_self (by rw [h.eights]; exact hq)] at hx
      injection hx with hx
      subst hx
      show s.L = mayOf S.fl (S.un ++ [(j, l)]) j
      rw [may_write_at, hsL, h.may j t ht]
    · rw [List.getElem?_set_ne (Ne.symm hj)] at hx
      show x.L = mayOf S.fl (S.un ++ [(q, l)]) j
      rw [may_write_off _ _ _ _ _ hj, h.may j x hx]
theorem inv_pos {S : St} {T : List Slot} {k : Nat} (h : Inv S T k) (s : Slot) (hs : s ∈ T) : 0 < s.L.length ∧ s.L.length ≤ k + 1 := by
  obtain ⟨j, hj, rfl⟩ := List.getElem_of_mem hs
  rw [h.may j _ (List.getElem?_eq_getElem hj)]
  exact ⟨may_pos _ _ _, Nat.le_trans (may_len _ _ _) (by have := h.few; omega)⟩
theorem inv_flush {S : St} {T : List Slot} {k : Nat} (h : Inv S T k) : flushE S = 0 ∧ Inv (flushS S) (T.map cutS) k := by
  have hop : opOk S = true := by unfold opOk; rw [h.fuse]; rfl
  have ho : opS S = S := by unfold opS; rw [if_pos h.fuse]
  have e : flushS S = { S with fl := S.now, un := [] } := by unfold flushS; rw [if_pos h.on, if_pos hop, ho]
  refine ⟨by unfold flushE; rw [if_pos ⟨h.on, hop⟩], ?_⟩
  rw [e]
  refine ⟨h.on, h.fuse, by show S.now.length = 8; rw [St.now_length, h.eight], by simp, by rw [List.length_map]; exact h.eights, ?_, ?_⟩
  · intro x hx
    obtain ⟨s, hs, rfl⟩ := List.mem_map.1 hx
    exact cut_ok (h.ok s hs) (inv_pos h s hs).1
  · intro j x hx
    rw [List.getElem?_map] at hx
    obtain ⟨s, hs, rfl⟩ := Option.map_eq_some_iff.1 hx
    have hj : j < 8 := by have := (List.getElem?_eq_some_iff.1 hs).1; rw [h.eights] at this; exact this
    show s.L.drop (s.L.length - 1) = mayOf (nowOf S.fl S.un) [] j
    rw [h.may j s hs, may_flush _ _ _ (by rw [h.eight]; exact hj)]
def cutTo (T : List Slot) (j : Nat) : List Slot := (T.take j).map cutS ++ T.drop j
theorem cutTo_at {T : List Slot} {j : Nat} (hj : j < T.length) : (slotVs (cutTo T j))[j]? = some (slotV T[j]) := by
  unfold slotVs cutTo
  rw [List.map_append, List.getElem?_append_right (by simp; omega), List.getElem?_map]
  simp only [List.length_map, List.length_take]
  rw [show j - min j T.length = 0 by omega, List.getElem?_drop, Nat.add_zero, List.getElem?_eq_getElem hj]
  rfl
theorem cutTo_step {T : List Slot} {j : Nat} (hj : j < T.length) : (slotVs (cutTo T j)).set j (slotV (cutS T[j])) = slotVs (cutTo T (j + 1)) := by
  unfold slotVs cutTo
  have hl : (((T.take j).map cutS).map slotV).length = j := by simp; omega
  rw [List.map_append, List.set_append_right _ _ (by omega), hl, Nat.sub_self, List.drop_eq_getElem_cons hj, List.map_cons, List.set_cons_zero, List.take_succ_eq_append_getElem hj, List.map_append, List.map_append, List.map_append, List.append_assoc]
  rfl
theorem cutTo_end {T : List Slot} (h : T.length = 8) : cutTo T 8 = T.map cutS := by
  unfold cutTo
  rw [List.take_of_length_le (by omega), List.drop_eq_nil_of_le (by omega), List.append_nil]
theorem bls_cut (B : Nat) (T : List Slot) : bls B (T.map cutS) = bls B T := by
  unfold bls
  rw [List.map_map]
  rfl
theorem slotVs_set (T : List Slot) (q : Nat) (s : Slot) : (slotVs T).set q (slotV s) = slotVs (T.set q s) := by unfold slotVs; rw [List.map_set]
theorem start_all {w w1 : World} {g : Nat} (o1 : All w w1 [Di w.heap.size g (fresh 8)]) (ZC : List Value) : All w ((((((((((w1.alloc (.cells ZC.toArray 5)).alloc (.cells #[.string ⟨zeros.toArray⟩] 9)).alloc (.cells #[.string ⟨zeros.toArray⟩] 9)).alloc (.cells #[.string ⟨zeros.toArray⟩] 9)).alloc (.cells #[.string ⟨zeros.toArray⟩] 9)).alloc (.cells #[.string ⟨zeros.toArray⟩] 9)).alloc (.cells #[.string ⟨zeros.toArray⟩] 9)).alloc (.cells #[.string ⟨zeros.toArray⟩] 9)).alloc (.cells #[.string ⟨zeros.toArray⟩] 9)).alloc (.cells #[.slice (some ⟨w1.heap.size + 1, 0, none⟩) 1 1, .slice (some ⟨w1.heap.size + 1 + 1, 0, none⟩) 1 1, .slice (some ⟨w1.heap.size + 1 + 1 + 1, 0, none⟩) 1 1, .slice (some ⟨w1.heap.size + 1 + 1 + 1 + 1, 0, none⟩) 1 1, .slice (some ⟨w1.heap.size + 1 + 1 + 1 + 1 + 1, 0, none⟩) 1 1, .slice (some ⟨w1.heap.size + 1 + 1 + 1 + 1 + 1 + 1, 0, none⟩) 1 1, .slice (some ⟨w1.heap.size + 1 + 1 + 1 + 1 + 1 + 1 + 1, 0, none⟩) 1 1, .slice (some ⟨w1.heap.size + 1 + 1 + 1 + 1 + 1 + 1 + 1 + 1, 0, none⟩) 1 1] 38)) ([Di w.heap.size g (fresh 8), Bl w.heap.size (w1.heap.size + 1 + 1 + 1 + 1 + 1 + 1 + 1 + 1 + 1) 38 (slotVs (T0 w1.heap.size))] ++ bls w.heap.size (T0 w1.heap.size)) := by
  have p := bl_new (bl_new (bl_new (bl_new (bl_new (bl_new (bl_new (bl_new (bl_new (o1.alloc (.cells ZC.toArray 5)) 9 [.string ⟨zeros.toArray⟩]) 9 [.string ⟨zeros.toArray⟩]) 9 [.string ⟨zeros.toArray⟩]) 9 [.string ⟨zeros.toArray⟩]) 9 [.string ⟨zeros.toArray⟩]) 9 [.string ⟨zeros.toArray⟩]) 9 [.string ⟨zeros.toArray⟩]) 9 [.string ⟨zeros.toArray⟩]) 38 (slotVs (T0 w1.heap.size))
  simp only [World.size_alloc] at p
  refine All.perm p ?_
  refine (List.reverse_perm _).symm.trans ?_
  exact (List.perm_append_comm (l₁ := bls w.heap.size (T0 w1.heap.size)) (l₂ := [Bl w.heap.size (w1.heap.size + 1 + 1 + 1 + 1 + 1 + 1 + 1 + 1 + 1) 38 (slotVs (T0 w1.heap.size))])).append_left [Di w.heap.size g (fresh 8)]
/-- Fates that are cut. -/
theorem src_take {w : World} {A : Option Addr} {cap : Nat} {cs : List UInt8} (h : MS.Src w (.slice A cs.length cap) cs) (m : Nat) : MS.Src w (.slice A (cs.take m).length cap) (cs.take m) := by
  rcases h with ⟨rfl, _⟩ | ⟨h0, b, off, cap', hv, h1, h2, h3, h4⟩
  · exact .inl ⟨by simp, A, cap, by simp⟩
  · injection hv with e1 _ e3
    subst e1 e3
    rcases Nat.eq_zero_or_pos m with hm | hm
    · subst hm
      exact .inl ⟨by simp, some ⟨b, off, none⟩, cap, by simp⟩
    · refine .inr ⟨by rw [List.length_take]; omega, b, off, _, rfl, by rw [List.length_take]; omega, h2, h3, fun i hi => ?_⟩
      rw [List.length_take] at hi
      rw [h4 i (by omega), List.getElem_take]
theorem src_cap {w : World} {A : Option Addr} {cap : Nat} {cs : List UInt8} (h : MS.Src w (.slice A cs.length cap) cs) : cs.length ≤ cap := by
  rcases h with ⟨rfl, _⟩ | ⟨h0, b, off, cap', hv, h1, _⟩
  · simp
  · injection hv with _ _ e3
    omega
/-- Has one of the first m strings this byte there? -/
def isTo (L : List (List UInt8)) (i : Nat) (c : UInt8) : Nat → Bool
  | 0 => false
  | m + 1 => isTo L i c m || ((L.getD m []).getD i 0 == c)
theorem isTo_hit (L : List (List UInt8)) (i : Nat) (c : UInt8) (n : Nat) (h : (L.getD n []).getD i 0 = c) : ∀ m, n < m → isTo L i c m = true
  | 0, hm => absurd hm (Nat.not_lt_zero _)
  | m + 1, hm => by
    rw [isTo, Bool.or_eq_true]
    by_cases e : n = m
    · subst e; exact .inr (by rw [beq_iff_eq]; exact h)
    · exact .inl (isTo_hit L i c n h m (by omega))
theorem read_at {F : List (List UInt8)} {fuse : Nat} (j : Nat) (hj : j < F.length) : refuse ⟨F, [], true, fuse⟩ j = 0 ∧ readT ⟨F, [], true, fuse⟩ j = F.getD j [] := by
  have hr : refuse ⟨F, [], true, fuse⟩ j = 0 := refuse_in rfl (by omega) (by show (j : Int) < F.length; omega)
  exact ⟨hr, by unfold readT; rw [if_pos hr, Int.toNat_natCast]; rfl⟩
theorem index_walk (s : List UInt8) (k : Nat) (hk : k < s.length) (w : World) :
    (Instr.index 9 (.string ⟨s.toArray⟩) (.int .i64 k)).run Try.prog w = .ok (.int .u8 (s[k]).toNat) w := by
  simp [go_sem, hk]
  rfl
theorem cut_run (b off n cap : Nat) (h0 : 0 < n) (h1 : n ≤ cap) (w : World) : (Instr.slice 37 (.slice (some ⟨b, off, none⟩) n cap) (some (.int .i64 ((n : Int) - 1))) none none).run Try.prog w = .ok (.slice (some ⟨b, off + (n - 1), none⟩) 1 (cap - (n - 1))) w := by
  have hz : (sizeOf (Try.prog.elem 37)).run Try.prog w = .ok 1 w := by kernel_rfl
  rw [run_slice_l (P := Try.prog) w 37 (some ⟨b, off, none⟩) n cap (by kernel_rfl) .i64 ((n : Int) - 1) (by omega) (by omega), hz]
  simp only [Result.andThen_ok, sliced]
  rw [show ((n : Int) - 1).toNat = n - 1 by omega, if_neg (by omega)]
  simp [PU.add_plain]
  omega
theorem wpList_append_run {P : Program} {ops : Array Oper} {rest : List Oper} {o : Oper} {a : Act} {w w' : World} {Q : Exit → Act → World → Prop} (hgd : o.guard = none) (s x : Operand) (t tx : TypeId)
    (ho : o.op = .call { callee := .builtin .append, args := #[s, x], argTypes := #[t, tx] }) (v xv v' : Value) (hv : a.eval s = v) (hx : a.eval x = xv) (hrun : (Builtin.append_ #[t, tx] o.type #[v, xv]).run P w = .ok v' w') (hK : wpList P ops Q rest (a.put o.dst v') w') : wpList P ops Q (o :: rest) a w := by
  refine wpList_plain hgd fun K hK' => ?_
  unfold Oper.wp
  simp [execOp, ho, resolve, invoke, builtin, hv, hx, hrun, Result.andThen]
  exact hK' _ _ hK
def Rel2 (w : World) (g gm n : Nat) (x : Value) (wr : World) : Prop := ∃ (k : Nat) (S : St) (T : List Slot), k ≤ n ∧ k ≤ 40 ∧ x = .int .i64 k ∧ Inv S T k ∧ All w wr ([Di w.heap.size g S, Bl w.heap.size gm 38 (slotVs T)] ++ bls w.heap.size T)
set_option maxRecDepth 100000 in
set_option maxHeartbeats 8000000 in
theorem walk (A : Option Addr) (cap : Nat) (l : List Put) (v : Value) (cs : List UInt8) (w : World) (hl : Reads w w.heap.size A l) (hlc : l.length ≤ 9223372036854775807) (hs : MS.Src w v cs) (hcs : cs.length ≤ 9223372036854775807) :
    Calls Try.prog 4 #[.slice A l.length cap, v] w fun e w' => e = .returned (.bool true) ∧ Below w.heap.size w w' := by
  obtain ⟨Af, capf, rfl⟩ := src_form hs
  have hmk := make_bytes
  obtain ⟨ZC, hZ⟩ : ∃ ZC, ZC = Go.Lib.byteCells zeros := ⟨_, rfl⟩
  rw [← hZ] at hmk
  have hzt := DO.zeros_text ZC hZ
  have HL := Lib.hid hl
  have HS := Lib.hid hs
  clear hZ hl hs
  go_enter Try.func4, Try.ntmps4
  go_wp2_with fail
  refine (di_new (All.start w) 8 _ rfl (by omega) (by omega)).mono ?_
  rintro e w1 ⟨g, rfl, o1⟩
  go_wp2
  have HST := Lib.hid (start_all o1 ZC)
  have HI0 := Lib.hid (inv_start w1.heap.size)
  generalize T0 w1.heap.size = TT at *
  generalize w1.heap.size + 1 + 1 + 1 + 1 + 1 + 1 + 1 + 1 + 1 = gm at *
  go_loopw [8, 9, 10, 11] (fun x _ _ _ wr => Rel2 w g gm l.length x wr) (fun x _ _ _ _ => 40 - (RowKit.intOf x).toNat)
  case atStart => exact ⟨0, fresh 8, TT, by omega, by omega, rfl, HI0.out, HST.out⟩
  case round =>
    obtain ⟨k, S, T, hkn, hk40, rfl, hI, hA⟩ := hrel
    clear HST HI0 o1
    by_cases hgo : k < l.length ∧ k < 40
    · obtain ⟨hkl, hk4⟩ := hgo
      obtain ⟨b, off, rfl, hblt, hat⟩ := HL.out (by omega)
      have hk4I : decide ((k : Int) < 40) = true := by simp; omega
      obtain ⟨x, hx⟩ : ∃ x, l[k]? = some x := ⟨_, List.getElem?_eq_getElem hkl⟩
      obtain ⟨d0, d1, d2⟩ := hat k x hx
      have hbc := fun (W : World) (hB : Below w.heap.size w W) (j : Nat) => hB.cell (p := ⟨b, off + k * 3 + j, none⟩) hblt
      have d0r : wr.cell? ⟨b, off + k * 3, none⟩ = _ := (hbc wr hA.under 0).trans d0
      have d1r : wr.cell? ⟨b, off + k * 3 + 1, none⟩ = _ := (hbc wr hA.under 1).trans d1
      have HBC := Lib.hid hbc
      have D2 := Lib.hid d2
      have hq8 : x.at'.toNat % 8 < 8 := Nat.mod_lt _ (by omega)
      have hq : (x.at'.toNat : Int) % 8 = ((x.at'.toNat % 8 : Nat) : Int) := by omega
      clear hat hx hbc d0 d1 d2
      generalize x.at'.toNat % 8 = q at *
      have hqI : (q : Int) < 8 := by omega
      have hq0 : (0 : Int) ≤ q := by omega
      have hqT : q < T.length := by rw [hI.eights]; exact hq8
      go_wp2_with fail
      refine (sector_walk x.letter false _).mono ?_
      rintro e w3 ⟨rfl, b3⟩
      have hA3 := Lib.hid (hA.below b3)
      have hL : (sectS x.letter false).length = 128 := by simp [sectS, sectB_length]
      generalize sectS x.letter false = L at *
      have hfew : S.un.length < 1000000000 := by have := hI.few; omega
      have HLL := Lib.hid hL
      have HW := Lib.hid (fun s (h1 : SlotOk s) (h2 : s.L = (T[q]'hqT).L ++ [L]) => inv_write hI hq8 L hL (T[q]'hqT) s (List.getElem?_eq_getElem hqT) h1 h2)
      obtain ⟨y1, y2, y3⟩ := inv_read hI hq8 L hL
      have hsok := hI.ok (T[q]'hqT) (List.getElem_mem hqT)
      obtain ⟨hs1, hs2⟩ := inv_pos hI (T[q]'hqT) (List.getElem_mem hqT)
      have hT8 := hI.eights
      have Y1 := Lib.hid y1
      have Y2 := Lib.hid y2
      have Y3 := Lib.hid y3
      clear hA b3 hL d0r d1r y1 y2 y3 hI
      go_wp2_with fail
      refine (di_write hA3.out _ _ hfew).mono ?_
      rintro e w5 ⟨rfl, h5⟩
      rw [Y1.out]
      generalize writeS S q L = S' at *
      go_wp2_with fail
      refine (di_reads h5 q L Y2.out Y3.out).mono ?_
      rintro e wz ⟨rfl, rfl⟩
      have h6 := h5
      have h7 : All w (w5.alloc (.cells #[.string ⟨L.toArray⟩] 9)) ([Di w.heap.size g S', Bl w.heap.size gm 38 (slotVs T)] ++ bls w.heap.size T) := h6.alloc _
      have hnewc : (w5.alloc (.cells #[.string ⟨L.toArray⟩] 9)).cell? ⟨w5.heap.size, 0, none⟩ = some (.string ⟨L.toArray⟩) := Has.cell (show Has (w5.alloc (.cells #[.string ⟨L.toArray⟩] 9)) w5.heap.size 9 [.string ⟨L.toArray⟩] from heap_alloc_new w5 _) 0
      obtain ⟨s', w8, hrun, hok', hL', p8⟩ := app (bls_pick hqT h7) hsok L w5.heap.size 1 hnewc (by omega) 37
      have HINV := Lib.hid (HW.out s' hok' hL')
      have gcell := (all_has (g := gm) (t := 38) (cs := slotVs T) h6 (by simp)).cell q
      have gcell8 := (all_has (g := gm) (t := 38) (cs := slotVs T) p8 (by simp)).cell q
      have gfree8 := (all_has (g := gm) (t := 38) (cs := slotVs T) p8 (by simp)).free q
      have hsv : (slotVs T)[q]? = some (slotV (T[q]'hqT)) := by unfold slotVs; rw [List.getElem?_map, List.getElem?_eq_getElem hqT]; rfl
      rw [hsv] at gcell gcell8
      have p9 := bls_put (w0 := w) (Ps := [Di w.heap.size g S', Bl w.heap.size gm 38 ((slotVs T).set q (slotV s'))]) hqT s' (all_third_back (bl_put (all_third p8) q (slotV s')))
      have p9' : All w (w8.setCell ⟨gm, q, none⟩ (slotV s')) ([Di w.heap.size g S', Bl w.heap.size gm 38 (slotVs (T.set q s'))] ++ bls w.heap.size (T.set q s')) := by rw [← slotVs_set]; exact p9
      have P9 := Lib.hid p9'
      have hT9 : (T.set q s').length = 8 := by rw [List.length_set]; exact hT8
      generalize T.set q s' = T' at *
      unfold slotV at hrun gcell gcell8
      have P9b := Lib.hid (show All w (w8.setCell ⟨gm, q, none⟩ (.slice (some ⟨s'.b, s'.off, none⟩) s'.L.length s'.cap)) ([Di w.heap.size g S', Bl w.heap.size gm 38 (slotVs T')] ++ bls w.heap.size T') from P9.out)
      clear p9 p9' P9 p8 h7 h6 h5 hA3 hsv HW hok' hL' hsok Y1 Y2 Y3
      generalize s'.b = nb at *
      generalize s'.off = no at *
      generalize s'.L.length = nn at *
      generalize s'.cap = nc at *
      generalize (T[q]'hqT).b = ob at *
      generalize (T[q]'hqT).off = oo at *
      generalize (T[q]'hqT).L.length = on at *
      generalize (T[q]'hqT).cap = oc at *
      have hbl8 : Below w.heap.size w (w8.setCell ⟨gm, q, none⟩ (.slice (some ⟨nb, no, none⟩) nn nc)) := P9b.out.under
      have d2 : (w8.setCell ⟨gm, q, none⟩ (.slice (some ⟨nb, no, none⟩) nn nc)).cell? ⟨b, off + k * 3 + 2, none⟩ = some (.bool x.flush) := (HBC.out _ hbl8 2).trans D2.out
      clear hbl8
      have HRUN := Lib.hid hrun
      clear hrun
      cases hfl : x.flush with
      | false =>
        rw [hfl] at d2
        clear hfl
        go_wp2_with (refine wpList_append_run rfl (.tmp 78) (.tmp 80) 37 37 rfl _ _ _ rfl rfl HRUN.out ?_)
        go_roundw
        case rel => exact ⟨k + 1, S', T', by omega, by omega, by go_num, HINV.out, P9b.out⟩
        case measure => simp [RowKit.intOf]; omega
      | true =>
        rw [hfl] at d2
        clear hfl
        obtain ⟨z1, z2⟩ := inv_flush HINV.out
        have Z1 := Lib.hid z1
        have Z2 := Lib.hid z2
        clear z1 z2
        go_wp2_with (refine wpList_append_run rfl (.tmp 78) (.tmp 80) 37 37 rfl _ _ _ rfl rfl HRUN.out ?_)
        refine (di_flush P9b.out).mono ?_
        rintro e w9 ⟨rfl, h9⟩
        rw [Z1.out]
        generalize flushS S' = S2 at *
        have H9 := Lib.hid (show All w w9 ([Di w.heap.size g S2, Bl w.heap.size gm 38 (slotVs (cutTo T' 0))] ++ bls w.heap.size T') from h9)
        clear h9
        go_wp2
        go_loopw [11] (fun y wy => ∃ j : Nat, j ≤ 8 ∧ y = .int .i64 j ∧ All w wy ([Di w.heap.size g S2, Bl w.heap.size gm 38 (slotVs (cutTo T' j))] ++ bls w.heap.size T')) (fun y _ => 8 - (RowKit.intOf y).toNat)
        case atStart => exact ⟨0, by omega, rfl, H9.out⟩
        case round =>
          obtain ⟨j, hj, rfl, hA⟩ := hrel
          by_cases hlt : j < 8
          · have hjT : j < T'.length := by omega
            have ha := all_has (g := gm) (t := 38) (cs := slotVs (cutTo T' j)) hA (by simp)
            have hcell := (ha.cell j).trans (cutTo_at hjT)
            have hfree := ha.free j
            have hfreed : wr.drew.frozen? ⟨gm, j, none⟩ = false := hfree
            have hp := All.swap (bl_put (All.swap hA.drew) j (slotV (cutS (T'[j]'hjT))))
            have hp2 : All w (wr.drew.setCell ⟨gm, j, none⟩ (slotV (cutS (T'[j]'hjT)))) ([Di w.heap.size g S2, Bl w.heap.size gm 38 (slotVs (cutTo T' (j + 1)))] ++ bls w.heap.size T') := by rw [← cutTo_step hjT]; exact hp
            obtain ⟨hp0, hpn⟩ := inv_pos HINV.out (T'[j]'hjT) (List.getElem_mem hjT)
            have hcap := (HINV.out.ok (T'[j]'hjT) (List.getElem_mem hjT)).le
            rw [cut_V hp0] at hp2
            unfold slotV at hcell
            have hcelld : wr.drew.cell? ⟨gm, j, none⟩ = _ := hcell
            have HP := Lib.hid hp2
            clear hp hp2 ha hA
            generalize (T'[j]'hjT).b = ob2 at *
            generalize (T'[j]'hjT).off = oo2 at *
            generalize (T'[j]'hjT).L.length = on2 at *
            generalize (T'[j]'hjT).cap = oc2 at *
            have hcr := cut_run ob2 oo2 on2 oc2 hp0 hcap
            have hw64 : IntKind.i64.wrap ((on2 : Int) - 1) = (on2 : Int) - 1 := by simp [IntKind.wrap, IntKind.bits, IntKind.signed]; omega
            have hnn0 : (0 : Int) ≤ (on2 : Int) - 1 := by omega
            have hnn1 : (on2 : Int) - 1 ≤ on2 := by omega
            go_wp2_with fail
            go_still_tail 11, (by kernel_rfl)
            change wpList _ _ _ _ _ wr.drew
            clear hcell hfree
            generalize wr.drew = wd at *
            go_wp2
            go_roundw
            case rel => exact ⟨j + 1, by omega, by go_num, HP.out⟩
            case measure => simp [RowKit.intOf]; omega
          · have hj8 : j = 8 := by omega
            have hA2 : All w wr ([Di w.heap.size g S2, Bl w.heap.size gm 38 (slotVs (T'.map cutS))] ++ bls w.heap.size (T'.map cutS)) := by
              rw [bls_cut, ← cutTo_end hT9, ← hj8]; exact hA
            have HA2 := Lib.hid hA2
            clear hA hA2 hj8
            go_wp2
            go_roundw
            case rel => exact ⟨k + 1, S2, T'.map cutS, by omega, by omega, by go_num, Z2.out, HA2.out⟩
            case measure => simp [RowKit.intOf]; omega
    · have hok := di_ok hA
      have hT8 := hI.eights
      have hex : (l.length ≤ k ∧ decide ((k : Int) < (l.length : Int)) = false) ∨ (k < l.length ∧ decide ((k : Int) < (l.length : Int)) = true ∧ 40 ≤ k ∧ decide ((k : Int) < 40) = false) := by
        rcases Nat.lt_or_ge k l.length with h | h
        · exact .inr ⟨h, by simp; omega, by omega, by simp; omega⟩
        · exact .inl ⟨h, by simp; omega⟩
      have hcut := src_take HS.out 80
      have hmin : (cs.take 80).length = min cs.length 80 := by rw [List.length_take]; omega
      have hF8 : (woken S.fl S.un (cs.take 80)).length = 8 := by unfold woken; rw [wokenTo_length]; exact hI.eight
      have hbyte := fun (j i : Nat) (hj : j < 8) (hi : i < 128) => may_byte S.fl S.un (cs.take 80) hok.1 hok.2.1 j i (by rw [hI.eight]; exact hj) hi
      have hmay := hI.may
      have hsl := hI.ok
      have hrows := fun (j : Nat) (hj : j < 8) => may_rows S.fl S.un hok.1 (fun x hx => (hok.2.1 x hx).2) j (by rw [hI.eight]; exact hj)
      have hsh := fun (s : Slot) (hs : s ∈ T) => (inv_pos hI s hs).2
      have hw3 : wakeS { S with on := false, fuse := 0 } (cs.take 80) = ⟨woken S.fl S.un (cs.take 80), [], true, 0⟩ := by unfold wakeS; rw [if_neg (by simp)]
      generalize woken S.fl S.un (cs.take 80) = F at *
      have hcl : (cs.take 80).length ≤ 9223372036854775807 := by rw [hmin]; omega
      generalize cs.take 80 = cc at *
      have HCUT := Lib.hid hcut
      have HMIN := Lib.hid hmin
      have HF8 := Lib.hid hF8
      have HBYTE := Lib.hid hbyte
      have HMAY := Lib.hid hmay
      have HSL := Lib.hid hsl
      have HROWS := Lib.hid hrows
      have HSH := Lib.hid hsh
      have HW3 := Lib.hid hw3
      have HT8 := Lib.hid hT8
      clear hcut hmin hF8 hbyte hmay hsl hrows hw3 hsh hok hgo hI hT8
      rcases hex with ⟨hx1, hx2⟩ | ⟨hx1, hx2, hx3, hx4⟩
      all_goals
        go_wp2_with fail
        refine (di_off hA).mono ?_
        rintro e w7 ⟨rfl, a6⟩
        clear hA
        have hm0 : (0 : Int) ≤ min (cs.length : Int) 80 := by omega
        have hm1 : min (cs.length : Int) 80 ≤ (capf : Int) := by have := src_cap HS.out; omega
        have hm2 : (min (cs.length : Int) 80).toNat = cc.length := by rw [HMIN.out]; omega
        go_wp2_with fail
        clear hm0 hm1 hm2
        refine (di_wake_old a6 _ cc hcl HCUT.out).mono ?_
        rintro e w8 ⟨rfl, a8⟩
        rw [HW3.out] at a8
        have A8 := Lib.hid (show All w w8 ([Di w.heap.size g ⟨F, [], true, 0⟩, Bl w.heap.size gm 38 (slotVs T)] ++ bls w.heap.size T) from a8)
        have HR := Lib.hid (fun (j : Nat) (hj : j < 8) => read_at (F := F) (fuse := 0) j (by have := HF8.out; omega))
        have HFR := Lib.hid ((di_ok a8).1)
        clear a6 a8
        go_wp2
        go_loopw [12, 13, 14, 15, 16, 17] (fun x _ _ _ _ _ wy => ∃ j : Nat, j ≤ 8 ∧ x = .int .i64 j ∧ All w wy ([Di w.heap.size g ⟨F, [], true, 0⟩, Bl w.heap.size gm 38 (slotVs T)] ++ bls w.heap.size T)) (fun x _ _ _ _ _ _ => 8 - (RowKit.intOf x).toNat)
        case atStart => exact ⟨0, by omega, rfl, A8.out⟩
        case round =>
          obtain ⟨j, hj, rfl, hA⟩ := hrel
          by_cases hlt : j < 8
          · obtain ⟨r1, r2⟩ := HR.out j hlt
            have HRD := Lib.hid (di_read hA j)
            rw [r1, r2] at HRD
            have hjT : j < T.length := by have := HT8.out; omega
            have hsl : (F.getD j []).length = 128 := HFR.out _ (by rw [List.getD_eq_getElem?_getD, List.getElem?_eq_getElem (by have := HF8.out; omega)]; exact List.getElem_mem _)
            have HB := Lib.hid (fun i hi => HBYTE.out j i hlt hi)
            have hLe := HMAY.out j (T[j]'hjT) (List.getElem?_eq_getElem hjT)
            rw [← hLe] at HB
            have HRW := Lib.hid (HROWS.out j hlt)
            rw [← hLe] at HRW
            have HSK := Lib.hid (HSL.out (T[j]'hjT) (List.getElem_mem hjT))
            have hshort := HSH.out (T[j]'hjT) (List.getElem_mem hjT)
            have hsv : (slotVs T)[j]? = some (slotV (T[j]'hjT)) := by unfold slotVs; rw [List.getElem?_map, List.getElem?_eq_getElem hjT]; rfl
            have HGM := Lib.hid (fun (wy : World) (h : All w wy ([Di w.heap.size g ⟨F, [], true, 0⟩, Bl w.heap.size gm 38 (slotVs T)] ++ bls w.heap.size T)) => ((all_has (g := gm) (t := 38) (cs := slotVs T) h (by simp)).cell j).trans hsv)
            have HEL := Lib.hid (fun (wy : World) (h : All w wy ([Di w.heap.size g ⟨F, [], true, 0⟩, Bl w.heap.size gm 38 (slotVs T)] ++ bls w.heap.size T)) (m : Nat) (hm : m < (T[j]'hjT).L.length) => ((all_has (g := (T[j]'hjT).b) (t := 9) (cs := (T[j]'hjT).cs) h (List.mem_append_right _ (List.mem_map.2 ⟨_, List.getElem_mem hjT, rfl⟩))).cell ((T[j]'hjT).off + m)).trans ((HSK.out.at' m hm)))
            unfold slotV at HGM
            have HA := Lib.hid hA
            clear hA hsv hLe r1 r2
            generalize F.getD j [] = s at *
            go_wp2_with fail
            refine HRD.out.mono ?_
            rintro e wz ⟨rfl, rfl⟩
            generalize (T[j]'hjT).b = tb at *
            generalize (T[j]'hjT).off = to at *
            generalize (T[j]'hjT).cap = tc at *
            generalize (T[j]'hjT).L = LL at *
            go_wp2
            go_loopw [15, 16, 17] (fun x _ _ wy => ∃ i : Nat, i ≤ 128 ∧ x = .int .i64 i ∧ All w wy ([Di w.heap.size g ⟨F, [], true, 0⟩, Bl w.heap.size gm 38 (slotVs T)] ++ bls w.heap.size T)) (fun x _ _ _ => 128 - (RowKit.intOf x).toNat)
            case atStart => exact ⟨0, by omega, rfl, HA.out⟩
            case round =>
              obtain ⟨i, hi, rfl, hA⟩ := hrel
              by_cases hi1 : i < 128
              · have HA2 := Lib.hid hA
                have hin : i < s.length := by omega
                have hix := index_walk s i hin
                have hsg : s[i] = s.getD i 0 := by simp [hin]
                rw [hsg] at hix
                have HBI := Lib.hid (HB.out i hi1)
                generalize s.getD i 0 = c at *
                clear hA hsg
                go_wp2
                go_loopw [16, 17] (fun y x wy => ∃ m : Nat, m ≤ LL.length ∧ x = .int .i64 m ∧ y = .bool (isTo LL i c m) ∧ All w wy ([Di w.heap.size g ⟨F, [], true, 0⟩, Bl w.heap.size gm 38 (slotVs T)] ++ bls w.heap.size T)) (fun _ x _ => LL.length - (RowKit.intOf x).toNat)
                case atStart => exact ⟨0, by omega, rfl, rfl, HA2.out⟩
                case round =>
                  obtain ⟨m, hm, rfl, rfl, hA⟩ := hrel
                  have hgm := HGM.out _ hA
                  by_cases hmn : m < LL.length
                  · have hel := HEL.out _ hA m hmn
                    have hst : (DSl.strs LL)[m]? = some (.string ⟨(LL.getD m []).toArray⟩) := by unfold DSl.strs; rw [List.getElem?_map, List.getElem?_eq_getElem hmn, List.getD_eq_getElem?_getD, List.getElem?_eq_getElem hmn]; rfl
                    rw [hst] at hel
                    have hxl : (LL.getD m []).length = 128 := HRW.out _ (by rw [List.getD_eq_getElem?_getD, List.getElem?_eq_getElem hmn]; exact List.getElem_mem _)
                    have hstep : isTo LL i c (m + 1) = (isTo LL i c m || ((LL.getD m []).getD i 0 == c)) := rfl
                    generalize LL.getD m [] = xm at *
                    have hix2 := index_walk xm i (by omega)
                    have hsg : xm[i]'(by omega) = xm.getD i 0 := by simp [show i < xm.length by omega]
                    rw [hsg] at hix2
                    have hcmp : ((((xm.getD i 0).toNat : Int)) == (c.toNat : Int)) = (xm.getD i 0 == c) := by
                      rw [Bool.eq_iff_iff, beq_iff_eq, beq_iff_eq]
                      constructor
                      · intro h; exact UInt8.toNat_inj.1 (by omega)
                      · intro h; rw [h]
                    generalize xm.getD i 0 = xc at *
                    have HSTEP := Lib.hid hstep
                    have HA3 := Lib.hid hA
                    clear hstep hA hsg hst
                    generalize (xc == c) = bq at *
                    generalize isTo LL i c m = bi at *
                    cases bi with
                    | true =>
                      go_wp2_with fail
                      go_region
                      go_wp2
                      go_roundw
                      case rel => exact ⟨m + 1, by omega, by go_num, by rw [HSTEP.out]; rfl, HA3.out.drew⟩
                      case measure => simp [RowKit.intOf]; omega
                    | false =>
                      go_wp2_with fail
                      go_region
                      go_wp2
                      go_roundw
                      case rel => exact ⟨m + 1, by omega, by go_num, by rw [HSTEP.out]; rfl, HA3.out.drew⟩
                      case measure => simp [RowKit.intOf]; omega
                  · have hyes : isTo LL i c m = true := by
                      obtain ⟨n, hn, h⟩ := HBI.out
                      exact isTo_hit LL i c n h m (by omega)
                    have HA3 := Lib.hid hA
                    clear hA
                    generalize isTo LL i c m = bi at *
                    subst hyes
                    go_wp2
                    go_roundw
                    case rel => exact ⟨i + 1, by omega, by go_num, HA3.out⟩
                    case measure => simp [RowKit.intOf]; omega
              · have HA2 := Lib.hid hA
                clear hA
                go_wp2
                go_roundw
                case rel => exact ⟨j + 1, by omega, by go_num, HA2.out⟩
                case measure => simp [RowKit.intOf]; omega
          · have HA := Lib.hid hA
            clear hA
            go_wp2_with fail
            refine (DO.works_walk _).mono ?_
            rintro e w9 ⟨rfl, b9⟩
            go_wp2
            go_ret
            exact ⟨rfl, HA.out.under.trans (b9.mono HA.out.under.size)⟩
set_option maxRecDepth 100000 in
theorem lifted (os : Os) (started : os.Started) (H : Type) (enc : TypeId × Value → H) :
    ReturnsInHanded {} Try.checked os 4 .any (Rows.diskBytesSpec.pre6 enc Try.prog Try.f4 Rows.diskBytesRow.domain false) (Rows.diskBytesSpec.post enc Try.prog Try.f4 false true false false) := by
  refine returnsInHanded_of_change (C := Try.checked) own started (by kernel_rfl) Try.func4
    (ChangeSpec.witness6 (enc := enc) (C := Try.checked) false ⟨#[], #[.slice none 0 0, .slice none 0 0], []⟩ 8 (by kernel_rfl) (by kernel_rfl) (by kernel_rfl) (by kernel_rfl)) ?_
  intro W base args ds gs before hval0 hW hcnd _
  have hval : ∀ (j : Nat) t v, Try.f4.params[j]? = some t → args[j]? = some v → Value.okWide Try.prog W .any base t v := hval0
  have hW' := hW
  obtain ⟨p, q, hA0, hV, rfl, hfz, hnd⟩ := hW
  have hA : DataW.TrodAll enc Try.prog W 0 (fun _ => true) true Try.f4.params.toList args.toList ds p := hA0
  rw [Try.params4] at hA hval
  obtain ⟨v0, vs0, d0, ds0, p0, q0, hargs, rfl, rfl, h0, r0⟩ := trodAll_cons hA
  obtain ⟨v1, vs1, d1, ds1, p1, q1, rfl, rfl, rfl, h1, r1⟩ := trodAll_cons r0
  obtain ⟨rfl, rfl, rfl⟩ := trodAll_nil r1
  obtain rfl : args = #[v0, v1] := by cases args; simp_all
  obtain ⟨rfl, rfl⟩ := trodVars_none hV
  obtain ⟨A, cap0, l, rfl, hrd, hlc, hcm⟩ := open_puts (hval 0 36 v0 rfl rfl) h0
  obtain ⟨l1, hs1, hl1⟩ := open_bytes (hval 1 30 v1 rfl rfl) h1
  clear hA0 hval0
  have hc := walk A cap0 l v1 l1 W hrd (by omega) hs1 (by unfold maxLen at hl1; omega)
  try rw [Array.toArray_toList] at hc
  refine hc.mono fun e W' ⟨he, hg⟩ => ?_
  subst he
  exact ⟨_, rfl, law_post rfl (by decide +kernel) (by kernel_rfl) rfl hW' hg⟩

theorem over : Rows.diskBytesRow.holds Try.pinned (OpenSpec.ofChange Rows.diskBytesSpec) :=
  OpenClaim.holds_of_wide 4 Try.f4 rfl rfl rfl rfl rfl rfl rfl ⟨rfl, rfl, rfl, rfl, rfl⟩ rfl rfl rfl rfl rfl (by kernel_rfl) Try.func4 (by kernel_rfl)
    (of_decide_eq_true (by kernel_rfl)) (by unfold Func.isWrapper; first | (rw [if_pos (by decide +kernel)]; kernel_rfl) | (rw [if_neg (by decide +kernel)]; exact ⟨rfl, rfl⟩))
    (fun os started H enc _ => lifted os started H enc)

theorem proved : Rows.DiskBytesSaid :=
  over
#print axioms proved
end DiskBytes
end Go.Proofs.Ytfikbnipkklliaa
