/- Slices of strings that lie behind one another's places: each a cut of a block of its own; append on one of them; one of them cut. -/
import Derived.Test.YtfikbnipkklliaaBlocks
import Derived.Test.YtfikbnipkklliaaDiskMay
import Derived.Test.YtfikbnipkklliaaDiskMany
import Derived.Test.YtfikbnipkklliaaPuts
import Derived.Deep.AppendSrc
import Derived.Deep.Upon
namespace Go.Proofs.Ytfikbnipkklliaa
open Go.RowKit Go.Lib MM MF MY BL
namespace DSl
/-- A slice of strings: the cut from off on, of the block b, whose cells are cs. -/
structure Slot where
  b : Nat
  off : Nat
  cap : Nat
  cs : List Value
  L : List (List UInt8)
def strs (L : List (List UInt8)) : List Value := L.map fun l => .string ⟨l.toArray⟩
def slotV (s : Slot) : Value := .slice (some ⟨s.b, s.off, none⟩) s.L.length s.cap
structure SlotOk (s : Slot) : Prop where
  len : s.cs.length = s.off + s.cap
  le : s.L.length ≤ s.cap
  max : s.cap ≤ maxLen
  at' : ∀ j, j < s.L.length → s.cs[s.off + j]? = (strs s.L)[j]?
theorem strs_length (L : List (List UInt8)) : (strs L).length = L.length := by simp [strs]
theorem strs_one (L : List (List UInt8)) : ∀ u ∈ strs L, u.oneCell' = true := by
  intro u hu
  obtain ⟨l, _, rfl⟩ := List.mem_map.1 hu
  rfl
theorem strInfo : (Try.prog.info? 9).map (fun i => (i.zero, i.size, i.bytes)) = some (some (.string ⟨#[]⟩), 1, 16) := by kernel_rfl
/-- A slot's last one alone. -/
def cutS (s : Slot) : Slot := ⟨s.b, s.off + (s.L.length - 1), s.cap - (s.L.length - 1), s.cs, s.L.drop (s.L.length - 1)⟩
theorem cut_ok {s : Slot} (h : SlotOk s) (h0 : 0 < s.L.length) : SlotOk (cutS s) := by
  have h1 := h.len
  have h2 := h.le
  have h3 := h.max
  refine ⟨by show s.cs.length = (s.off + (s.L.length - 1)) + (s.cap - (s.L.length - 1)); omega, by show (s.L.drop (s.L.length - 1)).length ≤ s.cap - (s.L.length - 1); rw [List.length_drop]; omega, by show s.cap - _ ≤ maxLen; omega, fun j hj => ?_⟩
  have hj' : j < (s.L.drop (s.L.length - 1)).length := hj
  rw [List.length_drop] at hj'
  show s.cs[(s.off + (s.L.length - 1)) + j]? = (strs (s.L.drop (s.L.length - 1)))[j]?
  rw [Nat.add_assoc, h.at' _ (by omega)]
  unfold strs
  rw [List.map_drop, List.getElem?_drop]
theorem cut_V {s : Slot} (h0 : 0 < s.L.length) : slotV (cutS s) = .slice (some ⟨s.b, s.off + (s.L.length - 1), none⟩) 1 (s.cap - (s.L.length - 1)) := by
  show Value.slice _ (s.L.drop (s.L.length - 1)).length _ = _
  rw [List.length_drop, show s.L.length - (s.L.length - 1) = 1 by omega]
  rfl
section
variable {w0 w w' : World} {s : Slot} {Ps : List (World → List Nat → Prop)}
/-- One string more. -/
theorem app (h : All w0 w (Bl w0.heap.size s.b 9 s.cs :: Ps)) (hs : SlotOk s) (l : List UInt8) (b1 c1 : Nat) (hb : w.cell? ⟨b1, 0, none⟩ = some (.string ⟨l.toArray⟩)) (hsm : s.L.length < 1000) (ty : TypeId) :
    ∃ s' w', (Builtin.append_ #[37, 37] ty #[slotV s, .slice (some ⟨b1, 0, none⟩) 1 c1]).run Try.prog w = .ok (slotV s') w' ∧ SlotOk s' ∧ s'.L = s.L ++ [l] ∧ All w0 w' (Bl w0.heap.size s'.b 9 s'.cs :: Ps) := by
  obtain ⟨i, hi, hz, hsz, hby⟩ := info_parts strInfo
  have hk := Try.underlying37
  have hrow := all_has (g := s.b) (t := 9) (cs := s.cs) h (by simp)
  have h1 := hs.len
  have h2 := hs.le
  have h3 := hs.max
  have hnew : ∀ W : World, W.cell? ⟨b1, 0, none⟩ = some (.string ⟨l.toArray⟩) → Go.Src Try.prog i.size 37 (.slice (some ⟨b1, 0, none⟩) 1 c1) 1 (strs [l]) W := fun W hW =>
    Go.Src.ofSlice W hk ⟨b1, 0, none⟩ 1 c1 (strs [l]) (by rw [hsz]; rfl) (fun j u hu => by
      rw [PU.add_plain]
      have hj : j < 1 := by have := (List.getElem?_eq_some_iff.1 hu).1; simpa [strs] using this
      obtain rfl : j = 0 := by omega
      have : u = .string ⟨l.toArray⟩ := by simpa [strs] using hu.symm
      rw [this]; simpa using hW) (strs_one _)
  by_cases hroom : s.L.length + 1 ≤ s.cap
  · have hlt : s.off + s.L.length < s.cs.length := by omega
    have hrun := run_append_room_src (P := Try.prog) w 37 37 ty 9 i hk hi s.b s.off s.L.length s.cap (.slice (some ⟨b1, 0, none⟩) 1 c1) 1 (strs [l]) (hnew w hb) hroom
      (fun j hj => by
        have hj0 : j = 0 := by have : (strs [l]).length = 1 := rfl; omega
        rw [hj0, hsz, Nat.mul_one, Nat.add_zero, hrow.cell, List.getElem?_eq_getElem hlt]; rfl)
      (fun j hj => hrow.free _)
    rw [hsz, Nat.mul_one] at hrun
    refine ⟨⟨s.b, s.off, s.cap, s.cs.set (s.off + s.L.length) (.string ⟨l.toArray⟩), s.L ++ [l]⟩, w.setCell ⟨s.b, s.off + s.L.length, none⟩ (.string ⟨l.toArray⟩), ?_, ?_, rfl, bl_put h _ _⟩
    · rw [show slotV s = .slice (some ⟨s.b, s.off, none⟩) s.L.length s.cap from rfl, hrun]
      unfold slotV
      simp [strs, World.setCells]
    · refine ⟨by show (s.cs.set _ _).length = _; rw [List.length_set]; exact h1, by show (s.L ++ [l]).length ≤ s.cap; simp; omega, h3, fun j hj => ?_⟩
      have hj' : j < (s.L ++ [l]).length := hj
      show (s.cs.set (s.off + s.L.length) _)[s.off + j]? = (strs (s.L ++ [l]))[j]?
      rw [List.length_append, List.length_singleton] at hj'
      by_cases hjl : j < s.L.length
      · rw [List.getElem?_set_ne (by omega), hs.at' j hjl]
        unfold strs
        rw [List.map_append, List.getElem?_append_left (by simpa using hjl)]
      · obtain rfl : j = s.L.length := by omega
        rw [List.getElem?_set_self hlt]
        unfold strs
        simp
  · have hold := Go.Src.ofSlice (P := Try.prog) (size := i.size) w.drew hk ⟨s.b, s.off, none⟩ s.L.length s.cap (strs s.L) (by rw [hsz, strs_length, Nat.mul_one]) (fun j u hu => by
      have hj : j < s.L.length := by have := (List.getElem?_eq_some_iff.1 hu).1; simpa [strs] using this
      rw [PU.add_plain]
      exact (hrow.cell _).trans ((hs.at' j hj).trans hu)) (strs_one _)
    have hrun := run_append_grow_src (P := Try.prog) w 37 37 ty 9 i _ hk hi hz (some ⟨s.b, s.off, none⟩) s.L.length s.cap (strs s.L) hold.cells (.slice (some ⟨b1, 0, none⟩) 1 c1) 1 (strs [l]) (hnew w hb) (by omega) (by omega) (growslice_fits (by omega) (by rw [hby]; omega))
    have hge := grownCap_ge w (s.L.length + 1) s.cap 9
    have hcm := grownCap_le_maxLen w (s.L.length + 1) s.cap 9 (by simp only [maxLen]; omega)
    generalize grownCap w (s.L.length + 1) s.cap 9 = nc at *
    have hzc : (Builtin.zeroCells (Value.string ⟨#[]⟩).cells (nc - (s.L.length + 1))).size = nc - (s.L.length + 1) := by rw [size_zeroCells]; show _ * 1 = _; omega
    generalize Builtin.zeroCells (Value.string ⟨#[]⟩).cells (nc - (s.L.length + 1)) = zc at *
    have ea : ((strs s.L ++ strs [l]).toArray ++ zc) = ((strs s.L ++ strs [l]) ++ zc.toList).toArray := by apply Array.ext'; simp
    rw [ea] at hrun
    have hb' := (bl_new h.tail.drew 9 ((strs s.L ++ strs [l]) ++ zc.toList))
    refine ⟨⟨w.heap.size, 0, nc, (strs s.L ++ strs [l]) ++ zc.toList, s.L ++ [l]⟩, w.drew.alloc (.cells ((strs s.L ++ strs [l]) ++ zc.toList).toArray 9), ?_, ?_, rfl, hb'⟩
    · rw [show slotV s = .slice (some ⟨s.b, s.off, none⟩) s.L.length s.cap from rfl, hrun]
      unfold slotV
      simp only [List.length_append, List.length_singleton]
    · refine ⟨?_, by show (s.L ++ [l]).length ≤ nc; simp; omega, hcm, fun j hj => ?_⟩
      · show ((strs s.L ++ strs [l]) ++ zc.toList).length = 0 + nc
        simp [strs, hzc]; omega
      · have hj' : j < (s.L ++ [l]).length := hj
        show ((strs s.L ++ strs [l]) ++ zc.toList)[0 + j]? = (strs (s.L ++ [l]))[j]?
        rw [Nat.zero_add, List.getElem?_append_left (by simp [strs] at hj' ⊢; omega)]
        unfold strs
        rw [List.map_append]
end
/-! ### Eight of them -/
theorem pick_perm {α : Type} : ∀ (l : List α) (q : Nat) (hq : q < l.length), (l[q] :: l.eraseIdx q).Perm l
  | [], _, hq => absurd hq (Nat.not_lt_zero _)
  | x :: xs, 0, _ => List.Perm.refl _
  | x :: xs, q + 1, hq => (List.Perm.swap x _ _).trans ((pick_perm xs q (by simpa using hq)).cons x)
def bls (B : Nat) (T : List Slot) : List (World → List Nat → Prop) := T.map fun s => Bl B s.b 9 s.cs
def slotVs (T : List Slot) : List Value := T.map slotV
theorem bls_pick {w0 w : World} {T : List Slot} {q : Nat} (hq : q < T.length) {Ps : List (World → List Nat → Prop)} (h : All w0 w (Ps ++ bls w0.heap.size T)) : All w0 w (Bl w0.heap.size (T[q]).b 9 (T[q]).cs :: (Ps ++ bls w0.heap.size (T.eraseIdx q))) := by
  refine h.perm ?_
  have e : (bls w0.heap.size T).Perm (Bl w0.heap.size (T[q]).b 9 (T[q]).cs :: bls w0.heap.size (T.eraseIdx q)) := ((pick_perm T q hq).symm).map (fun s : Slot => Bl w0.heap.size s.b 9 s.cs)
  exact ((e.append_left Ps)).trans List.perm_middle
theorem bls_put {w0 w : World} {T : List Slot} {q : Nat} (hq : q < T.length) {Ps : List (World → List Nat → Prop)} (s : Slot) (h : All w0 w (Bl w0.heap.size s.b 9 s.cs :: (Ps ++ bls w0.heap.size (T.eraseIdx q)))) : All w0 w (Ps ++ bls w0.heap.size (T.set q s)) := by
  refine h.perm ?_
  have hq' : q < (T.set q s).length := by rw [List.length_set]; exact hq
  have e := ((pick_perm (T.set q s) q hq').map (fun s : Slot => Bl w0.heap.size s.b 9 s.cs))
  rw [List.getElem_set_self, List.eraseIdx_set_eq] at e
  exact (List.perm_middle.symm).trans (e.append_left Ps)
end DSl
end Go.Proofs.Ytfikbnipkklliaa
