/- Entries that came in as arguments; the first ten of their operations. -/
import Derived.Test.YtkhdidhpcdlmcaaLrecLaw
import Derived.Test.YtkhdidhpcdlmcaaLawKit
namespace Go.Proofs.Ytkhdidhpcdlmcaa
set_option maxRecDepth 100000
open Go.ChangeShapes Go.WideShapes Go.ChangeAt Go.RowKit Go.Lib MM MB MS DE LM LQ LA
namespace LAr
instance : Inhabited Ro := ⟨⟨[], 0, false, []⟩⟩
section
variable {H : Type} {enc : TypeId × Value → H} {w : World} {base : Nat} {held : Bool}
theorem wf_u64 {n : Int} (h : (Lit.int .u64 n).wf = true) : 0 ≤ n ∧ n ≤ 18446744073709551615 := by simpa [Lit.wf, IntKind.min, IntKind.max, IntKind.signed, IntKind.bits] using h
theorem trod_struct3 {t : TypeId} {f0 f1 f2 : Field} {spare : Nat → Bool} {fuel : Nat} {cs : List Value} {x : DataW H × List MemPlace} (ht : Try.prog.underlying t = some (.struct #[f0, f1, f2])) (h : DataW.trod enc Try.prog w base spare held fuel t cs = some x) :
    ∃ y0 y1 y2 n, DataW.trod enc Try.prog w base spare held n f0.type ((cs.drop f0.offset).take (Try.prog.cellsOf f0.type)) = some y0 ∧ DataW.trod enc Try.prog w base spare held n f1.type ((cs.drop f1.offset).take (Try.prog.cellsOf f1.type)) = some y1 ∧ DataW.trod enc Try.prog w base spare held n f2.type ((cs.drop f2.offset).take (Try.prog.cellsOf f2.type)) = some y2 := by
  obtain ⟨xs, n, _, rfl, hl, hlen, hf⟩ := DataW.trod_struct ht h
  match xs, hlen with
  | [y0, y1, y2], _ => exact ⟨y0, y1, y2, n, by simpa using hf 0 f0 rfl, by simpa using hf 1 f1 rfl, by simpa using hf 2 f2 rfl⟩
theorem open_rec {fuel : Nat} {cs : List Value} {x : DataW H × List MemPlace} (h : DataW.trod enc Try.prog w base (fun _ => true) held fuel 57 cs = some x) (hl : cs.length = 4) : ∃ y : Ro, QO w y cs := by
  obtain ⟨y0, y1, y2, y3, n, h0, h1, h2, h3⟩ := trod_struct4 Try.underlying57 h
  match cs, hl with
  | [c0, c1, c2, c3], _ =>
      have k0 : Try.prog.cellsOf 9 = 1 := by kernel_rfl
      have k1 : Try.prog.cellsOf 30 = 1 := by kernel_rfl
      have k2 : Try.prog.cellsOf 4 = 1 := by kernel_rfl
      simp only [k0, k1, k2, List.drop_zero, List.drop_succ_cons, List.take_succ_cons, List.take_zero] at h0 h1 h2 h3
      obtain ⟨s0, e0, _, hs0⟩ := DataW.trod_string Try.underlying9 h0
      obtain ⟨m1, e1, _, hm1⟩ := DataW.trod_int Try.underlying30 h1
      obtain ⟨b2, e2, _⟩ := DataW.trod_bool Try.underlying4 h2
      obtain ⟨s3, e3, _, hs3⟩ := DataW.trod_string Try.underlying9 h3
      simp only [List.cons.injEq, and_true] at e0 e1 e2 e3
      subst e0 e1 e2 e3
      obtain ⟨l1, u1⟩ := wf_u64 hm1
      refine ⟨⟨s0.data.toList, m1.toNat, b2, s3.data.toList⟩, by rw [Array.length_toList]; exact hs0, by show m1.toNat < 18446744073709551616; omega, by rw [Array.length_toList]; exact hs3, ?_⟩
      unfold ocells
      rw [show ((m1.toNat : Nat) : Int) = m1 by omega]
theorem open_entry {v : Value} {d : DataW H} {ps : List MemPlace} {base0 : Nat} (hval : Value.okWide Try.prog w .any base0 60 v) (h : DataW.Trod enc Try.prog w 0 (fun _ => true) true 60 v d ps) : ∃ (e : En) (vo : Value), v = .agg (ecells e vo).toArray ∧ Ew w e vo := by
  obtain ⟨cs, rfl, hcs⟩ := okWide_struct Try.underlying60 hval
  rw [show Try.prog.cellsOf 60 = 3 from by kernel_rfl] at hcs
  obtain ⟨fuel, hf⟩ := h
  obtain ⟨l, hl, hcl⟩ : ∃ l : List Value, cs = l.toArray ∧ l.length = 3 := ⟨cs.toList, by simp, by simpa using hcs⟩
  subst hl
  match l, hcl with
  | [c0, c1, c2], _ =>
    simp only [Value.cells] at hf
    obtain ⟨y0, y1, y2, n, h0, h1, h2⟩ := trod_struct3 Try.underlying60 hf
    have k1 : Try.prog.cellsOf 30 = 1 := by kernel_rfl
    have k2 : Try.prog.cellsOf 58 = 1 := by kernel_rfl
    simp only [k1, k2, List.drop_zero, List.drop_succ_cons, List.take_succ_cons, List.take_zero] at h0 h1 h2
    obtain ⟨m0, e0, _, hm0⟩ := DataW.trod_int Try.underlying30 h0
    obtain ⟨m1, e1, _, hm1⟩ := DataW.trod_int Try.underlying30 h1
    obtain ⟨v', lo, e2, q⟩ := open_list 4 (by omega) QO Try.underlying58 (by kernel_rfl) (fun fuel cs x hx hl => open_rec hx hl) h2
    simp only [List.cons.injEq, and_true] at e0 e1 e2
    subst e0 e1 e2
    obtain ⟨l0, u0⟩ := wf_u64 hm0
    obtain ⟨l1, u1⟩ := wf_u64 hm1
    refine ⟨⟨m0.toNat, m1.toNat, lo⟩, c2, ?_, q, by show m0.toNat < 18446744073709551616; omega, by show m1.toNat < 18446744073709551616; omega⟩
    unfold ecells
    rw [show ((m0.toNat : Nat) : Int) = m0 by omega, show ((m1.toNat : Nat) : Int) = m1 by omega]
end
/-- The first operations. -/
theorem lst_take {w : World} {A : Option Addr} {cap : Nat} {l : List Ro} (h : Lst w 4 QO (.slice A l.length cap) l) (m : Nat) (hm : m ≤ l.length) : Lst w 4 QO (.slice A m cap) (l.take m) := by
  obtain ⟨A', cap', e, h1, h2, h3⟩ := h
  injection e with e1 e2 e3
  subst e1 e3
  have hlen : (l.take m).length = m := by rw [List.length_take]; omega
  refine ⟨A, cap, by rw [hlen], by rw [hlen]; omega, h2, fun h0 => ?_⟩
  rw [hlen] at h0
  obtain ⟨b, off, e, hlt, hx⟩ := h3 (by omega)
  refine ⟨b, off, e, hlt, fun i x hi => hx i x ?_⟩
  have hil := (List.getElem?_eq_some_iff.1 hi).1
  rw [hlen] at hil
  rwa [List.getElem?_take_of_lt hil] at hi
def ten (e : En) : En := ⟨e.ts, e.fst, e.ops.take (min e.ops.length 10)⟩
theorem ew_ten {w : World} {e : En} {A : Option Addr} {cap : Nat} (h : Ew w e (.slice A e.ops.length cap)) : Ew w (ten e) (.slice A (min e.ops.length 10) cap) := ⟨lst_take h.1 _ (Nat.min_le_left _ _), h.2⟩
theorem enc_len (e : En) : (encL e).length ≤ 1000 := by
  unfold encL
  by_cases h : checkE e = 0
  · rw [if_pos h]
    have h1 := layB_le h
    have h2 := CM.seal_length (layB e)
    have h3 := WM.numB_le (CM.sealB (layB e)).length
    unfold encB WM.textB
    rw [List.length_append]
    omega
  · rw [if_neg h]; exact Nat.zero_le _
theorem enc_pos (e : En) : 5 ≤ (encB e).length := by
  have h2 := CM.seal_length (layB e)
  have h3 := WM.numB_pos (CM.sealB (layB e)).length
  unfold encB WM.textB
  rw [List.length_append]
  omega
end LAr
end Go.Proofs.Ytkhdidhpcdlmcaa
