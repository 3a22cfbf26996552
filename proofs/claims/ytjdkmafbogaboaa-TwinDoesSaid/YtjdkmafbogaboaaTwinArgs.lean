/- The statements' acts and tries, as they come in. -/
import Derived.Test.YtjdkmafbogaboaaDeep
namespace Go.Proofs.Ytjdkmafbogaboaa
open Go.ChangeShapes Go.WideShapes Go.ChangeAt Go.RowKit Go.Lib MM MB MS DE
namespace TA
/-- A try: a text, a fuse, fates, and the openings' fates. -/
structure Try where
  text : List UInt8
  fuse : UInt8
  fates : List UInt8
  opens : List (List UInt8)
instance : Inhabited Try := ⟨⟨[], 0, [], []⟩⟩
def QT (w : World) (x : Try) (cs : List Value) : Prop := x.text.length ≤ 9223372036854775807 ∧ ∃ vf vo, cs = [.string ⟨x.text.toArray⟩, .int .u8 x.fuse.toNat, vf, vo] ∧ Src w vf x.fates ∧ Lst w 1 QB vo x.opens
theorem qt_firm : Firm QT := fun _ _ _ _ ⟨hl, vf, vo, e, h1, h2⟩ b => ⟨hl, vf, vo, e, src_firm h1 b, h2.under qb_firm b⟩
/-- An act: what, a number, a text, fates. -/
structure Ac where
  what : Int
  n : Int
  text : List UInt8
  fates : List UInt8
instance : Inhabited Ac := ⟨⟨0, 0, [], []⟩⟩
def QA (w : World) (x : Ac) (cs : List Value) : Prop := (-9223372036854775808 ≤ x.what ∧ x.what ≤ 9223372036854775807) ∧ (-9223372036854775808 ≤ x.n ∧ x.n ≤ 9223372036854775807) ∧ x.text.length ≤ 9223372036854775807 ∧ ∃ vf, cs = [.int .i64 x.what, .int .i64 x.n, .string ⟨x.text.toArray⟩, vf] ∧ Src w vf x.fates
theorem qa_firm : Firm QA := fun _ _ _ _ ⟨a, b, c, vf, e, h1⟩ bl => ⟨a, b, c, vf, e, src_firm h1 bl⟩
section
variable {H : Type} {enc : TypeId × Value → H} {w : World} {base : Nat} {held : Bool}
theorem wf_int {n : Int} (h : (Lit.int .i64 n).wf = true) : -9223372036854775808 ≤ n ∧ n ≤ 9223372036854775807 := by simpa [Lit.wf, IntKind.min, IntKind.max, IntKind.signed, IntKind.bits] using h
set_option maxRecDepth 100000 in
theorem open_try {fuel : Nat} {cs : List Value} {x : DataW H × List MemPlace} (h : DataW.trod enc Try.prog w base (fun _ => true) held fuel 58 cs = some x) (hl : cs.length = 4) : ∃ y : Try, QT w y cs := by
  obtain ⟨y0, y1, y2, y3, n, h0, h1, h2, h3⟩ := trod_struct4 Try.underlying58 h
  match cs, hl with
  | [c0, c1, c2, c3], _ =>
    have k0 : Try.prog.cellsOf 9 = 1 := by kernel_rfl
    have k1 : Try.prog.cellsOf 5 = 1 := by kernel_rfl
    have k2 : Try.prog.cellsOf 36 = 1 := by kernel_rfl
    have k3 : Try.prog.cellsOf 56 = 1 := by kernel_rfl
    simp only [k0, k1, k2, k3, List.drop_zero, List.drop_succ_cons, List.take_succ_cons, List.take_zero] at h0 h1 h2 h3
    obtain ⟨s, e0, _, hs⟩ := DataW.trod_string Try.underlying9 h0
    obtain ⟨m, e1, _, hm⟩ := DataW.trod_int Try.underlying5 h1
    obtain ⟨l2, v2, e2, q2⟩ := open_bytes' h2
    obtain ⟨v3, l3, e3, q3⟩ := open_list 1 (by omega) QB Try.underlying56 k2 (fun fuel cs x hx _ => open_bytes' hx) h3
    simp only [List.cons.injEq, and_true] at e0 e1 e2 e3
    subst e0 e1 e2 e3
    exact ⟨⟨s.data.toList, UInt8.ofNat m.toNat, l2, l3⟩, by rw [Array.length_toList]; exact hs, _, _, by rw [show ((UInt8.ofNat m.toNat).toNat : Int) = m from byte_of hm], q2, q3⟩
set_option maxRecDepth 100000 in
theorem open_act {fuel : Nat} {cs : List Value} {x : DataW H × List MemPlace} (h : DataW.trod enc Try.prog w base (fun _ => true) held fuel 38 cs = some x) (hl : cs.length = 4) : ∃ y : Ac, QA w y cs := by
  obtain ⟨y0, y1, y2, y3, n, h0, h1, h2, h3⟩ := trod_struct4 Try.underlying38 h
  match cs, hl with
  | [c0, c1, c2, c3], _ =>
    have k0 : Try.prog.cellsOf 9 = 1 := by kernel_rfl
    have k1 : Try.prog.cellsOf 3 = 1 := by kernel_rfl
    have k2 : Try.prog.cellsOf 36 = 1 := by kernel_rfl
    simp only [k0, k1, k2, List.drop_zero, List.drop_succ_cons, List.take_succ_cons, List.take_zero] at h0 h1 h2 h3
    obtain ⟨m0, e0, _, hm0⟩ := DataW.trod_int Try.underlying3 h0
    obtain ⟨m1, e1, _, hm1⟩ := DataW.trod_int Try.underlying3 h1
    obtain ⟨s, e2, _, hs⟩ := DataW.trod_string Try.underlying9 h2
    obtain ⟨l3, v3, e3, q3⟩ := open_bytes' h3
    simp only [List.cons.injEq, and_true] at e0 e1 e2 e3
    subst e0 e1 e2 e3
    exact ⟨⟨m0, m1, s.data.toList, l3⟩, wf_int hm0, wf_int hm1, by rw [Array.length_toList]; exact hs, _, by simp, q3⟩
theorem open_tries {v : Value} {d : DataW H} {ps : List MemPlace} (h : DataW.Trod enc Try.prog w 0 (fun _ => true) true 53 v d ps) {A : Option Addr} {len cap : Nat} (hv : v = .slice A len cap) : ∃ l : List Try, Lst w 4 QT v l := by
  subst hv
  obtain ⟨fuel, hf⟩ := h
  obtain ⟨v', l, e, q⟩ := open_list 4 (by omega) QT Try.underlying53 (by kernel_rfl) (fun fuel cs x hx hl => open_try hx hl) hf
  simp [Value.cells] at e
  subst e
  exact ⟨l, q⟩
theorem open_acts {v : Value} {d : DataW H} {ps : List MemPlace} (h : DataW.Trod enc Try.prog w 0 (fun _ => true) true 22 v d ps) {A : Option Addr} {len cap : Nat} (hv : v = .slice A len cap) : ∃ l : List Ac, Lst w 4 QA v l := by
  subst hv
  obtain ⟨fuel, hf⟩ := h
  obtain ⟨v', l, e, q⟩ := open_list 4 (by omega) QA Try.underlying22 (by kernel_rfl) (fun fuel cs x hx hl => open_act hx hl) hf
  simp [Value.cells] at e
  subst e
  exact ⟨l, q⟩
end
end TA
end Go.Proofs.Ytjdkmafbogaboaa
