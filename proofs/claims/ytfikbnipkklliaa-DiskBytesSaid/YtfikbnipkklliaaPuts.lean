/- A slice of the statements' puts that came in: for each where it goes, its letter, and is the disk flushed behind it. -/
import Derived.Test.YtfikbnipkklliaaSrc
import Derived.Deep.Slices
import Derived.Deep.Strs
namespace Go.Proofs.Ytfikbnipkklliaa
open Go.RowKit Go.Lib MM MB MS
namespace PU
/-- A put. -/
structure Put where
  at' : UInt8
  letter : UInt8
  flush : Bool
instance : Inhabited Put := ⟨⟨0, 0, false⟩⟩
/-- The put's cells lie at b, from off on. -/
def At (w : World) (b off : Nat) (x : Put) : Prop :=
  w.cell? ⟨b, off, none⟩ = some (.int .u8 x.at'.toNat) ∧ w.cell? ⟨b, off + 1, none⟩ = some (.int .u8 x.letter.toNat) ∧ w.cell? ⟨b, off + 2, none⟩ = some (.bool x.flush)
/-- 'A' is where a slice lies that reads as these puts, below block B. -/
def Reads (w : World) (B : Nat) (A : Option Addr) (l : List Put) : Prop :=
  0 < l.length → ∃ b off, A = some ⟨b, off, none⟩ ∧ b < B ∧ ∀ i x, l[i]? = some x → At w b (off + i * 3) x
theorem add_plain (b off i : Nat) : (⟨b, off, none⟩ : Addr).add i = ⟨b, off + i, none⟩ := by unfold Addr.add; split <;> simp_all
theorem Reads.under {w w' : World} {B : Nat} {A : Option Addr} {l : List Put} (h : Reads w B A l) (hb : Below B w w') : Reads w' B A l := by
  intro h0
  obtain ⟨b, off, e, hlt, hc⟩ := h h0
  refine ⟨b, off, e, hlt, fun i x hx => ?_⟩
  obtain ⟨h1, h2, h3⟩ := hc i x hx
  exact ⟨(hb.cell (p := ⟨b, off + i * 3, none⟩) hlt).trans h1, (hb.cell (p := ⟨b, off + i * 3 + 1, none⟩) hlt).trans h2, (hb.cell (p := ⟨b, off + i * 3 + 2, none⟩) hlt).trans h3⟩
section
variable {H : Type} {enc : TypeId × Value → H} {w : World} {base : Nat} {spare : Nat → Bool} {held : Bool}
theorem open_put {fuel : Nat} {cs : List Value} {x : DataW H × List MemPlace} (h : DataW.trod enc Try.prog w base spare held fuel 40 cs = some x) :
    ∃ y : Put, cs = [.int .u8 y.at'.toNat, .int .u8 y.letter.toNat, .bool y.flush] := by
  obtain ⟨y0, y1, y2, n, _, hl, h0, h1, h2⟩ := Go.Deep.trod_struct3 Try.underlying40 h
  have hc : Try.prog.cellsOf 40 = 3 := by kernel_rfl
  rw [hc] at hl
  match cs, hl with
  | [c0, c1, c2], _ =>
    obtain ⟨m0, e0, _, hm0⟩ := DataW.trod_int Try.underlying5 h0
    obtain ⟨m1, e1, _, hm1⟩ := DataW.trod_int Try.underlying5 h1
    obtain ⟨b, e2, _⟩ := DataW.trod_bool Try.underlying4 h2
    have k0 : Try.prog.cellsOf 4 = 1 := by kernel_rfl
    have k1 : Try.prog.cellsOf 5 = 1 := by kernel_rfl
    simp only [k0, k1, List.drop_zero, List.drop_succ_cons, List.take_succ_cons, List.take_zero, List.cons.injEq, and_true] at e0 e1 e2
    subst e0 e1 e2
    exact ⟨⟨UInt8.ofNat m0.toNat, UInt8.ofNat m1.toNat, b⟩, by rw [byte_of hm0, byte_of hm1]⟩
theorem open_puts {r : Reach} {b0 : Nat} {v : Value} {d : DataW H} {ps : List MemPlace} (hval : Value.okWide Try.prog w r b0 36 v) (h : DataW.Trod enc Try.prog w 0 (fun _ => true) true 36 v d ps) :
    ∃ (A : Option Addr) (cap : Nat) (l : List Put), v = .slice A l.length cap ∧ Reads w w.heap.size A l ∧ l.length ≤ cap ∧ cap ≤ 9223372036854775807 := by
  obtain ⟨A0, len0, cap0, rfl⟩ := Go.WideShapes.okWide_slice Try.underlying36 hval
  obtain ⟨fuel, hf⟩ := h
  rcases Go.Deep.open_slice Try.underlying36 hf with ⟨hv, _⟩ | ⟨a, len, cap, m, n, D, Pl, hv, hb, hl, hm, hmm, hx, hel⟩
  · simp [Value.cells] at hv
    obtain ⟨rfl, rfl, rfl⟩ := hv
    exact ⟨none, 0, [], rfl, by intro h; simp at h, by simp, by omega⟩
  · simp [Value.cells] at hv
    obtain ⟨rfl, rfl, rfl⟩ := hv
    have hc3 : Try.prog.cellsOf 40 = 3 := by kernel_rfl
    have each : ∀ i, i < len0 → ∃ y : Put, w.cell? ((a.add (i * 3)).add 0) = some (.int .u8 y.at'.toNat) ∧ w.cell? ((a.add (i * 3)).add 1) = some (.int .u8 y.letter.toNat) ∧ w.cell? ((a.add (i * 3)).add 2) = some (.bool y.flush) := by
      intro i hi
      obtain ⟨cs', h1, h2⟩ := hel i (by rw [hmm]; simp; omega)
      obtain ⟨y, rfl⟩ := open_put h2
      rw [hc3] at h1
      obtain ⟨_, _, hcell⟩ := World.cells?_some h1
      exact ⟨y, hcell 0 (by omega), hcell 1 (by omega), hcell 2 (by omega)⟩
    obtain ⟨Y, hY⟩ := Go.Deep.choose_lt each
    refine ⟨some a, cap0, (List.range len0).map Y, by simp, ?_, by simpa using hl, hm⟩
    intro h0
    have h0 : 0 < len0 := by simpa using h0
    have hs : a.spot = none := by
      have := (hY 0 h0).1
      have e : (a.add (0 * 3)).add 0 = a := by simp [Addr.add]
      rw [e] at this
      exact World.cell?_spot this
    obtain ⟨b, off, sp⟩ := a
    simp only at hs
    subst hs
    refine ⟨b, off, rfl, ?_, ?_⟩
    · exact block_lt_of_cell (hY 0 h0).1
    · intro i x hx
      have hi : i < len0 := by
        have := (List.getElem?_eq_some_iff.1 hx).1
        simpa using this
      have e : x = Y i := by simpa [hi] using hx.symm
      subst e
      have := hY i hi
      simp only [add_plain] at this
      exact this
end
end PU
end Go.Proofs.Ytfikbnipkklliaa
