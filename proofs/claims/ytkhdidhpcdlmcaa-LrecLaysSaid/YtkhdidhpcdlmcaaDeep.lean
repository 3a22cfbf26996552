/- Arguments that are slices of structs, or of slices: opened into lists. -/
import Derived.Test.YtkhdidhpcdlmcaaSrc
import Derived.Deep.Slices
import Derived.Deep.Strs
namespace Go.Proofs.Ytkhdidhpcdlmcaa
open Go.ChangeShapes Go.WideShapes Go.ChangeAt Go.RowKit Go.Lib MM MB MS
namespace DE
/-- A slice of things of k cells each; Q says which thing some cells are. -/
def Lst {Y : Type} (w : World) (k : Nat) (Q : World → Y → List Value → Prop) (v : Value) (l : List Y) : Prop :=
  ∃ (A : Option Addr) (cap : Nat), v = .slice A l.length cap ∧ l.length ≤ cap ∧ cap ≤ maxLen ∧
    (0 < l.length → ∃ b off, A = some ⟨b, off, none⟩ ∧ b < w.heap.size ∧ ∀ i x, l[i]? = some x → ∃ cs, cs.length = k ∧ Q w x cs ∧ ∀ j, j < k → w.cell? ⟨b, off + i * k + j, none⟩ = cs[j]?)
/-- What is said of a thing stays where what lay there stays. -/
def Firm {Y : Type} (Q : World → Y → List Value → Prop) : Prop := ∀ w w' x cs, Q w x cs → Below w.heap.size w w' → Q w' x cs
section
variable {Y : Type} {w w' : World} {k : Nat} {Q : World → Y → List Value → Prop} {v : Value} {l : List Y}
theorem add_plain (b off i : Nat) : (⟨b, off, none⟩ : Addr).add i = ⟨b, off + i, none⟩ := by unfold Addr.add; split <;> simp_all
theorem Lst.under (h : Lst w k Q v l) (hQ : Firm Q) (hb : Below w.heap.size w w') : Lst w' k Q v l := by
  obtain ⟨A, cap, rfl, h1, h2, h3⟩ := h
  refine ⟨A, cap, rfl, h1, h2, fun h0 => ?_⟩
  obtain ⟨b, off, e, hlt, hx⟩ := h3 h0
  refine ⟨b, off, e, Nat.lt_of_lt_of_le hlt hb.size, fun i x hi => ?_⟩
  obtain ⟨cs, hl, hq, hc⟩ := hx i x hi
  exact ⟨cs, hl, hQ _ _ _ _ hq hb, fun j hj => (hb.cell (p := ⟨b, off + i * k + j, none⟩) hlt).trans (hc j hj)⟩
/-- One of them. -/
theorem Lst.get (h : Lst w k Q v l) (i : Nat) (hi : i < l.length) : ∃ b off cap cs, v = .slice (some ⟨b, off, none⟩) l.length cap ∧ cs.length = k ∧ Q w l[i] cs ∧ ∀ j, j < k → w.cell? ⟨b, off + i * k + j, none⟩ = cs[j]? := by
  obtain ⟨A, cap, rfl, h1, h2, h3⟩ := h
  obtain ⟨b, off, rfl, hlt, hx⟩ := h3 (by omega)
  obtain ⟨cs, hl, hq, hc⟩ := hx i l[i] (List.getElem?_eq_getElem hi)
  exact ⟨b, off, cap, cs, rfl, hl, hq, hc⟩
end
theorem Lst.form {Y : Type} {w : World} {k : Nat} {Q : World → Y → List Value → Prop} {v : Value} {l : List Y} (h : Lst w k Q v l) : ∃ A cap, v = .slice A l.length cap ∧ l.length ≤ 9223372036854775807 := by
  obtain ⟨A, cap, rfl, h1, h2, _⟩ := h
  exact ⟨A, cap, rfl, by unfold maxLen at h2; omega⟩
section
variable {H : Type} {enc : TypeId × Value → H} {w : World} {base : Nat} {held : Bool}
theorem open_list {Y : Type} [Inhabited Y] {ts te : TypeId} (k : Nat) (hk : 0 < k) (Q : World → Y → List Value → Prop) (ht : Try.prog.underlying ts = some (.slice te)) (hc : Try.prog.cellsOf te = k)
    (hQ : ∀ fuel cs x, DataW.trod enc Try.prog w base (fun _ => true) held fuel te cs = some x → cs.length = k → ∃ y : Y, Q w y cs) {fuel : Nat} {cs : List Value} {x : DataW H × List MemPlace} (h : DataW.trod enc Try.prog w base (fun _ => true) held fuel ts cs = some x) :
    ∃ v l, cs = [v] ∧ Lst w k Q v l := by
  rcases Go.Deep.open_slice ht h with ⟨rfl, _⟩ | ⟨a, len, cap, m, n, D, Pl, rfl, hb, hl, hm, hmm, hx, hel⟩
  · exact ⟨_, [], rfl, none, 0, rfl, by simp, by unfold maxLen; omega, by simp⟩
  · rw [if_pos rfl] at hmm
    subst hmm
    have each : ∀ i, i < len → ∃ yc : Y × List Value, yc.2.length = k ∧ Q w yc.1 yc.2 ∧ ∀ j, j < k → w.cell? ((a.add (i * k)).add j) = yc.2[j]? := by
      intro i hi
      obtain ⟨cs', h1, h2⟩ := hel i (by omega)
      rw [hc] at h1
      obtain ⟨_, hl', hcell⟩ := World.cells?_some h1
      obtain ⟨y, hy⟩ := hQ _ _ _ h2 hl'
      exact ⟨(y, cs'), hl', hy, hcell⟩
    obtain ⟨Y', hY⟩ := Go.Deep.choose_lt each
    refine ⟨_, (List.range len).map fun i => (Y' i).1, rfl, some a, _, by simp, by simpa using hl, hm, ?_⟩
    intro h0
    have h0 : 0 < len := by simpa using h0
    obtain ⟨q1, q2, q3⟩ := hY 0 h0
    have c0 := q3 0 hk
    rw [List.getElem?_eq_getElem (by omega)] at c0
    have hs : a.spot = none := by
      have e : (a.add (0 * k)).add 0 = a := by simp [Addr.add]
      rw [e] at c0
      exact World.cell?_spot c0
    obtain ⟨b, off, sp⟩ := a
    simp only at hs
    subst hs
    simp only [add_plain] at c0
    refine ⟨b, off, rfl, cell_lt c0, ?_⟩
    intro i x hx
    have hi : i < len := by
      have := (List.getElem?_eq_some_iff.1 hx).1
      simpa using this
    have e : x = (Y' i).1 := by simpa [hi] using hx.symm
    subst e
    obtain ⟨r1, r2, r3⟩ := hY i hi
    exact ⟨_, r1, r2, fun j hj => by have := r3 j hj; simpa only [add_plain] using this⟩
/-- A slice of bytes, one cell. -/
def QB (w : World) (l : List UInt8) (cs : List Value) : Prop := ∃ v, cs = [v] ∧ Src w v l
theorem src_firm {w w' : World} {v : Value} {l : List UInt8} (h : Src w v l) (b : Below w.heap.size w w') : Src w' v l := by
  rcases h with h | ⟨h0, bb, off, cap, rfl, h1, h2, h3, h4⟩
  · exact .inl h
  · exact .inr ⟨h0, bb, off, cap, rfl, h1, h2, Nat.lt_of_lt_of_le h3 b.size, fun i hi => (b.cell (p := ⟨bb, off + i, none⟩) h3).trans (h4 i hi)⟩
theorem qb_firm : Firm QB := fun _ _ _ _ ⟨v, e, h⟩ b => ⟨v, e, src_firm h b⟩
theorem src_len {w : World} {v : Value} {l : List UInt8} (h : Src w v l) : l.length ≤ 9223372036854775807 := by
  rcases h with ⟨rfl, _⟩ | ⟨_, _, _, _, _, h1, h2, _⟩
  · simp
  · unfold maxLen at h2; omega
theorem open_bytes' {fuel : Nat} {cs : List Value} {x : DataW H × List MemPlace} (hf : DataW.trod enc Try.prog w base (fun _ => true) held fuel 23 cs = some x) : ∃ l : List UInt8, QB w l cs := by
  rcases open_ints Try.underlying23 Try.underlying5 cells8 hf with ⟨rfl, hx⟩ | ⟨a1, len, cap, zs, rfl, _, hl, hm, hz, hx, hcell, hwz⟩
  · exact ⟨[], _, rfl, Or.inl ⟨rfl, _, _, rfl⟩⟩
  · simp only [if_true] at hz
    rcases Nat.eq_zero_or_pos len with h0 | h0
    · subst h0
      exact ⟨[], _, rfl, Or.inl ⟨rfl, _, _, rfl⟩⟩
    · have hlen : ((zs.take len).map fun n => UInt8.ofNat n.toNat).length = len := by simp; omega
      refine ⟨(zs.take len).map fun n => UInt8.ofNat n.toNat, _, rfl, Or.inr ⟨by omega, ?_⟩⟩
      obtain ⟨ab, ao, spot⟩ := a1
      have hspot : spot = none := by simpa [Addr.add] using World.cell?_spot (hcell 0 (by omega))
      subst hspot
      refine ⟨ab, ao, cap, by rw [hlen], by omega, hm, cell_lt (hcell 0 (by omega)), ?_⟩
      intro i hi
      rw [hlen] at hi
      have hc := hcell i (by omega)
      rw [Addr.add_lit] at hc
      rw [hc]
      have e : zs.getD i 0 = zs[i]'(by omega) := by simp [List.getD, List.getElem?_eq_getElem (show i < zs.length by omega)]
      have hw := hwz (zs[i]'(by omega)) (List.getElem_mem _)
      rw [e]
      simp only [List.getElem_map, List.getElem_take]
      rw [byte_of hw]
theorem trod_struct4 {t : TypeId} {f0 f1 f2 f3 : Field} {spare : Nat → Bool} {fuel : Nat} {cs : List Value} {x : DataW H × List MemPlace} (ht : Try.prog.underlying t = some (.struct #[f0, f1, f2, f3])) (h : DataW.trod enc Try.prog w base spare held fuel t cs = some x) :
    ∃ y0 y1 y2 y3 n, DataW.trod enc Try.prog w base spare held n f0.type ((cs.drop f0.offset).take (Try.prog.cellsOf f0.type)) = some y0 ∧ DataW.trod enc Try.prog w base spare held n f1.type ((cs.drop f1.offset).take (Try.prog.cellsOf f1.type)) = some y1 ∧
      DataW.trod enc Try.prog w base spare held n f2.type ((cs.drop f2.offset).take (Try.prog.cellsOf f2.type)) = some y2 ∧ DataW.trod enc Try.prog w base spare held n f3.type ((cs.drop f3.offset).take (Try.prog.cellsOf f3.type)) = some y3 := by
  obtain ⟨xs, n, _, rfl, hl, hlen, hf⟩ := DataW.trod_struct ht h
  match xs, hlen with
  | [y0, y1, y2, y3], _ => exact ⟨y0, y1, y2, y3, n, by simpa using hf 0 f0 rfl, by simpa using hf 1 f1 rfl, by simpa using hf 2 f2 rfl, by simpa using hf 3 f3 rfl⟩
end
end DE
end Go.Proofs.Ytkhdidhpcdlmcaa
