/- What was put on a tape and not cut off is read, just so, at its positions, however often the ring comes round: of all pieces. No condition. -/
import Derived.Test.YtkhdidhpcdlmcaaSrc
import Derived.Deep.Slices
import Derived.Deep.Strs
import Derived.Test.YtkhdidhpcdlmcaaTapePut
import Derived.Test.YtkhdidhpcdlmcaaTapeLens
import Derived.Test.YtkhdidhpcdlmcaaLawKit
namespace Go.Proofs.Ytkhdidhpcdlmcaa
open Go.ChangeShapes Go.WideShapes Go.ChangeAt Go.RowKit Go.Lib MM MB MS
namespace DE
/-- A slice of things of k cells each; Q says which thing some cells are. -/
def Lst {Y : Type} (w : World) (k : Nat) (Q : World → Y → List Value → Prop) (v : Value) (l : List Y) : Prop :=
  ∃ (A : Option Addr) (cap : Nat), v = .slice A l.length cap ∧ l.length ≤ cap ∧ cap ≤ maxLen ∧
    (0 < l.length → ∃ b off, A = some ⟨b, off, none⟩ ∧ b < w.heap.size ∧ ∀ i x, l[i]? = some x → ∃ cs, cs.length = k ∧ Q w x cs ∧ ∀ j, j < k → w.cell? ⟨b, off + i * k + j, none⟩ = cs[j]?)
/-- What is said of a thing stays where what lay there stays. -/
def Firm {Y : Type} (Q : World → Y → List Value → Prop) : Prop := ∀ w w' x cs, Q w x cs → Below w.heap.size w w' → Q w' x cs
section
variable {Y : Type} {w w' : World} {k : Nat} {Q : World → Y → List Value → Prop} {v : Value} {l : List Y}
theorem add_plain (b off i : Nat) : (⟨b, off, none⟩ : Addr).add i = ⟨b, off + i, none⟩ := by unfold Addr.add; split <;> simp_all
theorem Lst.under (h : Lst w k Q v l) (hQ : Firm Q) (hb : Below w.heap.size w w') : Lst w' k Q v l := by
  obtain ⟨A, cap, rfl, h1, h2, h3⟩ := h
  refine ⟨A, cap, rfl, h1, h2, fun h0 => ?_⟩
  obtain ⟨b, off, e, hlt, hx⟩ := h3 h0
  refine ⟨b, off, e, Nat.lt_of_lt_of_le hlt hb.size, fun i x hi => ?_⟩
  obtain ⟨cs, hl, hq, hc⟩ := hx i x hi
  exact ⟨cs, hl, hQ _ _ _ _ hq hb, fun j hj => (hb.cell (p := ⟨b, off + i * k + j, none⟩) hlt).trans (hc j hj)⟩
/-- One of them. -/
theorem Lst.get (h : Lst w k Q v l) (i : Nat) (hi : i < l.length) : ∃ b off cap cs, v = .slice (some ⟨b, off, none⟩) l.length cap ∧ cs.length = k ∧ Q w l[i] cs ∧ ∀ j, j < k → w.cell? ⟨b, off + i * k + j, none⟩ = cs[j]? := by
  obtain ⟨A, cap, rfl, h1, h2, h3⟩ := h
  obtain ⟨b, off, rfl, hlt, hx⟩ := h3 (by omega)
  obtain ⟨cs, hl, hq, hc⟩ := hx i l[i] (List.getElem?_eq_getElem hi)
  exact ⟨b, off, cap, cs, rfl, hl, hq, hc⟩
end
theorem Lst.form {Y : Type} {w : World} {k : Nat} {Q : World → Y → List Value → Prop} {v : Value} {l : List Y} (h : Lst w k Q v l) : ∃ A cap, v = .slice A l.length cap ∧ l.length ≤ 9223372036854775807 := by
  obtain ⟨A, cap, rfl, h1, h2, _⟩ := h
  exact ⟨A, cap, rfl, by unfold maxLen at h2; omega⟩
section
variable {H : Type} {enc : TypeId × Value → H} {w : World} {base : Nat} {held : Bool}
theorem open_list {Y : Type} [Inhabited Y] {ts te : TypeId} (k : Nat) (hk : 0 < k) (Q : World → Y → List Value → Prop) (ht : Try.prog.underlying ts = some (.slice te)) (hc : Try.prog.cellsOf te = k)
    (hQ : ∀ fuel cs x, DataW.trod enc Try.prog w base (fun _ => true) held fuel te cs = some x → cs.length = k → ∃ y : Y, Q w y cs) {fuel : Nat} {cs : List Value} {x : DataW H × List MemPlace} (h : DataW.trod enc Try.prog w base (fun _ => true) held fuel ts cs = some x) :
    ∃ v l, cs = [v] ∧ Lst w k Q v l := by
  rcases Go.Deep.open_slice ht h with ⟨rfl, _⟩ | ⟨a, len, cap, m, n, D, Pl, rfl, hb, hl, hm, hmm, hx, hel⟩
  · exact ⟨_, [], rfl, none, 0, rfl, by simp, by unfold maxLen; omega, by simp⟩
  · rw [if_pos rfl] at hmm
    subst hmm
    have each : ∀ i, i < len → ∃ yc : Y × List Value, yc.2.length = k ∧ Q w yc.1 yc.2 ∧ ∀ j, j < k → w.cell? ((a.add (i * k)).add j) = yc.2[j]? := by
      intro i hi
      obtain ⟨cs', h1, h2⟩ := hel i (by omega)
      rw [hc] at h1
      obtain ⟨_, hl', hcell⟩ := World.cells?_some h1
      obtain ⟨y, hy⟩ := hQ _ _ _ h2 hl'
      exact ⟨(y, cs'), hl', hy, hcell⟩
    obtain ⟨Y', hY⟩ := Go.Deep.choose_lt each
    refine ⟨_, (List.range len).map fun i => (Y' i).1, rfl, some a, _, by simp, by simpa using hl, hm, ?_⟩
    intro h0
    have h0 : 0 < len := by simpa using h0
    obtain ⟨q1, q2, q3⟩ := hY 0 h0
    have c0 := q3 0 hk
    rw [List.getElem?_eq_getElem (by omega)] at c0
    have hs : a.spot = none := by
      have e : (a.add (0 * k)).add 0 = a := by simp [Addr.add]
      rw [e] at c0
      exact World.cell?_spot c0
    obtain ⟨b, off, sp⟩ := a
    simp only at hs
    subst hs
    simp only [add_plain] at c0
    refine ⟨b, off, rfl, cell_lt c0, ?_⟩
    intro i x hx
    have hi : i < len := by
      have := (List.getElem?_eq_some_iff.1 hx).1
      simpa using this
    have e : x = (Y' i).1 := by simpa [hi] using hx.symm
    subst e
    obtain ⟨r1, r2, r3⟩ := hY i hi
    exact ⟨_, r1, r2, fun j hj => by have := r3 j hj; simpa only [add_plain] using this⟩
/-- A slice of bytes, one cell. -/
def QB (w : World) (l : List UInt8) (cs : List Value) : Prop := ∃ v, cs = [v] ∧ Src w v l
theorem src_firm {w w' : World} {v : Value} {l : List UInt8} (h : Src w v l) (b : Below w.heap.size w w') : Src w' v l := by
  rcases h with h | ⟨h0, bb, off, cap, rfl, h1, h2, h3, h4⟩
  · exact .inl h
  · exact .inr ⟨h0, bb, off, cap, rfl, h1, h2, Nat.lt_of_lt_of_le h3 b.size, fun i hi => (b.cell (p := ⟨bb, off + i, none⟩) h3).trans (h4 i hi)⟩
theorem qb_firm : Firm QB := fun _ _ _ _ ⟨v, e, h⟩ b => ⟨v, e, src_firm h b⟩
theorem src_len {w : World} {v : Value} {l : List UInt8} (h : Src w v l) : l.length ≤ 9223372036854775807 := by
  rcases h with ⟨rfl, _⟩ | ⟨_, _, _, _, _, h1, h2, _⟩
  · simp
  · unfold maxLen at h2; omega
theorem open_bytes' {fuel : Nat} {cs : List Value} {x : DataW H × List MemPlace} (hf : DataW.trod enc Try.prog w base (fun _ => true) held fuel 23 cs = some x) : ∃ l : List UInt8, QB w l cs := by
  rcases open_ints Try.underlying23 Try.underlying5 cells8 hf with ⟨rfl, hx⟩ | ⟨a1, len, cap, zs, rfl, _, hl, hm, hz, hx, hcell, hwz⟩
  · exact ⟨[], _, rfl, Or.inl ⟨rfl, _, _, rfl⟩⟩
  · simp only [if_true] at hz
    rcases Nat.eq_zero_or_pos len with h0 | h0
    · subst h0
      exact ⟨[], _, rfl, Or.inl ⟨rfl, _, _, rfl⟩⟩
    · have hlen : ((zs.take len).map fun n => UInt8.ofNat n.toNat).length = len := by simp; omega
      refine ⟨(zs.take len).map fun n => UInt8.ofNat n.toNat, _, rfl, Or.inr ⟨by omega, ?_⟩⟩
      obtain ⟨ab, ao, spot⟩ := a1
      have hspot : spot = none := by simpa [Addr.add] using World.cell?_spot (hcell 0 (by omega))
      subst hspot
      refine ⟨ab, ao, cap, by rw [hlen], by omega, hm, cell_lt (hcell 0 (by omega)), ?_⟩
      intro i hi
      rw [hlen] at hi
      have hc := hcell i (by omega)
      rw [Addr.add_lit] at hc
      rw [hc]
      have e : zs.getD i 0 = zs[i]'(by omega) := by simp [List.getD, List.getElem?_eq_getElem (show i < zs.length by omega)]
      have hw := hwz (zs[i]'(by omega)) (List.getElem_mem _)
      rw [e]
      simp only [List.getElem_map, List.getElem_take]
      rw [byte_of hw]
theorem trod_struct4 {t : TypeId} {f0 f1 f2 f3 : Field} {spare : Nat → Bool} {fuel : Nat} {cs : List Value} {x : DataW H × List MemPlace} (ht : Try.prog.underlying t = some (.struct #[f0, f1, f2, f3])) (h : DataW.trod enc Try.prog w base spare held fuel t cs = some x) :
    ∃ y0 y1 y2 y3 n, DataW.trod enc Try.prog w base spare held n f0.type ((cs.drop f0.offset).take (Try.prog.cellsOf f0.type)) = some y0 ∧ DataW.trod enc Try.prog w base spare held n f1.type ((cs.drop f1.offset).take (Try.prog.cellsOf f1.type)) = some y1 ∧
      DataW.trod enc Try.prog w base spare held n f2.type ((cs.drop f2.offset).take (Try.prog.cellsOf f2.type)) = some y2 ∧ DataW.trod enc Try.prog w base spare held n f3.type ((cs.drop f3.offset).take (Try.prog.cellsOf f3.type)) = some y3 := by
  obtain ⟨xs, n, _, rfl, hl, hlen, hf⟩ := DataW.trod_struct ht h
  match xs, hlen with
  | [y0, y1, y2, y3], _ => exact ⟨y0, y1, y2, y3, n, by simpa using hf 0 f0 rfl, by simpa using hf 1 f1 rfl, by simpa using hf 2 f2 rfl, by simpa using hf 3 f3 rfl⟩
end
end DE
end Go.Proofs.Ytkhdidhpcdlmcaa

namespace Go.Proofs.Ytkhdidhpcdlmcaa
open Go.ChangeShapes Go.WideShapes Go.ChangeAt Go.RowKit Go.Lib MM MB MS DE TPu
namespace TAr
instance : Inhabited Pc := ⟨⟨0, 0, false, false, 0, []⟩⟩
def QP (_w : World) (x : Pc) (cs : List Value) : Prop := x.many ≤ 255 ∧ x.cutn ≤ 255 ∧ x.more.length ≤ 9223372036854775807 ∧ cs = pcells x
theorem qp_firm : Firm QP := fun _ _ _ _ h _ => h
section
variable {H : Type} {enc : TypeId × Value → H} {w : World} {base : Nat} {held : Bool}
theorem wf_u8 {n : Int} (h : (Lit.int .u8 n).wf = true) : 0 ≤ n ∧ n ≤ 255 := by simpa [Lit.wf, IntKind.min, IntKind.max, IntKind.signed, IntKind.bits] using h
theorem trod_struct6 {t : TypeId} {f0 f1 f2 f3 f4 f5 : Field} {spare : Nat → Bool} {fuel : Nat} {cs : List Value} {x : DataW H × List MemPlace} (ht : Try.prog.underlying t = some (.struct #[f0, f1, f2, f3, f4, f5])) (h : DataW.trod enc Try.prog w base spare held fuel t cs = some x) :
    ∃ y0 y1 y2 y3 y4 y5 n, DataW.trod enc Try.prog w base spare held n f0.type ((cs.drop f0.offset).take (Try.prog.cellsOf f0.type)) = some y0 ∧ DataW.trod enc Try.prog w base spare held n f1.type ((cs.drop f1.offset).take (Try.prog.cellsOf f1.type)) = some y1 ∧ DataW.trod enc Try.prog w base spare held n f2.type ((cs.drop f2.offset).take (Try.prog.cellsOf f2.type)) = some y2 ∧ DataW.trod enc Try.prog w base spare held n f3.type ((cs.drop f3.offset).take (Try.prog.cellsOf f3.type)) = some y3 ∧ DataW.trod enc Try.prog w base spare held n f4.type ((cs.drop f4.offset).take (Try.prog.cellsOf f4.type)) = some y4 ∧ DataW.trod enc Try.prog w base spare held n f5.type ((cs.drop f5.offset).take (Try.prog.cellsOf f5.type)) = some y5 := by
  obtain ⟨xs, n, _, rfl, hl, hlen, hf⟩ := DataW.trod_struct ht h
  match xs, hlen with
  | [y0, y1, y2, y3, y4, y5], _ => exact ⟨y0, y1, y2, y3, y4, y5, n, by simpa using hf 0 f0 rfl, by simpa using hf 1 f1 rfl, by simpa using hf 2 f2 rfl, by simpa using hf 3 f3 rfl, by simpa using hf 4 f4 rfl, by simpa using hf 5 f5 rfl⟩
set_option maxRecDepth 100000 in
theorem open_piece {fuel : Nat} {cs : List Value} {x : DataW H × List MemPlace} (h : DataW.trod enc Try.prog w base (fun _ => true) held fuel 35 cs = some x) (hl : cs.length = 6) : ∃ y : Pc, QP w y cs := by
  obtain ⟨y0, y1, y2, y3, y4, y5, n, h0, h1, h2, h3, h4, h5⟩ := trod_struct6 Try.underlying35 h
  match cs, hl with
  | [c0, c1, c2, c3, c4, c5], _ =>
      have k0 : Try.prog.cellsOf 9 = 1 := by kernel_rfl
      have k1 : Try.prog.cellsOf 5 = 1 := by kernel_rfl
      have k2 : Try.prog.cellsOf 4 = 1 := by kernel_rfl
      simp only [k0, k1, k2, List.drop_zero, List.drop_succ_cons, List.take_succ_cons, List.take_zero] at h0 h1 h2 h3 h4 h5
      obtain ⟨m0, e0, _, hm0⟩ := DataW.trod_int Try.underlying5 h0
      obtain ⟨m1, e1, _, hm1⟩ := DataW.trod_int Try.underlying5 h1
      obtain ⟨b2, e2, _⟩ := DataW.trod_bool Try.underlying4 h2
      obtain ⟨b3, e3, _⟩ := DataW.trod_bool Try.underlying4 h3
      obtain ⟨m4, e4, _, hm4⟩ := DataW.trod_int Try.underlying5 h4
      obtain ⟨s, e5, _, hs⟩ := DataW.trod_string Try.underlying9 h5
      simp only [List.cons.injEq, and_true] at e0 e1 e2 e3 e4 e5
      subst e0 e1 e2 e3 e4 e5
      obtain ⟨l0, u0⟩ := wf_u8 hm0
      obtain ⟨l4, u4⟩ := wf_u8 hm4
      refine ⟨⟨m0.toNat, UInt8.ofNat m1.toNat, b2, b3, m4.toNat, s.data.toList⟩, by show m0.toNat ≤ 255; omega, by show m4.toNat ≤ 255; omega, by rw [Array.length_toList]; exact hs, ?_⟩
      unfold pcells
      rw [show ((UInt8.ofNat m1.toNat).toNat : Int) = m1 from byte_of hm1, show ((m0.toNat : Nat) : Int) = m0 by omega, show ((m4.toNat : Nat) : Int) = m4 by omega]
theorem open_pieces {v : Value} {d : DataW H} {ps : List MemPlace} (h : DataW.Trod enc Try.prog w 0 (fun _ => true) true 22 v d ps) {A : Option Addr} {len cap : Nat} (hv : v = .slice A len cap) : ∃ l : List Pc, Lst w 6 QP v l := by
  subst hv
  obtain ⟨fuel, hf⟩ := h
  obtain ⟨v', l, e, q⟩ := open_list 6 (by omega) QP Try.underlying22 (by kernel_rfl) (fun fuel cs x hx hl => open_piece hx hl) hf
  simp [Value.cells] at e
  subst e
  exact ⟨l, q⟩
end
end TAr
end Go.Proofs.Ytkhdidhpcdlmcaa

namespace Go.Proofs.Ytkhdidhpcdlmcaa
open Go.RowKit Go.Lib MM MF DM DK DN TM TD TN TO TP TU TT DW DF PL TR TQ TL2 TG TZ WM
namespace TWe
/-- The power is on, and nothing will turn it off. -/
def Well (S : St) : Prop := S.on = true ∧ S.fuse = 0
theorem well_op {S : St} (h : Well S) : opOk S = true ∧ Well (opS S) := by
  obtain ⟨h1, h2⟩ := h
  unfold opOk opS
  simp [h1, h2, Well]
theorem well_write {S : St} (h : Well S) {i : Int} (h0 : 0 ≤ i) (hi : i < S.fl.length) {l : List UInt8} (hl : l.length = 128) : writeE S i l = 0 ∧ Well (writeS S i l) := by
  obtain ⟨k1, k2⟩ := well_op h
  have hr := refuse_in h.1 h0 hi
  unfold writeE writeS
  rw [if_neg (by rw [hr]; decide), if_neg (by rw [hl]; decide), if_pos k1, if_neg (by rw [hr]; decide), if_neg (by rw [hl]; decide), if_pos k1]
  exact ⟨rfl, k2⟩
theorem well_flush {S : St} (h : Well S) : flushE S = 0 ∧ Well (flushS S) := by
  obtain ⟨k1, k2⟩ := well_op h
  unfold flushE flushS
  rw [if_pos ⟨h.1, k1⟩, if_pos h.1, if_pos k1]
  exact ⟨rfl, k2⟩
theorem sect_length {r : List UInt8} {N i : Nat} (hr : r.length = N * 128) (hi : i < N) : (sect r i).length = 128 := by
  unfold sect
  rw [List.length_take, List.length_drop]
  omega
theorem well_lay {N : Nat} {a : Int} {r : List UInt8} (fz : Nat) (hN : 0 < N) (h0 : 0 ≤ a) (hr : r.length = N * 128) : ∀ (F p laid : Nat) (S : St), Well S → a + 2 + (N : Int) ≤ (S.fl.length : Int) → (layRun N a r fz F p laid S).2 = 0 ∧ Well (layRun N a r fz F p laid S).1 ∧ (layRun N a r fz F p laid S).1.fl.length = S.fl.length
  | 0, _, _, S, hS, _ => ⟨rfl, hS, rfl⟩
  | F + 1, p, laid, S, hS, hL => by
    have hs := sec_lt (N := N) (p := p) hN
    obtain ⟨w1, w2⟩ := well_write hS (i := a + 2 + (sec N p : Nat)) (by omega) (by omega) (sect_length hr hs)
    have w3 := TF2.writeS_fl S (a + 2 + (sec N p : Nat)) (sect r (sec N p))
    by_cases h1 : p < fz
    · by_cases h2 : laid = N
      · rw [h2, layRun_full]
        exact ⟨rfl, hS, rfl⟩
      · rw [layRun_good h1 h2 w1]
        have ih := well_lay fz hN h0 hr F (p + cut p fz) (laid + 1) _ w2 (by rw [w3]; exact hL)
        exact ⟨ih.1, ih.2.1, ih.2.2.trans w3⟩
    · rw [layRun_end _ _ _ _ _ _ _ _ (by omega)]
      exact ⟨rfl, hS, rfl⟩
theorem well_set {S : St} {a : Int} {H t : List UInt8} (hS : Well S) (h0 : 0 ≤ a) (hL : a + 2 ≤ (S.fl.length : Int)) (ht : t.length ≤ 55) (hn : num H < 4294967295) (h2 : (two (nextH H t)).length = 128) :
    setE S a H false t = 0 ∧ Well (setS S a H false t) ∧ setL S a H false t = false ∧ setH S a H false t = nextH H t := by
  have hm : may S H false t = 0 := by
    unfold may
    rw [if_neg (by omega), if_neg (by rw [hS.1]; simp), if_neg (by omega)]
  have hp : 0 ≤ place a (num (nextH H t)) ∧ place a (num (nextH H t)) < S.fl.length := by unfold place; omega
  obtain ⟨w1, w2⟩ := well_write hS hp.1 hp.2 h2
  obtain ⟨f1, f2⟩ := well_flush w2
  have e1 : setE S a H false t = 0 := by
    unfold setE stE
    rw [if_neg (by rw [hm]; decide), if_neg (by rw [w1]; decide)]
    exact f1
  refine ⟨e1, ?_, ?_, ?_⟩
  · unfold setS stS
    rw [if_neg (by rw [hm]; decide), if_neg (by rw [w1]; decide)]
    exact f2
  · unfold setL
    rw [if_neg (by rw [e1]; simp)]
  · unfold setH
    rw [if_pos e1]
theorem numF_few : ∀ (k j n : Nat), 1 ≤ j → n < 128 ^ j → (numF k n).length ≤ j
  | 0, j, n, hj, _ => by
    unfold numF
    simp
    omega
  | k + 1, j, n, hj, hn => by
    unfold numF
    by_cases h : n < 128
    · rw [if_pos h]; simpa using hj
    · rw [if_neg h]
      obtain ⟨i, rfl⟩ : ∃ i, j = i + 1 := ⟨j - 1, by omega⟩
      have hi : 1 ≤ i := by
        rcases Nat.eq_zero_or_pos i with rfl | h1
        · simp at hn; omega
        · exact h1
      have := numF_few k i (n / 128) hi (by rw [Nat.pow_succ] at hn; omega)
      simp
      omega
theorem head_few {st sb : Nat} {more : List UInt8} (h1 : st ≤ 1099511627776) (h2 : sb ≤ 1099511627776) (h3 : more.length ≤ 32) : (headB st sb more).length ≤ 55 := by
  have a1 := numF_few 9 6 st (by decide) (by omega)
  have a2 := numF_few 9 6 sb (by decide) (by omega)
  have a3 := numF_few 9 1 more.length (by decide) (by omega)
  unfold headB textB numB
  simp only [List.length_append]
  omega
/-- Flush goes well. -/
theorem well_fl {N : Nat} {a : Int} {T : TS} {S : St} {h : List UInt8} (hO : T.Ok N) (ho : T.over = false) (hS : Well S) (h0 : 0 ≤ a) (hL : a + 2 + (N : Int) ≤ (S.fl.length : Int)) (hn : num h < 4294967295) :
    (flR N a T S h false).1 = 0 ∧ Well (flR N a T S h false).2.1 ∧ (flR N a T S h false).2.2.2 = false ∧ ((flR N a T S h false).2.2.1 = h ∨ (flR N a T S h false).2.2.1 = nextH h (allHead T)) ∧ flT N a T S h false = { T with stable := T.fin, over := false } := by
  have e1 := hO.ends
  have e2 := hO.low
  have e3 := hO.high
  have hone := hO.one
  unfold flR flT
  have hno : ¬ T.over = true := by rw [ho]; decide
  simp only [if_neg hno]
  by_cases hf : T.fin = T.stable
  · simp only [if_pos hf]
    refine ⟨trivial, hS, trivial, .inl trivial, ?_⟩
    obtain ⟨a1, a2, a3, a4, a5⟩ := T
    simp only at ho hf
    subst ho
    rw [hf]
  · simp only [if_neg hf]
    obtain ⟨l1, l2, l3⟩ := well_lay (a := a) (r := ring N T.start T.bs) T.fin hone h0 (ring_length _ _ _) (T.fin - T.stable) T.stable 0 S hS hL
    have l1' : (layT N a T S).2 = 0 := l1
    obtain ⟨k1, k2⟩ := well_flush (S := (layT N a T S).1) l2
    have k3 : (flushS (layT N a T S).1).fl.length = S.fl.length := (TF2.flushS_fl _).trans l3
    have hd : (allHead T).length ≤ 55 := head_few (by omega) e1 hO.short
    obtain ⟨s1, s2, s3, s4⟩ := well_set (a := a) (H := h) k2 h0 (by omega) hd hn (two_length (half_length _ _ (by omega)))
    have er : opR N a T S h false = (0, setS (flushS (layT N a T S).1) a h false (allHead T), nextH h (allHead T), false) := by
      unfold opR
      rw [if_neg (by rw [l1']; decide), if_neg (by rw [k1]; decide), s1, s3, s4]
    rw [er]
    exact ⟨rfl, s2, rfl, .inr rfl, if_neg (fun h => h rfl)⟩
end TWe
end Go.Proofs.Ytkhdidhpcdlmcaa

namespace Go.Proofs.Ytkhdidhpcdlmcaa
open Go.RowKit Go.Lib MM MF DM DK DN TM TD TN TO TP TU TT DW DF PL TR TQ TL2 TG TZ WM TA TB TV TPu TWe TNd
namespace TSu
theorem well_flush_un {S : St} (h : Well S) : (flushS S).un = [] := by
  obtain ⟨k1, k2⟩ := well_op h
  unfold flushS
  rw [if_pos h.1, if_pos k1]
theorem well_set_un {S : St} {a : Int} {H t : List UInt8} (hS : Well S) (h0 : 0 ≤ a) (hL : a + 2 ≤ (S.fl.length : Int)) (ht : t.length ≤ 55) (hn : num H < 4294967295) (h2 : (two (nextH H t)).length = 128) : (setS S a H false t).un = [] := by
  have hm : may S H false t = 0 := by
    unfold may
    rw [if_neg (by omega), if_neg (by rw [hS.1]; simp), if_neg (by omega)]
  have hp : 0 ≤ place a (num (nextH H t)) ∧ place a (num (nextH H t)) < S.fl.length := by unfold place; omega
  obtain ⟨w1, w2⟩ := well_write hS hp.1 hp.2 h2
  unfold setS stS
  rw [if_neg (by rw [hm]; decide), if_neg (by rw [w1]; decide)]
  exact well_flush_un w2
/-- A tape on a disk that stays on. -/
structure Fine (N : Nat) (a : Int) (T : TS) (S : St) (h : List UInt8) (k : Nat) : Prop where
  ok : T.Ok N
  up : T.over = false
  well : Well S
  un : S.un = []
  len : a + 2 + (N : Int) ≤ (S.fl.length : Int)
  few : num h ≤ k
section
variable {N k : Nat} {a : Int} {T : TS} {S : St} {h : List UInt8}
theorem num_next {H t : List UInt8} (hn : num H ≤ k) (hk : k < 4294967290) : num (nextH H t) ≤ k + 1 := by
  unfold nextH
  rw [num_half _ _ (by omega)]
  omega
theorem fin_app (T : TS) (b : Nat) (o : Bool) : ({ T with stable := b, over := o } : TS).fin = T.fin := rfl
theorem fine_flush (F : Fine N a T S h k) (hk : k < 4294967290) (h0 : 0 ≤ a) :
    (flR N a T S h false).1 = 0 ∧ (flR N a T S h false).2.2.2 = false ∧ Fine N a (flT N a T S h false) (flR N a T S h false).2.1 (flR N a T S h false).2.2.1 (k + 1) ∧ flT N a T S h false = { T with stable := T.fin, over := false } := by
  have hn : num h < 4294967295 := by have := F.few; omega
  obtain ⟨r1, r2, r3, r4, r5⟩ := well_fl F.ok F.up F.well h0 F.len hn
  have hO := F.ok
  have e1 := hO.ends
  have e2 := hO.low
  have e3 := hO.high
  have hl := F.len
  refine ⟨r1, r3, ⟨?_, ?_, r2, ?_, ?_, ?_⟩, r5⟩
  · rw [r5]
    exact ⟨hO.one, hO.few, by show T.start ≤ T.fin; omega, Nat.le_refl _, hO.fits, hO.ends, hO.short⟩
  · rw [r5]
  · unfold flR
    rw [if_neg (by rw [F.up]; decide)]
    by_cases hf : T.fin = T.stable
    · rw [if_pos hf]; exact F.un
    · rw [if_neg hf]
      obtain ⟨l1, l2, l3⟩ := well_lay (a := a) (r := ring N T.start T.bs) T.fin hO.one h0 (ring_length _ _ _) (T.fin - T.stable) T.stable 0 S F.well F.len
      have l1' : (layT N a T S).2 = 0 := l1
      obtain ⟨k1, k2⟩ := well_flush (S := (layT N a T S).1) l2
      have k3 : (flushS (layT N a T S).1).fl.length = S.fl.length := (TF2.flushS_fl _).trans l3
      have hd : (allHead T).length ≤ 55 := head_few (by omega) e1 hO.short
      unfold opR
      rw [if_neg (by rw [l1']; decide), if_neg (by rw [k1]; decide)]
      exact well_set_un k2 h0 (by omega) hd hn (two_length (half_length _ _ (by omega)))
  · have : (flR N a T S h false).2.1.fl.length = S.fl.length := by
      unfold flR
      rw [if_neg (by rw [F.up]; decide)]
      by_cases hf : T.fin = T.stable
      · rw [if_pos hf]
      · rw [if_neg hf]
        obtain ⟨l1, l2, l3⟩ := well_lay (a := a) (r := ring N T.start T.bs) T.fin hO.one h0 (ring_length _ _ _) (T.fin - T.stable) T.stable 0 S F.well F.len
        have l1' : (layT N a T S).2 = 0 := l1
        obtain ⟨k1, k2⟩ := well_flush (S := (layT N a T S).1) l2
        have k3 : (flushS (layT N a T S).1).fl.length = S.fl.length := (TF2.flushS_fl _).trans l3
        unfold opR
        rw [if_neg (by rw [l1']; decide), if_neg (by rw [k1]; decide)]
        exact (TF2.setS_fl _ _ _ _ _).trans k3
    rw [this]
    exact hl
  · rcases r4 with e | e
    · rw [e]; have := F.few; omega
    · rw [e]; exact num_next F.few hk
theorem fine_pub (F : Fine N a T S h k) (hk : k < 4294967290) (h0 : 0 ≤ a) (n : Nat) (h1 : T.start ≤ n) (h2 : n ≤ T.stable) (m : List UInt8) (hm : m.length ≤ 32) :
    pubE S a h false T n m = 0 ∧ pubL S a h false T n m = false ∧ Fine N a (pubT S a h false T n m) (pubS S a h false T n m) (pubH S a h false T n m) (k + 1) ∧ pubT S a h false T n m = { start := n, stable := T.stable, bs := T.bs.drop (n - T.start), more := m, over := false } := by
  have hn : num h < 4294967295 := by have := F.few; omega
  have hO := F.ok
  have e1 := hO.ends
  have e2 := hO.low
  have e3 := hO.high
  have hl := F.len
  have hone := hO.one
  have hc : chkE T n m = 0 := by
    unfold chkE
    rw [F.up, if_neg (by decide), if_neg (by rw [decide_eq_true_eq]; omega), if_neg (by rw [decide_eq_true_eq]; omega)]
    rfl
  have hd : (headB n T.stable m).length ≤ 55 := head_few (by omega) (by omega) hm
  have h2' : (two (nextH h (headB n T.stable m))).length = 128 := two_length (half_length _ _ (by omega))
  obtain ⟨s1, s2, s3, s4⟩ := well_set (a := a) (H := h) F.well h0 (by omega) hd hn h2'
  have s5 := well_set_un (a := a) (H := h) F.well h0 (by omega) hd hn h2'
  have eT : pubT S a h false T n m = { start := n, stable := T.stable, bs := T.bs.drop (n - T.start), more := m, over := false } := by
    unfold pubT
    rw [if_neg (by rw [hc]; decide), if_neg (by rw [s1]; decide)]
  have eS : pubS S a h false T n m = setS S a h false (headB n T.stable m) := by unfold pubS; rw [if_neg (by rw [hc]; decide)]
  have eH : pubH S a h false T n m = nextH h (headB n T.stable m) := by unfold pubH; rw [if_neg (by rw [hc]; decide), s4]
  refine ⟨by unfold pubE; rw [if_neg (by rw [hc]; decide), s1], by unfold pubL; rw [if_neg (by rw [hc]; decide), s3], ⟨?_, ?_, ?_, ?_, ?_, ?_⟩, eT⟩
  · rw [eT]
    have hf : T.start + T.bs.length = T.fin := rfl
    have hff : n + (T.bs.drop (n - T.start)).length = T.fin := by rw [List.length_drop]; omega
    have hfit := hO.fits
    exact ⟨hone, hO.few, h2, by show T.stable ≤ n + (T.bs.drop (n - T.start)).length; omega, by show (T.bs.drop (n - T.start)).length ≤ _; rw [List.length_drop]; omega, by show n + (T.bs.drop (n - T.start)).length ≤ _; omega, hm⟩
  · rw [eT]
  · rw [eS]; exact s2
  · rw [eS]; exact s5
  · rw [eS, TF2.setS_fl]; exact hl
  · rw [eH]; exact num_next F.few hk
theorem fine_app (F : Fine N a T S h k) (l : List UInt8) : Fine N a (appT N T l) S h k := by
  refine ⟨appT_ok F.ok l, ?_, F.well, F.un, F.len, F.few⟩
  unfold appT
  split
  · exact F.up
  · exact F.up
theorem fine_more (F : Fine N a T S h k) : Fine N a T S h (k + 1) := ⟨F.ok, F.up, F.well, F.un, F.len, Nat.le_succ_of_le F.few⟩
theorem fine_putPub (F : Fine N a T S h k) (hk : k < 4294967290) (h0 : 0 ≤ a) (x : Pc) :
    (putPub a x T S h false).c = 0 ∧ (putPub a x T S h false).j = false ∧ Fine N a (putPub a x T S h false).T (putPub a x T S h false).S (putPub a x T S h false).h (k + 1) ∧
      ∃ d, d ≤ T.bs.length ∧ (putPub a x T S h false).T.start = T.start + d ∧ (putPub a x T S h false).T.bs = T.bs.drop d ∧ (putPub a x T S h false).T.stable = T.stable := by
  have hO := F.ok
  have e2 := hO.low
  have e3 := hO.high
  have hf : T.start + T.bs.length = T.fin := rfl
  unfold putPub
  by_cases hp : x.pb = true
  · rw [if_pos hp]
    have hto : T.start ≤ toOf T x ∧ toOf T x ≤ T.stable := by unfold toOf; split <;> omega
    obtain ⟨p1, p2, p3, p4⟩ := fine_pub F hk h0 (toOf T x) hto.1 hto.2 (x.more.take 32) (by rw [List.length_take]; omega)
    refine ⟨p1, p2, p3, toOf T x - T.start, by omega, ?_, ?_, ?_⟩
    · show (pubT S a h false T (toOf T x) (x.more.take 32)).start = _
      rw [p4]
      show toOf T x = _
      omega
    · show (pubT S a h false T (toOf T x) (x.more.take 32)).bs = _
      rw [p4]
    · show (pubT S a h false T (toOf T x) (x.more.take 32)).stable = _
      rw [p4]
  · rw [if_neg hp]
    exact ⟨rfl, rfl, fine_more F, 0, by omega, rfl, rfl, rfl⟩
/-- A put goes well. -/
theorem fine_put (F : Fine N a T S h k) (hk : k < 4294967280) (h0 : 0 ≤ a) (x : Pc) :
    (putOf N a x T S h false).c = 0 ∧ (putOf N a x T S h false).j = false ∧ Fine N a (putOf N a x T S h false).T (putOf N a x T S h false).S (putOf N a x T S h false).h (k + 2) ∧ (flR N a (appT N T (bytesL x.letter x.many)) S h false).2.1.un = [] ∧
      ∃ d, d ≤ (appT N T (bytesL x.letter x.many)).bs.length ∧ (putOf N a x T S h false).T.start = T.start + d ∧ (putOf N a x T S h false).T.bs = (appT N T (bytesL x.letter x.many)).bs.drop d ∧ (x.fl = true → (putOf N a x T S h false).T.stable = (putOf N a x T S h false).T.fin) := by
  have FA := fine_app F (bytesL x.letter x.many)
  have es : (appT N T (bytesL x.letter x.many)).start = T.start := by unfold appT; split <;> rfl
  obtain ⟨q1, q2, q3, q4⟩ := fine_flush FA (by omega) h0
  by_cases hfl : x.fl = true
  · have hX : putOf N a x T S h false = putPub a x (flT N a (appT N T (bytesL x.letter x.many)) S h false) (flR N a (appT N T (bytesL x.letter x.many)) S h false).2.1 (flR N a (appT N T (bytesL x.letter x.many)) S h false).2.2.1 false := by
      unfold putOf
      rw [if_pos hfl, if_neg (by rw [q1]; decide), q2]
    rw [hX]
    obtain ⟨p1, p2, p3, d, p4, p5, p6, p7⟩ := fine_putPub q3 (by omega) h0 x
    have eb : (flT N a (appT N T (bytesL x.letter x.many)) S h false).bs = (appT N T (bytesL x.letter x.many)).bs := by rw [q4]
    have et : (flT N a (appT N T (bytesL x.letter x.many)) S h false).start = (appT N T (bytesL x.letter x.many)).start := by rw [q4]
    have eq : (flT N a (appT N T (bytesL x.letter x.many)) S h false).stable = (appT N T (bytesL x.letter x.many)).fin := by rw [q4]
    rw [eb] at p4 p6
    rw [et, es] at p5
    refine ⟨p1, p2, p3, q3.un, d, p4, p5, p6, fun _ => ?_⟩
    rw [p7, eq]
    unfold TS.fin
    rw [p5, p6, es, List.length_drop]
    omega
  · have hX : putOf N a x T S h false = putPub a x (appT N T (bytesL x.letter x.many)) S h false := by
      unfold putOf
      rw [if_neg hfl]
    rw [hX]
    obtain ⟨p1, p2, p3, d, p4, p5, p6, p7⟩ := fine_putPub FA (by omega) h0 x
    rw [es] at p5
    exact ⟨p1, p2, fine_more p3, q3.un, d, p4, p5, p6, fun h => absurd h hfl⟩
end
end TSu
end Go.Proofs.Ytkhdidhpcdlmcaa

namespace Go.Proofs.Ytkhdidhpcdlmcaa
set_option maxRecDepth 100000
open Go.ChangeShapes Go.WideShapes Go.ChangeAt Go.RowKit Go.Lib MM MB MF MS DM DK DN MY TM TO TD DP TP RN PL TF TR TQ BL FL TA TZ TI TJ TK TN2 TO2 TD2 TV TU TT DW DF DU TG TB TW TX TNo TNd LK DE TAr TPu TWe TSu
namespace TapeRow
/-- What a round leaves: the tape has the row's end. -/
structure Rel (N k : Nat) (T : TS) (S : St) (h row : List UInt8) : Prop where
  fine : Fine N 0 T S h (1 + 2 * k)
  bs : T.bs = row.drop T.start
  le : T.start ≤ row.length
  few : row.length ≤ 255 * k
theorem Rel.fin {N k : Nat} {T : TS} {S : St} {h row : List UInt8} (r : Rel N k T S h row) : T.fin = row.length := by
  unfold TS.fin
  rw [r.bs, List.length_drop]
  have := r.le
  omega
def nextRow (N : Nat) (T : TS) (row s : List UInt8) : List UInt8 := if (T.fin - T.start) + s.length ≤ N * 128 then row ++ s else row
theorem rel_app {N k : Nat} {T : TS} {S : St} {h row : List UInt8} (r : Rel N k T S h row) (hk : k ≤ 60) (s : List UInt8) (hs : s.length ≤ 255) :
    (appE N T s.length = 0 ∨ appE N T s.length = 7) ∧ (appT N T s).bs = (nextRow N T row s).drop T.start ∧ T.start ≤ (nextRow N T row s).length ∧ (nextRow N T row s).length ≤ 255 * (k + 1) := by
  have hf := r.fin
  have hO := r.fine.ok
  have hfew := r.few
  have hle := r.le
  have hfit := hO.fits
  have hff : T.start + T.bs.length = T.fin := rfl
  unfold nextRow
  by_cases h1 : N * 128 - T.bs.length < s.length
  · have e : appE N T s.length = 7 := by
      unfold appE
      rw [r.fine.up, if_neg (by decide), if_pos (by rw [decide_eq_true_eq]; exact h1)]
      rfl
    have ea : appT N T s = T := by unfold appT; rw [if_neg (by rw [e]; decide)]
    rw [if_neg (by omega), ea]
    exact ⟨.inr e, r.bs, hle, by omega⟩
  · have e : appE N T s.length = 0 := by
      unfold appE
      rw [r.fine.up, if_neg (by decide), if_neg (by rw [decide_eq_true_eq]; exact h1), if_neg (by rw [decide_eq_true_eq]; omega)]
      rfl
    have ea : (appT N T s).bs = T.bs ++ s := by unfold appT; rw [if_pos e]
    rw [if_pos (by omega), ea]
    refine ⟨.inl e, ?_, by rw [List.length_append]; omega, by rw [List.length_append]; omega⟩
    rw [List.drop_append_of_le_length hle, r.bs]
theorem rel_put {N k : Nat} {T : TS} {S : St} {h row : List UInt8} (r : Rel N k T S h row) (hk : k < 60) (x : Pc) (hx : x.many ≤ 255) :
    (appE N T x.many = 0 ∨ appE N T x.many = 7) ∧ (putOf N 0 x T S h false).c = 0 ∧ (putOf N 0 x T S h false).j = false ∧ (flR N 0 (appT N T (bytesL x.letter x.many)) S h false).2.1.un = [] ∧
      Rel N (k + 1) (putOf N 0 x T S h false).T (putOf N 0 x T S h false).S (putOf N 0 x T S h false).h (nextRow N T row (bytesL x.letter x.many)) ∧ (x.fl = true → (putOf N 0 x T S h false).T.stable = (putOf N 0 x T S h false).T.fin) := by
  obtain ⟨a1, a2, a3, a4⟩ := rel_app r (by omega) (bytesL x.letter x.many) (by rw [bytesL_length]; exact hx)
  rw [bytesL_length] at a1
  obtain ⟨p1, p2, p3, p4, d, p5, p6, p7, p8⟩ := fine_put r.fine (by omega) (by decide) x
  refine ⟨a1, p1, p2, p4, ⟨?_, ?_, ?_, a4⟩, p8⟩
  · rw [show 1 + 2 * (k + 1) = 1 + 2 * k + 2 by omega]
    exact p3
  · rw [p7, p6, a2, List.drop_drop]
  · rw [p6]
    have := congrArg List.length a2
    rw [List.length_drop] at this
    omega
theorem rel_start {N : Nat} (h1 : 1 ≤ N) (h2 : N ≤ 4) : Rel N 0 T0 (S1 N) (half 1 []) [] := by
  have hw : ∀ n, 1 ≤ n → n ≤ 4 → Well (S1 n) ∧ ((S1 n).fl.length : Int) = n + 2 := by
    intro n h1 h2
    have : n = 1 ∨ n = 2 ∨ n = 3 ∨ n = 4 := by omega
    rcases this with rfl | rfl | rfl | rfl
    all_goals exact ⟨⟨by kernel_rfl, by kernel_rfl⟩, by kernel_rfl⟩
  obtain ⟨w1, w2⟩ := hw N h1 h2
  refine ⟨⟨⟨h1, by omega, Nat.le_refl _, Nat.le_refl _, Nat.zero_le _, Nat.zero_le _, Nat.zero_le _⟩, rfl, w1, un_z N h1 h2, by omega, ?_⟩, rfl, Nat.zero_le _, Nat.zero_le _⟩
  rw [num_half _ _ (by decide)]
  decide
theorem drop_text (l : List UInt8) (a : Nat) : (⟨l.toArray⟩ : ByteArray).extract a l.length = ⟨(l.drop a).toArray⟩ := by
  rw [ByteArray.extract_mk]
  congr 1
  simp
  rw [List.take_of_length_le (by rw [List.length_drop]; omega)]
theorem wrap_r {r : Nat} (hr : r < 3) : wrap64 ((1 + (r : Int)) * 128) = (1 + (r : Int)) * 128 := by unfold wrap64; omega
theorem wrap_r1 {r : Nat} (hr : r < 3) : wrap64 (1 + (r : Int)) = 1 + (r : Int) := by unfold wrap64; omega
theorem fit_yes {N r d m : Nat} (hN : N = 1 + r) (hr : r < 3) (h : (d : Int) + (m : Int) ≤ wrap64 (wrap64 (1 + (r : Int)) * 128)) : d + m ≤ N * 128 := by
  rw [wrap_r1 hr, wrap_r hr] at h
  omega
theorem fit_no {N r d m : Nat} (hN : N = 1 + r) (hr : r < 3) (h : wrap64 (wrap64 (1 + (r : Int)) * 128) < (d : Int) + (m : Int)) : ¬ d + m ≤ N * 128 := by
  rw [wrap_r1 hr, wrap_r hr] at h
  omega
theorem two_ways {N r : Nat} (hN : N = 1 + r) (d m : Nat) : (¬ ((d : Int) + (m : Int) ≤ (1 + (r : Int)) * 128) ∧ ¬ d + m ≤ N * 128) ∨ (((d : Int) + (m : Int) ≤ (1 + (r : Int)) * 128) ∧ d + m ≤ N * 128) := by omega
set_option maxHeartbeats 4000000 in
theorem walk (W : World) (n : Nat) (hn : n ≤ 255) (v : Value) (l : List Pc) (hL : Lst W 6 QP v l) : Calls Try.prog 4 #[.int .u8 n, v] W fun e w' => e = .returned (.bool true) ∧ Below W.heap.size W w' := by
  obtain ⟨A, cap, rfl, hll⟩ := hL.form
  have htm : (n : Int).tmod 3 = ((n % 3 : Nat) : Int) := by rw [Int.tmod_eq_emod_of_nonneg (by omega)]; omega
  have hr3 : n % 3 < 3 := Nat.mod_lt _ (by omega)
  generalize n % 3 = r at *
  obtain ⟨N, hN⟩ : ∃ N, N = 1 + r := ⟨_, rfl⟩
  have e1 : IntKind.i64.wrap (r : Int) = (r : Int) := by unfold IntKind.wrap; simp [IntKind.bits, IntKind.signed]; omega
  have e2 : wrap64 (1 + (r : Int)) = (N : Int) := by unfold wrap64; omega
  go_enter Try.func4, Try.ntmps4
  go_wp2_with fail
  rw [show (1 + (r : Int)) = (N : Int) by omega]
  refine (begun_walk (All.start W) N (by omega) (by omega)).mono ?_
  rintro e w1 ⟨g, gT, gR, gt, rfl, A1⟩
  have R0 := rel_start (N := N) (by omega) (by omega)
  go_wp2
  go_loopw [7, 8] (fun rv i wr => ∃ (k : Nat) (T : TS) (S : St) (h row : List UInt8), k ≤ l.length ∧ k ≤ 60 ∧ i = .int .i64 k ∧ rv = .string ⟨row.toArray⟩ ∧ Hid (Rel N k T S h row) ∧ All W wr (Tp W.heap.size gT gR g gt 0 N T :: Ti W.heap.size gt g 0 h false :: Di W.heap.size g S :: [])) (fun _ i _ => l.length - (RowKit.intOf i).toNat)
  case atStart => exact ⟨0, T0, S1 N, half 1 [], [], by omega, by omega, rfl, rfl, Lib.hid R0, A1⟩
  case round =>
    obtain ⟨k, T, S, h, row, hk, hk60', rfl, rfl, HR, hA⟩ := hrel
    clear R0 A1
    rcases Nat.lt_or_ge k l.length with hk1 | hk1
    · rcases Nat.lt_or_ge k 60 with hk60 | hk60
      · obtain ⟨b, off, cap', cs, e, hcl, ⟨hx1, hx2, hx3, rfl⟩, hcell⟩ := hL.get k hk1
        injection e with e1' e2' e3'
        subst e1' e3'
        have q0 := hcell 0 (by omega)
        have q1 := hcell 1 (by omega)
        have q2 := hcell 2 (by omega)
        have q3 := hcell 3 (by omega)
        have q4 := hcell 4 (by omega)
        have q5 := hcell 5 (by omega)
        have hlt0 : b < W.heap.size := MS.cell_lt q0
        simp only [pcells, List.getElem?_cons_zero, List.getElem?_cons_succ, Nat.add_zero] at q0 q1 q2 q3 q4 q5
        generalize hx : l[k] = x at *
        have hu := hA.under
        have c0 : wr.cell? ⟨b, off + k * 6, none⟩ = some (.int .u8 x.many) := (hu.cell (p := ⟨b, off + k * 6, none⟩) hlt0).trans q0
        have c1 : wr.cell? ⟨b, off + k * 6 + 1, none⟩ = some (.int .u8 x.letter.toNat) := (hu.cell (p := ⟨b, off + k * 6 + 1, none⟩) hlt0).trans q1
        have c2 : wr.cell? ⟨b, off + k * 6 + 2, none⟩ = some (.bool x.fl) := (hu.cell (p := ⟨b, off + k * 6 + 2, none⟩) hlt0).trans q2
        have c3 : wr.cell? ⟨b, off + k * 6 + 3, none⟩ = some (.bool x.pb) := (hu.cell (p := ⟨b, off + k * 6 + 3, none⟩) hlt0).trans q3
        have c4 : wr.cell? ⟨b, off + k * 6 + 4, none⟩ = some (.int .u8 x.cutn) := (hu.cell (p := ⟨b, off + k * 6 + 4, none⟩) hlt0).trans q4
        have c5 : wr.cell? ⟨b, off + k * 6 + 5, none⟩ = some (.string ⟨x.more.toArray⟩) := (hu.cell (p := ⟨b, off + k * 6 + 5, none⟩) hlt0).trans q5
        clear hcell hu q0 q1 q2 q3 q4 q5 hx
        obtain ⟨many, letter, fl, pb, cutn, more⟩ := x
        simp only at hx1 hx2 hx3 c0 c1 c2 c3 c4 c5
        have em : IntKind.i64.wrap (many : Int) = (many : Int) := by unfold IntKind.wrap; simp [IntKind.bits, IntKind.signed]; omega
        obtain ⟨bx, ebx⟩ : ∃ bx, bx = wr.heap.size := ⟨_, rfl⟩
        have A1 := bl_new hA 35 [.int .u8 many, .int .u8 letter.toNat, .bool fl, .bool pb, .int .u8 cutn, .string ⟨more.toArray⟩]
        rw [← ebx] at A1
        have FA : Hid (All W (wr.alloc (.cells #[.int .u8 many, .int .u8 letter.toNat, .bool fl, .bool pb, .int .u8 cutn, .string ⟨more.toArray⟩] 35)) [Tp W.heap.size gT gR g gt 0 N T, Ti W.heap.size gt g 0 h false, Di W.heap.size g S, Bl W.heap.size bx 35 [.int .u8 many, .int .u8 letter.toNat, .bool fl, .bool pb, .int .u8 cutn, .string ⟨more.toArray⟩]]) := Lib.hid (all_idx [_, _, _, _] 4 [1, 2, 3, 0] A1 rfl (by decide))
        clear A1
        have HBy := Lib.hid (fun w1 => bytes_walk (w := w1) many (by omega) letter)
        have hO := ta_ok hA
        obtain ⟨r1, r2, r3, r4, r5, r6⟩ := rel_put HR.out hk60 ⟨many, letter, fl, pb, cutn, more⟩ hx1
        have hfin : T.start + T.bs.length = T.fin := rfl
        have he1 := hO.ends
        have hfit := hO.fits
        have hrl := HR.out.few
        have hfs : T.fin - T.start = T.bs.length := by omega
        have HNX := Lib.hid (show nextRow N T row (bytesL letter many) = if T.bs.length + many ≤ N * 128 then row ++ bytesL letter many else row by unfold nextRow; rw [hfs, bytesL_length])
        obtain ⟨d, hd⟩ : ∃ d, d = T.bs.length := ⟨_, rfl⟩
        have e4 : IntKind.u64.wrap ((T.fin : Int) - (T.start : Int)) = (d : Int) := sub_u64 (by omega) (by omega)
        have e5 : IntKind.i64.wrap (d : Int) = (d : Int) := by unfold IntKind.wrap; simp [IntKind.bits, IntKind.signed]; omega
        rw [← hd] at HNX
        have hd2 : d ≤ 1000 := by omega
        have R2 := Lib.hid r2
        have R3 := Lib.hid r3
        have R4 := Lib.hid r4
        have R5 := Lib.hid r5
        have R6 := Lib.hid r6
        have R1 := Lib.hid r1
        obtain ⟨st, hst⟩ : ∃ st, st = T.start := ⟨_, rfl⟩
        obtain ⟨fz, hfz⟩ : ∃ fz, fz = T.fin := ⟨_, rfl⟩
        rw [← hst, ← hfz] at e4
        have HST := Lib.hid hst
        have HFZ := Lib.hid hfz
        clear hA hO r1 r2 r3 r4 r5 r6 hfin hfit hfs hd hst hfz he1
        go_wp2_with fail
        rw [← ebx]
        clear ebx c0 c1 c2 c3 c4 c5
        refine (HBy.out _).mono ?_
        rintro e w2 ⟨rfl, hb2⟩
        have FB := Lib.hid (FA.out.below hb2)
        clear FA hb2 HBy
        have HE := Lib.hid (ta_end FB.out)
        rw [← HFZ.out] at HE
        have HS := Lib.hid (ta_start FB.out)
        rw [← HST.out] at HS
        have hsl : (⟨(bytesL letter many).toArray⟩ : ByteArray).size = many := bytesL_length letter many
        obtain ⟨sl, hsl2⟩ : ∃ sl, sl = bytesL letter many := ⟨_, rfl⟩
        have hslen : sl.length = many := by rw [hsl2, bytesL_length]
        have HSL := Lib.hid hsl2
        rw [← hsl2]
        rw [← hsl2] at HNX hsl R5
        clear hsl2
        have hadd := fun W : World => run_string_add_sum (P := Try.prog) (w := W) ⟨row.toArray⟩ ⟨sl.toArray⟩ (by show row.length + sl.length ≤ _; omega)
        rw [ByteArray.mk_append_mk] at hadd
        have e6 : wrap64 ((d : Int) + (many : Int)) = (d : Int) + (many : Int) := by unfold wrap64; omega
        have A := FB.out
        have d0 : w2.cell? ⟨bx, 0, none⟩ = some (.int .u8 many) := (all_has A (g := bx) (t := 35) (cs := [.int .u8 many, .int .u8 letter.toNat, .bool fl, .bool pb, .int .u8 cutn, .string ⟨more.toArray⟩]) (by simp)).cell 0
        have d1 : w2.cell? ⟨bx, 1, none⟩ = some (.int .u8 letter.toNat) := (all_has A (g := bx) (t := 35) (cs := [.int .u8 many, .int .u8 letter.toNat, .bool fl, .bool pb, .int .u8 cutn, .string ⟨more.toArray⟩]) (by simp)).cell 1
        have d2 : w2.cell? ⟨bx, 2, none⟩ = some (.bool fl) := (all_has A (g := bx) (t := 35) (cs := [.int .u8 many, .int .u8 letter.toNat, .bool fl, .bool pb, .int .u8 cutn, .string ⟨more.toArray⟩]) (by simp)).cell 2
        have d3 : w2.cell? ⟨bx, 3, none⟩ = some (.bool pb) := (all_has A (g := bx) (t := 35) (cs := [.int .u8 many, .int .u8 letter.toNat, .bool fl, .bool pb, .int .u8 cutn, .string ⟨more.toArray⟩]) (by simp)).cell 3
        have d4 : w2.cell? ⟨bx, 4, none⟩ = some (.int .u8 cutn) := (all_has A (g := bx) (t := 35) (cs := [.int .u8 many, .int .u8 letter.toNat, .bool fl, .bool pb, .int .u8 cutn, .string ⟨more.toArray⟩]) (by simp)).cell 4
        have d5 : w2.cell? ⟨bx, 5, none⟩ = some (.string ⟨more.toArray⟩) := (all_has A (g := bx) (t := 35) (cs := [.int .u8 many, .int .u8 letter.toNat, .bool fl, .bool pb, .int .u8 cutn, .string ⟨more.toArray⟩]) (by simp)).cell 5
        clear A
        obtain ⟨row2, hrow2⟩ : ∃ row2, row2 = nextRow N T row sl := ⟨_, rfl⟩
        rw [← hrow2] at R5 HNX
        clear hrow2
        have HP0 := Lib.hid (fun (hh : S.un.length < 999980000) (hh2 : (flR N 0 (appT N T (bytesL letter many)) S h false).2.1.un.length < 999999990) => put_walk ⟨many, letter, fl, pb, cutn, more⟩ hx1 hx2 FB.out (by decide) (by decide) R1.out hh hh2 hx3)
        have HP := Lib.hid (HP0.out (by rw [HR.out.fine.un]; decide) (by rw [R4.out]; decide))
        rw [R2.out, R3.out] at HP
        clear HP0
        have r5 := R5.out
        have hT2 := r5.fin
        have hfew2 := r5.few
        have hle2 := r5.le
        have hbs2 := r5.bs
        have hov2 := r5.fine.up
        have hst2 := r5.fine.ok.low
        have hsf2 := r5.fine.ok.high
        have hfl2 := R6.out
        clear R2 R3 R4 R1 R6 r5 HR HST HFZ hx3
        simp only [pcells] at HP
        generalize hpo : putOf N 0 ⟨many, letter, fl, pb, cutn, more⟩ T S h false = P at *
        obtain ⟨pc, T2, S2, h2, j2⟩ := P
        simp only at HP hT2 hfew2 hle2 hbs2 hov2 hst2 hsf2 hfl2 R5
        clear hpo
        have HP2 : Hid (∀ w4, All W w4 [Tp W.heap.size gT gR g gt 0 N T2, Ti W.heap.size gt g 0 h2 false, Di W.heap.size g S2, Bl W.heap.size bx 35 [.int .u8 many, .int .u8 letter.toNat, .bool fl, .bool pb, .int .u8 cutn, .string ⟨more.toArray⟩]] →
            Calls Try.prog 14 #[.pointer (some ⟨gT, 0, none⟩)] w4 (fun e w' => e = .returned (.int .u64 row2.length) ∧ w' = w4) ∧
            Calls Try.prog 23 #[.pointer (some ⟨gT, 0, none⟩)] w4 (fun e w' => e = .returned (.string ⟨(row2.drop T2.start).toArray⟩) ∧ All W w' [Tp W.heap.size gT gR g gt 0 N T2, Ti W.heap.size gt g 0 h2 false, Di W.heap.size g S2, Bl W.heap.size bx 35 [.int .u8 many, .int .u8 letter.toNat, .bool fl, .bool pb, .int .u8 cutn, .string ⟨more.toArray⟩]]) ∧
            Calls Try.prog 22 #[.pointer (some ⟨gT, 0, none⟩)] w4 (fun e w' => e = .returned (.int .u64 T2.start) ∧ w' = w4) ∧
            Calls Try.prog 13 #[.pointer (some ⟨gT, 0, none⟩)] w4 (fun e w' => e = .returned (.int .u64 T2.stable) ∧ w' = w4) ∧ w4.cell? ⟨bx, 2, none⟩ = some (.bool fl)) := by
          refine Lib.hid fun w4 A4 => ?_
          have k1 := ta_end A4
          rw [hT2] at k1
          have k2 := all_walk A4 hov2
          rw [hbs2] at k2
          exact ⟨k1, k2, ta_start A4, ta_stable A4, (all_has A4 (g := bx) (t := 35) (cs := [.int .u8 many, .int .u8 letter.toNat, .bool fl, .bool pb, .int .u8 cutn, .string ⟨more.toArray⟩]) (by simp)).cell 2⟩
        rw [hT2] at hsf2 hfl2
        have hdt := drop_text row2 T2.start
        obtain ⟨st2, hst2'⟩ : ∃ st2, st2 = T2.start := ⟨_, rfl⟩
        obtain ⟨sb2, hsb2'⟩ : ∃ sb2, sb2 = T2.stable := ⟨_, rfl⟩
        rw [← hst2'] at HP2 hdt hle2 hst2
        rw [← hsb2'] at HP2 hst2 hsf2 hfl2
        obtain ⟨rd, hrd⟩ : ∃ rd, rd = row2.drop st2 := ⟨_, rfl⟩
        rw [← hrd] at HP2 hdt
        obtain ⟨rl, hrlen⟩ : ∃ rl, rl = row2.length := ⟨_, rfl⟩
        rw [← hrlen] at HP2 hsf2 hfl2 hdt hle2 hfew2
        have hsz : (⟨row2.toArray⟩ : ByteArray).size = rl := by rw [hrlen]; rfl
        have e7 : IntKind.u64.wrap (rl : Int) = (rl : Int) := by unfold IntKind.wrap; simp [IntKind.bits, IntKind.signed]; omega
        have g1 : decide (rl < sb2) = false := decide_eq_false (by omega)
        have g2 : decide (sb2 < st2) = false := decide_eq_false (by omega)
        have HRL := Lib.hid hrlen
        clear hrlen hrd hst2' hsb2' hT2 hbs2 hov2 hst2 hsf2
        have HTr := Lib.hid (fun (hc : (d : Int) + (many : Int) ≤ wrap64 (wrap64 (1 + (r : Int)) * 128)) => (show row2 = row ++ sl by rw [HNX.out]; exact if_pos (fit_yes hN hr3 hc)))
        have HFa := Lib.hid (fun (hc : wrap64 (wrap64 (1 + (r : Int)) * 128) < (d : Int) + (many : Int)) => (show row2 = row by rw [HNX.out]; exact if_neg (fit_no hN hr3 hc)))
        have HF := Lib.hid (And.intro hfl2 (And.intro hdt (And.intro hle2 (And.intro hsz (And.intro e7 (And.intro g1 g2))))))
        have HL := Lib.hid (And.intro hL (And.intro hll (And.intro hk (And.intro hk60' (And.intro hk1 (And.intro hk60 hlt0))))))
        have HN := Lib.hid hN
        have HR3 := Lib.hid hr3
        clear HNX hfl2 hdt hle2 hsz e7 g1 g2 hL hll hk hk60' hk1 hk60 hlt0 hN hcl hfew2 hx1 hx2 hslen hrl hd2 hr3 e2 hn
        go_wp2_with (first | (go_at_call 14; refine HE.out.mono ?_; rintro e w3 ⟨rfl, rfl⟩) | (go_at_call 22; refine HS.out.mono ?_; rintro e w3 ⟨rfl, rfl⟩))
        all_goals
          first | rw [← HTr.out (by assumption)] | rw [← HFa.out (by assumption)]
          clear HTr HFa hadd
          refine HP.out.mono ?_
          rintro e w4 ⟨rfl, A4⟩
          have A4 := Lib.hid A4
          clear HP FB HE HS d0 d1 d2 d3 d4 d5 e4 e5 e6 htm
          obtain ⟨k1, k2, k3, k4, k5⟩ := HP2.out w4 A4.out
          obtain ⟨f1, f2, f3, f4, f5, f6, f7⟩ := HF.out
          have F1 := Lib.hid f1
          have K1 := Lib.hid k1
          have K2 := Lib.hid k2
          clear k1 k2 k3 k4 k5 f1
          go_wp2_with (first | (go_at_call 14; refine K1.out.mono ?_; rintro e w5 ⟨rfl, rfl⟩) | (go_at_call 23; refine K2.out.mono ?_; rintro e w5 ⟨rfl, A5⟩))
          obtain ⟨k1, k2, k3, k4, k5⟩ := HP2.out w5 A5
          have A5 := Lib.hid A5
          have J1 := Lib.hid k1
          have J3 := Lib.hid k3
          have J4 := Lib.hid k4
          clear k1 k2 k3 k4 K1 K2 A4
          cases fl with
          | true =>
            have hs : sb2 = rl := F1.out rfl
            subst hs
            go_wp2_with (first | (go_at_call 14; refine J1.out.mono ?_; rintro e w6 ⟨rfl, rfl⟩) | (go_at_call 22; refine J3.out.mono ?_; rintro e w6 ⟨rfl, rfl⟩) | (go_at_call 13; refine J4.out.mono ?_; rintro e w6 ⟨rfl, rfl⟩))
            obtain ⟨hL, hll, hk, hk60', hk1, hk60, hlt0⟩ := HL.out
            go_roundw
            case rel => exact ⟨k + 1, T2, S2, h2, row2, by omega, by omega, by go_num, rfl, R5, (all_idx [_, _, _, _] 4 [3, 0, 1, 2] A5.out rfl (by decide)).tail⟩
            case measure => simp [RowKit.intOf]; omega
          | false =>
            go_wp2_with (first | (go_at_call 14; refine J1.out.mono ?_; rintro e w6 ⟨rfl, rfl⟩) | (go_at_call 22; refine J3.out.mono ?_; rintro e w6 ⟨rfl, rfl⟩) | (go_at_call 13; refine J4.out.mono ?_; rintro e w6 ⟨rfl, rfl⟩))
            obtain ⟨hL, hll, hk, hk60', hk1, hk60, hlt0⟩ := HL.out
            go_roundw
            case rel => exact ⟨k + 1, T2, S2, h2, row2, by omega, by omega, by go_num, rfl, R5, (all_idx [_, _, _, _] 4 [3, 0, 1, 2] A5.out rfl (by decide)).tail⟩
            case measure => simp [RowKit.intOf]; omega
      · obtain rfl : k = 60 := by omega
        clear hL
        go_wp2_with (go_at_call 20; refine (works_walk hA).mono ?_; rintro e w2 ⟨rfl, A2⟩)
        go_ret
        exact ⟨rfl, A2.under⟩
    · obtain rfl : k = l.length := by omega
      clear hL
      go_wp2_with (go_at_call 20; refine (works_walk hA).mono ?_; rintro e w2 ⟨rfl, A2⟩)
      go_ret
      exact ⟨rfl, A2.under⟩

set_option maxRecDepth 100000 in
theorem lifted (os : Os) (started : os.Started) (H : Type) (enc : TypeId × Value → H) :
    ReturnsInHanded {} Try.checked os 4 .any (Rows.tapeRowSpec.pre6 enc Try.prog Try.f4 Rows.tapeRowRow.domain false) (Rows.tapeRowSpec.post enc Try.prog Try.f4 false true false false) := by
  refine returnsInHanded_of_change (C := Try.checked) own started (by kernel_rfl) Try.func4
    (ChangeSpec.witness6 (enc := enc) (C := Try.checked) false ⟨#[], #[.int .u8 0, .slice none 0 0], []⟩ 8 (by kernel_rfl) (by kernel_rfl) (by kernel_rfl) (by kernel_rfl)) ?_
  intro W base args ds gs before hval0 hW hcnd _
  have hval : ∀ (j : Nat) t v, Try.f4.params[j]? = some t → args[j]? = some v → Value.okWide Try.prog W .any base t v := hval0
  have hW' := hW
  obtain ⟨p, q, hA0, hV, rfl, hfz, hnd⟩ := hW
  have hA : DataW.TrodAll enc Try.prog W 0 (fun _ => true) true Try.f4.params.toList args.toList ds p := hA0
  rw [Try.params4] at hA hval
  obtain ⟨v0, vs0, d0, ds0, p0, q0, hargs, rfl, rfl, h0, r0⟩ := trodAll_cons hA
  obtain ⟨v1, vs1, d1, ds1, p1, q1, rfl, rfl, rfl, h1, r1⟩ := trodAll_cons r0
  obtain ⟨rfl, rfl, rfl⟩ := trodAll_nil r1
  obtain rfl : args = #[v0, v1] := by cases args; simp_all
  obtain ⟨rfl, rfl⟩ := trodVars_none hV
  obtain ⟨a0, rfl, rfl, rfl, w0⟩ := open_int Try.underlying5 (hval 0 5 v0 rfl rfl) h0
  have hw0 : 0 ≤ a0 ∧ a0 ≤ 255 := by simpa [Lit.wf, IntKind.min, IntKind.max, IntKind.signed, IntKind.bits] using w0
  obtain ⟨n0, rfl⟩ := Int.eq_ofNat_of_zero_le hw0.1
  obtain ⟨A1, len1, cap1, rfl⟩ := Go.WideShapes.okWide_slice Try.underlying22 (hval 1 22 v1 rfl rfl)
  obtain ⟨l1, hL1⟩ := open_pieces h1 rfl
  clear hA0 hval0
  have hc := walk W n0 (by omega) _ l1 hL1
  try simp only [Array.toArray_toList] at hc
  refine hc.mono fun e W' ⟨he, hg⟩ => ?_
  subst he
  exact ⟨_, rfl, law_post rfl (by decide +kernel) (by kernel_rfl) rfl hW' hg⟩

theorem over : Rows.tapeRowRow.holds Try.pinned (OpenSpec.ofChange Rows.tapeRowSpec) :=
  OpenClaim.holds_of_wide 4 Try.f4 rfl rfl rfl rfl rfl rfl rfl ⟨rfl, rfl, rfl, rfl, rfl⟩ rfl rfl rfl rfl rfl (by kernel_rfl) Try.func4 (by kernel_rfl)
    (of_decide_eq_true (by kernel_rfl)) (by unfold Func.isWrapper; first | (rw [if_pos (by decide +kernel)]; kernel_rfl) | (rw [if_neg (by decide +kernel)]; exact ⟨rfl, rfl⟩))
    (fun os started H enc _ => lifted os started H enc)

theorem proved : Rows.TapeRowSaid :=
  over
#print axioms proved
end TapeRow
end Go.Proofs.Ytkhdidhpcdlmcaa
