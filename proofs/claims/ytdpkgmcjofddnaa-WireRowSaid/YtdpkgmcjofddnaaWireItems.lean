/- A slice of items of the statements of layer 1, opened; the walks over an item's methods and over the document's PutNum, PutText. -/
import Derived.Test.YtdpkgmcjofddnaaWireLaw
import Derived.Test.YtdpkgmcjofddnaaWireRef
import Derived.Deep.Slices
import Derived.Deep.Strs
namespace Go.Proofs.Ytdpkgmcjofddnaa
open Go.RowKit Go.Lib WM WW WP WR WL
namespace WI
/-- An item: is it a text? the text; the number. -/
structure Itm where
  isText : Bool
  s : List UInt8
  n : Nat
def Itm.val (x : Itm) : Value := .agg #[.bool x.isText, .string ⟨x.s.toArray⟩, .int .u64 x.n]
def Itm.ok (x : Itm) : Prop := U64 x.n ∧ x.s.length ≤ 9223372036854775807
instance : Inhabited Itm := ⟨⟨false, [], 0⟩⟩

/-- The item's cells lie at place i of the row at b, from off on. -/
def At (w : World) (b off : Nat) (x : Itm) : Prop :=
  w.cell? ⟨b, off, none⟩ = some (.bool x.isText) ∧ w.cell? ⟨b, off + 1, none⟩ = some (.string ⟨x.s.toArray⟩) ∧ w.cell? ⟨b, off + 2, none⟩ = some (.int .u64 x.n)

/-- 'v' is a slice that reads as these items, below block B. -/
def Reads (w : World) (B : Nat) (A : Option Addr) (l : List Itm) : Prop :=
  (∀ x ∈ l, x.ok) ∧ (0 < l.length → ∃ b off, A = some ⟨b, off, none⟩ ∧ b < B ∧ ∀ i x, l[i]? = some x → At w b (off + i * 3) x)

theorem add_plain (b off i : Nat) : (⟨b, off, none⟩ : Addr).add i = ⟨b, off + i, none⟩ := by unfold Addr.add; split <;> simp_all

section
variable {H : Type} {enc : TypeId × Value → H} {w : World} {base : Nat} {spare : Nat → Bool} {held : Bool}
theorem open_item {fuel : Nat} {cs : List Value} {x : DataW H × List MemPlace} (h : DataW.trod enc Try.prog w base spare held fuel 25 cs = some x) :
    ∃ y : Itm, y.ok ∧ cs = [.bool y.isText, .string ⟨y.s.toArray⟩, .int .u64 y.n] := by
  obtain ⟨y0, y1, y2, n, _, hl, h0, h1, h2⟩ := Go.Deep.trod_struct3 Try.underlying25 h
  have hc : Try.prog.cellsOf 25 = 3 := by kernel_rfl
  rw [hc] at hl
  match cs, hl with
  | [c0, c1, c2], _ =>
    obtain ⟨b, e0, _⟩ := DataW.trod_bool Try.underlying4 h0
    obtain ⟨s, e1, _, hs⟩ := DataW.trod_string Try.underlying9 h1
    obtain ⟨m, e2, _, hm⟩ := DataW.trod_int Try.underlying23 h2
    have k0 : Try.prog.cellsOf 4 = 1 := by kernel_rfl
    have k1 : Try.prog.cellsOf 9 = 1 := by kernel_rfl
    have k2 : Try.prog.cellsOf 23 = 1 := by kernel_rfl
    simp only [k0, k1, k2, List.drop_zero, List.drop_succ_cons, List.take_succ_cons, List.take_zero, List.cons.injEq, and_true] at e0 e1 e2
    obtain ⟨k, rfl, hk⟩ := of_wf hm
    subst e0 e1 e2
    exact ⟨⟨b, s.data.toList, k⟩, ⟨hk, by rw [Array.length_toList]; exact hs⟩, by simp⟩

theorem open_items {r : Reach} {b0 : Nat} {v : Value} {d : DataW H} {ps : List MemPlace} (hval : Value.okWide Try.prog w r b0 22 v) (h : DataW.Trod enc Try.prog w 0 (fun _ => true) true 22 v d ps) :
    ∃ (A : Option Addr) (cap : Nat) (l : List Itm), v = .slice A l.length cap ∧ Reads w w.heap.size A l ∧ l.length ≤ cap ∧ cap ≤ 9223372036854775807 := by
  obtain ⟨A0, len0, cap0, rfl⟩ := Go.WideShapes.okWide_slice Try.underlying22 hval
  obtain ⟨fuel, hf⟩ := h
  rcases Go.Deep.open_slice Try.underlying22 hf with ⟨hv, _⟩ | ⟨a, len, cap, m, n, D, Pl, hv, hb, hl, hm, hmm, hx, hel⟩
  · simp [Value.cells] at hv
    obtain ⟨rfl, rfl, rfl⟩ := hv
    exact ⟨none, 0, [], rfl, ⟨by simp, by simp⟩, by simp, by omega⟩
  · simp [Value.cells] at hv
    obtain ⟨rfl, rfl, rfl⟩ := hv
    have hc3 : Try.prog.cellsOf 25 = 3 := by kernel_rfl
    have each : ∀ i, i < len0 → ∃ y : Itm, y.ok ∧ w.cell? ((a.add (i * 3)).add 0) = some (.bool y.isText) ∧ w.cell? ((a.add (i * 3)).add 1) = some (.string ⟨y.s.toArray⟩) ∧ w.cell? ((a.add (i * 3)).add 2) = some (.int .u64 y.n) := by
      intro i hi
      obtain ⟨cs', h1, h2⟩ := hel i (by rw [hmm]; simp; omega)
      obtain ⟨y, hy, rfl⟩ := open_item h2
      rw [hc3] at h1
      obtain ⟨_, _, hcell⟩ := World.cells?_some h1
      exact ⟨y, hy, hcell 0 (by omega), hcell 1 (by omega), hcell 2 (by omega)⟩
    obtain ⟨Y, hY⟩ := Go.Deep.choose_lt each
    refine ⟨some a, cap0, (List.range len0).map Y, by simp, ⟨?_, ?_⟩, by simpa using hl, hm⟩
    · intro x hx
      simp only [List.mem_map, List.mem_range] at hx
      obtain ⟨i, hi, rfl⟩ := hx
      exact (hY i hi).1
    · intro h0
      have h0 : 0 < len0 := by simpa using h0
      have hs : a.spot = none := by
        have := (hY 0 h0).2.1
        have e : (a.add (0 * 3)).add 0 = a := by simp [Addr.add]
        rw [e] at this
        exact World.cell?_spot this
      obtain ⟨b, off, sp⟩ := a
      simp only at hs
      subst hs
      refine ⟨b, off, rfl, ?_, ?_⟩
      · exact block_lt_of_cell (hY 0 h0).2.1
      · intro i x hx
        have hi : i < len0 := by
          have := (List.getElem?_eq_some_iff.1 hx).1
          simpa using this
        have e : x = Y i := by simpa [hi] using hx.symm
        subst e
        have := (hY i hi).2
        simp only [add_plain] at this
        exact this
end

def Itm.text (x : Itm) : List UInt8 := x.s.take 200
theorem Itm.text_le (x : Itm) : x.text.length ≤ 200 := by unfold Itm.text; rw [List.length_take]; omega
/-- An item's bytes. -/
def Itm.bytes (x : Itm) : List UInt8 := if x.isText then textB x.text else numB x.n
theorem Itm.bytes_le (x : Itm) : 1 ≤ x.bytes.length ∧ x.bytes.length ≤ 210 := by
  unfold Itm.bytes
  have h1 := x.text_le
  have h2 := numB_le x.text.length
  have h3 := numB_pos x.text.length
  have h4 := numB_le x.n
  have h5 := numB_pos x.n
  cases x.isText
  · simp; omega
  · simp [textB]; omega

set_option maxHeartbeats 400000 in
theorem text_walk (x : Itm) (hs : x.s.length ≤ 9223372036854775807) (w : World) :
    Calls Try.prog 11 #[.agg #[.bool x.isText, .string ⟨x.s.toArray⟩, .int .u64 x.n]] w fun e w' => e = .returned (.string ⟨x.text.toArray⟩) ∧ Below w.heap.size w w' := by
  rcases Nat.lt_or_ge 200 x.s.length with hcase | hcase
  · go_enter Try.func11, Try.ntmps11
    go_wp2
    go_ret
    rw [take_str]
    exact ⟨rfl, (Below.refl _ _).alloc (Nat.le_refl _) _⟩
  · have ht : Hid (x.text = x.s.take x.s.length) := by
      show _ = _
      unfold Itm.text
      rw [List.take_length, List.take_of_length_le hcase]
    go_enter Try.func11, Try.ntmps11
    go_wp2
    go_ret
    rw [ht.out, take_str]
    exact ⟨rfl, (Below.refl _ _).alloc (Nat.le_refl _) _⟩

set_option maxHeartbeats 400000 in
theorem put_walk (x : Itm) (hx : x.ok) (s : List UInt8) (hs : s.length ≤ 1073741824) (w : World) :
    Calls Try.prog 9 #[.agg #[.bool x.isText, .string ⟨x.s.toArray⟩, .int .u64 x.n], .string ⟨s.toArray⟩] w fun e w' => e = .returned (.string ⟨(s ++ x.bytes).toArray⟩) ∧ Below w.heap.size w w' := by
  obtain ⟨hn, hl⟩ := hx
  have ht := text_walk x hl
  have htl := x.text_le
  have HT := Lib.hid ht
  clear ht
  cases hb : x.isText with
  | true =>
    have HB : Hid (x.bytes = textB x.text) := by show _ = _; simp [Itm.bytes, hb]
    rw [hb] at HT
    go_enter Try.func9, Try.ntmps9
    go_wp2_with fail
    refine (HT.out _).mono ?_
    rintro e w1 ⟨rfl, b1⟩
    go_wp2_with fail
    refine (putText_walk s x.text (by omega) (by omega) _).mono ?_
    rintro e w2 ⟨rfl, b2⟩
    go_wp2
    go_ret
    rw [HB.out]
    have B1 := ((Below.refl w.heap.size w).alloc (Nat.le_refl _) _).trans (b1.mono (by simp))
    exact ⟨rfl, B1.trans (b2.mono B1.size)⟩
  | false =>
    have HB : Hid (x.bytes = numB x.n) := by show _ = _; simp [Itm.bytes, hb]
    clear HT
    go_enter Try.func9, Try.ntmps9
    go_wp2_with fail
    refine (putNum_walk s x.n hn (by omega) _).mono ?_
    rintro e w2 ⟨rfl, b2⟩
    go_wp2
    go_ret
    rw [HB.out]
    exact ⟨rfl, ((Below.refl w.heap.size w).alloc (Nat.le_refl _) _).trans (b2.mono (by simp))⟩

/-- A slice of one byte as a string. -/
theorem one_byte (W : World) (m : Int) (c : UInt8) (hm : m = (c.toNat : Int)) :
    (convert 47 9 (.slice (some ⟨W.heap.size, 0, none⟩) 1 1)).run Try.prog (W.alloc (.cells #[.int .u8 m] 5)) = .ok (.string ⟨#[c]⟩) (W.alloc (.cells #[.int .u8 m] 5)) := by
  subst hm
  exact string_of_row (l := [c]) (heap_alloc_new _ _)
theorem cat_byte (l : List UInt8) (c : UInt8) (h : l.length ≤ 4611686018427388000) (W : World) :
    (Op.stringOp .add ⟨l.toArray⟩ ⟨#[c]⟩).run Try.prog W = .ok (.string ⟨(l ++ [c]).toArray⟩) W := by
  have := run_string_add_sum (P := Try.prog) (w := W) ⟨l.toArray⟩ ⟨[c].toArray⟩ (by show l.length + 1 ≤ _; omega)
  rw [ByteArray.mk_append_mk] at this
  exact this

set_option maxRecDepth 100000 in
set_option maxHeartbeats 400000 in
theorem refNum_walk (s : List UInt8) (n : Nat) (hn : U64 n) (hs : s.length ≤ 4611686018427387000) (w : World) :
    Calls Try.prog 12 #[.string ⟨s.toArray⟩, .int .u64 n] w fun e w' => e = .returned (.string ⟨(s ++ numB n).toArray⟩) ∧ Below w.heap.size w w' := by
  go_enter Try.func12, Try.ntmps12
  go_wp2
  go_loopg [0, 1] 10 (fun g x y wr => ∃ (pre : List UInt8) (q : Nat), pre.length + g = 10 ∧ pre.length ≤ 9 ∧ U64 q ∧ x = .string ⟨(s ++ pre).toArray⟩ ∧ y = .int .u64 q ∧ Hid (numB n = pre ++ numF (9 - pre.length) q) ∧ Hid (q * 128 ^ pre.length ≤ n) ∧ Below w.heap.size w wr)
  case atStart => exact ⟨[], n, by simp, by simp, hn, by simp, rfl, (by simp [numB] : numB n = [] ++ numF 9 n), (by simp : n * 128 ^ 0 ≤ n), Below.refl _ _⟩
  case round =>
    obtain ⟨pre, q, hgk, hk, hq, rfl, rfl, HB, HQ, hbel⟩ := hrel
    by_cases h128 : 128 ≤ q
    · have h9 : pre.length + 1 ≤ 9 := by
        have := HQ.out
        unfold U64 at hn
        by_cases h : pre.length = 9
        · rw [h] at this
          have e9 : (128 : Nat) ^ 9 = 9223372036854775808 := by decide
          rw [e9] at this
          omega
        · omega
      have hf : numF (9 - pre.length) q = UInt8.ofNat (q % 128 + 128) :: numF (9 - (pre.length + 1)) (q / 128) := by
        obtain ⟨f, hf⟩ : ∃ f, 9 - pre.length = f + 1 := ⟨8 - pre.length, by omega⟩
        rw [hf]
        simp only [numF]
        rw [if_neg (by omega), show 9 - (pre.length + 1) = f by omega]
      have hcn : (UInt8.ofNat (q % 128 + 128)).toNat = q % 128 + 128 := toNat_ofNat_lt (by omega)
      generalize UInt8.ofNat (q % 128 + 128) = c at *
      have Hf := Lib.hid hf
      have hconv := one_byte wr (128 + (q : Int) % 128) c (by rw [hcn]; omega)
      have hcat := cat_byte (s ++ pre) (c) (by rw [List.length_append]; omega)
      have hw : IntKind.u64.wrap ((q : Int) / 128) = ((q / 128 : Nat) : Int) := by
        have := IntWalk.u64_in ((q : Int) / 128) ⟨by omega, by unfold U64 at hq; omega⟩
        omega
      clear hf hcn
      go_wp2
      cases gk with
      | zero => omega
      | succ gk =>
        go_roundg gk
        case measure => omega
        case rel =>
          refine ⟨pre ++ [c], q / 128, by simp; omega, by simpa using h9, ?_, by simp, rfl, ?_, ?_, hbel.alloc hbel.size _⟩
          · unfold U64 at hq ⊢; omega
          · show numB n = _
            rw [HB.out, Hf.out]; simp
          · show _ ≤ n
            refine Nat.le_trans ?_ HQ.out
            simp only [List.length_append, List.length_cons, List.length_nil, Nat.zero_add]
            rw [pow128_succ, Nat.mul_comm (128 ^ pre.length) 128, ← Nat.mul_assoc]
            exact Nat.mul_le_mul_right _ (by omega)
    · have hend : numB n = pre ++ [UInt8.ofNat q] := by rw [HB.out, last_digit (by omega)]
      have Hend := Lib.hid hend
      have hcn : (UInt8.ofNat q).toNat = q := toNat_ofNat_lt (by omega)
      clear hend HB HQ
      generalize UInt8.ofNat q = c at *
      have hconv := one_byte wr (q : Int) c (by rw [hcn])
      have hcat := cat_byte (s ++ pre) c (by rw [List.length_append]; omega)
      clear hcn
      go_wp2
      go_ret
      rw [Hend.out, ← List.append_assoc]
      exact ⟨rfl, hbel.alloc hbel.size _⟩

theorem refText_walk (s t : List UInt8) (hs : s.length ≤ 4611686018427386000) (ht : t.length ≤ 1073741824) (w : World) :
    Calls Try.prog 10 #[.string ⟨s.toArray⟩, .string ⟨t.toArray⟩] w fun e w' => e = .returned (.string ⟨(s ++ textB t).toArray⟩) ∧ Below w.heap.size w w' := by
  have hle := numB_le t.length
  go_enter Try.func10, Try.ntmps10
  go_wp2_with fail
  refine (refNum_walk s t.length (by unfold U64; omega) (by omega) _).mono ?_
  rintro e w1 ⟨rfl, hb⟩
  have hadd := run_string_add_sum (P := Try.prog) (w := w1) ⟨(s ++ numB t.length).toArray⟩ ⟨t.toArray⟩ (by show (s ++ numB t.length).length + t.length ≤ _; rw [List.length_append]; omega)
  rw [ByteArray.mk_append_mk, List.append_assoc] at hadd
  go_wp2
  go_ret
  exact ⟨rfl, hb⟩
end WI
end Go.Proofs.Ytdpkgmcjofddnaa
