/- The chapter's examples; limits; what may not be. A closed statement. No condition. -/
import Derived.Test.YtkhdidhpcdlmcabLrecArgs
import Derived.BigQuiet
import Derived.Deep.QuietTactic
namespace Go.Proofs.Ytkhdidhpcdlmcab
set_option maxRecDepth 100000
open Go.ChangeShapes Go.WideShapes Go.ChangeAt Go.RowKit Go.Lib MM MB MS MF DE WM WP WR CM CE FL LM LQ LC LA LL RS LR LTk LD LW LAr LK
namespace LrecKnown
instance : Inhabited En := ⟨⟨0, 0, []⟩⟩
def QE (w : World) (e : En) (cs : List Value) : Prop := ∃ v, cs = ecells e v ∧ Ew w e v
theorem qe_firm : Firm QE := fun _ _ _ _ ⟨v, h, k⟩ b => ⟨v, h, k.under b⟩
/-- Blocks that are laid one behind the other. -/
def allocs (w : World) : List (List Value × TypeId) → World
  | [] => w
  | (cs, t) :: r => allocs (w.alloc (.cells cs.toArray t)) r
theorem allocs_below : ∀ (bs : List (List Value × TypeId)) (w : World), Below w.heap.size w (allocs w bs)
  | [], w => Below.refl _ _
  | (cs, t) :: r, w => by
    have h := allocs_below r (w.alloc (.cells cs.toArray t))
    have h1 : Below w.heap.size w (w.alloc (.cells cs.toArray t)) := (Below.refl _ w).alloc (Nat.le_refl _) _
    exact h1.trans (h.mono (by rw [World.size_alloc]; exact Nat.le_succ _))
theorem allocs_has : ∀ (bs : List (List Value × TypeId)) (w : World) (i : Nat) (cs : List Value) (t : TypeId), bs[i]? = some (cs, t) → Has (allocs w bs) (w.heap.size + i) t cs
  | [], w, i, cs, t, h => by simp at h
  | (cs0, t0) :: r, w, 0, cs, t, h => by
    simp at h
    obtain ⟨rfl, rfl⟩ := h
    have h1 : Has (w.alloc (.cells cs0.toArray t0)) w.heap.size t0 cs0 := heap_alloc_new _ _
    exact h1.under (allocs_below r _) h1.lt
  | (cs0, t0) :: r, w, i + 1, cs, t, h => by
    have := allocs_has r (w.alloc (.cells cs0.toArray t0)) i cs t (by simpa using h)
    rw [World.size_alloc] at this
    rw [show w.heap.size + (i + 1) = w.heap.size + 1 + i by omega]
    exact this
/-- Entries in a row. -/
def ecs : List (En × Value) → List Value
  | [] => []
  | (e, v) :: r => ecells e v ++ ecs r
theorem ecs_at : ∀ (l : List (En × Value)) (i j : Nat) (e : En) (v : Value), j < 3 → l[i]? = some (e, v) → (ecs l)[i * 3 + j]? = (ecells e v)[j]?
  | [], i, j, e, v, _, h => by simp at h
  | (e0, v0) :: r, 0, j, e, v, hj, h => by
    simp at h
    obtain ⟨rfl, rfl⟩ := h
    simp only [ecs, Nat.zero_mul, Nat.zero_add]
    exact List.getElem?_append_left (by simpa [ecells] using hj)
  | (e0, v0) :: r, i + 1, j, e, v, hj, h => by
    have ih := ecs_at r i j e v hj (by simpa using h)
    simp only [ecs]
    rw [List.getElem?_append_right (by simp [ecells]; omega), ← ih]
    congr 1
    simp [ecells]
    omega
theorem lst_ents {w : World} {g : Nat} {l : List (En × Value)} (h : Has w g 25 (ecs l)) (hl : l.length ≤ maxLen) (hw : ∀ x ∈ l, Ew w x.1 x.2) : Lst w 3 QE (.slice (some ⟨g, 0, none⟩) l.length l.length) (l.map Prod.fst) := by
  have hm : (l.map Prod.fst).length = l.length := by simp
  refine ⟨_, l.length, by rw [hm], by rw [hm]; exact Nat.le_refl _, hl, fun _ => ⟨g, 0, rfl, h.lt, fun i x hi => ?_⟩⟩
  rw [List.getElem?_map] at hi
  rcases hq : l[i]? with _ | ⟨e, v⟩
  · rw [hq] at hi; cases hi
  · rw [hq] at hi
    simp at hi
    subst hi
    exact ⟨ecells e v, rfl, ⟨v, rfl, hw (e, v) (List.mem_of_getElem? hq)⟩, fun j hj => by rw [Nat.zero_add, h.cell, ecs_at l i j e v hj hq]⟩
theorem ew_nil (w : World) (a b : Nat) (ha : a < 18446744073709551616) (hb : b < 18446744073709551616) : Ew w ⟨a, b, []⟩ (.slice none 0 0) := ⟨⟨none, 0, rfl, Nat.le_refl _, Nat.zero_le _, fun h => absurd h (Nat.lt_irrefl 0)⟩, ha, hb⟩
theorem ew_has {w : World} {g : Nat} {a b : Nat} {l : List Ro} (h : Has w g 42 (rcells l)) (ha : a < 18446744073709551616) (hb : b < 18446744073709551616) (hl : l.length ≤ maxLen) (hx : ∀ x ∈ l, x.key.length ≤ 9223372036854775807 ∧ x.lsn < 18446744073709551616 ∧ x.val.length ≤ 9223372036854775807) : Ew w ⟨a, b, l⟩ (.slice (some ⟨g, 0, none⟩) l.length l.length) := ⟨lst_has h hl hx, ha, hb⟩
def o2 : List Ro := [⟨[49, 50, 51, 52, 53, 54, 55, 56, 57, 48, 49, 50, 51, 52, 53, 54], 1, false, [49, 50, 51, 52, 53, 54, 55, 56, 57, 48, 49, 50, 51, 52, 53, 54, 55, 56, 57, 48, 49, 50, 51, 52]⟩, ⟨[98], 2, true, []⟩, ⟨[99], 3, false, []⟩, ⟨[100], 4, false, []⟩, ⟨[101], 5, false, []⟩, ⟨[102], 6, false, []⟩]
def o3 : List Ro := [⟨[97], 1099511627775, false, []⟩, ⟨[98], 1099511627776, false, []⟩]
def g2 : En := ⟨1099511627776, 1, o2⟩
def g3 : En := ⟨1, 1099511627775, o3⟩
def goods : List En := [one1, g2, g3]
theorem goods_ok : ∀ e ∈ goods, checkE e = 0 := by decide +kernel
def okR (l : List Ro) : Bool := l.all fun x => decide (x.key.length ≤ 9223372036854775807) && decide (x.lsn < 18446744073709551616) && decide (x.val.length ≤ 9223372036854775807)
theorem okR_all {l : List Ro} (h : okR l = true) : ∀ x ∈ l, x.key.length ≤ 9223372036854775807 ∧ x.lsn < 18446744073709551616 ∧ x.val.length ≤ 9223372036854775807 := by
  intro x hx
  unfold okR at h
  rw [List.all_eq_true] at h
  have := h x hx
  simp only [Bool.and_eq_true, decide_eq_true_eq] at this
  exact ⟨this.1.1, this.1.2, this.2⟩
def goodBs (w : World) (v1 : Value) : List (List Value × TypeId) := [(rcells o2, 42), (rcells o3, 42), (ecs [(one1, v1), (g2, .slice (some ⟨w.heap.size, 0, none⟩) 6 6), (g3, .slice (some ⟨w.heap.size + 1, 0, none⟩) 2 2)], 25)]
theorem good_lst (w : World) (v1 : Value) (h1 : Ew w one1 v1) : Lst (allocs w (goodBs w v1)) 3 QE (.slice (some ⟨w.heap.size + 2, 0, none⟩) 3 3) goods := by
  have q1 := allocs_has (goodBs w v1) w 0 _ _ rfl
  have q2 := allocs_has (goodBs w v1) w 1 _ _ rfl
  have q3 := allocs_has (goodBs w v1) w 2 _ _ rfl
  have b := allocs_below (goodBs w v1) w
  refine lst_ents q3 (show 3 ≤ maxLen by decide) ?_
  intro x hx
  simp only [List.mem_cons, List.not_mem_nil, or_false] at hx
  rcases hx with rfl | rfl | rfl
  · exact h1.under b
  · exact ew_has q1 (by decide) (by decide) (by decide) (okR_all (by decide))
  · exact ew_has q2 (by decide) (by decide) (by decide) (okR_all (by decide))
def badEs (w : World) : List (En × Value) := [(⟨0, 0, []⟩, .slice none 0 0), (⟨1, 1, []⟩, .slice none 0 0), (⟨1, 1, [⟨[97], 2, false, []⟩]⟩, .slice (some ⟨w.heap.size, 0, none⟩) 1 1), (⟨0, 1, [⟨[97], 1, false, []⟩]⟩, .slice (some ⟨w.heap.size + 1, 0, none⟩) 1 1), (⟨1, 0, [⟨[97], 0, false, []⟩]⟩, .slice (some ⟨w.heap.size + 2, 0, none⟩) 1 1), (⟨1099511627777, 1, [⟨[97], 1, false, []⟩]⟩, .slice (some ⟨w.heap.size + 3, 0, none⟩) 1 1), (⟨1, 1, [⟨[97], 1, false, []⟩, ⟨[97], 2, false, []⟩]⟩, .slice (some ⟨w.heap.size + 4, 0, none⟩) 2 2), (⟨1, 1099511627776, [⟨[97], 1099511627776, false, []⟩, ⟨[98], 1099511627777, false, []⟩]⟩, .slice (some ⟨w.heap.size + 5, 0, none⟩) 2 2), (⟨1, 1, [⟨[], 1, false, []⟩]⟩, .slice (some ⟨w.heap.size + 6, 0, none⟩) 1 1), (⟨1, 1, [⟨[97], 1, true, [120]⟩]⟩, .slice (some ⟨w.heap.size + 7, 0, none⟩) 1 1), (⟨1, 18446744073709551615, [⟨[97], 18446744073709551615, false, []⟩, ⟨[98], 0, false, []⟩]⟩, .slice (some ⟨w.heap.size + 8, 0, none⟩) 2 2)]
def bads : List En := [⟨0, 0, []⟩, ⟨1, 1, []⟩, ⟨1, 1, [⟨[97], 2, false, []⟩]⟩, ⟨0, 1, [⟨[97], 1, false, []⟩]⟩, ⟨1, 0, [⟨[97], 0, false, []⟩]⟩, ⟨1099511627777, 1, [⟨[97], 1, false, []⟩]⟩, ⟨1, 1, [⟨[97], 1, false, []⟩, ⟨[97], 2, false, []⟩]⟩, ⟨1, 1099511627776, [⟨[97], 1099511627776, false, []⟩, ⟨[98], 1099511627777, false, []⟩]⟩, ⟨1, 1, [⟨[], 1, false, []⟩]⟩, ⟨1, 1, [⟨[97], 1, true, [120]⟩]⟩, ⟨1, 18446744073709551615, [⟨[97], 18446744073709551615, false, []⟩, ⟨[98], 0, false, []⟩]⟩]
def badBs (w : World) : List (List Value × TypeId) := [(rcells [⟨[97], 2, false, []⟩], 42), (rcells [⟨[97], 1, false, []⟩], 42), (rcells [⟨[97], 0, false, []⟩], 42), (rcells [⟨[97], 1, false, []⟩], 42), (rcells [⟨[97], 1, false, []⟩, ⟨[97], 2, false, []⟩], 42), (rcells [⟨[97], 1099511627776, false, []⟩, ⟨[98], 1099511627777, false, []⟩], 42), (rcells [⟨[], 1, false, []⟩], 42), (rcells [⟨[97], 1, true, [120]⟩], 42), (rcells [⟨[97], 18446744073709551615, false, []⟩, ⟨[98], 0, false, []⟩], 42), (ecs (badEs w), 25)]
theorem bads_not : ∀ e ∈ bads, checkE e = 2 := by decide +kernel
theorem bad_lst (w : World) : Lst (allocs w (badBs w)) 3 QE (.slice (some ⟨w.heap.size + 9, 0, none⟩) 11 11) bads := by
  have q0 := allocs_has (badBs w) w 0 _ _ rfl
  have q1 := allocs_has (badBs w) w 1 _ _ rfl
  have q2 := allocs_has (badBs w) w 2 _ _ rfl
  have q3 := allocs_has (badBs w) w 3 _ _ rfl
  have q4 := allocs_has (badBs w) w 4 _ _ rfl
  have q5 := allocs_has (badBs w) w 5 _ _ rfl
  have q6 := allocs_has (badBs w) w 6 _ _ rfl
  have q7 := allocs_has (badBs w) w 7 _ _ rfl
  have q8 := allocs_has (badBs w) w 8 _ _ rfl
  have q9 := allocs_has (badBs w) w 9 _ _ rfl
  refine lst_ents (l := badEs w) q9 (show 11 ≤ maxLen by decide) ?_
  intro x hx
  simp only [badEs, List.mem_cons, List.not_mem_nil, or_false] at hx
  rcases hx with rfl | rfl | rfl | rfl | rfl | rfl | rfl | rfl | rfl | rfl | rfl
  · exact ew_nil _ _ _ (by decide) (by decide)
  · exact ew_nil _ _ _ (by decide) (by decide)
  · exact ew_has q0 (by decide) (by decide) (by decide) (okR_all (by decide))
  · exact ew_has q1 (by decide) (by decide) (by decide) (okR_all (by decide))
  · exact ew_has q2 (by decide) (by decide) (by decide) (okR_all (by decide))
  · exact ew_has q3 (by decide) (by decide) (by decide) (okR_all (by decide))
  · exact ew_has q4 (by decide) (by decide) (by decide) (okR_all (by decide))
  · exact ew_has q5 (by decide) (by decide) (by decide) (okR_all (by decide))
  · exact ew_has q6 (by decide) (by decide) (by decide) (okR_all (by decide))
  · exact ew_has q7 (by decide) (by decide) (by decide) (okR_all (by decide))
  · exact ew_has q8 (by decide) (by decide) (by decide) (okR_all (by decide))
def sevens : List Ro := List.replicate 7 ⟨[], 0, false, []⟩
def longEs (w : World) : List (En × Value) := [(⟨0, 0, sevens⟩, .slice (some ⟨w.heap.size, 0, none⟩) 7 7), (⟨1, 1, [⟨[49, 50, 51, 52, 53, 54, 55, 56, 57, 48, 49, 50, 51, 52, 53, 54, 55], 1, false, []⟩]⟩, .slice (some ⟨w.heap.size + 1, 0, none⟩) 1 1), (⟨0, 0, [⟨[], 0, false, [49, 50, 51, 52, 53, 54, 55, 56, 57, 48, 49, 50, 51, 52, 53, 54, 55, 56, 57, 48, 49, 50, 51, 52, 53]⟩]⟩, .slice (some ⟨w.heap.size + 2, 0, none⟩) 1 1)]
def longs : List En := [⟨0, 0, sevens⟩, ⟨1, 1, [⟨[49, 50, 51, 52, 53, 54, 55, 56, 57, 48, 49, 50, 51, 52, 53, 54, 55], 1, false, []⟩]⟩, ⟨0, 0, [⟨[], 0, false, [49, 50, 51, 52, 53, 54, 55, 56, 57, 48, 49, 50, 51, 52, 53, 54, 55, 56, 57, 48, 49, 50, 51, 52, 53]⟩]⟩]
def longBs (w : World) : List (List Value × TypeId) := [(rcells sevens, 42), (rcells [⟨[49, 50, 51, 52, 53, 54, 55, 56, 57, 48, 49, 50, 51, 52, 53, 54, 55], 1, false, []⟩], 42), (rcells [⟨[], 0, false, [49, 50, 51, 52, 53, 54, 55, 56, 57, 48, 49, 50, 51, 52, 53, 54, 55, 56, 57, 48, 49, 50, 51, 52, 53]⟩], 42), (ecs (longEs w), 25)]
theorem longs_long : ∀ e ∈ longs, checkE e = 3 := by decide +kernel
theorem long_lst (w : World) : Lst (allocs w (longBs w)) 3 QE (.slice (some ⟨w.heap.size + 3, 0, none⟩) 3 3) longs := by
  have q0 := allocs_has (longBs w) w 0 _ _ rfl
  have q1 := allocs_has (longBs w) w 1 _ _ rfl
  have q2 := allocs_has (longBs w) w 2 _ _ rfl
  have q3 := allocs_has (longBs w) w 3 _ _ rfl
  refine lst_ents (l := longEs w) q3 (show 3 ≤ maxLen by decide) ?_
  intro x hx
  simp only [longEs, List.mem_cons, List.not_mem_nil, or_false] at hx
  rcases hx with rfl | rfl | rfl
  · exact ew_has q0 (by decide) (by decide) (by decide) (okR_all (by decide))
  · exact ew_has q1 (by decide) (by decide) (by decide) (okR_all (by decide))
  · exact ew_has q2 (by decide) (by decide) (by decide) (okR_all (by decide))
theorem run_make_rowN {P : Program} (t e : TypeId) (i : TypeInfo) (z : Value) (ht : P.underlying t = some (.slice e)) (hi : P.info? e = some i) (hz : i.zero = some z)
    (kl kc : IntKind) (n c : Nat) (hnc : n ≤ c) (hbytes : i.bytes * c ≤ 281474976710656) (h63 : c ≤ 9223372036854775807) (w : World) :
    (Instr.makeSlice t (.int kl (n : Int)) (.int kc (c : Int))).run P w = .ok (.slice (some ⟨w.heap.size, 0, none⟩) n c) (w.alloc (.cells (madeCells z.cells (c * i.size)) e)) := by
  have hb : (i.bytes : Int) * (c : Int) ≤ 281474976710656 := by
    have h : ((i.bytes * c : Nat) : Int) ≤ 281474976710656 := by omega
    rwa [Int.natCast_mul] at h
  have hr := run_make (P := P) w t e i z ht hi hz kl kc n c (by omega) (by omega) hb (by omega)
  simp only [Int.toNat_natCast] at hr
  exact hr
theorem made_seven : madeCells (Value.cells (.agg #[.string ⟨#[]⟩, .int .u64 0, .bool false, .string ⟨#[]⟩])) (7 * 4) = (rcells sevens).toArray := by kernel_rfl
theorem make_seven (W : World) : (Instr.makeSlice 23 (.int .i64 7) (.int .i64 7)).run Try.prog W = .ok (.slice (some ⟨W.heap.size, 0, none⟩) 7 7) (W.alloc (.cells (rcells sevens).toArray 42)) := by
  obtain ⟨i0, hi, hz, hs, hb⟩ := info_parts recInfo
  have := run_make_rowN (P := Try.prog) 23 42 i0 _ Try.underlying23 hi hz .i64 .i64 7 7 (Nat.le_refl _) (by rw [hb]; omega) (by omega) W
  rw [hs, made_seven] at this
  exact this
def QS (_w : World) (l : List UInt8) (cs : List Value) : Prop := cs = [.string ⟨l.toArray⟩]
theorem qs_firm : Firm QS := fun _ _ _ _ h _ => h
theorem lst_strs {w : World} {g : Nat} {ls : List (List UInt8)} (h : Has w g 9 (ls.map fun l => .string ⟨l.toArray⟩)) (hl : ls.length ≤ maxLen) : Lst w 1 QS (.slice (some ⟨g, 0, none⟩) ls.length ls.length) ls :=
  ⟨_, ls.length, rfl, Nat.le_refl _, hl, fun _ => ⟨g, 0, rfl, h.lt, fun i x hi => ⟨[.string ⟨x.toArray⟩], rfl, rfl, fun j hj => by
    obtain rfl : j = 0 := by omega
    rw [Nat.zero_add, h.cell, Nat.mul_one, Nat.add_zero, List.getElem?_map, hi]
    rfl⟩⟩⟩
def raws : List (List UInt8) := [[], [0], [4, 0, 0, 0, 0], 12 :: sealB [1, 2, 1, 1, 97, 2, 1, 98], 13 :: sealB [1, 2, 1, 1, 97, 0, 1, 98, 0], 11 :: sealB [1, 2, 2, 1, 97, 0, 0], 140 :: 0 :: sealB [1, 2, 1, 1, 97, 0, 1, 98]]
theorem raws_all : (raws.all fun l => (decS l).isNone && decide (l.length ≤ 100)) = true := by kernel_rfl
theorem raws_not : ∀ l ∈ raws, decS l = none ∧ l.length ≤ 100 := by
  intro l hl
  have h := raws_all
  rw [List.all_eq_true] at h
  have := h l hl
  simp only [Bool.and_eq_true, decide_eq_true_eq, Option.isNone_iff_eq_none] at this
  exact this
theorem cat_one (c : UInt8) (Q R : List UInt8) (hR : R = c :: Q) (hq : Q.length ≤ 1000) (W : World) : Sem.run Try.prog (Op.stringOp BinOp.add ⟨#[c]⟩ ⟨Q.toArray⟩) W = Result.ok (.string ⟨R.toArray⟩) W := by
  have := run_string_add_sum (P := Try.prog) (w := W) ⟨#[c]⟩ ⟨Q.toArray⟩ (by show 1 + Q.length ≤ _; omega)
  rw [this, hR, show (⟨#[c]⟩ : ByteArray) = ⟨[c].toArray⟩ from rfl, ByteArray.mk_append_mk]
  simp
theorem cat_two (c d : UInt8) (Q R : List UInt8) (hR : R = c :: d :: Q) (hq : Q.length ≤ 1000) (W : World) : Sem.run Try.prog (Op.stringOp BinOp.add ⟨#[c, d]⟩ ⟨Q.toArray⟩) W = Result.ok (.string ⟨R.toArray⟩) W := by
  have := run_string_add_sum (P := Try.prog) (w := W) ⟨#[c, d]⟩ ⟨Q.toArray⟩ (by show 2 + Q.length ≤ _; omega)
  rw [this, hR, show (⟨#[c, d]⟩ : ByteArray) = ⟨[c, d].toArray⟩ from rfl, ByteArray.mk_append_mk]
  simp
theorem cat_k (W : World) : Sem.run Try.prog (Op.stringOp BinOp.add ⟨#[49, 50, 51, 52, 53, 54, 55, 56, 57, 48, 49, 50, 51, 52, 53, 54]⟩ ⟨#[55]⟩) W = Result.ok (.string ⟨#[49, 50, 51, 52, 53, 54, 55, 56, 57, 48, 49, 50, 51, 52, 53, 54, 55]⟩) W := run_string_add_sum (P := Try.prog) (w := W) ⟨#[49, 50, 51, 52, 53, 54, 55, 56, 57, 48, 49, 50, 51, 52, 53, 54]⟩ ⟨#[55]⟩ (by decide)
theorem cat_v (W : World) : Sem.run Try.prog (Op.stringOp BinOp.add ⟨#[49, 50, 51, 52, 53, 54, 55, 56, 57, 48, 49, 50, 51, 52, 53, 54, 55, 56, 57, 48, 49, 50, 51, 52]⟩ ⟨#[53]⟩) W = Result.ok (.string ⟨#[49, 50, 51, 52, 53, 54, 55, 56, 57, 48, 49, 50, 51, 52, 53, 54, 55, 56, 57, 48, 49, 50, 51, 52, 53]⟩) W := run_string_add_sum (P := Try.prog) (w := W) ⟨#[49, 50, 51, 52, 53, 54, 55, 56, 57, 48, 49, 50, 51, 52, 53, 54, 55, 56, 57, 48, 49, 50, 51, 52]⟩ ⟨#[53]⟩ (by decide)
set_option maxHeartbeats 16000000 in
theorem walk (w : World) : Calls Try.prog 7 #[] w fun r w' => r = .returned (.bool true) ∧ Below w.heap.size w w' := by
  have H1 := Lib.hid (one_walk w)
  go_enter Try.func7, Try.ntmps7
  go_wp2_with fail
  refine H1.out.mono ?_
  rintro e w1 ⟨v1, rfl, hew1, b1⟩
  have hg := Lib.hid (good_lst w1 v1 hew1)
  have HB1 := Lib.hid (b1.trans ((allocs_below (goodBs w1 v1) w1).mono b1.size))
  obtain ⟨A1, cap1, hv1, _⟩ := hew1.1.form
  subst hv1
  clear b1 hew1 H1
  unfold ecells
  go_wp2
  obtain ⟨gG, hgG⟩ : ∃ gG, gG = w1.heap.size + 2 := ⟨_, rfl⟩
  rw [← hgG] at hg ⊢
  go_loopw [4] (fun i wr => ∃ k : Nat, k ≤ 3 ∧ i = .int .i64 k ∧ Hid (Lst wr 3 QE (.slice (some ⟨gG, 0, none⟩) 3 3) goods) ∧ Hid (Below w.heap.size w wr)) (fun i _ => 3 - (RowKit.intOf i).toNat)
  case atStart => exact ⟨0, by omega, rfl, hg, HB1⟩
  case round =>
    obtain ⟨k, hk, rfl, HL, HB⟩ := hrel
    clear hg HB1 hgG
    rcases Nat.lt_or_ge k 3 with hk1 | hk1
    · obtain ⟨b, off, cap, cs, e1, hcl, ⟨v, rfl, hew⟩, hcell⟩ := HL.out.get k hk1
      injection e1 with e1 e2 e3
      injection e1 with e1
      injection e1 with e1 e4
      subst e1 e4
      have hc := goods_ok goods[k] (List.getElem_mem _)
      generalize goods[k] = E at *
      have q0 := hcell 0 (by omega)
      have q1 := hcell 1 (by omega)
      have q2 := hcell 2 (by omega)
      simp only [ecells, List.getElem?_cons_zero, List.getElem?_cons_succ, Nat.add_zero, Nat.zero_add] at q0 q1 q2
      obtain ⟨Av, capv, hv, _⟩ := hew.1.form
      subst hv
      have hLe : encL E = encB E := if_pos hc
      have hdec := dec_enc hc []
      rw [List.append_nil] at hdec
      have hlen := enc_len E
      have HEN := Lib.hid (encode_walk wr E _ hew)
      rw [hc] at HEN
      rw [hLe] at HEN hlen
      obtain ⟨L, hLL⟩ : ∃ L, L = encB E := ⟨_, rfl⟩
      rw [← hLL] at HEN hdec hlen
      obtain ⟨n, hn⟩ : ∃ n, n = L.length := ⟨_, rfl⟩
      have hsz : (⟨L.toArray⟩ : ByteArray).size = n := hn.symm
      rw [← hn] at hdec
      have HD := Lib.hid (fun (w3 : World) => decode_walk w3 L (by omega))
      rw [hdec] at HD
      have HEW := Lib.hid hew
      have e9 := next64 hk1 (by decide)
      have i1 : (0 : Int) ≤ (k : Int) := by omega
      have i2 : (k : Int) < 3 := by omega
      have hlt : gG < wr.heap.size := cell_lt q0
      unfold ecells at HEN
      clear hcell hcl hc hLe hdec hlen hLL hn hew e3 e2
      go_wp2_with fail
      refine HEN.out.mono ?_
      rintro r w3 ⟨rfl, b3⟩
      have HB3 := Lib.hid (HB.out.trans (b3.mono HB.out.size))
      have HL3 := Lib.hid (HL.out.under qe_firm b3)
      have HE3 := Lib.hid (HEW.out.under b3)
      have k0 : w3.cell? ⟨gG, k * 3, none⟩ = some (.int .u64 E.ts) := (b3.cell (p := ⟨gG, k * 3, none⟩) hlt).trans q0
      have k1 : w3.cell? ⟨gG, k * 3 + 1, none⟩ = some (.int .u64 E.fst) := (b3.cell (p := ⟨gG, k * 3 + 1, none⟩) hlt).trans q1
      have k2 : w3.cell? ⟨gG, k * 3 + 2, none⟩ = some (.slice Av E.ops.length capv) := (b3.cell (p := ⟨gG, k * 3 + 2, none⟩) hlt).trans q2
      clear b3 HB HL HEW HEN q0 q1 q2 hlt
      go_wp2_with fail
      refine (HD.out w3).mono ?_
      rintro r w4 ⟨b4, v4, rfl, hew4⟩
      have HB4 := Lib.hid (HB3.out.trans (b4.mono HB3.out.size))
      have HL4 := Lib.hid (HL3.out.under qe_firm b4)
      have HE4 := Lib.hid (HE3.out.under b4)
      obtain ⟨A4, cap4, hv4, _⟩ := hew4.1.form
      subst hv4
      have HF4 := Lib.hid hew4
      have hlt3 : gG < w3.heap.size := cell_lt k0
      obtain ⟨g7, eg7⟩ : ∃ g7, g7 = w4.heap.size := ⟨_, rfl⟩
      obtain ⟨w5, hw5⟩ : ∃ w5, w5 = w4.alloc (.cells #[.int .u64 E.ts, .int .u64 E.fst, .slice A4 E.ops.length cap4] 25) := ⟨_, rfl⟩
      have b5 : Below w4.heap.size w4 w5 := by rw [hw5]; exact (Below.refl _ _).alloc (Nat.le_refl _) _
      have b35 : Below w3.heap.size w3 w5 := b4.trans (b5.mono b4.size)
      have HB5 := Lib.hid (HB4.out.trans (b5.mono HB4.out.size))
      have HL5 := Lib.hid (HL4.out.under qe_firm b5)
      have HE5 := Lib.hid (HE4.out.under b5)
      have HF5 := Lib.hid (HF4.out.under b5)
      have HX5 : Hid (Has w5 g7 25 [.int .u64 E.ts, .int .u64 E.fst, .slice A4 E.ops.length cap4]) := Lib.hid (by rw [hw5, eg7]; exact heap_alloc_new _ _)
      have hbd : (w5.cell? ⟨g7, 0, none⟩ = some (.int .u64 E.ts) ∧ w5.cell? ⟨g7, 1, none⟩ = some (.int .u64 E.fst) ∧ w5.cell? ⟨g7, 2, none⟩ = some (.slice A4 E.ops.length cap4)) ∧ w5.cell? ⟨gG, k * 3, none⟩ = some (.int .u64 E.ts) ∧ w5.cell? ⟨gG, k * 3 + 1, none⟩ = some (.int .u64 E.fst) ∧ w5.cell? ⟨gG, k * 3 + 2, none⟩ = some (.slice Av E.ops.length capv) :=
        ⟨⟨HX5.out.cell 0, HX5.out.cell 1, HX5.out.cell 2⟩, (b35.cell (p := ⟨gG, k * 3, none⟩) hlt3).trans k0, (b35.cell (p := ⟨gG, k * 3 + 1, none⟩) hlt3).trans k1, (b35.cell (p := ⟨gG, k * 3 + 2, none⟩) hlt3).trans k2⟩
      clear b4 hew4 HB3 HL3 HE3 HD b5 b35 HB4 HL4 HE4 HF4 k0 k1 k2 hlt3 HX5
      unfold ecells
      go_wp2_with fail
      try rw [← hw5]
      try rw [← eg7]
      clear hw5 eg7
      refine wp_region_held_drew (S := fun w5 => (w5.cell? ⟨g7, 0, none⟩ = some (.int .u64 E.ts) ∧ w5.cell? ⟨g7, 1, none⟩ = some (.int .u64 E.fst) ∧ w5.cell? ⟨g7, 2, none⟩ = some (.slice A4 E.ops.length cap4)) ∧ w5.cell? ⟨gG, k * 3, none⟩ = some (.int .u64 E.ts) ∧ w5.cell? ⟨gG, k * 3 + 1, none⟩ = some (.int .u64 E.fst) ∧ w5.cell? ⟨gG, k * 3 + 2, none⟩ = some (.slice Av E.ops.length capv)) (by kernel_rfl) hbd (fun hS => ?_)
      refine wpAnyH_take (i := 0) (v := (.int .i64 0)) (lit rfl) (by kernel_rfl) (by kernel_rfl) (by kernel_rfl) (fun _ _ _ h => h) (Or.inl ⟨by rfl, fun w hw => by go_simp⟩) hbd ?_
      simp only [Act.put, List.setIfInBounds_toArray, List.set_cons_zero, List.set_cons_succ]
      refine wpAnyH_take (i := 1) (v := (.bool false)) (lit rfl) (by kernel_rfl) (by kernel_rfl) (by kernel_rfl) (fun _ _ _ h => h) (Or.inl ⟨by rfl, fun w hw => by go_simp⟩) hbd ?_
      simp only [Act.put, List.setIfInBounds_toArray, List.set_cons_zero, List.set_cons_succ]
      refine wpAnyH_take (i := 2) (v := (.bool false)) (lit rfl) (by kernel_rfl) (by kernel_rfl) (by kernel_rfl) (fun _ _ _ h => h) (Or.inl ⟨by rfl, fun w hw => by go_simp⟩) hbd ?_
      simp only [Act.put, List.setIfInBounds_toArray, List.set_cons_zero, List.set_cons_succ]
      refine wpAnyH_take (i := 3) (v := (.int .i64 0)) (lit rfl) (by kernel_rfl) (by kernel_rfl) (by kernel_rfl) (fun _ _ _ h => h) (Or.inl ⟨by rfl, fun w hw => by go_simp⟩) hbd ?_
      simp only [Act.put, List.setIfInBounds_toArray, List.set_cons_zero, List.set_cons_succ]
      refine wpAnyH_take (i := 4) (v := (.bool false)) (lit rfl) (by kernel_rfl) (by kernel_rfl) (by kernel_rfl) (fun _ _ _ h => h) (Or.inl ⟨by rfl, fun w hw => by go_simp⟩) hbd ?_
      simp only [Act.put, List.setIfInBounds_toArray, List.set_cons_zero, List.set_cons_succ]
      refine wpAnyH_take (i := 5) (v := (.bool false)) (lit rfl) (by kernel_rfl) (by kernel_rfl) (by kernel_rfl) (fun _ _ _ h => h) (Or.inl ⟨by rfl, fun w hw => by go_simp⟩) hbd ?_
      simp only [Act.put, List.setIfInBounds_toArray, List.set_cons_zero, List.set_cons_succ]
      refine wpAnyH_take (i := 6) (v := (.bool false)) (lit rfl) (by kernel_rfl) (by kernel_rfl) (by kernel_rfl) (fun _ _ _ h => h) (Or.inl ⟨by rfl, fun w hw => by go_simp⟩) hbd ?_
      simp only [Act.put, List.setIfInBounds_toArray, List.set_cons_zero, List.set_cons_succ]
      refine wpAnyH_take (i := 7) (v := (.int .i64 n)) (lit rfl) (by kernel_rfl) (by kernel_rfl) (by kernel_rfl) (fun _ _ _ h => h) (Or.inl ⟨by rfl, fun w hw => by go_simp⟩) hbd ?_
      simp only [Act.put, List.setIfInBounds_toArray, List.set_cons_zero, List.set_cons_succ]
      refine wpAnyH_take (i := 8) (v := (.string ⟨L.toArray⟩)) (lit rfl) (by kernel_rfl) (by kernel_rfl) (by kernel_rfl) (fun _ _ _ h => h) (Or.inl ⟨by rfl, fun w hw => by go_simp⟩) hbd ?_
      simp only [Act.put, List.setIfInBounds_toArray, List.set_cons_zero, List.set_cons_succ]
      refine wpAnyH_take (i := 9) (v := (.int .i64 n)) (lit rfl) (by kernel_rfl) (by kernel_rfl) (by kernel_rfl) (fun _ _ _ h => h) (Or.inl ⟨by rfl, fun w hw => by go_simp⟩) hbd ?_
      simp only [Act.put, List.setIfInBounds_toArray, List.set_cons_zero, List.set_cons_succ]
      refine wpAnyH_take (i := 10) (v := (.bool false)) (lit rfl) (by kernel_rfl) (by kernel_rfl) (by kernel_rfl) (fun _ _ _ h => h) (Or.inl ⟨by rfl, fun w hw => by go_simp⟩) hbd ?_
      simp only [Act.put, List.setIfInBounds_toArray, List.set_cons_zero, List.set_cons_succ]
      refine wpAnyH_take (i := 11) (v := (.bool false)) (lit rfl) (by kernel_rfl) (by kernel_rfl) (by kernel_rfl) (fun _ _ _ h => h) (Or.inl ⟨by rfl, fun w hw => by go_simp⟩) hbd ?_
      simp only [Act.put, List.setIfInBounds_toArray, List.set_cons_zero, List.set_cons_succ]
      refine wpAnyH_take (i := 12) (v := (.bool false)) (lit rfl) (by kernel_rfl) (by kernel_rfl) (by kernel_rfl) (fun _ _ _ h => h) (Or.inl ⟨by rfl, fun w hw => by go_simp⟩) hbd ?_
      simp only [Act.put, List.setIfInBounds_toArray, List.set_cons_zero, List.set_cons_succ]
      refine wpAnyH_take (i := 13) (v := (.agg #[.int .u64 E.ts, .int .u64 E.fst, .slice A4 E.ops.length cap4])) (lit rfl) (by kernel_rfl) (by kernel_rfl) (by kernel_rfl) (fun _ _ _ h => h) (Or.inl ⟨by rfl, fun w hw => by obtain ⟨⟨k0, k1, k2⟩, k3, k4, k5⟩ := hw; go_simp⟩) hbd ?_
      simp only [Act.put, List.setIfInBounds_toArray, List.set_cons_zero, List.set_cons_succ]
      refine wpAnyH_take (i := 14) (v := (.slice (some ⟨gG, 0, none⟩) 3 3)) (lit rfl) (by kernel_rfl) (by kernel_rfl) (by kernel_rfl) (fun _ _ _ h => h) (Or.inl ⟨by rfl, fun w hw => by go_simp⟩) hbd ?_
      simp only [Act.put, List.setIfInBounds_toArray, List.set_cons_zero, List.set_cons_succ]
      refine wpAnyH_take (i := 15) (v := (.int .i64 k)) (lit rfl) (by kernel_rfl) (by kernel_rfl) (by kernel_rfl) (fun _ _ _ h => h) (Or.inl ⟨by rfl, fun w hw => by go_simp⟩) hbd ?_
      simp only [Act.put, List.setIfInBounds_toArray, List.set_cons_zero, List.set_cons_succ]
      refine wpAnyH_take (i := 16) (v := (.pointer (some ⟨gG, k * 3, none⟩))) (lit rfl) (by kernel_rfl) (by kernel_rfl) (by kernel_rfl) (fun _ _ _ h => h) (Or.inl ⟨by rfl, fun w hw => by go_simp⟩) hbd ?_
      simp only [Act.put, List.setIfInBounds_toArray, List.set_cons_zero, List.set_cons_succ]
      refine wpAnyH_take (i := 17) (v := (.agg #[.int .u64 E.ts, .int .u64 E.fst, .slice Av E.ops.length capv])) (lit rfl) (by kernel_rfl) (by kernel_rfl) (by kernel_rfl) (fun _ _ _ h => h) (Or.inl ⟨by rfl, fun w hw => by obtain ⟨⟨k0, k1, k2⟩, k3, k4, k5⟩ := hw; go_simp⟩) hbd ?_
      simp only [Act.put, List.setIfInBounds_toArray, List.set_cons_zero, List.set_cons_succ]
      have HSM := Lib.hid (same_walk w5.drew E _ _ (HF5.out.under (below_drew w5)) (HE5.out.under (below_drew w5)))
      unfold ecells at HSM
      refine wpAnyH_ready (rs := [18]) (by kernel_rfl) (by simp) (AllReadyH.cons (lit rfl) (fun K hK => ?_) AllReadyH.nil)
      go_simp
      go_wp2_with (go_at_call 13; refine HSM.out.mono ?_; rintro r w6 ⟨rfl, b6⟩)
      have b56 : Below w5.heap.size w5 w6 := (below_drew w5).trans b6
      have hb6 : (w6.cell? ⟨g7, 0, none⟩ = some (.int .u64 E.ts) ∧ w6.cell? ⟨g7, 1, none⟩ = some (.int .u64 E.fst) ∧ w6.cell? ⟨g7, 2, none⟩ = some (.slice A4 E.ops.length cap4)) ∧ w6.cell? ⟨gG, k * 3, none⟩ = some (.int .u64 E.ts) ∧ w6.cell? ⟨gG, k * 3 + 1, none⟩ = some (.int .u64 E.fst) ∧ w6.cell? ⟨gG, k * 3 + 2, none⟩ = some (.slice Av E.ops.length capv) := ⟨⟨(b56.cell (cell_lt hbd.1.1)).trans hbd.1.1, (b56.cell (cell_lt hbd.1.2.1)).trans hbd.1.2.1, (b56.cell (cell_lt hbd.1.2.2)).trans hbd.1.2.2⟩, (b56.cell (cell_lt hbd.2.1)).trans hbd.2.1, (b56.cell (cell_lt hbd.2.2.1)).trans hbd.2.2.1, (b56.cell (cell_lt hbd.2.2.2)).trans hbd.2.2.2⟩
      have HB6 := Lib.hid (HB5.out.trans (b56.mono HB5.out.size))
      have HL6 := Lib.hid (HL5.out.under qe_firm b56)
      clear b6 b56 HB5 HL5 HE5 HF5 HSM
      refine hK.out _ _ hb6 (fun _ => ?_)
      clear hK K
      refine wpAnyH_take (i := 19) (v := (.bool false)) (lit rfl) (by kernel_rfl) (by kernel_rfl) (by kernel_rfl) (fun _ _ _ h => h) (Or.inl ⟨by rfl, fun w hw => by go_simp⟩) hb6 ?_
      simp only [Act.put, List.setIfInBounds_toArray, List.set_cons_zero, List.set_cons_succ]
      refine wpAnyH_ready (rs := [20]) (by kernel_rfl) (by simp) (AllReadyH.cons (lit rfl) (fun K hK => ?_) AllReadyH.nil)
      go_simp
      refine hK.out _ _ hb6 (fun _ => ?_)
      clear hK K
      refine wpAnyH_done (by kernel_rfl) ?_ _
      clear hbd hb6
      go_wp2
      go_roundw
      case rel => exact ⟨k + 1, by omega, by go_num, HL6, HB6⟩
      case measure => simp [RowKit.intOf]; omega
    · obtain rfl : k = 3 := by omega
      rw [show ((3 : Nat) : Int) = 3 from rfl]
      have hB := Lib.hid (bad_lst wr)
      have HBb := Lib.hid (HB.out.trans ((allocs_below (badBs wr) wr).mono HB.out.size))
      clear HL
      go_wp2
      obtain ⟨gB, hgB⟩ : ∃ gB, gB = wr.heap.size + 9 := ⟨_, rfl⟩
      rw [← hgB] at hB
      try rw [← hgB]
      go_loopw [11] (fun i wr => ∃ k : Nat, k ≤ 11 ∧ i = .int .i64 k ∧ Hid (Lst wr 3 QE (.slice (some ⟨gB, 0, none⟩) 11 11) bads) ∧ Hid (Below w.heap.size w wr)) (fun i _ => 11 - (RowKit.intOf i).toNat)
      case atStart => exact ⟨0, by omega, rfl, hB, HBb⟩
      case round =>
        obtain ⟨k, hk, rfl, HL, HB⟩ := hrel
        clear hB HBb hgB
        rcases Nat.lt_or_ge k 11 with hk1 | hk1
        · obtain ⟨b, off, cap, cs, e1, hcl, ⟨v, rfl, hew⟩, hcell⟩ := HL.out.get k hk1
          injection e1 with e1 e2 e3
          injection e1 with e1
          injection e1 with e1 e4
          subst e1 e4
          have hc := bads_not bads[k] (List.getElem_mem _)
          generalize bads[k] = E at *
          have q0 := hcell 0 (by omega)
          have q1 := hcell 1 (by omega)
          have q2 := hcell 2 (by omega)
          simp only [ecells, List.getElem?_cons_zero, List.getElem?_cons_succ, Nat.add_zero, Nat.zero_add] at q0 q1 q2
          obtain ⟨Av, capv, hv, _⟩ := hew.1.form
          subst hv
          have hLe : encL E = [] := if_neg (by rw [hc]; decide)
          have HEN := Lib.hid (encode_walk wr E _ hew)
          rw [hc, hLe] at HEN
          have e9 := next64 hk1 (by decide)
          have i1 : (0 : Int) ≤ (k : Int) := by omega
          have i2 : (k : Int) < 11 := by omega
          unfold ecells at HEN
          clear hcell hcl hc hLe hew e3 e2
          go_wp2_with fail
          refine HEN.out.mono ?_
          rintro r w3 ⟨rfl, b3⟩
          have HB3 := Lib.hid (HB.out.trans (b3.mono HB.out.size))
          have HL3 := Lib.hid (HL.out.under qe_firm b3)
          clear b3 HB HL HEN q0 q1 q2
          go_wp2
          go_roundw
          case rel => exact ⟨k + 1, by omega, by go_num, HL3, HB3⟩
          case measure => simp [RowKit.intOf]; omega
        · obtain rfl : k = 11 := by omega
          rw [show ((11 : Nat) : Int) = 11 from rfl]
          clear HL
          have hLo := Lib.hid (long_lst wr)
          have HBl := Lib.hid (HB.out.trans ((allocs_below (longBs wr) wr).mono HB.out.size))
          have hmk := make_seven
          have hck := cat_k
          have hcv := cat_v
          go_wp2
          clear hmk hck hcv
          obtain ⟨gL, hgL⟩ : ∃ gL, gL = wr.heap.size + 3 := ⟨_, rfl⟩
          rw [← hgL] at hLo
          try rw [← hgL]
          go_loopw [15] (fun i wr => ∃ k : Nat, k ≤ 3 ∧ i = .int .i64 k ∧ Hid (Lst wr 3 QE (.slice (some ⟨gL, 0, none⟩) 3 3) longs) ∧ Hid (Below w.heap.size w wr)) (fun i _ => 3 - (RowKit.intOf i).toNat)
          case atStart => exact ⟨0, by omega, rfl, hLo, HBl⟩
          case round =>
            obtain ⟨k, hk, rfl, HL, HB⟩ := hrel
            clear hLo HBl hgL
            rcases Nat.lt_or_ge k 3 with hk1 | hk1
            · obtain ⟨b, off, cap, cs, e1, hcl, ⟨v, rfl, hew⟩, hcell⟩ := HL.out.get k hk1
              injection e1 with e1 e2 e3
              injection e1 with e1
              injection e1 with e1 e4
              subst e1 e4
              have hc := longs_long longs[k] (List.getElem_mem _)
              generalize longs[k] = E at *
              have q0 := hcell 0 (by omega)
              have q1 := hcell 1 (by omega)
              have q2 := hcell 2 (by omega)
              simp only [ecells, List.getElem?_cons_zero, List.getElem?_cons_succ, Nat.add_zero, Nat.zero_add] at q0 q1 q2
              obtain ⟨Av, capv, hv, _⟩ := hew.1.form
              subst hv
              have HCK := Lib.hid (check_walk wr E _ hew)
              rw [hc] at HCK
              have e9 := next64 hk1 (by decide)
              have i1 : (0 : Int) ≤ (k : Int) := by omega
              have i2 : (k : Int) < 3 := by omega
              unfold ecells at HCK
              clear hcell hcl hc hew e3 e2
              go_wp2_with fail
              refine HCK.out.mono ?_
              rintro r w3 ⟨rfl, b3⟩
              have HB3 := Lib.hid (HB.out.trans (b3.mono HB.out.size))
              have HL3 := Lib.hid (HL.out.under qe_firm b3)
              clear b3 HB HL HCK q0 q1 q2
              go_wp2
              go_roundw
              case rel => exact ⟨k + 1, by omega, by go_num, HL3, HB3⟩
              case measure => simp [RowKit.intOf]; omega
            · obtain rfl : k = 3 := by omega
              rw [show ((3 : Nat) : Int) = 3 from rfl]
              clear HL
              obtain ⟨S1, hS1⟩ : ∃ S1, S1 = sealB [1, 2, 1, 1, 97, 2, 1, 98] := ⟨_, rfl⟩
              obtain ⟨S2, hS2⟩ : ∃ S2, S2 = sealB [1, 2, 1, 1, 97, 0, 1, 98, 0] := ⟨_, rfl⟩
              obtain ⟨S3, hS3⟩ : ∃ S3, S3 = sealB [1, 2, 2, 1, 97, 0, 0] := ⟨_, rfl⟩
              obtain ⟨S4, hS4⟩ : ∃ S4, S4 = sealB [1, 2, 1, 1, 97, 0, 1, 98] := ⟨_, rfl⟩
              obtain ⟨R1, hR1⟩ : ∃ R1, R1 = 12 :: S1 := ⟨_, rfl⟩
              obtain ⟨R2, hR2⟩ : ∃ R2, R2 = 13 :: S2 := ⟨_, rfl⟩
              obtain ⟨R3, hR3⟩ : ∃ R3, R3 = 11 :: S3 := ⟨_, rfl⟩
              obtain ⟨R4, hR4⟩ : ∃ R4, R4 = 140 :: 0 :: S4 := ⟨_, rfl⟩
              have hraw : raws = [[], [0], [4, 0, 0, 0, 0], R1, R2, R3, R4] := by rw [hR1, hR2, hR3, hR4, hS1, hS2, hS3, hS4]; rfl
              have hno := raws_not
              rw [hraw] at hno
              have HNO := Lib.hid hno
              have D1 := Lib.hid (fun wq => seal_walk [1, 2, 1, 1, 97, 2, 1, 98] (by decide) wq)
              have D2 := Lib.hid (fun wq => seal_walk [1, 2, 1, 1, 97, 0, 1, 98, 0] (by decide) wq)
              have D3 := Lib.hid (fun wq => seal_walk [1, 2, 2, 1, 97, 0, 0] (by decide) wq)
              have D4 := Lib.hid (fun wq => seal_walk [1, 2, 1, 1, 97, 0, 1, 98] (by decide) wq)
              rw [← hS1] at D1
              rw [← hS2] at D2
              rw [← hS3] at D3
              rw [← hS4] at D4
              have t1 := cat_one 12 S1 R1 hR1 (by rw [hS1]; decide)
              have t2 := cat_one 13 S2 R2 hR2 (by rw [hS2]; decide)
              have t3 := cat_one 11 S3 R3 hR3 (by rw [hS3]; decide)
              have t4 := cat_two 140 0 S4 R4 hR4 (by rw [hS4]; decide)
              clear hno hraw hS1 hS2 hS3 hS4 hR1 hR2 hR3 hR4
              go_wp2_with fail
              refine (D1.out _).mono ?_
              rintro r w5 ⟨rfl, b5⟩
              have HB5 := Lib.hid (HB.out.trans (b5.mono HB.out.size))
              clear b5 HB D1
              go_wp2_with fail
              refine (D2.out _).mono ?_
              rintro r w6 ⟨rfl, b6⟩
              have HB6 := Lib.hid (HB5.out.trans (b6.mono HB5.out.size))
              clear b6 HB5 D2
              go_wp2_with fail
              refine (D3.out _).mono ?_
              rintro r w7 ⟨rfl, b7⟩
              have HB7 := Lib.hid (HB6.out.trans (b7.mono HB6.out.size))
              clear b7 HB6 D3
              go_wp2_with fail
              refine (D4.out _).mono ?_
              rintro r w8 ⟨rfl, b8⟩
              have HB8 := Lib.hid (HB7.out.trans (b8.mono HB7.out.size))
              clear b8 HB7 D4
              obtain ⟨gR, hgR⟩ : ∃ gR, gR = w8.heap.size := ⟨_, rfl⟩
              have hx8 : Has (w8.alloc (.cells #[.string ⟨#[]⟩, .string ⟨#[0]⟩, .string ⟨#[4, 0, 0, 0, 0]⟩, .string ⟨R1.toArray⟩, .string ⟨R2.toArray⟩, .string ⟨R3.toArray⟩, .string ⟨R4.toArray⟩] 9)) gR 9 (([[], [0], [4, 0, 0, 0, 0], R1, R2, R3, R4] : List (List UInt8)).map fun l => .string ⟨l.toArray⟩) := by rw [hgR]; exact heap_alloc_new _ _
              have hRl := Lib.hid (lst_strs hx8 (show 7 ≤ maxLen by decide))
              have HB9 : Hid (Below w.heap.size w (w8.alloc (.cells #[.string ⟨#[]⟩, .string ⟨#[0]⟩, .string ⟨#[4, 0, 0, 0, 0]⟩, .string ⟨R1.toArray⟩, .string ⟨R2.toArray⟩, .string ⟨R3.toArray⟩, .string ⟨R4.toArray⟩] 9))) := Lib.hid (HB8.out.alloc HB8.out.size _)
              clear hx8 HB8
              go_wp2
              clear t1 t2 t3 t4
              try rw [← hgR]
              go_loopw [17] (fun i wr => ∃ k : Nat, k ≤ 7 ∧ i = .int .i64 k ∧ Hid (Lst wr 1 QS (.slice (some ⟨gR, 0, none⟩) 7 7) [[], [0], [4, 0, 0, 0, 0], R1, R2, R3, R4]) ∧ Hid (Below w.heap.size w wr)) (fun i _ => 7 - (RowKit.intOf i).toNat)
              case atStart => exact ⟨0, by omega, rfl, hRl, HB9⟩
              case round =>
                obtain ⟨k, hk, rfl, HL, HB⟩ := hrel
                clear hRl HB9 hgR
                rcases Nat.lt_or_ge k 7 with hk1 | hk1
                · obtain ⟨b, off, cap, cs, e1, hcl, hqs, hcell⟩ := HL.out.get k hk1
                  injection e1 with e1 e2 e3
                  injection e1 with e1
                  injection e1 with e1 e4
                  subst e1 e4
                  have hc := HNO.out _ (List.getElem_mem (h := hk1))
                  generalize (([[], [0], [4, 0, 0, 0, 0], R1, R2, R3, R4] : List (List UInt8))[k]) = E at *
                  unfold QS at hqs
                  subst hqs
                  have q0 := hcell 0 (by omega)
                  simp only [List.getElem?_cons_zero, Nat.add_zero, Nat.zero_add, Nat.mul_one] at q0
                  have HD := Lib.hid (decode_walk wr E (by omega))
                  rw [hc.1] at HD
                  have e9 := next64 hk1 (by decide)
                  have i1 : (0 : Int) ≤ (k : Int) := by omega
                  have i2 : (k : Int) < 7 := by omega
                  clear hcell hcl hc e3 e2
                  go_wp2_with fail
                  refine HD.out.mono ?_
                  rintro r w9 ⟨b9, rfl⟩
                  have b10 : Below wr.heap.size wr (w9.alloc (.cells #[.int .u64 0, .int .u64 0, .slice none 0 0] 25)) := b9.alloc b9.size _
                  have HB3 := Lib.hid (HB.out.trans (b10.mono HB.out.size))
                  have HL3 := Lib.hid (HL.out.under qs_firm b10)
                  clear b9 b10 HB HL HD q0
                  unfold zE
                  go_wp2
                  go_roundw
                  case rel => exact ⟨k + 1, by omega, by go_num, HL3, HB3⟩
                  case measure => simp [RowKit.intOf]; omega
                · obtain rfl : k = 7 := by omega
                  rw [show ((7 : Nat) : Int) = 7 from rfl]
                  have HWK := Lib.hid (works_walk wr)
                  clear HL HNO
                  go_wp2_with (go_at_call 11; refine HWK.out.mono ?_; rintro r w9 ⟨rfl, b9⟩)
                  go_ret
                  exact ⟨rfl, HB.out.trans (b9.mono HB.out.size)⟩

set_option maxRecDepth 100000 in
theorem lifted (os : Os) (started : os.Started) (H : Type) (enc : TypeId × Value → H) :
    ReturnsInHanded {} Try.checked os 7 .any (Rows.lrecKnownSpec.pre6 enc Try.prog Try.f7 Rows.lrecKnownRow.domain false) (Rows.lrecKnownSpec.post enc Try.prog Try.f7 false true false false) := by
  refine returnsInHanded_of_change (C := Try.checked) own started (by kernel_rfl) Try.func7
    (ChangeSpec.witness6 (enc := enc) (C := Try.checked) false ⟨#[], #[], []⟩ 8 (by kernel_rfl) (by kernel_rfl) (by kernel_rfl) (by kernel_rfl)) ?_
  intro W base args ds gs before hval0 hW hcnd _
  have hval : ∀ (j : Nat) t v, Try.f7.params[j]? = some t → args[j]? = some v → Value.okWide Try.prog W .any base t v := hval0
  have hW' := hW
  obtain ⟨p, q, hA0, hV, rfl, hfz, hnd⟩ := hW
  have hA : DataW.TrodAll enc Try.prog W 0 (fun _ => true) true Try.f7.params.toList args.toList ds p := hA0
  rw [Try.params7] at hA hval
  obtain ⟨hargs, rfl, rfl⟩ := trodAll_nil hA
  obtain rfl : args = #[] := by cases args; simp_all
  obtain ⟨rfl, rfl⟩ := trodVars_none hV
  clear hA0 hval0
  have hc := walk W
  try simp only [Array.toArray_toList] at hc
  refine hc.mono fun e W' ⟨he, hg⟩ => ?_
  subst he
  exact ⟨_, rfl, law_post rfl (by decide +kernel) (by kernel_rfl) rfl hW' hg⟩

theorem over : Rows.lrecKnownRow.holds Try.pinned (OpenSpec.ofChange Rows.lrecKnownSpec) :=
  OpenClaim.holds_of_wide 7 Try.f7 rfl rfl rfl rfl rfl rfl rfl ⟨rfl, rfl, rfl, rfl, rfl⟩ rfl rfl rfl rfl rfl (by kernel_rfl) Try.func7 (by kernel_rfl)
    (of_decide_eq_true (by kernel_rfl)) (by unfold Func.isWrapper; first | (rw [if_pos (by decide +kernel)]; kernel_rfl) | (rw [if_neg (by decide +kernel)]; exact ⟨rfl, rfl⟩))
    (fun os started H enc _ => lifted os started H enc)

theorem proved : Rows.LrecKnownSaid :=
  over
#print axioms proved
end LrecKnown
end Go.Proofs.Ytkhdidhpcdlmcab
