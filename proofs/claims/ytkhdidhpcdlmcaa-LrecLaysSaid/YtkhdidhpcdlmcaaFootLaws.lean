/- Laws for walks over rows of cells: a whole array (or struct) that is stored or loaded, bytes that are copied; the world behind is a letter. -/
import Derived.Test.YtkhdidhpcdlmcaaFoot
import Derived.StillTailTactics
import Derived.Lib.SlBuf
import Derived.Deep.RegionLaw
import Derived.Deep.WholeRow
import Derived.Great.BuildSlice
namespace Go.Proofs.Ytkhdidhpcdlmcaa
open Go.RowKit Go.Lib MM MF
namespace FL
section
variable {P : Program} {ops : Array Oper} {rest : List Oper} {o : Oper} {a : Act} {w : World} {Q : Exit → Act → World → Prop} {K : Act → World → Prop}

theorem bytes_one (l : List UInt8) : ∀ v ∈ byteCells l, v.oneCell' = true := byteCells_one l

/-- A store of a whole array or struct into a row. -/
theorem wp_store_at (ty : TypeId) (x y : Operand) (ho : o.op = .store ty x y) (g off : Nat) (cs : List Value) (hx : a.eval x = .pointer (some ⟨g, off, none⟩)) (hy : a.eval y = .agg cs.toArray)
    (t : TypeId) (xs : List Value) (hr : Row w g t xs) (hl : off + cs.length ≤ xs.length) (hi : (P.info? ty).map (·.size) = some cs.length) (h1 : ∀ v ∈ cs, v.oneCell' = true)
    (h : ∀ w', Row w' g t (splice xs off cs) → Fr w w' [g] → K (a.put o.dst undef) w') : o.wp P a w K Q :=
  wp_store_mid ty x y ho g off cs.toArray hx hy (hr.there _ _ (by simpa using hl)) (by simpa using hi) (all_oneCell_toArray h1) (h _ (hr.put off cs hl) ((Fr.refl w [g]).setCells (by simp) off cs))
theorem wpList_store_at (hgd : o.guard = none) (ty : TypeId) (x y : Operand) (ho : o.op = .store ty x y) (g off : Nat) (cs : List Value) (hx : a.eval x = .pointer (some ⟨g, off, none⟩)) (hy : a.eval y = .agg cs.toArray)
    (t : TypeId) (xs : List Value) (hr : Row w g t xs) (hl : off + cs.length ≤ xs.length) (hi : (P.info? ty).map (·.size) = some cs.length) (h1 : ∀ v ∈ cs, v.oneCell' = true)
    (h : ∀ w', Row w' g t (splice xs off cs) → Fr w w' [g] → wpList P ops Q rest (a.put o.dst undef) w') : wpList P ops Q (o :: rest) a w :=
  wpList_plain hgd fun _ hK => wp_store_at ty x y ho g off cs hx hy t xs hr hl hi h1 fun w' h2 h3 => hK _ _ (h w' h2 h3)

theorem splice_all {α : Type} (xs cs : List α) (h : cs.length = xs.length) : splice xs 0 cs = cs := by
  unfold splice
  rw [List.take_zero, List.nil_append, List.drop_eq_nil_of_le (by omega), List.append_nil]
theorem splice_tail {α : Type} (x : α) (xs cs : List α) (h : cs.length = xs.length) : splice (x :: xs) 1 cs = x :: cs := by
  unfold splice
  rw [List.take_succ_cons, List.take_zero, List.drop_eq_nil_of_le (by simp; omega), List.append_nil]
  rfl
/-- The same, where all of the row is stored. -/
theorem wpList_store_all (hgd : o.guard = none) (ty : TypeId) (x y : Operand) (ho : o.op = .store ty x y) (g : Nat) (cs : List Value) (hx : a.eval x = .pointer (some ⟨g, 0, none⟩)) (hy : a.eval y = .agg cs.toArray)
    (t : TypeId) (xs : List Value) (hr : Row w g t xs) (hl : cs.length = xs.length) (hi : (P.info? ty).map (·.size) = some cs.length) (h1 : ∀ v ∈ cs, v.oneCell' = true)
    (h : ∀ w', Row w' g t cs → Fr w w' [g] → wpList P ops Q rest (a.put o.dst undef) w') : wpList P ops Q (o :: rest) a w :=
  wpList_store_at hgd ty x y ho g 0 cs hx hy t xs hr (by omega) hi h1 fun w' h2 h3 => h w' (by rw [splice_all xs cs hl] at h2; exact h2) h3

/-- The load of a whole array or struct, in a region whose head only reads. -/
theorem wpStill_load_mid {R : Act → Prop} (hgd : o.guard = none) (ty : TypeId) (x : Operand) (ho : o.op = .load ty x) (b off : Nat) (hx : a.eval x = .pointer (some ⟨b, off, none⟩)) (cs : List Value) (d : TypeDesc) (hc : w.rangeAt b off cs)
    (hu : P.underlying ty = some d) (hd : d.isRow = true) (hi : (P.info? ty).map (·.size) = some cs.length) (h : wpStill P ops w R rest (a.put o.dst (.agg cs.toArray))) : wpStill P ops w R (o :: rest) a := by
  refine wpStill_step fun K hK => ?_
  rw [if_pos (by simp [Region.wanted, hgd])]
  unfold Oper.still
  have hrun : (execOp a.eval o).run P w = .ok (.value (.agg cs.toArray)) w := by
    unfold execOp
    simp only [ho, hx, Instr.loadAt, Instr.sureAddr, Sem.run_bind, Sem.run_pure, Result.andThen_ok, run_loadVar_mid w b off ty cs d hc hu hd hi]
  rw [hrun, Oper.stillUpon_value]
  exact hK _ h

/-- 'copy(dst, s)' of a text into a row. -/
theorem run_copy_text (dT sT ty elem : TypeId) (hu : P.underlying dT = some (.slice elem)) (hs : (P.info? elem).map (·.size) = some 1) (g off dLen dCap : Nat) (l : List UInt8) (t : TypeId) (xs : List Value) (hr : Row w g t xs)
    (hle : l.length ≤ dLen) (hl : off + l.length ≤ xs.length) :
    ∃ w', (Builtin.copy_ #[dT, sT] ty #[.slice (some ⟨g, off, none⟩) dLen dCap, .string ⟨l.toArray⟩]).run P w = .ok (goInt l.length) w' ∧ Row w' g t (splice xs off (byteCells l)) ∧ Fr w w' [g] := by
  have hlen : (byteCells l).length = l.length := byteCells_length l
  obtain ⟨r, hb⟩ := hr
  have hsz : (⟨l.toArray⟩ : ByteArray).size = l.length := rfl
  have hrun := run_copy_row_string (P := P) w dT sT ty elem g off dLen dCap ⟨l.toArray⟩ (xs ++ r).toArray t hu hs hb (by rw [hsz]; exact hle) (by rw [hsz]; simp; omega)
  refine ⟨_, hrun, ⟨r, ?_⟩, ⟨rfl, rfl, rfl, by simp, fun k hk hn => setRow_other w g k _ (fun e => hn (by simp [e]))⟩⟩
  rw [setRow_heap w g _ _ t _ hb]
  congr 2
  have e : (⟨l.toArray⟩ : ByteArray).data.toList = l := rfl
  rw [e, hsz]
  unfold splice
  rw [hlen]
  simp only [List.append_assoc]
  rw [List.take_append_of_le_length (by omega), List.drop_append_of_le_length (by omega)]
theorem wpList_copy_text (hgd : o.guard = none) (d s : Operand) (dT sT : TypeId) (ho : o.op = .call { callee := .builtin .copy, args := #[d, s], argTypes := #[dT, sT] })
    (elem : TypeId) (hu : P.underlying dT = some (.slice elem)) (hs : (P.info? elem).map (·.size) = some 1) (g off dLen dCap : Nat) (l : List UInt8) (hd : a.eval d = .slice (some ⟨g, off, none⟩) dLen dCap) (hx : a.eval s = .string ⟨l.toArray⟩)
    (t : TypeId) (xs : List Value) (hr : Row w g t xs) (hle : l.length ≤ dLen) (hl : off + l.length ≤ xs.length)
    (h : ∀ w', Row w' g t (splice xs off (byteCells l)) → Fr w w' [g] → wpList P ops Q rest (a.put o.dst (goInt l.length)) w') : wpList P ops Q (o :: rest) a w := by
  obtain ⟨w', hrun, h1, h2⟩ := run_copy_text (P := P) (w := w) dT sT o.type elem hu hs g off dLen dCap l t xs hr hle hl
  exact wpList_copy_run w hgd d s dT sT ho _ _ hd hx hrun (h w' h1 h2)

/-- 'copy(dst, src)' of cells that lie somewhere into a row. -/
theorem run_copy_at (dT sT ty elem : TypeId) (hu : P.underlying dT = some (.slice elem)) (hs : (P.info? elem).map (·.size) = some 1) (g off dLen dCap b p sLen sCap : Nat) (cs : List Value) (t : TypeId) (xs : List Value) (hr : Row w g t xs)
    (hn : cs.length = Nat.min sLen dLen) (hsrc : w.rangeAt b p cs) (h1 : ∀ v ∈ cs, v.oneCell' = true) (hl : off + cs.length ≤ xs.length) :
    ∃ w', (Builtin.copy_ #[dT, sT] ty #[.slice (some ⟨g, off, none⟩) dLen dCap, .slice (some ⟨b, p, none⟩) sLen sCap]).run P w = .ok (goInt cs.length) w' ∧ Row w' g t (splice xs off cs) ∧ Fr w w' [g] := by
  have ht := hr.there off cs.length hl
  have hrun := run_copy_cells (P := P) w dT sT ty elem g off dLen dCap ⟨b, p, none⟩ sLen sCap cs hu hs hn (fun j v hv => by rw [Addr.add_mid]; exact hsrc j v hv) (fun j hj => (ht j hj).1) (fun j hj => (ht j hj).2) h1
  exact ⟨_, hrun, hr.put off cs hl, (Fr.refl w [g]).setCells (by simp) off cs⟩
theorem wpList_copy_at (hgd : o.guard = none) (d s : Operand) (dT sT : TypeId) (ho : o.op = .call { callee := .builtin .copy, args := #[d, s], argTypes := #[dT, sT] })
    (elem : TypeId) (hu : P.underlying dT = some (.slice elem)) (hs : (P.info? elem).map (·.size) = some 1) (g off dLen dCap b p sLen sCap : Nat) (hd : a.eval d = .slice (some ⟨g, off, none⟩) dLen dCap) (hx : a.eval s = .slice (some ⟨b, p, none⟩) sLen sCap)
    (cs : List Value) (t : TypeId) (xs : List Value) (hr : Row w g t xs) (hn : cs.length = Nat.min sLen dLen) (hsrc : w.rangeAt b p cs) (h1 : ∀ v ∈ cs, v.oneCell' = true) (hl : off + cs.length ≤ xs.length)
    (h : ∀ w', Row w' g t (splice xs off cs) → Fr w w' [g] → wpList P ops Q rest (a.put o.dst (goInt cs.length)) w') : wpList P ops Q (o :: rest) a w := by
  obtain ⟨w', hrun, h2, h3⟩ := run_copy_at (P := P) (w := w) dT sT o.type elem hu hs g off dLen dCap b p sLen sCap cs t xs hr hn hsrc h1 hl
  exact wpList_copy_run w hgd d s dT sT ho _ _ hd hx hrun (h w' h2 h3)
end

theorem fold_set : ∀ (l : List Value) (k : Nat) (Z : List Value), k + l.length ≤ Z.length →
    (l.zipIdx k).foldl (fun acc x => acc.setIfInBounds (0 + x.2) x.1) Z.toArray = (Z.take k ++ l ++ Z.drop (k + l.length)).toArray
  | [], k, Z, _ => by simp
  | v :: r, k, Z, h => by
    simp only [List.zipIdx_cons, List.foldl_cons, Nat.zero_add, List.setIfInBounds_toArray]
    have ih := fold_set r (k + 1) (Z.set k v) (by simp at h ⊢; omega)
    simp only [Nat.zero_add] at ih
    rw [ih, list_seg_step Z k v r (by simpa using h), List.length_cons]
theorem fill_one (n : Nat) (Z : Array Value) (cs : List Value) (hs : cs.length = n) (hz : Z.size = n) : Instr.fill (fun i => some (i * n, n)) Z [(0, .agg cs.toArray)] = some cs.toArray := by
  have h := fold_set cs 0 Z.toList (by simp; omega)
  rw [List.take_zero, List.nil_append, Nat.zero_add, List.drop_eq_nil_of_le (by simp; omega), List.append_nil, Array.toArray_toList] at h
  have e : Instr.fill (fun i => some (i * n, n)) Z [(0, .agg cs.toArray)] = some (cs.toArray.zipIdx.foldl (fun acc x => acc.setIfInBounds (0 + x.2) x.1) Z) := by
    simp [Instr.fill, Value.cells, hs, hz]
  rw [e, ← Array.foldl_toList]
  congr 1
  refine Eq.trans ?_ h
  simp
/-- An operation whose run is known, as a rule of the walk: for what a walk would lay open cell by cell. -/
theorem wp_value {P : Program} {o : Oper} {a : Act} {w w' : World} {v : Value} (h : (execOp a.eval o).run P w = .ok (.value v) w') (K : Act → World → Prop) (Q : Exit → Act → World → Prop) : Oper.wp P o a w K Q = K (a.put o.dst v) w' := by
  unfold Oper.wp
  rw [h]
  rfl
theorem wp_skip {P : Program} {o : Oper} {a : Act} {w w' : World} (h : (execOp a.eval o).run P w = .ok .skip w') (K : Act → World → Prop) (Q : Exit → Act → World → Prop) : Oper.wp P o a w K Q = K (a.put o.dst undef) w' := by
  unfold Oper.wp
  rw [h]
  rfl
theorem rule_load {P : Program} {w : World} (t : TypeId) (x : Operand) (b off : Nat) (cs : List Value) (d : TypeDesc) (hc : w.rangeAt b off cs) (hu : P.underlying t = some d) (hd : d.isRow = true) (hi : (P.info? t).map (·.size) = some cs.length)
    (dst : Option Tmp) (ty : TypeId) (pos : String) (aft : Array Edge) (a : Act) (K : Act → World → Prop) (Q : Exit → Act → World → Prop) (hx : a.eval x = .pointer (some ⟨b, off, none⟩)) :
    Oper.wp P ⟨dst, .load t x, ty, pos, aft, none⟩ a w K Q = K (a.put dst (.agg cs.toArray)) w :=
  wp_value (o := ⟨dst, .load t x, ty, pos, aft, none⟩) (by
    unfold execOp
    simp only [hx, Instr.loadAt, Instr.sureAddr, Sem.run_bind, Sem.run_pure, Result.andThen_ok, run_loadVar_mid w b off t cs d hc hu hd hi]) K Q
theorem rule_build {P : Program} (t e : TypeId) (x : Operand) (i : TypeInfo) (z : Value) (ht : P.underlying t = some (.slice e)) (hi : P.info? e = some i) (hz : i.zero = some z) (cs : List Value) (hs : i.size = cs.length) (h0 : 0 < cs.length) (hm : cs.length ≤ 65536)
    (dst : Option Tmp) (ty : TypeId) (pos : String) (aft : Array Edge) (a : Act) (w : World) (K : Act → World → Prop) (Q : Exit → Act → World → Prop) (hx : a.eval x = .agg cs.toArray) :
    Oper.wp P ⟨dst, .buildSlice t 1 #[(0, x)], ty, pos, aft, none⟩ a w K Q = K (a.put dst (.slice (some ⟨w.heap.size, 0, none⟩) 1 1)) (w.alloc (.cells cs.toArray e)) :=
  wp_value (o := ⟨dst, .buildSlice t 1 #[(0, x)], ty, pos, aft, none⟩) (by
    have hf := fill_one i.size ((Array.range (1 * i.size)).map (z.cells[· % z.cells.size]!)) cs hs.symm (by simp)
    have := run_buildSlice (P := P) w t e 1 #[(0, .agg cs.toArray)] cs.toArray i z ht hi hz (by rw [hs]; omega) (by rw [hs]; omega) hf
    unfold execOp
    simp [hx, this]) K Q
/-- A region's operation, as it is written. -/
theorem lit {l : List Oper} {i : Nat} {o : Oper} (h : l[i]? = some o) : l.toArray[i]? = some o := by simpa using h
/-- '[]T{x}', x a whole struct: its cells in a new block. -/
theorem wpList_buildSlice_one {P : Program} {ops : Array Oper} {rest : List Oper} {o : Oper} {a : Act} {w : World} {Q : Exit → Act → World → Prop} (hg : o.guard = none) (t e : TypeId) (x : Operand) (ho : o.op = .buildSlice t 1 #[(0, x)])
    (i : TypeInfo) (z : Value) (ht : P.underlying t = some (.slice e)) (hi : P.info? e = some i) (hz : i.zero = some z) (cs : List Value) (hx : a.eval x = .agg cs.toArray) (hs : i.size = cs.length) (h0 : 0 < cs.length) (hm : cs.length ≤ 65536)
    (h : wpList P ops Q rest (a.put o.dst (.slice (some ⟨w.heap.size, 0, none⟩) 1 1)) (w.alloc (.cells cs.toArray e))) : wpList P ops Q (o :: rest) a w := by
  refine wpList_buildSlice hg t e 1 _ ho cs.toArray i z ht hi hz (by rw [hs]; omega) (by rw [hs]; omega) ?_ h
  have := fill_one i.size ((Array.range (1 * i.size)).map (z.cells[· % z.cells.size]!)) cs hs.symm (by simp)
  rw [← this]
  simp [hx]
end FL
end Go.Proofs.Ytkhdidhpcdlmcaa
