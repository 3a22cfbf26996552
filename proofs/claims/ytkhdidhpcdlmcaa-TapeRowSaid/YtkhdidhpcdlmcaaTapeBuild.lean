/- A text that is built of the places' bytes. -/
import Derived.Test.YtkhdidhpcdlmcaaTapeTools
import Derived.Lib.Builder
import Derived.Lib.UnsafeStr
import Derived.Laws.AppendOwn
namespace Go.Proofs.Ytkhdidhpcdlmcaa
set_option maxRecDepth 100000
open Go.RowKit Go.Lib MM MF RN PL TF TA
namespace TU2
/-- Every block that is not b, and no row of bytes, is as it was. -/
def Oth (b : Nat) (w w' : World) : Prop := w.heap.size ≤ w'.heap.size ∧ ∀ k, k < w.heap.size → k ≠ b → (∀ cs f, w.heap[k]? ≠ some (.cells cs 5 f)) → w'.heap[k]? = w.heap[k]?
theorem Oth.has {b g : Nat} {w w' : World} {t : TypeId} {cs : List Value} (h : Oth b w w') (hh : Has w g t cs) (hg : g ≠ b) (ht : t ≠ 5) : Has w' g t cs :=
  (h.2 g hh.lt hg (fun cs' f e => by
    unfold Has at hh
    rw [hh] at e
    injection e with e
    injection e with _ e
    exact ht e)).trans hh
theorem Oth.keeps {b B : Nat} {w w' : World} (h : Oth b w w') (hb : ∃ cs t f, w.heap[b]? = some (.cells cs t f)) : KeepsFrom B w w' :=
  ⟨h.1, fun k o _ hk ho => (h.2 k (Array.getElem?_eq_some_iff.1 hk).1 (fun e => by
    obtain ⟨cs, t, f, hb⟩ := hb
    rw [e, hb] at hk
    cases hk
    cases ho) (fun cs f e => by
    rw [e] at hk
    cases hk
    cases ho)).trans hk⟩
abbrev Bu (B b : Nat) (l : List UInt8) (w : World) : Prop := Lib.IsBuilder 87 5 B b (byteCells l) w
theorem own_owns {A B : World} {row : Option Nat} {n B0 : Nat} {v : Value} {k : Nat} {xs : List Value} (h : A.ownsRow B0 5 1 v k xs) (hg : A.grownBy B row) (hr : ∀ r, row = some r → n ≤ r ∧ ∃ o : Obj, A.heap[r]? = some o ∧ o.isCells = false) : B.ownsRow B0 5 1 v k xs := by
  refine ⟨h.1, ?_⟩
  rcases h.2 with hl | ⟨g, cap, cur, rfl, hb, hg2, rest⟩
  · exact .inl hl
  · exact .inr ⟨g, cap, cur, rfl, hb, (own_block hg2 hg hr).trans hg2, rest⟩
theorem own_bu {A B : World} {row : Option Nat} {n B0 b : Nat} {l : List UInt8} (h : Bu B0 b l A) (hg : A.grownBy B row) (hr : ∀ r, row = some r → n ≤ r ∧ ∃ o : Obj, A.heap[r]? = some o ∧ o.isCells = false) : Bu B0 b l B := by
  have key : ∀ p, Lib.BuilderAt 87 5 B0 b p (byteCells l) A → Lib.BuilderAt 87 5 B0 b p (byteCells l) B := by
    rintro p ⟨h1, v, h2, h3, h4⟩
    exact ⟨h1, v, (own_block h2 hg hr).trans h2, own_owns h3 hg hr, h4⟩
  rcases h with h | h
  · exact .inl (key _ h)
  · exact .inr (key _ h)
theorem bu_block {B b : Nat} {l : List UInt8} {w : World} (h : Bu B b l w) : ∃ cs t f, w.heap[b]? = some (.cells cs t f) := by
  rcases h with ⟨_, v, h, _⟩ | ⟨_, v, h, _⟩
  · exact ⟨_, _, _, h⟩
  · exact ⟨_, _, _, h⟩
theorem wpList_append_run {P : Program} {ops : Array Oper} {rest : List Oper} {o : Oper} {a : Act} {w w' : World} {Q : Exit → Act → World → Prop} (hgd : o.guard = none) (s x : Operand) (t tx : TypeId)
    (ho : o.op = .call { callee := .builtin .append, args := #[s, x], argTypes := #[t, tx] }) (v xv v' : Value) (hv : a.eval s = v) (hx : a.eval x = xv) (hrun : (Builtin.append_ #[t, tx] o.type #[v, xv]).run P w = .ok v' w') (hK : wpList P ops Q rest (a.put o.dst v') w') : wpList P ops Q (o :: rest) a w := by
  refine wpList_plain hgd fun K hK' => ?_
  unfold Oper.wp
  simp [execOp, ho, resolve, invoke, builtin, hv, hx, hrun, Result.andThen]
  exact hK' _ _ hK
theorem sizeBu : (Try.prog.info? 87).map (·.size) = some 2 := by kernel_rfl
theorem fresh_walk (b : Nat) (w : World) (h0 : w.cell? ⟨b, 0, none⟩ = some (.pointer none)) (hsh : w.shape? b = some (87, 2)) (hfz : w.frozen? ⟨b, 0, none⟩ = false) :
    Calls Try.prog 109 #[.pointer (some ⟨b, 0, none⟩)] w fun e w' => e = .returned (.tuple #[]) ∧ w' = w.setCell ⟨b, 0, none⟩ (.pointer (some ⟨b, 0, none⟩)) := by
  obtain ⟨j, hj, hjs⟩ := Option.map_eq_some_iff.1 sizeBu
  go_enter Try.func109, Try.ntmps109
  have H1 := Lib.run_to_unsafe (P := Try.prog) (src := 85) (dst := 148) w ⟨b, 0, none⟩ Try.underlying85 Try.underlying148 hj (by rw [hjs]; decide) hsh (Nat.zero_lt_succ 1)
  have H3 := Lib.run_from_unsafe (P := Try.prog) (src := 148) (dst := 85) w ⟨b, 0, none⟩ Try.underlying148 Try.underlying85 hj hsh (by kernel_rfl)
  have H2 := run_callFunc_extern (P := Try.prog) (f := 130) Try.func130 (by kernel_rfl) (by kernel_rfl) (by kernel_rfl) (e := Extern.AbiNoEscape.same) (by kernel_rfl)
  have H4 := Lib.run_noEscape (P := Try.prog) w (.pointer (some ⟨b, 0, none⟩))
  go_wp2
  go_end0
  exact ⟨rfl, rfl⟩
theorem used_walk (b : Nat) (w : World) (h0 : w.cell? ⟨b, 0, none⟩ = some (.pointer (some ⟨b, 0, none⟩))) :
    Calls Try.prog 109 #[.pointer (some ⟨b, 0, none⟩)] w fun e w' => e = .returned (.tuple #[]) ∧ w' = w := by
  obtain ⟨j, hj, hjs⟩ := Option.map_eq_some_iff.1 sizeBu
  have H1 := Lib.run_neq_ptr_same (P := Try.prog) w (tp := 85) ⟨b, 0, none⟩ Try.underlying85 hj
  go_enter Try.func109, Try.ntmps109
  go_wp2
  go_end0
  exact ⟨rfl, rfl⟩
theorem check_walk (B b : Nat) (l : List UInt8) (w : World) (h : Bu B b l w) :
    Calls Try.prog 109 #[.pointer (some ⟨b, 0, none⟩)] w fun e w' => e = .returned (.tuple #[]) ∧ Lib.BuilderAt 87 5 B b (.pointer (some ⟨b, 0, none⟩)) (byteCells l) w' ∧ w.grownBy w' (some b) := by
  rcases h with h | h
  · refine (fresh_walk b w h.cell0 h.shape h.frozen0).mono ?_
    rintro e w' ⟨rfl, rfl⟩
    exact ⟨rfl, h.used _, only_write w b 0 _⟩
  · refine (used_walk b w h.cell0).mono ?_
    rintro e w' ⟨rfl, rfl⟩
    exact ⟨rfl, h, only_refl _ _⟩
theorem write_walk (B b : Nat) (l : List UInt8) (w : World) (h : Bu B b l w) (hBw : B ≤ w.heap.size) (g off c : Nat) (v : List UInt8) (hv : w.rangeAt g off (byteCells v)) (hg : g ≠ b) (hlen : l.length + v.length ≤ 1099511627776) :
    Calls Try.prog 50 #[.pointer (some ⟨b, 0, none⟩), .slice (some ⟨g, off, none⟩) v.length c] w fun e w' => (∃ x, e = .returned x) ∧ Bu B b (l ++ v) w' ∧ Below B w w' ∧ Oth b w w' := by
  go_enter Try.func50, Try.ntmps50
  go_wp2_with (go_at_call 109; refine (check_walk B b l _ h).mono ?_)
  rintro e w1 ⟨rfl, ⟨hB, u, hbk, hown, hne⟩, hg1⟩
  have c0 : w1.cell? ⟨b, 0, none⟩ = some (.pointer (some ⟨b, 0, none⟩)) := by rw [Lib.cell_of_heap hbk]; rfl
  have c1 : w1.cell? ⟨b, 1, none⟩ = some u := by rw [Lib.cell_of_heap hbk]; rfl
  obtain ⟨i0, hi0, hz0, hz1, hz2⟩ := info_parts byteInfo
  rw [byteCells_length] at hown
  have hv1 : ∀ (j : Nat) (x : Value), (byteCells v)[j]? = some x → w1.cell? ((⟨g, off, none⟩ : Addr).add j) = some x := fun j x hj => by
    rw [Addr.add_mid]
    have h0 := hv j x hj
    exact (World.cell?_of_block (hg1.block g (cell_lt h0) (fun e => hg (by cases e; rfl)))).trans h0
  obtain ⟨v', w2, hrun, r1, r2, r3⟩ := run_append_own (P := Try.prog) w1 B 23 23 5 i0 (.int .u8 0) 1 1 Try.underlying23 hi0 hz0 hz1 hz2 rfl (by decide) u l.length (byteCells l) hown ⟨g, off, none⟩ v.length c (byteCells v) (by rw [byteCells_length, Nat.mul_one]) hv1 (byteCells_one v) (by unfold maxLen; omega) (by omega) (Nat.le_trans hBw hg1.size)
  have hlt : b < w1.heap.size := (Array.getElem?_eq_some_iff.1 hbk).1
  have hb2 : w2.heap[b]? = some (.cells #[.pointer (some ⟨b, 0, none⟩), u] 87 (0, 0)) := (r2.block b hlt (fun e => hne e.symm)).trans hbk
  have d0 : w2.cell? ⟨b, 0, none⟩ = some (.pointer (some ⟨b, 0, none⟩)) := by rw [Lib.cell_of_heap hb2]; rfl
  have d1 : w2.cell? ⟨b, 1, none⟩ = some u := by rw [Lib.cell_of_heap hb2]; rfl
  have f1 : w2.frozen? ⟨b, 1, none⟩ = false := Lib.frozen_of_heap hb2 1
  obtain ⟨ao, n', cap, rfl⟩ : ∃ ao n' cap, v' = .slice ao n' cap := by
    rcases r1.2 with ⟨hv, _⟩ | ⟨g, cap, cur, hv, _⟩
    · exact ⟨_, _, _, hv⟩
    · exact ⟨_, _, _, hv⟩
  have hfin : Bu B b (l ++ v) (w2.setCell ⟨b, 1, none⟩ (.slice ao n' cap)) := by
    refine .inr (Lib.BuilderAt.put hB hb2 ?_ (by decide))
    have e1 : byteCells (l ++ v) = byteCells l ++ byteCells v := by simp [byteCells]
    have e2 : (byteCells (l ++ v)).length = l.length + v.length := by rw [byteCells_length, List.length_append]
    rw [e2, e1]
    exact r1
  have hbel : Below B w (w2.setCell ⟨b, 1, none⟩ (.slice ao n' cap)) := by
    have b1 : Below B w w1 := (Below.refl B w).grown hg1 hBw (fun k e => by cases e; exact hB)
    exact (b1.grown r2 (Nat.le_trans hBw hg1.size) (fun k hk => (hown.lt k hk).1)).setCell (p := ⟨b, 1, none⟩) hB _
  have hoth : Oth b w (w2.setCell ⟨b, 1, none⟩ (.slice ao n' cap)) := by
    refine ⟨by simpa [World.setCell] using Nat.le_trans hg1.size r2.size, fun k hk hkb hk5 => ?_⟩
    rw [Below.heap_setCell w2 ⟨b, 1, none⟩ _ k hkb]
    have e1 := hg1.block k hk (fun e => hkb (by cases e; rfl))
    refine (r2.block k (Nat.lt_of_lt_of_le hk hg1.size) (fun e => ?_)).trans e1
    rcases hown.2 with ⟨rfl, _⟩ | ⟨g', cap', cur, rfl, _, hh, _⟩
    · simp [Value.ownBlock] at e
    · simp only [Value.ownBlock, Option.some.injEq] at e
      subst e
      rw [e1] at hh
      exact hk5 _ _ hh
  clear hown hne hbk c0 hb2 r1 r2 r3 hv1 hv hg1 h
  have HR := Lib.hid hrun
  clear hrun
  go_wp2_with (refine wpList_append_run rfl (.tmp 12) (.tmp 13) 23 23 rfl _ _ _ rfl rfl HR.out ?_)
  go_ret2
  exact ⟨⟨_, rfl⟩, hfin, hbel, hoth⟩
theorem string_none (b : Nat) (w : World) (h : Has w b 87 [.pointer none, .slice none 0 0]) : Calls Try.prog 51 #[.pointer (some ⟨b, 0, none⟩)] w fun e w' => e = .returned (.string ⟨#[]⟩) ∧ Below w.heap.size w w' ∧ ∀ k, k < w.heap.size → (∀ cs f, w.heap[k]? ≠ some (.cells cs 5 f)) → w'.heap[k]? = w.heap[k]? := by
  have c1 : w.drew.cell? ⟨b, 1, none⟩ = some (.slice none 0 0) := h.cell 1
  have hSD := Lib.run_unsafeSliceData_nil (P := Try.prog) w.drew #[23] 128 0 0
  have hUS := Lib.run_unsafeString_none (P := Try.prog) w.drew 128 3 9 none
  go_enter Try.func51, Try.ntmps51
  go_wp2
  go_region
  all_goals
    go_wp2
    go_ret
    exact ⟨rfl, drawn_below w 1, fun _ _ _ => rfl⟩
theorem string_walk (B b : Nat) (l : List UInt8) (w : World) (h : Bu B b l w) (h0 : l ≠ []) : Calls Try.prog 51 #[.pointer (some ⟨b, 0, none⟩)] w fun e w' => e = .returned (.string ⟨l.toArray⟩) ∧ Below B w w' ∧ ∀ k, k < w.heap.size → (∀ cs f, w.heap[k]? ≠ some (.cells cs 5 f)) → w'.heap[k]? = w.heap[k]? := by
  obtain ⟨p, hB, v, hbk, hown, hne⟩ : ∃ p, Lib.BuilderAt 87 5 B b p (byteCells l) w := by
    rcases h with h | h
    · exact ⟨_, h⟩
    · exact ⟨_, h⟩
  have hl0 : l.length ≠ 0 := by simpa using h0
  rw [byteCells_length] at hown
  obtain ⟨g, cap, cur, rfl, hbg, hg, hnc, hcm, hcs, htake⟩ : ∃ g cap cur, v = .slice (some ⟨g, 0, none⟩) l.length cap ∧ B ≤ g ∧ w.heap[g]? = some (.cells cur 5 (0, 0)) ∧ l.length ≤ cap ∧ cap ≤ maxLen ∧ cur.size = cap * 1 ∧ cur.toList.take (l.length * 1) = byteCells l := by
    rcases hown.2 with ⟨_, hz⟩ | ⟨g, cap, cur, hv, r⟩
    · exact absurd hz hl0
    · exact ⟨g, cap, cur, hv, r⟩
  have c1 : w.drew.cell? ⟨b, 1, none⟩ = some (.slice (some ⟨g, 0, none⟩) l.length cap) := by
    have : w.drew.heap[b]? = some (.cells #[p, .slice (some ⟨g, 0, none⟩) l.length cap] 87 (0, 0)) := hbk
    rw [Lib.cell_of_heap this]; rfl
  have hSD : (Builtin.unsafeSliceData_ #[23] 128 #[.slice (some ⟨g, 0, none⟩) l.length cap]).run Try.prog w.drew = .ok (.pointer (some ⟨g, 0, none⟩)) w.drew := Lib.run_unsafeSliceData_row _ _ _ _ _ _ (by omega)
  have hUS : (Builtin.unsafeString_ #[128, 3] 9 #[.pointer (some ⟨g, 0, none⟩), .int .i64 l.length]).run Try.prog w.drew = .ok (.string ⟨l.toArray⟩) (w.drew.freeze ⟨g, 0, none⟩ l.length) := by
    refine Lib.run_unsafeString_row w.drew 128 3 9 5 Try.underlying128 (by kernel_rfl) g cur.size (by have hg' : w.drew.heap[g]? = some (.cells cur 5 (0, 0)) := hg; simp [World.shape?, hg']) l h0 (by omega) (by unfold maxLen at hcm; omega) ?_
    intro j x hx
    exact hown.cells (g := g) rfl j (.int .u8 x.toNat) (by simp [byteCells, hx])
  have hbel : Below B w (w.drew.freeze ⟨g, 0, none⟩ l.length) := Lib.below_freeze (Below.drew (Below.refl B w)) (p := ⟨g, 0, none⟩) hbg _
  have hkeep : ∀ k, k < w.heap.size → (∀ cs f, w.heap[k]? ≠ some (.cells cs 5 f)) → (w.drew.freeze ⟨g, 0, none⟩ l.length).heap[k]? = w.heap[k]? := by
    intro k hk h5
    have hkg : k ≠ g := fun e => h5 _ _ (e ▸ hg)
    unfold World.freeze
    split
    · rfl
    · show (w.heap.modify g _)[k]? = _
      rw [Array.getElem?_modify, if_neg (Ne.symm hkg)]
  clear hown hne hbk hg hcs htake h
  go_enter Try.func51, Try.ntmps51
  go_wp2
  go_region
  all_goals
    go_wp2
    go_ret
    exact ⟨rfl, hbel, hkeep⟩
end TU2
end Go.Proofs.Ytkhdidhpcdlmcaa
